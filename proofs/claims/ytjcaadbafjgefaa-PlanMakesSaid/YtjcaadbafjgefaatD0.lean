/- The functions of layer 24, Hp. Conditions: none. -/
import Derived.Test.YtjcaadbafjgefaaRows
import Derived.Test.YtjcaadbafjgefaatA5
import Derived.Test.YtjcaadbafjgefaatOC
import Derived.Test.YtjcaadbafjgefaatOM
import Derived.Test.YtjcaadbafjgefaatOX
namespace Go.Proofs.Ytjcaadbafjgefaa
open Go Go.RowKit
set_option linter.unusedVariables false
set_option linter.unusedSimpArgs false
set_option maxRecDepth 20000
noncomputable def GA (p1 : List (List Int)) : Int → Option (Int ⊕ (Unit ⊕ Bool))
  | x1 => (if x1 < (p1.length : Int) then (ix p1 x1).bind fun x2 => (if 12 < (x2.length : Int) then some (.inr (.inr false)) else some (.inl (AA (x1 + 1)))) else some (.inr (.inl ())))
noncomputable def HU (p0 : Int × (List (Int × Int × Int × Int × Int × Int)) × (List (Int × Int))) (p1 : List (List Int)) : Option Bool := E6 (AE (GA p1) 0) fun _ => some (decide ((p0.2.1.length : Int) ≤ 30) && (decide ((p0.2.2.length : Int) ≤ 12) && decide ((p1.length : Int) ≤ 12)))
theorem Lf (Y : Nat → Prop) (w0 : World) (v1 : Value) (v2 : Value) (v3 : Value) (p0 : Int × (List (Int × Int × Int × Int × Int × Int)) × (List (Int × Int))) (p1 : List (List Int)) (r : Bool) (H : HU p0 p1 = some r) (h_v1 : Sl w0 (NX []) FM v1 p0.2.1) (h_v2 : Sl w0 (NX []) FD v2 p0.2.2) (h_v3 : Sl w0 (NX []) (Rp.slice (Rp.int .i64)) v3 p1) :
    Calls Try.prog 7 #[.agg #[.int .i64 p0.1, v1, v2], v3] w0 fun e w' => e = .returned (.bool r) ∧ Below w0.heap.size w0 w' := by
 refine enter Try.func7 Aa Try.ntmps7 Aa fun a F => ?_
 have W := Stw.start Y w0
 obtain ⟨v4, h1, h_v3⟩ := h_v3.ex Dg
 unfold HU at H
 refine Ah (Ac ?_)
 refine Dr (cs := [.int .i64 p0.1, v1, v2]) F W Aa Aa Aa fun b1 a w F W => ?_
 refine ls F W Aa (Af F Aa).q fun a w F W => ?_
 refine Ae (Ab ?_)
 obtain ⟨o1, G1, K1, L1⟩ := Jb H
 refine AC (fun a w => some (Sum.inl ()) = some o1 ∧ Fr 33 [] [(1, v3), (2, .pointer (some ⟨b1, 0, none⟩)), (4, .bool false)] a ∧ Stw ⟨Y, [], w0⟩ [(b1, [.int .i64 p0.1, v1, v2])] [] w) ?_ ?_
 ·
  have H := G1
  clear G1 K1
  refine Ah (Ac ?_)
  refine ls F W Aa (Af F Aa).q fun a w F W => ?_
  refine Ae (Ab (wp_block ?_))
  refine A1 H (fun s a w => Fr 33 [] [(1, v3), (2, .pointer (some ⟨b1, 0, none⟩)), (4, .bool false), (5, .int .i64 s)] a ∧ Stw ⟨Y, [], w0⟩ [(b1, [.int .i64 p0.1, v1, v2])] [] w) ⟨F.re ⟨rfl, Aa, Aa, Aa, trivial⟩, W⟩ fun s o a w H L2 hR => ?_
  obtain ⟨x1, rfl⟩ : ∃ x, x = s := ⟨s, rfl⟩
  obtain ⟨F, W⟩ := hR
  have F : Fr 33 [] [(1, v3), (2, .pointer (some ⟨b1, 0, none⟩)), (4, .bool false), (5, .int .i64 x1)] a := F
  have W : Stw ⟨Y, [], w0⟩ [(b1, [.int .i64 p0.1, v1, v2])] [] w := W
  rw [GA] at H
  refine Ah (Ah (Ac ?_))
  iterate 2 refine ls F W Aa (Ad F Aa).q fun a w F W => ?_
  refine ls F W Aa (BP (r := (Rp.slice (Rp.int .i64))) (l := p1) KD Aa F Aa (BA Dg h1 (Am h_v3))).q fun a w F W => ?_
  refine ls F W Aa (Bk F Aa Aa).q fun a w F W => ?_
  refine Ae (Ab ?_)
  refine Aw F Aa (fun hb => ?_) fun hb => ?_
  ·
   have H := AL (A6 hb) H
   rw [hb] at F
   clear hb
   refine wp_skip (Ab (Ah (wp_block (Ah (Ac ?_)))))
   iterate 2 refine ls F W Aa (Ad F Aa).q fun a w F W => ?_
   obtain ⟨x2, h2, H⟩ := Al H
   obtain ⟨v5, h3, h4⟩ := EJ h1 h2
   have h5 : E5 v5 = [(v5.1)] := congrArg (fun q : List Int => ([(v5.1)] : List Value)) h4
   refine ls F W Aa (Ay (r := (Rp.vsl (Rp.int .i64))) MU F Aa Aa (Am h_v3) h3).q fun a w F W => ?_
   refine ls F W Aa (Ap (y := (v5.1)) (j := 0) (i := x1) (enc := E5) F Aa Aa (Am h_v3) h3 Ja JB (by rw [h5]; rfl)).q fun a w F W => ?_
   refine ls F W Aa (BP (r := (Rp.int .i64)) (l := x2) Hm Aa F Aa (CS (Am h_v3) h3 Dc.here (congrArg (fun q : List Int => q) h4))).q fun a w F W => ?_
   refine ls F W Aa (DZ F Aa Aa).q fun a w F W => ?_
   refine Ae (Ab ?_)
   refine Aw F Aa (fun hb => ?_) fun hb => ?_
   ·
    have H := AL (A6 hb) H
    rw [hb] at F
    clear hb
    refine Ah (Ac ?_)
    refine ls F W Aa (Af F Aa).q fun a w F W => ?_
    refine Ae (Ab (wp_ret (AO ?_)))
    iterate 2 refine AG ?_
    refine AO (AG ?_)
    have H := L2 _ H
    have H := L1 _ H
    have H := AM H
    subst H
    refine Bl (.inl Aa) F W Aa (Av F Aa) ?_
    exact ⟨rfl, W.done⟩
   have H := AK (A7 hb) H
   rw [hb] at F
   clear hb
   refine wp_skip (AH (Ab (Ac ?_)))
   refine ls F W Aa (Ad F Aa).q fun a w F W => ?_
   refine ls F W Aa (A3 F Aa Aa Aa).q fun a w F W => ?_
   refine ls F W Aa (Af F Aa).q fun a w F W => ?_
   refine Ae (Ab ?_)
   exact ⟨_, H, F.re ⟨rfl, Aa, Aa, Aa, trivial⟩, W⟩
  have H := AK (A7 hb) H
  rw [hb] at F
  clear hb
  refine wp_exit ?_
  iterate 2 refine A5 ?_
  refine AU (Ab ?_)
  have H := L2 _ H
  exact ⟨H, F.re ⟨rfl, Aa, Aa, trivial⟩, W⟩
 rintro a w ⟨hj, F, W⟩
 have H := K1 _ hj
 clear hj G1 K1 L1
 refine AC (fun a w => Fr 33 [] [(4, .bool (decide ((p0.2.1.length : Int) ≤ 30) && (decide ((p0.2.2.length : Int) ≤ 12) && decide ((p1.length : Int) ≤ 12))))] a ∧ Stw ⟨Y, [], w0⟩ [(b1, [.int .i64 p0.1, v1, v2])] [] w) ?_ ?_
 ·
  refine Ac ?_
  refine ls F W Aa (Ai DM Aa Aa Aa JM F Aa 1 Aa).q fun a w F W => ?_
  refine ls F W Aa (As (v := v1) 0 F Aa Aa JM Aa).q fun a w F W => ?_
  refine ls F W Aa (BP (r := FM) (l := p0.2.1) Lz Aa F Aa (Am h_v1)).q fun a w F W => ?_
  refine ls F W Aa (HJ F Aa Aa).q fun a w F W => ?_
  refine ls F W Aa (Ad F Aa).q fun a w F W => ?_
  rcases Bool.eq_false_or_eq_true (decide ((p0.2.1.length : Int) ≤ 30)) with hb0 | hb0
  ·
   rw [hb0] at F
   refine AD F W (Ag F Aa Aa Aa Aa) Aa (Ak Aa) (Ai DM Aa Aa Aa IH F Aa 2 Aa).q fun a w F W => ?_
   refine AD F W (Ag F Aa Aa Aa Aa) Aa (Ak Aa) (As (v := v2) 0 F Aa Aa IH Aa).q fun a w F W => ?_
   refine AD F W (Ag F Aa Aa Aa Aa) Aa (Ak Aa) (BP (r := FD) (l := p0.2.2) J1 Aa F Aa (Am h_v2)).q fun a w F W => ?_
   refine AD F W (Ag F Aa Aa Aa Aa) Aa (Ak Aa) (HJ F Aa Aa).q fun a w F W => ?_
   refine ls F W Aa (Aq F Aa Aa Aa).q fun a w F W => ?_
   refine ls F W Aa (Ad F Aa).q fun a w F W => ?_
   rcases Bool.eq_false_or_eq_true (decide ((p0.2.2.length : Int) ≤ 12)) with hb1 | hb1
   ·
    rw [hb1] at F
    refine AD F W (Ag F Aa Aa Aa Aa) Aa (Ak Aa) (Ad F Aa).q fun a w F W => ?_
    refine AD F W (Ag F Aa Aa Aa Aa) Aa (Ak Aa) (BP (r := (Rp.slice (Rp.int .i64))) (l := p1) KD Aa F Aa (BA Dg h1 (Am h_v3))).q fun a w F W => ?_
    refine AD F W (Ag F Aa Aa Aa Aa) Aa (Ak Aa) (HJ F Aa Aa).q fun a w F W => ?_
    refine ls F W Aa (Aq F Aa Aa Aa).q fun a w F W => ?_
    refine ls F W Aa (Af F Aa).q fun a w F W => ?_
    refine Ae (Ab ?_)
    exact ⟨F.re ⟨(by show some (Value.bool (decide ((p1.length : Int) ≤ 12))) = some (Value.bool (decide ((p0.2.1.length : Int) ≤ 30) && (decide ((p0.2.2.length : Int) ≤ 12) && decide ((p1.length : Int) ≤ 12)))); try rw [hb0]; try rw [hb1]; all_goals simp only [Bool.not_true, Bool.not_false, Bool.true_and, Bool.false_and, Bool.true_or, Bool.false_or, Bool.and_true, Bool.or_false, cond_true, cond_false]), trivial⟩, W⟩
   rw [hb1] at F
   iterate 3 refine Cj F Aa Aa Aa Aa Aa Aa Aa fun a F => ?_
   refine ls F W Aa (Au F Aa Aa Aa).q fun a w F W => ?_
   refine ls F W Aa (Af F Aa).q fun a w F W => ?_
   refine Ae (Ab ?_)
   exact ⟨F.re ⟨(by show some (Value.bool false) = some (Value.bool (decide ((p0.2.1.length : Int) ≤ 30) && (decide ((p0.2.2.length : Int) ≤ 12) && decide ((p1.length : Int) ≤ 12)))); try rw [hb0]; try rw [hb1]; all_goals simp only [Bool.not_true, Bool.not_false, Bool.true_and, Bool.false_and, Bool.true_or, Bool.false_or, Bool.and_true, Bool.or_false, cond_true, cond_false]), trivial⟩, W⟩
  rw [hb0] at F
  iterate 4 refine Cj F Aa Aa Aa Aa Aa Aa Aa fun a F => ?_
  refine ls F W Aa (Au F Aa Aa Aa).q fun a w F W => ?_
  refine ls F W Aa (Ad F Aa).q fun a w F W => ?_
  iterate 3 refine Cj F Aa Aa Aa Aa Aa Aa Aa fun a F => ?_
  refine ls F W Aa (Au F Aa Aa Aa).q fun a w F W => ?_
  refine ls F W Aa (Af F Aa).q fun a w F W => ?_
  refine Ae (Ab ?_)
  exact ⟨F.re ⟨(by show some (Value.bool false) = some (Value.bool (decide ((p0.2.1.length : Int) ≤ 30) && (decide ((p0.2.2.length : Int) ≤ 12) && decide ((p1.length : Int) ≤ 12)))); try rw [hb0]; all_goals simp only [Bool.not_true, Bool.not_false, Bool.true_and, Bool.false_and, Bool.true_or, Bool.false_or, Bool.and_true, Bool.or_false, cond_true, cond_false]), trivial⟩, W⟩
 rintro a w ⟨F, W⟩
 refine wp_ret ?_
 have H := AM H
 subst H
 refine Bl (.inl Aa) F W Aa (Av F Aa) ?_
 exact ⟨rfl, W.done⟩
theorem H7 : Has Try.prog 7 := ⟨fun args w => An Try.func7 rfl (by decide) args w⟩
theorem Te : Bt Try.prog 62 [.int .i64 0, .int .i64 0, .int .i64 0, .int .i64 0, .int .i64 0, .int .i64 0] [(0, 1), (1, 1), (2, 1), (3, 1), (4, 1), (5, 1)] := ⟨⟨.agg #[.int .i64 0, .int .i64 0, .int .i64 0, .int .i64 0, .int .i64 0, .int .i64 0], by kernel_rfl, rfl⟩, ⟨_, Ey, fun w => by kernel_rfl⟩⟩
theorem TW : Bt Try.prog 25 [.int .i64 0, .slice none 0 0, .slice none 0 0] [(0, 1), (1, 1), (2, 1)] := ⟨⟨.agg #[.int .i64 0, .slice none 0 0, .slice none 0 0], by kernel_rfl, rfl⟩, ⟨_, DM, fun w => by kernel_rfl⟩⟩
theorem T0 : (Try.prog.info? 25).bind (·.zero) = some (.agg #[.int .i64 0, .slice none 0 0, .slice none 0 0]) := by kernel_rfl
theorem Tw : (Try.prog.info? 46).bind (·.zero) = some (.slice none 0 0) := by kernel_rfl
theorem H9 : Has Try.prog 9 := ⟨fun args w => An Try.func9 rfl (by decide) args w⟩
def FN (p0 : (List (Int × Int × Int × Int)) × (List (Int × Int × List Int)) × Int × Int × Int × Int) (p1 : Int) : Bool := (decide (p0.2.2.2.2.1 ≤ p1) && decide (p1 ≤ p0.2.2.2.2.2))
theorem LY (Y : Nat → Prop) (w0 : World) (v1 : Value) (v2 : Value) (p0 : (List (Int × Int × Int × Int)) × (List (Int × Int × List Int)) × Int × Int × Int × Int) (p1 : Int) (r : Bool) (H : FN p0 p1 = r) (h_v1 : Sl w0 (NX []) A8 v1 p0.1) (h_v2 : Sl w0 (NX []) HG v2 p0.2.1) :
    Calls Try.prog 13 #[.agg #[v1, v2, .int .i64 p0.2.2.1, .int .i64 p0.2.2.2.1, .int .i64 p0.2.2.2.2.1, .int .i64 p0.2.2.2.2.2], .int .i64 p1] w0 fun e w' => e = .returned (.bool r) ∧ Below w0.heap.size w0 w' := by
 refine enter Try.func13 Aa Try.ntmps13 Aa fun a F => ?_
 have W := Stw.start Y w0
 obtain ⟨v3, h1, h_v2⟩ := h_v2.ex ID
 unfold FN at H
 refine Ah (Ac ?_)
 refine Dr (cs := [v1, v2, .int .i64 p0.2.2.1, .int .i64 p0.2.2.2.1, .int .i64 p0.2.2.2.2.1, .int .i64 p0.2.2.2.2.2]) F W Aa Aa Aa fun b1 a w F W => ?_
 refine ls F W Aa (Af F Aa).q fun a w F W => ?_
 refine Ae (Ab ?_)
 refine AC (fun a w => Fr 15 [] [(4, .bool (decide (p0.2.2.2.2.1 ≤ p1) && decide (p1 ≤ p0.2.2.2.2.2)))] a ∧ Stw ⟨Y, [], w0⟩ [(b1, [v1, v2, .int .i64 p0.2.2.1, .int .i64 p0.2.2.2.1, .int .i64 p0.2.2.2.2.1, .int .i64 p0.2.2.2.2.2])] [] w) ?_ ?_
 ·
  refine Ac ?_
  refine ls F W Aa (Ai GR Aa Aa Aa T3 F Aa 4 Aa).q fun a w F W => ?_
  refine ls F W Aa (As (v := Value.int .i64 p0.2.2.2.2.1) 0 F Aa Aa T3 Aa).q fun a w F W => ?_
  refine ls F W Aa (Ad F Aa).q fun a w F W => ?_
  refine ls F W Aa (HJ F Aa Aa).q fun a w F W => ?_
  refine ls F W Aa (Ad F Aa).q fun a w F W => ?_
  rcases Bool.eq_false_or_eq_true (decide (p0.2.2.2.2.1 ≤ p1)) with hb0 | hb0
  ·
   rw [hb0] at F
   refine AD F W (Ag F Aa Aa Aa Aa) Aa (Ak Aa) (Ad F Aa).q fun a w F W => ?_
   refine AD F W (Ag F Aa Aa Aa Aa) Aa (Ak Aa) (Ai GR Aa Aa Aa T3 F Aa 5 Aa).q fun a w F W => ?_
   refine AD F W (Ag F Aa Aa Aa Aa) Aa (Ak Aa) (As (v := Value.int .i64 p0.2.2.2.2.2) 0 F Aa Aa T3 Aa).q fun a w F W => ?_
   refine AD F W (Ag F Aa Aa Aa Aa) Aa (Ak Aa) (HJ F Aa Aa).q fun a w F W => ?_
   refine ls F W Aa (Aq F Aa Aa Aa).q fun a w F W => ?_
   refine ls F W Aa (Af F Aa).q fun a w F W => ?_
   refine Ae (Ab ?_)
   exact ⟨F.re ⟨(by show some (Value.bool (decide (p1 ≤ p0.2.2.2.2.2))) = some (Value.bool (decide (p0.2.2.2.2.1 ≤ p1) && decide (p1 ≤ p0.2.2.2.2.2))); try rw [hb0]; all_goals simp only [Bool.not_true, Bool.not_false, Bool.true_and, Bool.false_and, Bool.true_or, Bool.false_or, Bool.and_true, Bool.or_false, cond_true, cond_false]), trivial⟩, W⟩
  rw [hb0] at F
  iterate 4 refine Cj F Aa Aa Aa Aa Aa Aa Aa fun a F => ?_
  refine ls F W Aa (Au F Aa Aa Aa).q fun a w F W => ?_
  refine ls F W Aa (Af F Aa).q fun a w F W => ?_
  refine Ae (Ab ?_)
  exact ⟨F.re ⟨(by show some (Value.bool false) = some (Value.bool (decide (p0.2.2.2.2.1 ≤ p1) && decide (p1 ≤ p0.2.2.2.2.2))); try rw [hb0]; all_goals simp only [Bool.not_true, Bool.not_false, Bool.true_and, Bool.false_and, Bool.true_or, Bool.false_or, Bool.and_true, Bool.or_false, cond_true, cond_false]), trivial⟩, W⟩
 rintro a w ⟨F, W⟩
 refine wp_ret ?_
 subst H
 refine Bl (.inl Aa) F W Aa (Av F Aa) ?_
 exact ⟨rfl, W.done⟩
theorem Ru : type_of% Try.underlying78 := Try.underlying78
theorem Ur : Has Try.prog 13 := ⟨fun args w => An Try.func13 rfl (by decide) args w⟩
theorem Tn : Ty Try.prog 48 true 3 := ⟨by kernel_rfl, by kernel_rfl⟩
theorem SE : Ty Try.prog 30 false 1 := ⟨by kernel_rfl, by kernel_rfl⟩
theorem UT : (Try.prog.info? 81).bind (·.zero) = some (.agg #[.int .i64 0, .int .i64 0, .int .i64 0, .int .i64 0, .int .i64 0, .int .i64 0, .int .i64 0, .int .i64 0, .int .i64 0, .int .i64 0, .slice none 0 0]) := by kernel_rfl
theorem S4 : (Try.prog.info? 78).bind (·.zero) = some (.agg #[.int .i64 0, .int .i64 0, .int .i64 0, .int .i64 0, .int .i64 0, .int .i64 0, .int .i64 0, .int .i64 0, .int .i64 0]) := by kernel_rfl
theorem UV : Bt Try.prog 78 [.int .i64 0, .int .i64 0, .int .i64 0, .int .i64 0, .int .i64 0, .int .i64 0, .int .i64 0, .int .i64 0, .int .i64 0] [(0, 1), (1, 4), (5, 4)] := ⟨⟨.agg #[.int .i64 0, .int .i64 0, .int .i64 0, .int .i64 0, .int .i64 0, .int .i64 0, .int .i64 0, .int .i64 0, .int .i64 0], by kernel_rfl, rfl⟩, ⟨_, Ru, fun w => by kernel_rfl⟩⟩
theorem QZ : Ty Try.prog 78 true 9 := ⟨by kernel_rfl, by kernel_rfl⟩
def Aj  : (Int × (Int × Int × Int × Int) × (Int × Int × Int × Int)) := ((-1), (0, 0, 0, 0), (0, 0, 0, 0))
theorem NH (Y : Nat → Prop) (w0 : World)   (r : (Int × (Int × Int × Int × Int) × (Int × Int × Int × Int))) (H : Aj  = r)  :
    Calls Try.prog 64 #[] w0 fun e w' => e = .returned (.agg #[.int .i64 r.1, .int .i64 r.2.1.1, .int .i64 r.2.1.2.1, .int .i64 r.2.1.2.2.1, .int .i64 r.2.1.2.2.2, .int .i64 r.2.2.1, .int .i64 r.2.2.2.1, .int .i64 r.2.2.2.2.1, .int .i64 r.2.2.2.2.2]) ∧ Below w0.heap.size w0 w' := by
 refine enter Try.func64 Aa Try.ntmps64 Aa fun a F => ?_
 have W := Stw.start Y w0
 unfold Aj at H
 refine Ah (Ac ?_)
 refine Cn (cs := [.int .i64 0, .int .i64 0, .int .i64 0, .int .i64 0, .int .i64 0, .int .i64 0, .int .i64 0, .int .i64 0, .int .i64 0]) F W Aa S4 Aa fun b1 a w F W => ?_
 refine Ae (Ab (Ah (Ac ?_)))
 refine ls F W Aa (Cg (v := Value.agg #[.int .i64 (-1), .int .i64 0, .int .i64 0, .int .i64 0, .int .i64 0, .int .i64 0, .int .i64 0, .int .i64 0, .int .i64 0]) UV F Aa Aa Aa).q fun a w F W => ?_
 refine Br (vs := [.int .i64 (-1), .int .i64 0, .int .i64 0, .int .i64 0, .int .i64 0, .int .i64 0, .int .i64 0, .int .i64 0, .int .i64 0]) (M' := [(b1, [.int .i64 (-1), .int .i64 0, .int .i64 0, .int .i64 0, .int .i64 0, .int .i64 0, .int .i64 0, .int .i64 0, .int .i64 0])]) 0 F W Aa Aa Aa QZ Aa Aa Aa Aa Aa fun w W => ?_
 refine Ae (Ab (wp_ret ?_))
 subst H
 refine Bl (.inl Aa) F W Aa (ET 0 F Aa Aa QZ Aa) ?_
 exact ⟨rfl, W.done⟩
theorem Uu : Has Try.prog 64 := ⟨fun args w => An Try.func64 rfl (by decide) args w⟩
noncomputable def Hd (p0 : Int) : Option Int := (if p0 = 0 then some true else (if p0 = 1 then some true else some (decide (p0 = 3)))).bind fun x1 => (if x1 = true then some 8 else (if p0 = 2 then some 4 else some 0))
theorem MD (Y : Nat → Prop) (w0 : World)  (p0 : Int) (r : Int) (H : Hd p0 = some r)  :
    Calls Try.prog 85 #[.int .i64 p0] w0 fun e w' => e = .returned (.int .i64 r) ∧ Below w0.heap.size w0 w' := by
 refine enter Try.func85 Aa Try.ntmps85 Aa fun a F => ?_
 have W := Stw.start Y w0
 unfold Hd at H
 refine Ah (Ac ?_)
 refine ls F W Aa (Af F Aa).q fun a w F W => ?_
 refine Ae (Ab (Ah (Ah (Ac ?_))))
 refine ls F W Aa (Ad F Aa).q fun a w F W => ?_
 refine Ae (Ab (wp_block ?_))
 obtain ⟨o1, G1, K1⟩ := Al H
 refine AC (fun a w => ∃ x1 : Bool, some (x1) = some o1 ∧ Fr 10 [] [(2, .int .i64 0), (3, .int .i64 p0), (4, .bool x1)] a ∧ Stw ⟨Y, [], w0⟩ [] [] w) ?_ ?_
 ·
  have H := G1
  clear G1 K1
  refine Ah (Ac ?_)
  refine ls F W Aa (Cy F Aa Aa).q fun a w F W => ?_
  refine ls F W Aa (Af F Aa).q fun a w F W => ?_
  refine Ae (Ab ?_)
  refine Aw F Aa (fun hb => ?_) fun hb => ?_
  ·
   have H := AL (A6 hb) H
   rw [hb] at F
   clear hb
   refine wp_skip (Ab ?_)
   exact ⟨_, H, F.re ⟨rfl, Aa, Aa, trivial⟩, W⟩
  have H := AK (A7 hb) H
  rw [hb] at F
  clear hb
  refine Ah (Ac ?_)
  refine ls F W Aa (Cy F Aa Aa).q fun a w F W => ?_
  refine ls F W Aa (Af F Aa).q fun a w F W => ?_
  refine Ae (Ab ?_)
  refine Aw F Aa (fun hb => ?_) fun hb => ?_
  ·
   have H := AL (A6 hb) H
   rw [hb] at F
   clear hb
   refine wp_skip (Ab ?_)
   exact ⟨_, H, F.re ⟨rfl, Aa, Aa, trivial⟩, W⟩
  have H := AK (A7 hb) H
  rw [hb] at F
  clear hb
  refine Ac ?_
  refine ls F W Aa (Cy F Aa Aa).q fun a w F W => ?_
  refine ls F W Aa (Af F Aa).q fun a w F W => ?_
  refine Ae (Ab ?_)
  exact ⟨_, H, F.re ⟨rfl, Aa, Aa, trivial⟩, W⟩
 rintro a w ⟨x1, hj, F, W⟩
 have hj := AM hj
 subst hj
 have H := K1
 clear G1 K1
 refine Aw F Aa (fun hb => ?_) fun hb => ?_
 ·
  have H := AL hb H
  rw [hb] at F
  clear hb
  refine Ah (Ac ?_)
  refine ls F W Aa (Af F Aa).q fun a w F W => ?_
  refine Ae (Ab (wp_ret (AO (AG ?_))))
  have H := AM H
  subst H
  refine Bl (.inl Aa) F W Aa (Av F Aa) ?_
  exact ⟨rfl, W.done⟩
 have H := AK (by rw [hb]; decide) H
 rw [hb] at F
 clear hb
 refine Ah (Ac ?_)
 refine ls F W Aa (Cy F Aa Aa).q fun a w F W => ?_
 refine ls F W Aa (Af F Aa).q fun a w F W => ?_
 refine Ae (Ab ?_)
 refine Aw F Aa (fun hb => ?_) fun hb => ?_
 ·
  have H := AL (A6 hb) H
  rw [hb] at F
  clear hb
  refine Ah (Ac ?_)
  refine ls F W Aa (Af F Aa).q fun a w F W => ?_
  refine Ae (Ab (wp_ret (AO (AG ?_))))
  have H := AM H
  subst H
  refine Bl (.inl Aa) F W Aa (Av F Aa) ?_
  exact ⟨rfl, W.done⟩
 have H := AK (A7 hb) H
 rw [hb] at F
 clear hb
 refine wp_skip (AH (Ab (Ah (Ac ?_))))
 refine ls F W Aa (Af F Aa).q fun a w F W => ?_
 refine Ae (Ab (wp_ret ?_))
 have H := AM H
 subst H
 refine Bl (.inl Aa) F W Aa (Av F Aa) ?_
 exact ⟨rfl, W.done⟩
theorem US : Has Try.prog 85 := ⟨fun args w => An Try.func85 rfl (by decide) args w⟩
noncomputable def GN (p0 : Int) : Option Int := (Hd p0).bind fun x1 => (RE (Ej .i64 1 x1) x1).bind fun x2 => some (AA (x2 - 1))
theorem Kj (Y : Nat → Prop) (w0 : World)  (p0 : Int) (r : Int) (H : GN p0 = some r)  :
    Calls Try.prog 65 #[.int .i64 p0] w0 fun e w' => e = .returned (.int .i64 r) ∧ Below w0.heap.size w0 w' := by
 refine enter Try.func65 Aa Try.ntmps65 Aa fun a F => ?_
 have W := Stw.start Y w0
 unfold GN at H
 refine Ah (Ac ?_)
 refine ls F W Aa (Af F Aa).q fun a w F W => ?_
 refine Ae (Ab (Ah (Ac ?_)))
 refine ls F W Aa (Ad F Aa).q fun a w F W => ?_
 obtain ⟨x1, h1, H⟩ := Al H
 refine ls F W Aa (BH (v := Value.int .i64 x1) F US Aa (fun w W => MD any w p0 _ h1)) fun a w F W => ?_
 obtain ⟨x2, h2, H⟩ := Al H
 refine ls F W Aa (Rd (Ki h2).2 (Pg F Aa Aa (Ki h2).1)).q fun a w F W => ?_
 refine ls F W Aa (B5 F Aa Aa Aa).q fun a w F W => ?_
 refine ls F W Aa (Af F Aa).q fun a w F W => ?_
 refine Ae (Ab (wp_ret ?_))
 have H := AM H
 subst H
 refine Bl (.inl Aa) F W Aa (Av F Aa) ?_
 exact ⟨rfl, W.done⟩
theorem SU : type_of% Try.underlying76 := Try.underlying76
theorem TE : Has Try.prog 65 := ⟨fun args w => An Try.func65 rfl (by decide) args w⟩
theorem TD : Ty Try.prog 76 true 4 := ⟨by kernel_rfl, by kernel_rfl⟩
theorem Sf : Ar Try.prog 76 4 3 1 := ⟨SU, by kernel_rfl⟩
noncomputable def Js (p0 : Int) (p1 : Int) : Option (Int × (Int × Int × Int × Int) × (Int × Int × Int × Int)) := (if p0 < 0 then some true else (if 4 ≤ p0 then some true else (if p1 < 0 then some true else (GN p0).bind fun x2 => some (decide (x2 < p1))))).bind fun x1 => (if x1 = true then some Aj else (ix ([Aj.2.1.1, Aj.2.1.2.1, Aj.2.1.2.2.1, Aj.2.1.2.2.2] : List Int) p0).bind fun x3 => (GN p0).bind fun x4 => (ix ([Aj.2.2.1, Aj.2.2.2.1, Aj.2.2.2.2.1, Aj.2.2.2.2.2] : List Int) p0).bind fun x5 => some (Aj.1, ((if p0 = 0 then p1 else Aj.2.1.1), (if p0 = 1 then p1 else Aj.2.1.2.1), (if p0 = 2 then p1 else Aj.2.1.2.2.1), (if p0 = 3 then p1 else Aj.2.1.2.2.2)), ((if p0 = 0 then x4 else Aj.2.2.1), (if p0 = 1 then x4 else Aj.2.2.2.1), (if p0 = 2 then x4 else Aj.2.2.2.2.1), (if p0 = 3 then x4 else Aj.2.2.2.2.2))))
theorem OL (Y : Nat → Prop) (w0 : World)  (p0 : Int) (p1 : Int) (r : (Int × (Int × Int × Int × Int) × (Int × Int × Int × Int))) (H : Js p0 p1 = some r)  :
    Calls Try.prog 48 #[.int .i64 p0, .int .i64 p1] w0 fun e w' => e = .returned (.agg #[.int .i64 r.1, .int .i64 r.2.1.1, .int .i64 r.2.1.2.1, .int .i64 r.2.1.2.2.1, .int .i64 r.2.1.2.2.2, .int .i64 r.2.2.1, .int .i64 r.2.2.2.1, .int .i64 r.2.2.2.2.1, .int .i64 r.2.2.2.2.2]) ∧ Below w0.heap.size w0 w' := by
 refine enter Try.func48 Aa Try.ntmps48 Aa fun a F => ?_
 have W := Stw.start Y w0
 unfold Js at H
 refine Ah (Ac ?_)
 refine Cn (cs := [.int .i64 0, .int .i64 0, .int .i64 0, .int .i64 0, .int .i64 0, .int .i64 0, .int .i64 0, .int .i64 0, .int .i64 0]) F W Aa S4 Aa fun b1 a w F W => ?_
 refine Ae (Ab (Ah (Ac ?_)))
 refine ls F W Aa (BH (v := Value.agg #[.int .i64 Aj.1, .int .i64 Aj.2.1.1, .int .i64 Aj.2.1.2.1, .int .i64 Aj.2.1.2.2.1, .int .i64 Aj.2.1.2.2.2, .int .i64 Aj.2.2.1, .int .i64 Aj.2.2.2.1, .int .i64 Aj.2.2.2.2.1, .int .i64 Aj.2.2.2.2.2]) F Uu Aa (fun w W => NH any w _ Aa)) fun a w F W => ?_
 refine Cn (cs := [.int .i64 0, .int .i64 0, .int .i64 0, .int .i64 0, .int .i64 0, .int .i64 0, .int .i64 0, .int .i64 0, .int .i64 0]) F W Aa S4 Aa fun b2 a w F W => ?_
 refine Br (vs := [.int .i64 Aj.1, .int .i64 Aj.2.1.1, .int .i64 Aj.2.1.2.1, .int .i64 Aj.2.1.2.2.1, .int .i64 Aj.2.1.2.2.2, .int .i64 Aj.2.2.1, .int .i64 Aj.2.2.2.1, .int .i64 Aj.2.2.2.2.1, .int .i64 Aj.2.2.2.2.2]) (M' := [(b2, [.int .i64 Aj.1, .int .i64 Aj.2.1.1, .int .i64 Aj.2.1.2.1, .int .i64 Aj.2.1.2.2.1, .int .i64 Aj.2.1.2.2.2, .int .i64 Aj.2.2.1, .int .i64 Aj.2.2.2.1, .int .i64 Aj.2.2.2.2.1, .int .i64 Aj.2.2.2.2.2]), (b1, [.int .i64 0, .int .i64 0, .int .i64 0, .int .i64 0, .int .i64 0, .int .i64 0, .int .i64 0, .int .i64 0, .int .i64 0])]) 0 F W Aa Aa Aa QZ Aa Aa Aa Aa Aa fun w W => ?_
 refine Ae (Ab (Ah ?_))
 obtain ⟨o1, G1, K1⟩ := Al H
 refine AC (fun a w => ∃ x1 : Bool, some (x1) = some o1 ∧ Fr 34 [] [(0, .int .i64 p0), (1, .int .i64 p1), (4, .pointer (some ⟨b1, 0, none⟩)), (5, .pointer (some ⟨b2, 0, none⟩)), (22, .bool x1)] a ∧ Stw ⟨Y, [], w0⟩ [(b2, [.int .i64 Aj.1, .int .i64 Aj.2.1.1, .int .i64 Aj.2.1.2.1, .int .i64 Aj.2.1.2.2.1, .int .i64 Aj.2.1.2.2.2, .int .i64 Aj.2.2.1, .int .i64 Aj.2.2.2.1, .int .i64 Aj.2.2.2.2.1, .int .i64 Aj.2.2.2.2.2]), (b1, [.int .i64 0, .int .i64 0, .int .i64 0, .int .i64 0, .int .i64 0, .int .i64 0, .int .i64 0, .int .i64 0, .int .i64 0])] [] w) ?_ ?_
 ·
  have H := G1
  clear G1 K1
  refine Ac ?_
  refine ls F W Aa (Ad F Aa).q fun a w F W => ?_
  refine ls F W Aa (Bk F Aa Aa).q fun a w F W => ?_
  refine ls F W Aa (Ad F Aa).q fun a w F W => ?_
  rcases Bool.eq_false_or_eq_true (decide (p0 < 0)) with hb | hb
  ·
   have H := AL (A6 hb) H
   rw [hb] at F
   clear hb
   iterate 2 refine Cj F Aa Aa Aa Aa Aa Aa Aa fun a F => ?_
   refine ls F W Aa (Aq F Aa Aa Aa).q fun a w F W => ?_
   refine ls F W Aa (Ad F Aa).q fun a w F W => ?_
   iterate 2 refine Cj F Aa Aa Aa Aa Aa Aa Aa fun a F => ?_
   refine ls F W Aa (Aq F Aa Aa Aa).q fun a w F W => ?_
   refine ls F W Aa (Ad F Aa).q fun a w F W => ?_
   iterate 4 refine Cj F Aa Aa Aa Aa Aa Aa Aa fun a F => ?_
   refine ls F W Aa (Aq F Aa Aa Aa).q fun a w F W => ?_
   refine Ae (Ab ?_)
   have W := W.frontM (i := 1) Aa Aa
   have W := W.frontM (i := 1) Aa Aa
   exact ⟨_, H, F.re ⟨rfl, Aa, Aa, Aa, Aa, trivial⟩, W⟩
  have H := AK (A7 hb) H
  rw [hb] at F
  clear hb
  refine AD F W (Ag F Aa Aa Aa Aa) Aa (Ak Aa) (Ad F Aa).q fun a w F W => ?_
  refine AD F W (Ag F Aa Aa Aa Aa) Aa (Ak Aa) (Dj F Aa Aa).q fun a w F W => ?_
  refine ls F W Aa (Au F Aa Aa Aa).q fun a w F W => ?_
  refine ls F W Aa (Ad F Aa).q fun a w F W => ?_
  rcases Bool.eq_false_or_eq_true (decide (4 ≤ p0)) with hb | hb
  ·
   have H := AL (A6 hb) H
   rw [hb] at F
   clear hb
   iterate 2 refine Cj F Aa Aa Aa Aa Aa Aa Aa fun a F => ?_
   refine ls F W Aa (Aq F Aa Aa Aa).q fun a w F W => ?_
   refine ls F W Aa (Ad F Aa).q fun a w F W => ?_
   iterate 4 refine Cj F Aa Aa Aa Aa Aa Aa Aa fun a F => ?_
   refine ls F W Aa (Aq F Aa Aa Aa).q fun a w F W => ?_
   refine Ae (Ab ?_)
   have W := W.frontM (i := 1) Aa Aa
   have W := W.frontM (i := 1) Aa Aa
   exact ⟨_, H, F.re ⟨rfl, Aa, Aa, Aa, Aa, trivial⟩, W⟩
  have H := AK (A7 hb) H
  rw [hb] at F
  clear hb
  refine AD F W (Ag F Aa Aa Aa Aa) Aa (Ak Aa) (Ad F Aa).q fun a w F W => ?_
  refine AD F W (Ag F Aa Aa Aa Aa) Aa (Ak Aa) (Bk F Aa Aa).q fun a w F W => ?_
  refine ls F W Aa (Au F Aa Aa Aa).q fun a w F W => ?_
  refine ls F W Aa (Ad F Aa).q fun a w F W => ?_
  rcases Bool.eq_false_or_eq_true (decide (p1 < 0)) with hb | hb
  ·
   have H := AL (A6 hb) H
   rw [hb] at F
   clear hb
   iterate 4 refine Cj F Aa Aa Aa Aa Aa Aa Aa fun a F => ?_
   refine ls F W Aa (Aq F Aa Aa Aa).q fun a w F W => ?_
   refine Ae (Ab ?_)
   have W := W.frontM (i := 1) Aa Aa
   have W := W.frontM (i := 1) Aa Aa
   exact ⟨_, H, F.re ⟨rfl, Aa, Aa, Aa, Aa, trivial⟩, W⟩
  have H := AK (A7 hb) H
  rw [hb] at F
  clear hb
  iterate 2 refine AD F W (Ag F Aa Aa Aa Aa) Aa (Ak Aa) (Ad F Aa).q fun a w F W => ?_
  refine Mn (Ag F Aa Aa Aa Aa) ?_
  obtain ⟨x2, h1, H⟩ := Al H
  refine ls F W Aa (BH (v := Value.int .i64 x2) F TE Aa (fun w W => Kj any w p0 _ h1)) fun a w F W => ?_
  refine AD F W (Ag F Aa Aa Aa Aa) Aa (Ak Aa) (DZ F Aa Aa).q fun a w F W => ?_
  refine ls F W Aa (Au F Aa Aa Aa).q fun a w F W => ?_
  refine Ae (Ab ?_)
  have W := W.frontM (i := 1) Aa Aa
  have W := W.frontM (i := 1) Aa Aa
  exact ⟨_, H, F.re ⟨rfl, Aa, Aa, Aa, Aa, trivial⟩, W⟩
 rintro a w ⟨x1, hj, F, W⟩
 have hj := AM hj
 subst hj
 have H := K1
 clear G1 K1
 refine Aw F Aa (fun hb => ?_) fun hb => ?_
 ·
  have H := AL hb H
  rw [hb] at F
  clear hb
  refine Ah (Ac ?_)
  refine ls F W Aa (As (v := Value.agg #[.int .i64 Aj.1, .int .i64 Aj.2.1.1, .int .i64 Aj.2.1.2.1, .int .i64 Aj.2.1.2.2.1, .int .i64 Aj.2.1.2.2.2, .int .i64 Aj.2.2.1, .int .i64 Aj.2.2.2.1, .int .i64 Aj.2.2.2.2.1, .int .i64 Aj.2.2.2.2.2]) 0 F Aa Aa QZ Aa).q fun a w F W => ?_
  refine Br (vs := [.int .i64 Aj.1, .int .i64 Aj.2.1.1, .int .i64 Aj.2.1.2.1, .int .i64 Aj.2.1.2.2.1, .int .i64 Aj.2.1.2.2.2, .int .i64 Aj.2.2.1, .int .i64 Aj.2.2.2.1, .int .i64 Aj.2.2.2.2.1, .int .i64 Aj.2.2.2.2.2]) (M' := [(b2, [.int .i64 Aj.1, .int .i64 Aj.2.1.1, .int .i64 Aj.2.1.2.1, .int .i64 Aj.2.1.2.2.1, .int .i64 Aj.2.1.2.2.2, .int .i64 Aj.2.2.1, .int .i64 Aj.2.2.2.1, .int .i64 Aj.2.2.2.2.1, .int .i64 Aj.2.2.2.2.2]), (b1, [.int .i64 Aj.1, .int .i64 Aj.2.1.1, .int .i64 Aj.2.1.2.1, .int .i64 Aj.2.1.2.2.1, .int .i64 Aj.2.1.2.2.2, .int .i64 Aj.2.2.1, .int .i64 Aj.2.2.2.1, .int .i64 Aj.2.2.2.2.1, .int .i64 Aj.2.2.2.2.2])]) 1 F W Aa Aa Aa QZ Aa Aa Aa Aa Aa fun w W => ?_
  refine Ae (Ab (wp_ret (AG ?_)))
  have H := AM H
  subst H
  refine Bl (.inl Aa) F W Aa (ET 1 F Aa Aa QZ Aa) ?_
  exact ⟨rfl, W.done⟩
 have H := AK (by rw [hb]; decide) H
 rw [hb] at F
 clear hb
 refine wp_skip (Ab (Ah ?_))
 refine Ev [(true, 0), (true, 1), (true, 2), (true, 3), (true, 5), (true, 6), (true, 8), (false, 4), (false, 7), (true, 9), (false, 10)] (CN ⟨Y, [], w0⟩ [] []) (fun ch a d v w h => by cases d <;> exact h) MO (by kernel_rfl) W (fun w W => ⟨_, _, W, AB, AB⟩) fun w W => ?_
 iterate 4 refine Bo (R := []) F Aa Aa (yC fun M Z hN hZ => Ad F Aa) Aa Aa fun a F => ?_
 refine Bo (R := []) F Aa Aa (yC fun M Z hN hZ => Ai Ru Aa Aa Aa TD F Aa 1 Aa) Aa Aa fun a F => ?_
 obtain ⟨x3, h2, H⟩ := Al H
 refine Bo (R := []) F Aa Aa (yC fun M Z hN hZ => NK (1 + (p0).toNat * 1) Sf F Aa Aa Aa h2 Aa) Aa Aa fun a F => ?_
 refine Bo (R := []) F Aa Aa (yC fun M Z hN hZ => Ai Ru Aa Aa Aa TD F Aa 5 Aa) Aa Aa fun a F => ?_
 refine Gc Aa ?_
 obtain ⟨x4, h3, H⟩ := Al H
 refine ls F W Aa (BH (v := Value.int .i64 x4) F TE Aa (fun w W => Kj any w p0 _ h3)) fun a w F W => ?_
 refine CE (N2 := []) (NZ2 := []) (N3 := []) (NZ3 := []) W Aa Aa AB AB ?_
 refine Gc Aa ?_
 refine Lh (o := 1) (m := 4) (i := p0) (l := ([Aj.2.1.1, Aj.2.1.2.1, Aj.2.1.2.2.1, Aj.2.1.2.2.2] : List Int)) (x := x3) (cs := [.int .i64 Aj.1, .int .i64 Aj.2.1.1, .int .i64 Aj.2.1.2.1, .int .i64 Aj.2.1.2.2.1, .int .i64 Aj.2.1.2.2.2, .int .i64 Aj.2.2.1, .int .i64 Aj.2.2.2.1, .int .i64 Aj.2.2.2.2.1, .int .i64 Aj.2.2.2.2.2]) (cs' := [.int .i64 Aj.1, .int .i64 (if p0 = 0 then p1 else Aj.2.1.1), .int .i64 (if p0 = 1 then p1 else Aj.2.1.2.1), .int .i64 (if p0 = 2 then p1 else Aj.2.1.2.2.1), .int .i64 (if p0 = 3 then p1 else Aj.2.1.2.2.2), .int .i64 Aj.2.2.1, .int .i64 Aj.2.2.2.1, .int .i64 Aj.2.2.2.2.1, .int .i64 Aj.2.2.2.2.2]) 0 F W Aa Aa Aa T3 Aa Aa Aa Aa h2 (by intro k hk hn; rw [hk]; match k, hn with | 0, _ => rfl | 1, _ => rfl | 2, _ => rfl | 3, _ => rfl | (z + 4), h => exact absurd h (by omega)) fun w W => ?_
 have W : Stw ⟨Y, [], w0⟩ [(b2, [.int .i64 Aj.1, .int .i64 (if p0 = 0 then p1 else Aj.2.1.1), .int .i64 (if p0 = 1 then p1 else Aj.2.1.2.1), .int .i64 (if p0 = 2 then p1 else Aj.2.1.2.2.1), .int .i64 (if p0 = 3 then p1 else Aj.2.1.2.2.2), .int .i64 Aj.2.2.1, .int .i64 Aj.2.2.2.1, .int .i64 Aj.2.2.2.2.1, .int .i64 Aj.2.2.2.2.2]), (b1, [.int .i64 0, .int .i64 0, .int .i64 0, .int .i64 0, .int .i64 0, .int .i64 0, .int .i64 0, .int .i64 0, .int .i64 0])] [] w := W
 refine CE (N2 := []) (NZ2 := []) (N3 := []) (NZ3 := []) W Aa Aa AB AB ?_
 obtain ⟨x5, h4, H⟩ := Al H
 refine Bo (R := []) F Aa Aa (yC fun M Z hN hZ => NK (5 + (p0).toNat * 1) Sf F Aa Aa Aa h4 Aa) Aa Aa fun a F => ?_
 refine Gc Aa ?_
 refine Lh (o := 5) (m := 4) (i := p0) (l := ([Aj.2.2.1, Aj.2.2.2.1, Aj.2.2.2.2.1, Aj.2.2.2.2.2] : List Int)) (x := x5) (cs := [.int .i64 Aj.1, .int .i64 (if p0 = 0 then p1 else Aj.2.1.1), .int .i64 (if p0 = 1 then p1 else Aj.2.1.2.1), .int .i64 (if p0 = 2 then p1 else Aj.2.1.2.2.1), .int .i64 (if p0 = 3 then p1 else Aj.2.1.2.2.2), .int .i64 Aj.2.2.1, .int .i64 Aj.2.2.2.1, .int .i64 Aj.2.2.2.2.1, .int .i64 Aj.2.2.2.2.2]) (cs' := [.int .i64 Aj.1, .int .i64 (if p0 = 0 then p1 else Aj.2.1.1), .int .i64 (if p0 = 1 then p1 else Aj.2.1.2.1), .int .i64 (if p0 = 2 then p1 else Aj.2.1.2.2.1), .int .i64 (if p0 = 3 then p1 else Aj.2.1.2.2.2), .int .i64 (if p0 = 0 then x4 else Aj.2.2.1), .int .i64 (if p0 = 1 then x4 else Aj.2.2.2.1), .int .i64 (if p0 = 2 then x4 else Aj.2.2.2.2.1), .int .i64 (if p0 = 3 then x4 else Aj.2.2.2.2.2)]) 0 F W Aa Aa Aa T3 Aa Aa Aa Aa h4 (by intro k hk hn; rw [hk]; match k, hn with | 0, _ => rfl | 1, _ => rfl | 2, _ => rfl | 3, _ => rfl | (z + 4), h => exact absurd h (by omega)) fun w W => ?_
 have W : Stw ⟨Y, [], w0⟩ [(b2, [.int .i64 Aj.1, .int .i64 (if p0 = 0 then p1 else Aj.2.1.1), .int .i64 (if p0 = 1 then p1 else Aj.2.1.2.1), .int .i64 (if p0 = 2 then p1 else Aj.2.1.2.2.1), .int .i64 (if p0 = 3 then p1 else Aj.2.1.2.2.2), .int .i64 (if p0 = 0 then x4 else Aj.2.2.1), .int .i64 (if p0 = 1 then x4 else Aj.2.2.2.1), .int .i64 (if p0 = 2 then x4 else Aj.2.2.2.2.1), .int .i64 (if p0 = 3 then x4 else Aj.2.2.2.2.2)]), (b1, [.int .i64 0, .int .i64 0, .int .i64 0, .int .i64 0, .int .i64 0, .int .i64 0, .int .i64 0, .int .i64 0, .int .i64 0])] [] w := W
 refine CE (N2 := []) (NZ2 := []) (N3 := []) (NZ3 := []) W Aa Aa AB AB ?_
 refine Gs (Ab (Ah (Ac ?_)))
 refine ls F W Aa (As (v := Value.agg #[.int .i64 Aj.1, .int .i64 (if p0 = 0 then p1 else Aj.2.1.1), .int .i64 (if p0 = 1 then p1 else Aj.2.1.2.1), .int .i64 (if p0 = 2 then p1 else Aj.2.1.2.2.1), .int .i64 (if p0 = 3 then p1 else Aj.2.1.2.2.2), .int .i64 (if p0 = 0 then x4 else Aj.2.2.1), .int .i64 (if p0 = 1 then x4 else Aj.2.2.2.1), .int .i64 (if p0 = 2 then x4 else Aj.2.2.2.2.1), .int .i64 (if p0 = 3 then x4 else Aj.2.2.2.2.2)]) 0 F Aa Aa QZ Aa).q fun a w F W => ?_
 refine Br (vs := [.int .i64 Aj.1, .int .i64 (if p0 = 0 then p1 else Aj.2.1.1), .int .i64 (if p0 = 1 then p1 else Aj.2.1.2.1), .int .i64 (if p0 = 2 then p1 else Aj.2.1.2.2.1), .int .i64 (if p0 = 3 then p1 else Aj.2.1.2.2.2), .int .i64 (if p0 = 0 then x4 else Aj.2.2.1), .int .i64 (if p0 = 1 then x4 else Aj.2.2.2.1), .int .i64 (if p0 = 2 then x4 else Aj.2.2.2.2.1), .int .i64 (if p0 = 3 then x4 else Aj.2.2.2.2.2)]) (M' := [(b2, [.int .i64 Aj.1, .int .i64 (if p0 = 0 then p1 else Aj.2.1.1), .int .i64 (if p0 = 1 then p1 else Aj.2.1.2.1), .int .i64 (if p0 = 2 then p1 else Aj.2.1.2.2.1), .int .i64 (if p0 = 3 then p1 else Aj.2.1.2.2.2), .int .i64 (if p0 = 0 then x4 else Aj.2.2.1), .int .i64 (if p0 = 1 then x4 else Aj.2.2.2.1), .int .i64 (if p0 = 2 then x4 else Aj.2.2.2.2.1), .int .i64 (if p0 = 3 then x4 else Aj.2.2.2.2.2)]), (b1, [.int .i64 Aj.1, .int .i64 (if p0 = 0 then p1 else Aj.2.1.1), .int .i64 (if p0 = 1 then p1 else Aj.2.1.2.1), .int .i64 (if p0 = 2 then p1 else Aj.2.1.2.2.1), .int .i64 (if p0 = 3 then p1 else Aj.2.1.2.2.2), .int .i64 (if p0 = 0 then x4 else Aj.2.2.1), .int .i64 (if p0 = 1 then x4 else Aj.2.2.2.1), .int .i64 (if p0 = 2 then x4 else Aj.2.2.2.2.1), .int .i64 (if p0 = 3 then x4 else Aj.2.2.2.2.2)])]) 1 F W Aa Aa Aa QZ Aa Aa Aa Aa Aa fun w W => ?_
 refine Ae (Ab (wp_ret ?_))
 have H := AM H
 subst H
 refine Bl (.inl Aa) F W Aa (ET 1 F Aa Aa QZ Aa) ?_
 exact ⟨rfl, W.done⟩
theorem SI : type_of% Try.underlying79 := Try.underlying79
theorem ST : type_of% Try.underlying81 := Try.underlying81
theorem Ss : type_of% Try.underlying109 := Try.underlying109
theorem TV : Has Try.prog 48 := ⟨fun args w => An Try.func48 rfl (by decide) args w⟩
theorem S7 : Bt Try.prog 109 [.int .i64 0, .int .i64 0, .int .i64 0] [(0, 1), (1, 1), (2, 1)] := ⟨⟨.agg #[.int .i64 0, .int .i64 0, .int .i64 0], by kernel_rfl, rfl⟩, ⟨_, Ss, fun w => by kernel_rfl⟩⟩
theorem Tc : (Try.prog.info? 109).bind (·.zero) = some (.agg #[.int .i64 0, .int .i64 0, .int .i64 0]) := by kernel_rfl
abbrev NM : Rp (Int × Int × Int) := (Rp.pair (Rp.int .i64) (Rp.pair (Rp.int .i64) (Rp.int .i64)))
def S9 (a : Int × Int × Int) : List Value := [.int .i64 a.1, .int .i64 a.2.1, .int .i64 a.2.2]
theorem SW : Fl NM S9 := (Fl.pair Fl.int (Fl.pair Fl.int Fl.int))
theorem T4 : Et Try.prog 79 109 3 24 := Et.of SI (by kernel_rfl) (by kernel_rfl) (by kernel_rfl) (by decide)
theorem Ut : Bt Try.prog 81 [.int .i64 0, .int .i64 0, .int .i64 0, .int .i64 0, .int .i64 0, .int .i64 0, .int .i64 0, .int .i64 0, .int .i64 0, .int .i64 0, .slice none 0 0] [(0, 1), (1, 9), (10, 1)] := ⟨⟨.agg #[.int .i64 0, .int .i64 0, .int .i64 0, .int .i64 0, .int .i64 0, .int .i64 0, .int .i64 0, .int .i64 0, .int .i64 0, .int .i64 0, .slice none 0 0], by kernel_rfl, rfl⟩, ⟨_, ST, fun w => by kernel_rfl⟩⟩
theorem TJ : Ty Try.prog 81 true 11 := ⟨by kernel_rfl, by kernel_rfl⟩
noncomputable def H2 (p0 : Int) (p1 : Int) (p2 : Int) (p3 : Int) : Option (Int × (Int × (Int × Int × Int × Int) × (Int × Int × Int × Int)) × (List (Int × Int × Int))) := (Js p0 p1).bind fun x1 => some (p2, x1, ([(2, 0, p3)] : List (Int × Int × Int)))
theorem M9 (Y : Nat → Prop) (w0 : World)  (p0 : Int) (p1 : Int) (p2 : Int) (p3 : Int) (r : (Int × (Int × (Int × Int × Int × Int) × (Int × Int × Int × Int)) × (List (Int × Int × Int)))) (H : H2 p0 p1 p2 p3 = some r)  :
    Calls Try.prog 30 #[.int .i64 p0, .int .i64 p1, .int .i64 p2, .int .i64 p3] w0 fun e w' => ∃ x : Value, e = .returned (.agg #[.int .i64 r.1, .int .i64 r.2.1.1, .int .i64 r.2.1.2.1.1, .int .i64 r.2.1.2.1.2.1, .int .i64 r.2.1.2.1.2.2.1, .int .i64 r.2.1.2.1.2.2.2, .int .i64 r.2.1.2.2.1, .int .i64 r.2.1.2.2.2.1, .int .i64 r.2.1.2.2.2.2.1, .int .i64 r.2.1.2.2.2.2.2, x]) ∧ Stw ⟨Y, [], w0⟩ [] [row (x) 109 NM r.2.2] w' := by
 refine enter Try.func30 Aa Try.ntmps30 Aa fun a F => ?_
 have W := Stw.start Y w0
 unfold H2 at H
 refine Ah (Ac ?_)
 refine Cn (cs := [.int .i64 0, .int .i64 0, .int .i64 0, .int .i64 0, .int .i64 0, .int .i64 0, .int .i64 0, .int .i64 0, .int .i64 0, .int .i64 0, .slice none 0 0]) F W Aa UT Aa fun b1 a w F W => ?_
 refine Ae (Ab (Ah (Ac ?_)))
 iterate 3 refine ls F W Aa (Ad F Aa).q fun a w F W => ?_
 obtain ⟨x1, h1, H⟩ := Al H
 refine ls F W Aa (BH (v := Value.agg #[.int .i64 x1.1, .int .i64 x1.2.1.1, .int .i64 x1.2.1.2.1, .int .i64 x1.2.1.2.2.1, .int .i64 x1.2.1.2.2.2, .int .i64 x1.2.2.1, .int .i64 x1.2.2.2.1, .int .i64 x1.2.2.2.2.1, .int .i64 x1.2.2.2.2.2]) F TV Aa (fun w W => OL any w p0 p1 _ h1)) fun a w F W => ?_
 refine ls F W Aa (Ad F Aa).q fun a w F W => ?_
 refine ls F W Aa (Cg (v := Value.agg #[.int .i64 2, .int .i64 0, .int .i64 p3]) S7 F Aa Aa Aa).q fun a w F W => ?_
 refine EA (z := Value.agg #[.int .i64 0, .int .i64 0, .int .i64 0]) (cs := [.int .i64 2, .int .i64 0, .int .i64 p3]) NM ([(2, 0, p3)] : List (Int × Int × Int)) F W Aa T4 Tc Aa Aa Aa Aa Aa Aa (SW.repL _ _ ([(2, 0, p3)] : List (Int × Int × Int))) fun v1 a w F W => ?_
 refine ls F W Aa (Cg (v := Value.agg #[.int .i64 p2, .int .i64 x1.1, .int .i64 x1.2.1.1, .int .i64 x1.2.1.2.1, .int .i64 x1.2.1.2.2.1, .int .i64 x1.2.1.2.2.2, .int .i64 x1.2.2.1, .int .i64 x1.2.2.2.1, .int .i64 x1.2.2.2.2.1, .int .i64 x1.2.2.2.2.2, v1]) Ut F Aa (A9 Aa Aa Aa (A9 Aa Aa Aa (A9 Aa (Cm (W.one (k := 0) Aa)) Aa De))) Aa).q fun a w F W => ?_
 refine Br (vs := [.int .i64 p2, .int .i64 x1.1, .int .i64 x1.2.1.1, .int .i64 x1.2.1.2.1, .int .i64 x1.2.1.2.2.1, .int .i64 x1.2.1.2.2.2, .int .i64 x1.2.2.1, .int .i64 x1.2.2.2.1, .int .i64 x1.2.2.2.2.1, .int .i64 x1.2.2.2.2.2, v1]) (M' := [(b1, [.int .i64 p2, .int .i64 x1.1, .int .i64 x1.2.1.1, .int .i64 x1.2.1.2.1, .int .i64 x1.2.1.2.2.1, .int .i64 x1.2.1.2.2.2, .int .i64 x1.2.2.1, .int .i64 x1.2.2.2.1, .int .i64 x1.2.2.2.2.1, .int .i64 x1.2.2.2.2.2, v1])]) 0 F W Aa Aa Aa TJ Aa Aa Aa (AN Aa (AN Aa (AN Aa (AN Aa (AN Aa (AN Aa (AN Aa (AN Aa (AN Aa (AN Aa (AN (W.one (k := 0) Aa) Em))))))))))) Aa fun w W => ?_
 refine Ae (Ab (wp_ret ?_))
 have H := AM H
 subst H
 refine Bl (.inl Aa) F W Aa (ET 0 F Aa Aa TJ Aa) ?_
 have W := W.sub (M' := []) (Z' := [row v1 109 NM ([(2, 0, p3)] : List (Int × Int × Int))]) (List.nil_sublist _) (List.Sublist.refl _)
 exact ⟨(v1), Aa, W⟩
theorem SK : type_of% Try.underlying52 := Try.underlying52
theorem Tj : type_of% Try.underlying83 := Try.underlying83
theorem UN : Has Try.prog 30 := ⟨fun args w => An Try.func30 rfl (by decide) args w⟩
theorem Vd : Bt Try.prog 83 [.int .i64 0, .int .i64 0, .int .i64 0, .int .i64 0, .int .i64 0, .int .i64 0, .int .i64 0, .int .i64 0, .int .i64 0, .int .i64 0, .int .i64 0, .slice none 0 0, .bool false] [(0, 1), (1, 11), (12, 1)] := ⟨⟨.agg #[.int .i64 0, .int .i64 0, .int .i64 0, .int .i64 0, .int .i64 0, .int .i64 0, .int .i64 0, .int .i64 0, .int .i64 0, .int .i64 0, .int .i64 0, .slice none 0 0, .bool false], by kernel_rfl, rfl⟩, ⟨_, Tj, fun w => by kernel_rfl⟩⟩
theorem TT : (Try.prog.info? 83).bind (·.zero) = some (.agg #[.int .i64 0, .int .i64 0, .int .i64 0, .int .i64 0, .int .i64 0, .int .i64 0, .int .i64 0, .int .i64 0, .int .i64 0, .int .i64 0, .int .i64 0, .slice none 0 0, .bool false]) := by kernel_rfl
abbrev TK : Rp (Int × Int × Int × Int) := (Rp.pair (Rp.int .i64) (Rp.pair (Rp.int .i64) (Rp.pair (Rp.int .i64) (Rp.int .i64))))
abbrev Vc : Rp (Int × (Int × Int × Int × Int) × (Int × Int × Int × Int)) := (Rp.pair (Rp.int .i64) (Rp.pair TK TK))
abbrev UA : Rp (Int × (Int × (Int × Int × Int × Int) × (Int × Int × Int × Int)) × (List (Int × Int × Int))) := (Rp.pair (Rp.int .i64) (Rp.pair Vc (Rp.slice NM)))
abbrev Na : Rp (Int × (Int × (Int × (Int × Int × Int × Int) × (Int × Int × Int × Int)) × (List (Int × Int × Int))) × Bool) := (Rp.pair (Rp.int .i64) (Rp.pair UA Rp.bool))
theorem TN : Et Try.prog 52 83 13 120 := Et.of SK (by kernel_rfl) (by kernel_rfl) (by kernel_rfl) (by decide)
noncomputable def Hc (p0 : List (Int × Int × Int × Int)) (p1 : Int) (p2 : Int) : ((List (Int × (Int × (Int × (Int × Int × Int × Int) × (Int × Int × Int × Int)) × (List (Int × Int × Int))) × Bool)) × Int) → Option (((List (Int × (Int × (Int × (Int × Int × Int × Int) × (Int × Int × Int × Int)) × (List (Int × Int × Int))) × Bool)) × Int) ⊕ (List (Int × (Int × (Int × (Int × Int × Int × Int) × (Int × Int × Int × Int)) × (List (Int × Int × Int))) × Bool)))
  | (x2, x3) => (if x3 < (p0.length : Int) then ((ix p0 x3).bind fun x5 => (if (decide (x5.2.2.2 = p1) && decide (x5.1 = p2)) = true then (H2 1 x5.2.1 10 x5.2.2.1).bind fun x6 => (JN x2 ([(3, x6, false)] : List (Int × (Int × (Int × (Int × Int × Int × Int) × (Int × Int × Int × Int)) × (List (Int × Int × Int))) × Bool))).bind fun x7 => some x7 else some x2)).bind fun x4 => some (.inl (x4, AA (x3 + 1))) else some (.inr x2))
noncomputable def Ib (p0 : List (Int × Int × Int × Int)) (p1 : Int) (p2 : Int) : Option (List (Int × (Int × (Int × (Int × Int × Int × Int) × (Int × Int × Int × Int)) × (List (Int × Int × Int))) × Bool)) := (AE (Hc p0 p1 p2) ([], 0)).bind fun x1 => some x1
theorem Nu (Y : Nat → Prop) (w0 : World) (v1 : Value) (p0 : List (Int × Int × Int × Int)) (p1 : Int) (p2 : Int) (r : (List (Int × (Int × (Int × (Int × Int × Int × Int) × (Int × Int × Int × Int)) × (List (Int × Int × Int))) × Bool))) (H : Ib p0 p1 p2 = some r) (h_v1 : Sl w0 (NX []) A8 v1 p0) :
    Calls Try.prog 16 #[v1, .int .i64 p1, .int .i64 p2] w0 fun e w' => ∃ x : Value, e = .returned (x) ∧ Stw ⟨Y, [], w0⟩ [] [row (x) 83 Na r] w' := by
 refine enter Try.func16 Aa Try.ntmps16 Aa fun a F => ?_
 have W := Stw.start Y w0
 unfold Ib at H
 refine Ah (Ac ?_)
 refine ls F W Aa (Af F Aa).q fun a w F W => ?_
 refine Ae (Ab (Ah (Ac ?_)))
 refine ls F W Aa (Af F Aa).q fun a w F W => ?_
 refine Ae (Ab ?_)
 obtain ⟨o1, G1, K1⟩ := Al H
 refine AC (fun a w => ∃ x1 : List (Int × (Int × (Int × (Int × Int × Int × Int) × (Int × Int × Int × Int)) × (List (Int × Int × Int))) × Bool), ∃ v2 : Value, some (x1) = some o1 ∧ Fr 37 [] [(6, .slice none 0 0), (7, v2)] a ∧ Stw ⟨Y, [], w0⟩ [] [row v2 83 Na x1] w) ?_ ?_
 ·
  have H := G1
  clear G1 K1
  refine Ah (Ac ?_)
  refine ls F W Aa (Ad F Aa).q fun a w F W => ?_
  refine ls F W Aa (BP (r := A8) (l := p0) Nc Aa F Aa (Am h_v1)).q fun a w F W => ?_
  refine ls F W Aa (Ad F Aa).q fun a w F W => ?_
  refine Ae (Ab (wp_block ?_))
  have W := W.nilRow 83 Na
  refine A1 H (fun s a w => ∃ v3 : Value, Fr 37 [] [(1, .int .i64 p1), (2, .int .i64 p2), (6, .slice none 0 0), (7, v3), (10, v1), (11, .int .i64 (p0.length : Int)), (12, .int .i64 s.2)] a ∧ Stw ⟨Y, [], w0⟩ [] [row v3 83 Na s.1] w) ⟨(Value.slice none 0 0), F.re ⟨rfl, Aa, Aa, Aa, Aa, Aa, Aa, trivial⟩, W⟩ fun s o a w H L2 hR => ?_
  obtain ⟨x2, x3⟩ := s
  obtain ⟨v3, F, W⟩ := hR
  have F : Fr 37 [] [(1, .int .i64 p1), (2, .int .i64 p2), (6, .slice none 0 0), (7, v3), (10, v1), (11, .int .i64 (p0.length : Int)), (12, .int .i64 x3)] a := F
  have W : Stw ⟨Y, [], w0⟩ [] [row v3 83 Na x2] w := W
  rw [Hc] at H
  refine Ah (Ac ?_)
  refine ls F W Aa (Bk F Aa Aa).q fun a w F W => ?_
  refine Ae (Ab (Ah ?_))
  refine Aw F Aa (fun hb => ?_) fun hb => ?_
  ·
   have H := AL (A6 hb) H
   rw [hb] at F
   clear hb
   refine wp_skip (Ab ?_)
   obtain ⟨o3, G3, K3⟩ := Al H
   refine AC (fun a w => ∃ x4 : List (Int × (Int × (Int × (Int × Int × Int × Int) × (Int × Int × Int × Int)) × (List (Int × Int × Int))) × Bool), ∃ v4 : Value, some (x4) = some o3 ∧ Fr 37 [] [(1, .int .i64 p1), (2, .int .i64 p2), (6, .slice none 0 0), (7, v4), (10, v1), (11, .int .i64 (p0.length : Int)), (12, .int .i64 x3)] a ∧ Stw ⟨Y, [], w0⟩ [] [row v4 83 Na x4] w) ?_ ?_
   ·
    have H := G3
    clear G3 K3
    refine wp_block (Ah (Ac ?_))
    obtain ⟨x5, h1, H⟩ := Al H
    refine ls F W Aa (Ay (r := A8) Eb F Aa Aa (Am h_v1) h1).q fun a w F W => ?_
    refine ls F W Aa (Ap (y := Value.agg #[.int .i64 x5.1, .int .i64 x5.2.1, .int .i64 x5.2.2.1, .int .i64 x5.2.2.2]) (j := 0) (i := x3) F Aa Aa (Am h_v1) h1 Ek.to Ec Aa).q fun a w F W => ?_
    refine Cn (cs := [.int .i64 0, .int .i64 0, .int .i64 0, .int .i64 0]) F W Aa R1 Aa fun b1 a w F W => ?_
    refine Br (vs := [.int .i64 x5.1, .int .i64 x5.2.1, .int .i64 x5.2.2.1, .int .i64 x5.2.2.2]) (M' := [(b1, [.int .i64 x5.1, .int .i64 x5.2.1, .int .i64 x5.2.2.1, .int .i64 x5.2.2.2])]) 0 F W Aa Aa Aa Ec Aa Aa Aa Aa Aa fun w W => ?_
    refine Ae (Ab ?_)
    refine AC (fun a w => Fr 37 [] [(1, .int .i64 p1), (2, .int .i64 p2), (6, .slice none 0 0), (7, v3), (9, .pointer (some ⟨b1, 0, none⟩)), (10, v1), (11, .int .i64 (p0.length : Int)), (12, .int .i64 x3), (25, .bool (decide (x5.2.2.2 = p1) && decide (x5.1 = p2)))] a ∧ Stw ⟨Y, [], w0⟩ [(b1, [.int .i64 x5.1, .int .i64 x5.2.1, .int .i64 x5.2.2.1, .int .i64 x5.2.2.2])] [row v3 83 Na x2] w) ?_ ?_
    ·
     refine Ac ?_
     refine ls F W Aa (Ai JS Aa Aa Aa T3 F Aa 3 Aa).q fun a w F W => ?_
     refine ls F W Aa (As (v := Value.int .i64 x5.2.2.2) 0 F Aa Aa T3 Aa).q fun a w F W => ?_
     refine ls F W Aa (Ad F Aa).q fun a w F W => ?_
     refine ls F W Aa (Cy F Aa Aa).q fun a w F W => ?_
     refine ls F W Aa (Ad F Aa).q fun a w F W => ?_
     rcases Bool.eq_false_or_eq_true (decide (x5.2.2.2 = p1)) with hb0 | hb0
     ·
      rw [hb0] at F
      refine AD F W (Ag F Aa Aa Aa Aa) Aa (Ak Aa) (Ai JS Aa Aa Aa T3 F Aa 0 Aa).q fun a w F W => ?_
      refine AD F W (Ag F Aa Aa Aa Aa) Aa (Ak Aa) (As (v := Value.int .i64 x5.1) 0 F Aa Aa T3 Aa).q fun a w F W => ?_
      refine AD F W (Ag F Aa Aa Aa Aa) Aa (Ak Aa) (Ad F Aa).q fun a w F W => ?_
      refine AD F W (Ag F Aa Aa Aa Aa) Aa (Ak Aa) (Cy F Aa Aa).q fun a w F W => ?_
      refine ls F W Aa (Aq F Aa Aa Aa).q fun a w F W => ?_
      refine Ae (Ab ?_)
      exact ⟨F.re ⟨rfl, Aa, Aa, Aa, Aa, Aa, Aa, Aa, (by show some (Value.bool (decide (x5.1 = p2))) = some (Value.bool (decide (x5.2.2.2 = p1) && decide (x5.1 = p2))); try rw [hb0]; all_goals simp only [Bool.not_true, Bool.not_false, Bool.true_and, Bool.false_and, Bool.true_or, Bool.false_or, Bool.and_true, Bool.or_false, cond_true, cond_false]), trivial⟩, W⟩
     rw [hb0] at F
     iterate 4 refine Cj F Aa Aa Aa Aa Aa Aa Aa fun a F => ?_
     refine ls F W Aa (Au F Aa Aa Aa).q fun a w F W => ?_
     refine Ae (Ab ?_)
     exact ⟨F.re ⟨rfl, Aa, Aa, Aa, Aa, Aa, Aa, Aa, (by show some (Value.bool false) = some (Value.bool (decide (x5.2.2.2 = p1) && decide (x5.1 = p2))); try rw [hb0]; all_goals simp only [Bool.not_true, Bool.not_false, Bool.true_and, Bool.false_and, Bool.true_or, Bool.false_or, Bool.and_true, Bool.or_false, cond_true, cond_false]), trivial⟩, W⟩
    rintro a w ⟨F, W⟩
    refine Aw F Aa (fun hb => ?_) fun hb => ?_
    ·
     have H := AL hb H
     rw [hb] at F
     clear hb
     refine Ac ?_
     refine ls F W Aa (Ad F Aa).q fun a w F W => ?_
     refine ls F W Aa (Ai JS Aa Aa Aa T3 F Aa 1 Aa).q fun a w F W => ?_
     refine ls F W Aa (As (v := Value.int .i64 x5.2.1) 0 F Aa Aa T3 Aa).q fun a w F W => ?_
     refine ls F W Aa (Ai JS Aa Aa Aa T3 F Aa 2 Aa).q fun a w F W => ?_
     refine ls F W Aa (As (v := Value.int .i64 x5.2.2.1) 0 F Aa Aa T3 Aa).q fun a w F W => ?_
     obtain ⟨x6, h2, H⟩ := Al H
     refine Bp (Ml := []) (Zl := []) (M := [(b1, [.int .i64 x5.1, .int .i64 x5.2.1, .int .i64 x5.2.2.1, .int .i64 x5.2.2.2])]) (Z := [row v3 83 Na x2]) (β := Value) (rv := fun x => .agg #[.int .i64 x6.1, .int .i64 x6.2.1.1, .int .i64 x6.2.1.2.1.1, .int .i64 x6.2.1.2.1.2.1, .int .i64 x6.2.1.2.1.2.2.1, .int .i64 x6.2.1.2.1.2.2.2, .int .i64 x6.2.1.2.2.1, .int .i64 x6.2.1.2.2.2.1, .int .i64 x6.2.1.2.2.2.2.1, .int .i64 x6.2.1.2.2.2.2.2, x]) (MM := fun x => []) (ZZ := fun x => [row x 109 NM x6.2.2]) F W UN Aa Aa (fun hL => M9 _ w 1 x5.2.1 10 x5.2.2.1 _ h2) fun x a w F W => ?_
     obtain ⟨v5, rfl⟩ : ∃ y, y = x := ⟨x, rfl⟩
     have W : Stw ⟨Y, [], w0⟩ [(b1, [.int .i64 x5.1, .int .i64 x5.2.1, .int .i64 x5.2.2.1, .int .i64 x5.2.2.2])] [row v5 109 NM x6.2.2, row v3 83 Na x2] w := W
     refine ls F W Aa (Cg (v := Value.agg #[.int .i64 3, .int .i64 x6.1, .int .i64 x6.2.1.1, .int .i64 x6.2.1.2.1.1, .int .i64 x6.2.1.2.1.2.1, .int .i64 x6.2.1.2.1.2.2.1, .int .i64 x6.2.1.2.1.2.2.2, .int .i64 x6.2.1.2.2.1, .int .i64 x6.2.1.2.2.2.1, .int .i64 x6.2.1.2.2.2.2.1, .int .i64 x6.2.1.2.2.2.2.2, v5, .bool false]) Vd F Aa (A9 Aa Aa Aa (A9 Aa Aa Aa De)) Aa).q fun a w F W => ?_
     have W := W.freeze
     refine EA (z := Value.agg #[.int .i64 0, .int .i64 0, .int .i64 0, .int .i64 0, .int .i64 0, .int .i64 0, .int .i64 0, .int .i64 0, .int .i64 0, .int .i64 0, .int .i64 0, .slice none 0 0, .bool false]) (cs := [.int .i64 3, .int .i64 x6.1, .int .i64 x6.2.1.1, .int .i64 x6.2.1.2.1.1, .int .i64 x6.2.1.2.1.2.1, .int .i64 x6.2.1.2.1.2.2.1, .int .i64 x6.2.1.2.1.2.2.2, .int .i64 x6.2.1.2.2.1, .int .i64 x6.2.1.2.2.2.1, .int .i64 x6.2.1.2.2.2.2.1, .int .i64 x6.2.1.2.2.2.2.2, v5, .bool false]) Na ([(3, x6, false)] : List (Int × (Int × (Int × (Int × Int × Int × Int) × (Int × Int × Int × Int)) × (List (Int × Int × Int))) × Bool)) F W Aa TN TT Aa Aa Aa (A9 Aa Aa Aa De) Aa Aa ⟨[Value.int .i64 3, Value.int .i64 x6.1, Value.int .i64 x6.2.1.1, Value.int .i64 x6.2.1.2.1.1, Value.int .i64 x6.2.1.2.1.2.1, Value.int .i64 x6.2.1.2.1.2.2.1, Value.int .i64 x6.2.1.2.1.2.2.2, Value.int .i64 x6.2.1.2.2.1, Value.int .i64 x6.2.1.2.2.2.1, Value.int .i64 x6.2.1.2.2.2.2.1, Value.int .i64 x6.2.1.2.2.2.2.2, v5, Value.bool false], _, Aa, ⟨[Value.int .i64 3], [Value.int .i64 x6.1, Value.int .i64 x6.2.1.1, Value.int .i64 x6.2.1.2.1.1, Value.int .i64 x6.2.1.2.1.2.1, Value.int .i64 x6.2.1.2.1.2.2.1, Value.int .i64 x6.2.1.2.1.2.2.2, Value.int .i64 x6.2.1.2.2.1, Value.int .i64 x6.2.1.2.2.2.1, Value.int .i64 x6.2.1.2.2.2.2.1, Value.int .i64 x6.2.1.2.2.2.2.2, v5, Value.bool false], Aa, Aa, ⟨[Value.int .i64 x6.1, Value.int .i64 x6.2.1.1, Value.int .i64 x6.2.1.2.1.1, Value.int .i64 x6.2.1.2.1.2.1, Value.int .i64 x6.2.1.2.1.2.2.1, Value.int .i64 x6.2.1.2.1.2.2.2, Value.int .i64 x6.2.1.2.2.1, Value.int .i64 x6.2.1.2.2.2.1, Value.int .i64 x6.2.1.2.2.2.2.1, Value.int .i64 x6.2.1.2.2.2.2.2, v5], [Value.bool false], Aa, ⟨[Value.int .i64 x6.1], [Value.int .i64 x6.2.1.1, Value.int .i64 x6.2.1.2.1.1, Value.int .i64 x6.2.1.2.1.2.1, Value.int .i64 x6.2.1.2.1.2.2.1, Value.int .i64 x6.2.1.2.1.2.2.2, Value.int .i64 x6.2.1.2.2.1, Value.int .i64 x6.2.1.2.2.2.1, Value.int .i64 x6.2.1.2.2.2.2.1, Value.int .i64 x6.2.1.2.2.2.2.2, v5], Aa, Aa, ⟨[Value.int .i64 x6.2.1.1, Value.int .i64 x6.2.1.2.1.1, Value.int .i64 x6.2.1.2.1.2.1, Value.int .i64 x6.2.1.2.1.2.2.1, Value.int .i64 x6.2.1.2.1.2.2.2, Value.int .i64 x6.2.1.2.2.1, Value.int .i64 x6.2.1.2.2.2.1, Value.int .i64 x6.2.1.2.2.2.2.1, Value.int .i64 x6.2.1.2.2.2.2.2], [v5], Aa, ⟨[Value.int .i64 x6.2.1.1], [Value.int .i64 x6.2.1.2.1.1, Value.int .i64 x6.2.1.2.1.2.1, Value.int .i64 x6.2.1.2.1.2.2.1, Value.int .i64 x6.2.1.2.1.2.2.2, Value.int .i64 x6.2.1.2.2.1, Value.int .i64 x6.2.1.2.2.2.1, Value.int .i64 x6.2.1.2.2.2.2.1, Value.int .i64 x6.2.1.2.2.2.2.2], Aa, Aa, ⟨[Value.int .i64 x6.2.1.2.1.1, Value.int .i64 x6.2.1.2.1.2.1, Value.int .i64 x6.2.1.2.1.2.2.1, Value.int .i64 x6.2.1.2.1.2.2.2], [Value.int .i64 x6.2.1.2.2.1, Value.int .i64 x6.2.1.2.2.2.1, Value.int .i64 x6.2.1.2.2.2.2.1, Value.int .i64 x6.2.1.2.2.2.2.2], Aa, ⟨[Value.int .i64 x6.2.1.2.1.1], [Value.int .i64 x6.2.1.2.1.2.1, Value.int .i64 x6.2.1.2.1.2.2.1, Value.int .i64 x6.2.1.2.1.2.2.2], Aa, Aa, ⟨[Value.int .i64 x6.2.1.2.1.2.1], [Value.int .i64 x6.2.1.2.1.2.2.1, Value.int .i64 x6.2.1.2.1.2.2.2], Aa, Aa, ⟨[Value.int .i64 x6.2.1.2.1.2.2.1], [Value.int .i64 x6.2.1.2.1.2.2.2], Aa, Aa, Aa⟩⟩⟩, ⟨[Value.int .i64 x6.2.1.2.2.1], [Value.int .i64 x6.2.1.2.2.2.1, Value.int .i64 x6.2.1.2.2.2.2.1, Value.int .i64 x6.2.1.2.2.2.2.2], Aa, Aa, ⟨[Value.int .i64 x6.2.1.2.2.2.1], [Value.int .i64 x6.2.1.2.2.2.2.1, Value.int .i64 x6.2.1.2.2.2.2.2], Aa, Aa, ⟨[Value.int .i64 x6.2.1.2.2.2.2.1], [Value.int .i64 x6.2.1.2.2.2.2.2], Aa, Aa, Aa⟩⟩⟩⟩⟩, ⟨_, Aa, (W.item (i := 0) Aa)⟩⟩⟩, Aa⟩⟩, Aa⟩ fun v6 a w F W => ?_
     obtain ⟨x7, h3, H⟩ := Al H
     refine DY (r := Na) (i := 2) F W Aa TN Aa Aa Aa Aa (EI W 0 Aa) h3 Aa fun v7 a w F W => ?_
     have W : Stw ⟨Y, [], w0⟩ [(b1, [.int .i64 x5.1, .int .i64 x5.2.1, .int .i64 x5.2.2.1, .int .i64 x5.2.2.2])] [row v7 83 Na x7, row v6 83 Na ([(3, x6, false)] : List (Int × (Int × (Int × (Int × Int × Int × Int) × (Int × Int × Int × Int)) × (List (Int × Int × Int))) × Bool)), JE v5 NM x6.2.2] w := W
     refine ls F W Aa (Af F Aa).q fun a w F W => ?_
     refine Ae (AH (Ab ?_))
     have W := W.sub (M' := []) (Z' := [row v7 83 Na x7]) (List.nil_sublist _) (List.Sublist.cons_cons _ (List.nil_sublist _))
     exact ⟨_, (v7), H, F.re ⟨rfl, Aa, Aa, Aa, Aa, Aa, Aa, trivial⟩, W⟩
    have H := AK (by rw [hb]; decide) H
    rw [hb] at F
    clear hb
    refine wp_skip (AH (Ab ?_))
    have W := W.sub (M' := []) (Z' := [row v3 83 Na x2]) (List.nil_sublist _) (List.Sublist.refl _)
    exact ⟨_, (v3), H, F.re ⟨rfl, Aa, Aa, Aa, Aa, Aa, Aa, trivial⟩, W⟩
   rintro a w ⟨x4, v4, hj, F, W⟩
   have hj := AM hj
   subst hj
   have H := K3
   clear G3 K3
   refine Ac ?_
   refine ls F W Aa (A3 F Aa Aa Aa).q fun a w F W => ?_
   refine ls F W Aa (Ad F Aa).q fun a w F W => ?_
   refine Ae (Ab ?_)
   exact ⟨_, H, (v4), F.re ⟨rfl, Aa, Aa, Aa, Aa, Aa, Aa, trivial⟩, W⟩
  have H := AK (A7 hb) H
  rw [hb] at F
  clear hb
  refine wp_exit ?_
  iterate 2 refine A5 ?_
  refine AU (Ab ?_)
  have H := L2 _ H
  exact ⟨_, (v3), H, F.re ⟨rfl, Aa, trivial⟩, W⟩
 rintro a w ⟨x1, v2, hj, F, W⟩
 have hj := AM hj
 subst hj
 have H := K1
 clear G1 K1
 refine Ah (Ac ?_)
 refine ls F W Aa (Ad F Aa).q fun a w F W => ?_
 refine ls F W Aa (Af F Aa).q fun a w F W => ?_
 refine Ae (Ab (wp_ret ?_))
 have H := AM H
 subst H
 refine Bl (.inl Aa) F W Aa (Av F Aa) ?_
 exact ⟨(v2), Aa, W⟩
theorem R4 : type_of% Try.underlying50 := Try.underlying50
theorem SV : type_of% Try.underlying54 := Try.underlying54
theorem T2 : Has Try.prog 16 := ⟨fun args w => An Try.func16 rfl (by decide) args w⟩
theorem U7 : Bt Try.prog 54 [.int .i64 0, .slice none 0 0] [(0, 1), (1, 1)] := ⟨⟨.agg #[.int .i64 0, .slice none 0 0], by kernel_rfl, rfl⟩, ⟨_, SV, fun w => by kernel_rfl⟩⟩
theorem UG : (Try.prog.info? 54).bind (·.zero) = some (.agg #[.int .i64 0, .slice none 0 0]) := by kernel_rfl
abbrev ND : Rp (Int × (List (Int × (Int × (Int × (Int × Int × Int × Int) × (Int × Int × Int × Int)) × (List (Int × Int × Int))) × Bool))) := (Rp.pair (Rp.int .i64) (Rp.slice Na))
theorem TC : Et Try.prog 50 54 2 32 := Et.of R4 (by kernel_rfl) (by kernel_rfl) (by kernel_rfl) (by decide)
noncomputable def Hb (p0 : (List (Int × Int × Int × Int)) × (List (Int × Int × List Int)) × Int × Int × Int × Int) (x1 : Int × Int × List Int) : ((List (Int × (List (Int × (Int × (Int × (Int × Int × Int × Int) × (Int × Int × Int × Int)) × (List (Int × Int × Int))) × Bool)))) × Int) → Option (((List (Int × (List (Int × (Int × (Int × (Int × Int × Int × Int) × (Int × Int × Int × Int)) × (List (Int × Int × Int))) × Bool)))) × Int) ⊕ (List (Int × (List (Int × (Int × (Int × (Int × Int × Int × Int) × (Int × Int × Int × Int)) × (List (Int × Int × Int))) × Bool)))))
  | (x3, x4) => (if x4 < (x1.2.2.length : Int) then (ix x1.2.2 x4).bind fun x5 => (Ib p0.1 x1.1 x5).bind fun x6 => (JN x3 ([(x5, x6)] : List (Int × (List (Int × (Int × (Int × (Int × Int × Int × Int) × (Int × Int × Int × Int)) × (List (Int × Int × Int))) × Bool))))).bind fun x7 => some (.inl (x7, AA (x4 + 1))) else some (.inr x3))
noncomputable def Id (p0 : (List (Int × Int × Int × Int)) × (List (Int × Int × List Int)) × Int × Int × Int × Int) (p1 : Int) : Option (List (Int × (List (Int × (Int × (Int × (Int × Int × Int × Int) × (Int × Int × Int × Int)) × (List (Int × Int × Int))) × Bool)))) := (if (decide (p1 < 0) || decide ((p0.2.1.length : Int) ≤ p1)) = true then some ([] : List (Int × (List (Int × (Int × (Int × (Int × Int × Int × Int) × (Int × Int × Int × Int)) × (List (Int × Int × Int))) × Bool)))) else (ix p0.2.1 p1).bind fun x1 => (AE (Hb p0 x1) ([], 0)).bind fun x2 => some x2)
theorem Nr (Y : Nat → Prop) (w0 : World) (v1 : Value) (v2 : Value) (p0 : (List (Int × Int × Int × Int)) × (List (Int × Int × List Int)) × Int × Int × Int × Int) (p1 : Int) (r : (List (Int × (List (Int × (Int × (Int × (Int × Int × Int × Int) × (Int × Int × Int × Int)) × (List (Int × Int × Int))) × Bool))))) (H : Id p0 p1 = some r) (h_v1 : Sl w0 (NX []) A8 v1 p0.1) (h_v2 : Sl w0 (NX []) HG v2 p0.2.1) :
    Calls Try.prog 14 #[.agg #[v1, v2, .int .i64 p0.2.2.1, .int .i64 p0.2.2.2.1, .int .i64 p0.2.2.2.2.1, .int .i64 p0.2.2.2.2.2], .int .i64 p1] w0 fun e w' => ∃ x : Value, e = .returned (x) ∧ Stw ⟨Y, [], w0⟩ [] [row (x) 54 ND r] w' := by
 refine enter Try.func14 Aa Try.ntmps14 Aa fun a F => ?_
 have W := Stw.start Y w0
 obtain ⟨v3, h1, h_v2⟩ := h_v2.ex ID
 unfold Id at H
 refine Ah (Ac ?_)
 refine Dr (cs := [v1, v2, .int .i64 p0.2.2.1, .int .i64 p0.2.2.2.1, .int .i64 p0.2.2.2.2.1, .int .i64 p0.2.2.2.2.2]) F W Aa Aa Aa fun b1 a w F W => ?_
 refine ls F W Aa (Af F Aa).q fun a w F W => ?_
 refine Ae (Ab (Ah ?_))
 refine AC (fun a w => Fr 43 [] [(1, .int .i64 p1), (2, .pointer (some ⟨b1, 0, none⟩)), (4, .slice none 0 0), (17, .bool (decide (p1 < 0) || decide ((p0.2.1.length : Int) ≤ p1)))] a ∧ Stw ⟨Y, [], w0⟩ [(b1, [v1, v2, .int .i64 p0.2.2.1, .int .i64 p0.2.2.2.1, .int .i64 p0.2.2.2.2.1, .int .i64 p0.2.2.2.2.2])] [] w) ?_ ?_
 ·
  refine Ac ?_
  refine ls F W Aa (Ad F Aa).q fun a w F W => ?_
  refine ls F W Aa (Bk F Aa Aa).q fun a w F W => ?_
  refine ls F W Aa (Ad F Aa).q fun a w F W => ?_
  rcases Bool.eq_false_or_eq_true (decide (p1 < 0)) with hb0 | hb0
  ·
   rw [hb0] at F
   iterate 5 refine Cj F Aa Aa Aa Aa Aa Aa Aa fun a F => ?_
   refine ls F W Aa (Aq F Aa Aa Aa).q fun a w F W => ?_
   refine Ae (Ab ?_)
   exact ⟨F.re ⟨rfl, Aa, Aa, (by show some (Value.bool true) = some (Value.bool (decide (p1 < 0) || decide ((p0.2.1.length : Int) ≤ p1))); try rw [hb0]; all_goals simp only [Bool.not_true, Bool.not_false, Bool.true_and, Bool.false_and, Bool.true_or, Bool.false_or, Bool.and_true, Bool.or_false, cond_true, cond_false]), trivial⟩, W⟩
  rw [hb0] at F
  refine AD F W (Ag F Aa Aa Aa Aa) Aa (Ak Aa) (Ad F Aa).q fun a w F W => ?_
  refine AD F W (Ag F Aa Aa Aa Aa) Aa (Ak Aa) (Ai GR Aa Aa Aa Mt F Aa 1 Aa).q fun a w F W => ?_
  refine AD F W (Ag F Aa Aa Aa Aa) Aa (Ak Aa) (As (v := v2) 0 F Aa Aa Mt Aa).q fun a w F W => ?_
  refine AD F W (Ag F Aa Aa Aa Aa) Aa (Ak Aa) (BP (r := HG) (l := p0.2.1) PZ Aa F Aa (BA ID h1 (Am h_v2))).q fun a w F W => ?_
  refine AD F W (Ag F Aa Aa Aa Aa) Aa (Ak Aa) (Dj F Aa Aa).q fun a w F W => ?_
  refine ls F W Aa (Au F Aa Aa Aa).q fun a w F W => ?_
  refine Ae (Ab ?_)
  exact ⟨F.re ⟨rfl, Aa, Aa, (by show some (Value.bool (decide ((p0.2.1.length : Int) ≤ p1))) = some (Value.bool (decide (p1 < 0) || decide ((p0.2.1.length : Int) ≤ p1))); try rw [hb0]; all_goals simp only [Bool.not_true, Bool.not_false, Bool.true_and, Bool.false_and, Bool.true_or, Bool.false_or, Bool.and_true, Bool.or_false, cond_true, cond_false]), trivial⟩, W⟩
 rintro a w ⟨F, W⟩
 refine Aw F Aa (fun hb => ?_) fun hb => ?_
 ·
  have H := AL hb H
  rw [hb] at F
  clear hb
  refine Ah (Ac ?_)
  refine ls F W Aa (Af F Aa).q fun a w F W => ?_
  refine Ae (Ab (wp_ret (AG ?_)))
  have H := AM H
  subst H
  refine Bl (.inl Aa) F W Aa (Av F Aa) ?_
  have W := W.nilRow 54 ND
  have W := W.sub (M' := []) (Z' := [row (Value.slice none 0 0) 54 ND ([])]) (List.nil_sublist _) (List.Sublist.refl _)
  exact ⟨(Value.slice none 0 0), Aa, W⟩
 have H := AK (by rw [hb]; decide) H
 rw [hb] at F
 clear hb
 refine wp_skip (Ab (Ah (Ac ?_)))
 refine ls F W Aa (Ai GR Aa Aa Aa Mt F Aa 1 Aa).q fun a w F W => ?_
 refine ls F W Aa (As (v := v2) 0 F Aa Aa Mt Aa).q fun a w F W => ?_
 refine ls F W Aa (Ad F Aa).q fun a w F W => ?_
 obtain ⟨x1, h2, H⟩ := Al H
 obtain ⟨v4, h3, h4⟩ := EJ h1 h2
 have h5 : KH v4 = [.int .i64 x1.1, .int .i64 x1.2.1, (v4.2.2.1)] := congrArg (fun q : Int × Int × List Int => ([.int .i64 q.1, .int .i64 q.2.1, (v4.2.2.1)] : List Value)) h4
 refine ls F W Aa (Ay (r := MC) Ra F Aa Aa (Am h_v2) h3).q fun a w F W => ?_
 refine ls F W Aa (Ap (y := Value.agg #[.int .i64 x1.1, .int .i64 x1.2.1, (v4.2.2.1)]) (j := 0) (i := p1) (enc := KH) F Aa Aa (Am h_v2) h3 Po Tn (by rw [h5]; rfl)).q fun a w F W => ?_
 refine Cn (cs := [.int .i64 0, .int .i64 0, .slice none 0 0]) F W Aa TI Aa fun b2 a w F W => ?_
 refine Br (vs := [.int .i64 x1.1, .int .i64 x1.2.1, (v4.2.2.1)]) (M' := [(b2, [.int .i64 x1.1, .int .i64 x1.2.1, (v4.2.2.1)]), (b1, [v1, v2, .int .i64 p0.2.2.1, .int .i64 p0.2.2.2.1, .int .i64 p0.2.2.2.2.1, .int .i64 p0.2.2.2.2.2])]) 0 F W Aa Aa Aa Tn Aa Aa Aa (AN Aa (AN Aa (AN ((CS (Am h_v2) h3 (Dc.snd (Dc.snd Dc.here)) (congrArg (fun q : Int × Int × List Int => q.2.2) h4)) _ W).one Em))) Aa fun w W => ?_
 refine Ae (Ab (Ah (Ac ?_)))
 refine ls F W Aa (Af F Aa).q fun a w F W => ?_
 refine Ae (Ab ?_)
 obtain ⟨o1, G1, K1⟩ := Al H
 refine AC (fun a w => ∃ x2 : List (Int × (List (Int × (Int × (Int × (Int × Int × Int × Int) × (Int × Int × Int × Int)) × (List (Int × Int × Int))) × Bool))), ∃ v5 : Value, some (x2) = some o1 ∧ Fr 43 [] [(4, .slice none 0 0), (6, v5)] a ∧ Stw ⟨Y, [], w0⟩ [(b2, [.int .i64 x1.1, .int .i64 x1.2.1, (v4.2.2.1)]), (b1, [v1, v2, .int .i64 p0.2.2.1, .int .i64 p0.2.2.2.1, .int .i64 p0.2.2.2.2.1, .int .i64 p0.2.2.2.2.2])] [row v5 54 ND x2] w) ?_ ?_
 ·
  have H := G1
  clear G1 K1
  refine Ah (Ac ?_)
  refine ls F W Aa (Ai N7 Aa Aa Aa JB F Aa 2 Aa).q fun a w F W => ?_
  refine ls F W Aa (As (v := (v4.2.2.1)) 0 F Aa Aa JB Aa).q fun a w F W => ?_
  refine ls F W Aa (BP (r := (Rp.int .i64)) (l := x1.2.2) Hm Aa F Aa (CS (Am h_v2) h3 (Dc.snd (Dc.snd Dc.here)) (congrArg (fun q : Int × Int × List Int => q.2.2) h4))).q fun a w F W => ?_
  refine ls F W Aa (Ad F Aa).q fun a w F W => ?_
  refine Ae (Ab (wp_block ?_))
  have W := W.nilRow 54 ND
  have W := W.frontM (i := 1) Aa Aa
  have W := W.frontM (i := 1) Aa Aa
  refine A1 H (fun s a w => ∃ v6 : Value, Fr 43 [] [(2, .pointer (some ⟨b1, 0, none⟩)), (4, .slice none 0 0), (5, .pointer (some ⟨b2, 0, none⟩)), (6, v6), (24, (v4.2.2.1)), (25, .int .i64 (x1.2.2.length : Int)), (26, .int .i64 s.2)] a ∧ Stw ⟨Y, [], w0⟩ [(b2, [.int .i64 x1.1, .int .i64 x1.2.1, (v4.2.2.1)]), (b1, [v1, v2, .int .i64 p0.2.2.1, .int .i64 p0.2.2.2.1, .int .i64 p0.2.2.2.2.1, .int .i64 p0.2.2.2.2.2])] [row v6 54 ND s.1] w) ⟨(Value.slice none 0 0), F.re ⟨rfl, Aa, Aa, Aa, Aa, Aa, Aa, trivial⟩, W⟩ fun s o a w H L2 hR => ?_
  obtain ⟨x3, x4⟩ := s
  obtain ⟨v6, F, W⟩ := hR
  have F : Fr 43 [] [(2, .pointer (some ⟨b1, 0, none⟩)), (4, .slice none 0 0), (5, .pointer (some ⟨b2, 0, none⟩)), (6, v6), (24, (v4.2.2.1)), (25, .int .i64 (x1.2.2.length : Int)), (26, .int .i64 x4)] a := F
  have W : Stw ⟨Y, [], w0⟩ [(b2, [.int .i64 x1.1, .int .i64 x1.2.1, (v4.2.2.1)]), (b1, [v1, v2, .int .i64 p0.2.2.1, .int .i64 p0.2.2.2.1, .int .i64 p0.2.2.2.2.1, .int .i64 p0.2.2.2.2.2])] [row v6 54 ND x3] w := W
  rw [Hb] at H
  refine Ah (Ac ?_)
  refine ls F W Aa (Bk F Aa Aa).q fun a w F W => ?_
  refine Ae (Ab (Ah ?_))
  refine Aw F Aa (fun hb => ?_) fun hb => ?_
  ·
   have H := AL (A6 hb) H
   rw [hb] at F
   clear hb
   refine wp_skip (Ab (Ah (wp_block (Ah (Ac ?_)))))
   obtain ⟨x5, h6, H⟩ := Al H
   refine ls F W Aa (Ay (r := (Rp.int .i64)) Eo F Aa Aa (CS (Am h_v2) h3 (Dc.snd (Dc.snd Dc.here)) (congrArg (fun q : Int × Int × List Int => q.2.2) h4)) h6).q fun a w F W => ?_
   refine ls F W Aa (Ap (y := Value.int .i64 x5) (j := 0) (i := x4) F Aa Aa (CS (Am h_v2) h3 (Dc.snd (Dc.snd Dc.here)) (congrArg (fun q : Int × Int × List Int => q.2.2) h4)) h6 Fl.int.to T3 Aa).q fun a w F W => ?_
   refine ls F W Aa (Af F Aa).q fun a w F W => ?_
   refine Ae (Ab (Ac ?_))
   iterate 2 refine ls F W Aa (Ad F Aa).q fun a w F W => ?_
   refine ls F W Aa (Ai GR Aa Aa Aa SE F Aa 0 Aa).q fun a w F W => ?_
   refine ls F W Aa (As (v := v1) 1 F Aa Aa SE Aa).q fun a w F W => ?_
   refine ls F W Aa (Ai N7 Aa Aa Aa T3 F Aa 0 Aa).q fun a w F W => ?_
   refine ls F W Aa (As (v := Value.int .i64 x1.1) 0 F Aa Aa T3 Aa).q fun a w F W => ?_
   refine ls F W Aa (Ad F Aa).q fun a w F W => ?_
   obtain ⟨x6, h7, H⟩ := Al H
   refine Bp (Ml := []) (Zl := []) (M := [(b2, [.int .i64 x1.1, .int .i64 x1.2.1, (v4.2.2.1)]), (b1, [v1, v2, .int .i64 p0.2.2.1, .int .i64 p0.2.2.2.1, .int .i64 p0.2.2.2.2.1, .int .i64 p0.2.2.2.2.2])]) (Z := [row v6 54 ND x3]) (β := Value) (rv := fun x => x) (MM := fun x => []) (ZZ := fun x => [row x 83 Na x6]) F W T2 Aa Aa (fun hL => Nu _ w (v1) p0.1 x1.1 x5 _ h7 ((Am h_v1) w W).nx) fun x a w F W => ?_
   obtain ⟨v7, rfl⟩ : ∃ y, y = x := ⟨x, rfl⟩
   have W : Stw ⟨Y, [], w0⟩ [(b2, [.int .i64 x1.1, .int .i64 x1.2.1, (v4.2.2.1)]), (b1, [v1, v2, .int .i64 p0.2.2.1, .int .i64 p0.2.2.2.1, .int .i64 p0.2.2.2.2.1, .int .i64 p0.2.2.2.2.2])] [row v7 83 Na x6, row v6 54 ND x3] w := W
   refine ls F W Aa (Cg (v := Value.agg #[.int .i64 x5, v7]) U7 F Aa (A9 Aa Aa Aa (A9 Aa (Cm (W.one (k := 0) Aa)) Aa De)) Aa).q fun a w F W => ?_
   have W := W.freeze
   refine EA (z := Value.agg #[.int .i64 0, .slice none 0 0]) (cs := [.int .i64 x5, v7]) ND ([(x5, x6)] : List (Int × (List (Int × (Int × (Int × (Int × Int × Int × Int) × (Int × Int × Int × Int)) × (List (Int × Int × Int))) × Bool)))) F W Aa TC UG Aa Aa Aa (A9 Aa Aa Aa De) Aa Aa ⟨[Value.int .i64 x5, v7], _, Aa, ⟨[Value.int .i64 x5], [v7], Aa, Aa, ⟨_, Aa, (W.item (i := 0) Aa)⟩⟩, Aa⟩ fun v8 a w F W => ?_
   obtain ⟨x7, h8, H⟩ := Al H
   refine DY (r := ND) (i := 2) F W Aa TC Aa Aa Aa Aa (EI W 0 Aa) h8 Aa fun v9 a w F W => ?_
   have W : Stw ⟨Y, [], w0⟩ [(b2, [.int .i64 x1.1, .int .i64 x1.2.1, (v4.2.2.1)]), (b1, [v1, v2, .int .i64 p0.2.2.1, .int .i64 p0.2.2.2.1, .int .i64 p0.2.2.2.2.1, .int .i64 p0.2.2.2.2.2])] [row v9 54 ND x7, row v8 54 ND ([(x5, x6)] : List (Int × (List (Int × (Int × (Int × (Int × Int × Int × Int) × (Int × Int × Int × Int)) × (List (Int × Int × Int))) × Bool)))), JE v7 Na x6] w := W
   refine ls F W Aa (Af F Aa).q fun a w F W => ?_
   refine Ae (AH (Ab (Ac ?_)))
   refine ls F W Aa (A3 F Aa Aa Aa).q fun a w F W => ?_
   refine ls F W Aa (Ad F Aa).q fun a w F W => ?_
   refine Ae (Ab ?_)
   have W := W.frontM (i := 1) Aa Aa
   have W := W.frontM (i := 1) Aa Aa
   have W := W.sub (M' := [(b2, [.int .i64 x1.1, .int .i64 x1.2.1, (v4.2.2.1)]), (b1, [v1, v2, .int .i64 p0.2.2.1, .int .i64 p0.2.2.2.1, .int .i64 p0.2.2.2.2.1, .int .i64 p0.2.2.2.2.2])]) (Z' := [row v9 54 ND x7]) (List.Sublist.refl _) (List.Sublist.cons_cons _ (List.nil_sublist _))
   exact ⟨_, H, (v9), F.re ⟨rfl, Aa, Aa, Aa, Aa, Aa, Aa, trivial⟩, W⟩
  have H := AK (A7 hb) H
  rw [hb] at F
  clear hb
  refine wp_exit ?_
  iterate 2 refine A5 ?_
  refine AU (Ab ?_)
  have W := W.frontM (i := 1) Aa Aa
  have W := W.frontM (i := 1) Aa Aa
  have H := L2 _ H
  exact ⟨_, (v6), H, F.re ⟨rfl, Aa, trivial⟩, W⟩
 rintro a w ⟨x2, v5, hj, F, W⟩
 have hj := AM hj
 subst hj
 have H := K1
 clear G1 K1
 refine Ah (Ac ?_)
 refine ls F W Aa (Ad F Aa).q fun a w F W => ?_
 refine ls F W Aa (Af F Aa).q fun a w F W => ?_
 refine Ae (Ab (wp_ret ?_))
 have H := AM H
 subst H
 refine Bl (.inl Aa) F W Aa (Av F Aa) ?_
 have W := W.sub (M' := []) (Z' := [row v5 54 ND x2]) (List.nil_sublist _) (List.Sublist.refl _)
 exact ⟨(v5), Aa, W⟩
theorem U2 : Has Try.prog 14 := ⟨fun args w => An Try.func14 rfl (by decide) args w⟩
noncomputable def GX  : Option Bool := (Dx (3, ([(0, 0, 1, 0, 1, 1), (1, 1, 2, 0, 1, 2), (0, 1, 2, 1, 1, 1)] : List (Int × Int × Int × Int × Int × Int)), ([(2, 7)] : List (Int × Int))) ([([0] : List Int), ([1] : List Int), ([7] : List Int)] : List (List Int)) ([([1] : List Int), ([1] : List Int), ([7] : List Int)] : List (List Int)) 100 4 10).bind fun x1 => ((Hf (3, ([(0, 0, 1, 0, 1, 1), (1, 1, 2, 0, 1, 2), (0, 1, 2, 1, 1, 1)] : List (Int × Int × Int × Int × Int × Int)), ([(2, 7)] : List (Int × Int))) 4).bind fun x3 => (if x3 = 15 then (if x1.2 = 0 then (if (x1.1.2.1.length : Int) = 1 then (ix x1.1.2.1 0).bind fun x4 => (if x4.2.1 = 121 then (if x1.1.2.2.2.2.1 = 111 then (if x1.1.2.2.2.2.2 = 125 then (if (FN x1.1 125) = true then (Id x1.1 0).bind fun x5 => some (decide ((x5.length : Int) = 1)) else some false) else some false) else some false) else some false) else some false) else some false) else some false)).bind fun x2 => some x2
theorem Lt (Y : Nat → Prop) (w0 : World)   (r : Bool) (H : GX  = some r)  :
    Calls Try.prog 8 #[] w0 fun e w' => e = .returned (.bool r) ∧ Below w0.heap.size w0 w' := by
 refine enter Try.func8 Aa Try.ntmps8 Aa fun a F => ?_
 have W := Stw.start Y w0
 unfold GX at H
 refine Ah (Ac ?_)
 refine ls F W Aa (Af F Aa).q fun a w F W => ?_
 refine Ae (Ab (Ah (Ac ?_)))
 refine ls F W Aa (Cg (v := Value.agg #[.int .i64 0, .int .i64 0, .int .i64 1, .int .i64 0, .int .i64 1, .int .i64 1]) Te F Aa Aa Aa).q fun a w F W => ?_
 refine ls F W Aa (Cg (v := Value.agg #[.int .i64 1, .int .i64 1, .int .i64 2, .int .i64 0, .int .i64 1, .int .i64 2]) Te F Aa Aa Aa).q fun a w F W => ?_
 refine ls F W Aa (Cg (v := Value.agg #[.int .i64 0, .int .i64 1, .int .i64 2, .int .i64 1, .int .i64 1, .int .i64 1]) Te F Aa Aa Aa).q fun a w F W => ?_
 refine EA (z := Value.agg #[.int .i64 0, .int .i64 0, .int .i64 0, .int .i64 0, .int .i64 0, .int .i64 0]) (cs := [.int .i64 0, .int .i64 0, .int .i64 1, .int .i64 0, .int .i64 1, .int .i64 1, .int .i64 1, .int .i64 1, .int .i64 2, .int .i64 0, .int .i64 1, .int .i64 2, .int .i64 0, .int .i64 1, .int .i64 2, .int .i64 1, .int .i64 1, .int .i64 1]) FM ([(0, 0, 1, 0, 1, 1), (1, 1, 2, 0, 1, 2), (0, 1, 2, 1, 1, 1)] : List (Int × Int × Int × Int × Int × Int)) F W Aa Qx Rs Aa Aa Aa Aa Aa Aa (Qy.repL _ _ ([(0, 0, 1, 0, 1, 1), (1, 1, 2, 0, 1, 2), (0, 1, 2, 1, 1, 1)] : List (Int × Int × Int × Int × Int × Int))) fun v1 a w F W => ?_
 refine ls F W Aa (Cg (v := Value.agg #[.int .i64 2, .int .i64 7]) TM F Aa Aa Aa).q fun a w F W => ?_
 refine EA (z := Value.agg #[.int .i64 0, .int .i64 0]) (cs := [.int .i64 2, .int .i64 7]) FD ([(2, 7)] : List (Int × Int)) F W Aa QV Tz Aa Aa Aa Aa Aa Aa (Q3.repL _ _ ([(2, 7)] : List (Int × Int))) fun v2 a w F W => ?_
 refine ls F W Aa (Cg (v := Value.agg #[.int .i64 3, v1, v2]) TW F Aa (A9 Aa Aa Aa (A9 Aa (Cm (W.one (k := 1) Aa)) Aa (A9 Aa (Cm (W.one (k := 0) Aa)) Aa De))) Aa).q fun a w F W => ?_
 refine Cn (cs := [.int .i64 0, .slice none 0 0, .slice none 0 0]) F W Aa T0 Aa fun b1 a w F W => ?_
 refine Br (vs := [.int .i64 3, v1, v2]) (M' := [(b1, [.int .i64 3, v1, v2])]) 0 F W Aa Aa Aa Iv Aa Aa Aa (AN Aa (AN (W.one (k := 1) Aa) (AN (W.one (k := 0) Aa) Em))) Aa fun w W => ?_
 refine Ae (Ab (Ah (Ac ?_)))
 refine ls F W Aa (As (v := Value.agg #[.int .i64 3, v1, v2]) 0 F Aa Aa Iv Aa).q fun a w F W => ?_
 refine EA (z := Value.int .i64 0) (cs := [.int .i64 0]) (Rp.int .i64) ([0] : List Int) F W Aa Eo Z3 Aa Aa Aa Aa Aa Aa (Fl.int.repL _ _ ([0] : List Int)) fun v3 a w F W => ?_
 refine EA (z := Value.int .i64 0) (cs := [.int .i64 1]) (Rp.int .i64) ([1] : List Int) F W Aa Eo Z3 Aa Aa Aa Aa Aa Aa (Fl.int.repL _ _ ([1] : List Int)) fun v4 a w F W => ?_
 refine EA (z := Value.int .i64 0) (cs := [.int .i64 7]) (Rp.int .i64) ([7] : List Int) F W Aa Eo Z3 Aa Aa Aa Aa Aa Aa (Fl.int.repL _ _ ([7] : List Int)) fun v5 a w F W => ?_
 have W := W.frontZ (i := 2) Aa Aa
 have W := W.freeze
 have W := W.frontZ (i := 2) Aa Aa
 have W := W.freeze
 have W := W.frontZ (i := 2) Aa Aa
 have W := W.freeze
 refine EA (z := Value.slice none 0 0) (cs := [v3, v4, v5]) (Rp.slice (Rp.int .i64)) ([([0] : List Int), ([1] : List Int), ([7] : List Int)] : List (List Int)) F W Aa MU Tw Aa Aa Aa (A9 Aa (Cm (W.oneF (k := 2) Aa)) Aa (A9 Aa (Cm (W.oneF (k := 1) Aa)) Aa (A9 Aa (Cm (W.oneF (k := 0) Aa)) Aa De))) Aa Aa ⟨[v3], _, Aa, ⟨_, Aa, (W.item (i := 2) Aa)⟩, ⟨[v4], _, Aa, ⟨_, Aa, (W.item (i := 1) Aa)⟩, ⟨[v5], _, Aa, ⟨_, Aa, (W.item (i := 0) Aa)⟩, Aa⟩⟩⟩ fun v6 a w F W => ?_
 refine EA (z := Value.int .i64 0) (cs := [.int .i64 1]) (Rp.int .i64) ([1] : List Int) F W Aa Eo Z3 Aa Aa Aa Aa Aa Aa (Fl.int.repL _ _ ([1] : List Int)) fun v7 a w F W => ?_
 refine EA (z := Value.int .i64 0) (cs := [.int .i64 1]) (Rp.int .i64) ([1] : List Int) F W Aa Eo Z3 Aa Aa Aa Aa Aa Aa (Fl.int.repL _ _ ([1] : List Int)) fun v8 a w F W => ?_
 refine EA (z := Value.int .i64 0) (cs := [.int .i64 7]) (Rp.int .i64) ([7] : List Int) F W Aa Eo Z3 Aa Aa Aa Aa Aa Aa (Fl.int.repL _ _ ([7] : List Int)) fun v9 a w F W => ?_
 have W := W.frontZ (i := 2) Aa Aa
 have W := W.freeze
 have W := W.frontZ (i := 2) Aa Aa
 have W := W.freeze
 have W := W.frontZ (i := 2) Aa Aa
 have W := W.freeze
 refine EA (z := Value.slice none 0 0) (cs := [v7, v8, v9]) (Rp.slice (Rp.int .i64)) ([([1] : List Int), ([1] : List Int), ([7] : List Int)] : List (List Int)) F W Aa MU Tw Aa Aa Aa (A9 Aa (Cm (W.oneF (k := 2) Aa)) Aa (A9 Aa (Cm (W.oneF (k := 1) Aa)) Aa (A9 Aa (Cm (W.oneF (k := 0) Aa)) Aa De))) Aa Aa ⟨[v7], _, Aa, ⟨_, Aa, (W.item (i := 2) Aa)⟩, ⟨[v8], _, Aa, ⟨_, Aa, (W.item (i := 1) Aa)⟩, ⟨[v9], _, Aa, ⟨_, Aa, (W.item (i := 0) Aa)⟩, Aa⟩⟩⟩ fun v10 a w F W => ?_
 obtain ⟨x1, h1, H⟩ := Al H
 refine Bp (Ml := []) (Zl := []) (M := [(b1, [.int .i64 3, v1, v2])]) (Z := [row v10 46 (Rp.slice (Rp.int .i64)) ([([1] : List Int), ([1] : List Int), ([7] : List Int)] : List (List Int)), JE v9 (Rp.int .i64) ([7] : List Int), JE v8 (Rp.int .i64) ([1] : List Int), JE v7 (Rp.int .i64) ([1] : List Int), row v6 46 (Rp.slice (Rp.int .i64)) ([([0] : List Int), ([1] : List Int), ([7] : List Int)] : List (List Int)), JE v5 (Rp.int .i64) ([7] : List Int), JE v4 (Rp.int .i64) ([1] : List Int), JE v3 (Rp.int .i64) ([0] : List Int), row v2 64 FD ([(2, 7)] : List (Int × Int)), row v1 62 FM ([(0, 0, 1, 0, 1, 1), (1, 1, 2, 0, 1, 2), (0, 1, 2, 1, 1, 1)] : List (Int × Int × Int × Int × Int × Int))]) (β := Value × Value) (rv := fun x => .tuple #[.agg #[x.1, x.2, .int .i64 x1.1.2.2.1, .int .i64 x1.1.2.2.2.1, .int .i64 x1.1.2.2.2.2.1, .int .i64 x1.1.2.2.2.2.2], .int .i64 x1.2]) (MM := fun x => []) (ZZ := fun x => [row x.1 85 A8 x1.1.1, row x.2 48 HG x1.1.2.1]) F W H9 Aa Aa (fun hL => Lo _ w (v1) (v2) (v6) (v10) (3, ([(0, 0, 1, 0, 1, 1), (1, 1, 2, 0, 1, 2), (0, 1, 2, 1, 1, 1)] : List (Int × Int × Int × Int × Int × Int)), ([(2, 7)] : List (Int × Int))) ([([0] : List Int), ([1] : List Int), ([7] : List Int)] : List (List Int)) ([([1] : List Int), ([1] : List Int), ([7] : List Int)] : List (List Int)) 100 4 10 _ h1 ((Ao 9 Aa) w W).nx ((Ao 8 Aa) w W).nx ((Ao 4 Aa) w W).nx ((Ao 0 Aa) w W).nx) fun x a w F W => ?_
 obtain ⟨v11, v12⟩ := x
 have W : Stw ⟨Y, [], w0⟩ [(b1, [.int .i64 3, v1, v2])] [row v11 85 A8 x1.1.1, row v12 48 HG x1.1.2.1, row v10 46 (Rp.slice (Rp.int .i64)) ([([1] : List Int), ([1] : List Int), ([7] : List Int)] : List (List Int)), JE v9 (Rp.int .i64) ([7] : List Int), JE v8 (Rp.int .i64) ([1] : List Int), JE v7 (Rp.int .i64) ([1] : List Int), row v6 46 (Rp.slice (Rp.int .i64)) ([([0] : List Int), ([1] : List Int), ([7] : List Int)] : List (List Int)), JE v5 (Rp.int .i64) ([7] : List Int), JE v4 (Rp.int .i64) ([1] : List Int), JE v3 (Rp.int .i64) ([0] : List Int), row v2 64 FD ([(2, 7)] : List (Int × Int)), row v1 62 FM ([(0, 0, 1, 0, 1, 1), (1, 1, 2, 0, 1, 2), (0, 1, 2, 1, 1, 1)] : List (Int × Int × Int × Int × Int × Int))] w := W
 refine ls F W Aa (Ad F Aa).q fun a w F W => ?_
 refine ls F W Aa (A0 (v := Value.agg #[v11, v12, .int .i64 x1.1.2.2.1, .int .i64 x1.1.2.2.2.1, .int .i64 x1.1.2.2.2.2.1, .int .i64 x1.1.2.2.2.2.2]) F Aa Aa).q fun a w F W => ?_
 refine ls F W Aa (A0 (v := Value.int .i64 x1.2) F Aa Aa).q fun a w F W => ?_
 refine Cn (cs := [.slice none 0 0, .slice none 0 0, .int .i64 0, .int .i64 0, .int .i64 0, .int .i64 0]) F W Aa SA Aa fun b2 a w F W => ?_
 refine Br (vs := [v11, v12, .int .i64 x1.1.2.2.1, .int .i64 x1.1.2.2.2.1, .int .i64 x1.1.2.2.2.2.1, .int .i64 x1.1.2.2.2.2.2]) (M' := [(b2, [v11, v12, .int .i64 x1.1.2.2.1, .int .i64 x1.1.2.2.2.1, .int .i64 x1.1.2.2.2.2.1, .int .i64 x1.1.2.2.2.2.2]), (b1, [.int .i64 3, v1, v2])]) 0 F W Aa Aa Aa N9 Aa Aa Aa (AN (W.one (k := 0) Aa) (AN (W.one (k := 1) Aa) (AN Aa (AN Aa (AN Aa (AN Aa Em)))))) Aa fun w W => ?_
 refine ls F W Aa (Af F Aa).q fun a w F W => ?_
 refine Ae (Ab ?_)
 obtain ⟨o1, G1, K1⟩ := Al H
 refine AC (fun a w => ∃ x2 : Bool, some (x2) = some o1 ∧ Fr 65 [] [(0, .bool x2)] a ∧ Stw ⟨Y, [], w0⟩ [(b2, [v11, v12, .int .i64 x1.1.2.2.1, .int .i64 x1.1.2.2.2.1, .int .i64 x1.1.2.2.2.2.1, .int .i64 x1.1.2.2.2.2.2]), (b1, [.int .i64 3, v1, v2])] [row v11 85 A8 x1.1.1, row v12 48 HG x1.1.2.1, row v1 62 FM ([(0, 0, 1, 0, 1, 1), (1, 1, 2, 0, 1, 2), (0, 1, 2, 1, 1, 1)] : List (Int × Int × Int × Int × Int × Int)), row v2 64 FD ([(2, 7)] : List (Int × Int))] w) ?_ ?_
 ·
  have H := G1
  clear G1 K1
  have W := W.frontZ (i := 1) Aa Aa
  obtain ⟨v13, h2, W⟩ := W.exR ID
  have W := W.frontZ (i := 2) Aa Aa
  obtain ⟨v14, h3, W⟩ := W.exR Dg
  have W := W.frontZ (i := 6) Aa Aa
  obtain ⟨v15, h4, W⟩ := W.exR Dg
  refine Ac ?_
  refine ls F W Aa (As (v := Value.agg #[.int .i64 3, v1, v2]) 1 F Aa Aa Iv Aa).q fun a w F W => ?_
  obtain ⟨x3, h5, H⟩ := Al H
  refine ls F W Aa (BH (v := Value.int .i64 x3) F Tr Aa (fun w W => LT any w (v1) (v2) (3, ([(0, 0, 1, 0, 1, 1), (1, 1, 2, 0, 1, 2), (0, 1, 2, 1, 1, 1)] : List (Int × Int × Int × Int × Int × Int)), ([(2, 7)] : List (Int × Int))) 4 _ h5 (((Ao 11 Aa) : DT _ _ _ _ _ _) w W).nx (((Ao 10 Aa) : DT _ _ _ _ _ _) w W).nx)) fun a w F W => ?_
  refine ls F W Aa (Cy F Aa Aa).q fun a w F W => ?_
  refine ls F W Aa (Ad F Aa).q fun a w F W => ?_
  rcases Bool.eq_false_or_eq_true (decide (x3 = 15)) with hb | hb
  ·
   have H := AL (A6 hb) H
   rw [hb] at F
   clear hb
   refine AD F W (Ag F Aa Aa Aa Aa) Aa (Ak Aa) (Ad F Aa).q fun a w F W => ?_
   refine AD F W (Ag F Aa Aa Aa Aa) Aa (Ak Aa) (Cy F Aa Aa).q fun a w F W => ?_
   refine ls F W Aa (Aq F Aa Aa Aa).q fun a w F W => ?_
   refine ls F W Aa (Ad F Aa).q fun a w F W => ?_
   rcases Bool.eq_false_or_eq_true (decide (x1.2 = 0)) with hb | hb
   ·
    have H := AL (A6 hb) H
    rw [hb] at F
    clear hb
    refine AD F W (Ag F Aa Aa Aa Aa) Aa (Ak Aa) (Ai GR Aa Aa Aa Mt F Aa 1 Aa).q fun a w F W => ?_
    refine AD F W (Ag F Aa Aa Aa Aa) Aa (Ak Aa) (As (v := v12) 0 F Aa Aa Mt Aa).q fun a w F W => ?_
    refine AD F W (Ag F Aa Aa Aa Aa) Aa (Ak Aa) (BP (r := HG) (l := x1.1.2.1) PZ Aa F Aa (BA ID h2 (Ao 2 Aa))).q fun a w F W => ?_
    refine AD F W (Ag F Aa Aa Aa Aa) Aa (Ak Aa) (Cy F Aa Aa).q fun a w F W => ?_
    refine ls F W Aa (Aq F Aa Aa Aa).q fun a w F W => ?_
    refine ls F W Aa (Ad F Aa).q fun a w F W => ?_
    rcases Bool.eq_false_or_eq_true (decide ((x1.1.2.1.length : Int) = 1)) with hb | hb
    ·
     have H := AL (A6 hb) H
     rw [hb] at F
     clear hb
     refine AD F W (Ag F Aa Aa Aa Aa) Aa (Ak Aa) (Ai GR Aa Aa Aa Mt F Aa 1 Aa).q fun a w F W => ?_
     refine AD F W (Ag F Aa Aa Aa Aa) Aa (Ak Aa) (As (v := v12) 0 F Aa Aa Mt Aa).q fun a w F W => ?_
     obtain ⟨x4, h6, H⟩ := Al H
     obtain ⟨v16, h7, h8⟩ := EJ h2 h6
     have h9 : KH v16 = [.int .i64 x4.1, .int .i64 x4.2.1, (v16.2.2.1)] := congrArg (fun q : Int × Int × List Int => ([.int .i64 q.1, .int .i64 q.2.1, (v16.2.2.1)] : List Value)) h8
     refine AD F W (Ag F Aa Aa Aa Aa) Aa (Ak Aa) (Ay (r := MC) Ra F Aa Aa (Ao 2 Aa) h7).q fun a w F W => ?_
     refine AD F W (Ag F Aa Aa Aa Aa) Aa (Ak Aa) (Ai N7 Aa Aa Aa T3 F Aa (Fj v12 + (0 : Int).toNat * 3 + 1) Aa).q fun a w F W => ?_
     refine AD F W (Ag F Aa Aa Aa Aa) Aa (Ak Aa) (Ap (y := Value.int .i64 x4.2.1) (j := 1) (i := 0) (enc := KH) F Aa Aa (Ao 2 Aa) h7 Po T3 (by rw [h9]; rfl)).q fun a w F W => ?_
     refine AD F W (Ag F Aa Aa Aa Aa) Aa (Ak Aa) (Cy F Aa Aa).q fun a w F W => ?_
     refine ls F W Aa (Aq F Aa Aa Aa).q fun a w F W => ?_
     refine ls F W Aa (Ad F Aa).q fun a w F W => ?_
     rcases Bool.eq_false_or_eq_true (decide (x4.2.1 = 121)) with hb | hb
     ·
      have H := AL (A6 hb) H
      rw [hb] at F
      clear hb
      refine AD F W (Ag F Aa Aa Aa Aa) Aa (Ak Aa) (Ai GR Aa Aa Aa T3 F Aa 4 Aa).q fun a w F W => ?_
      refine AD F W (Ag F Aa Aa Aa Aa) Aa (Ak Aa) (As (v := Value.int .i64 x1.1.2.2.2.2.1) 0 F Aa Aa T3 Aa).q fun a w F W => ?_
      refine AD F W (Ag F Aa Aa Aa Aa) Aa (Ak Aa) (Cy F Aa Aa).q fun a w F W => ?_
      refine ls F W Aa (Aq F Aa Aa Aa).q fun a w F W => ?_
      refine ls F W Aa (Ad F Aa).q fun a w F W => ?_
      rcases Bool.eq_false_or_eq_true (decide (x1.1.2.2.2.2.1 = 111)) with hb | hb
      ·
       have H := AL (A6 hb) H
       rw [hb] at F
       clear hb
       refine AD F W (Ag F Aa Aa Aa Aa) Aa (Ak Aa) (Ai GR Aa Aa Aa T3 F Aa 5 Aa).q fun a w F W => ?_
       refine AD F W (Ag F Aa Aa Aa Aa) Aa (Ak Aa) (As (v := Value.int .i64 x1.1.2.2.2.2.2) 0 F Aa Aa T3 Aa).q fun a w F W => ?_
       refine AD F W (Ag F Aa Aa Aa Aa) Aa (Ak Aa) (Cy F Aa Aa).q fun a w F W => ?_
       refine ls F W Aa (Aq F Aa Aa Aa).q fun a w F W => ?_
       refine ls F W Aa (Ad F Aa).q fun a w F W => ?_
       rcases Bool.eq_false_or_eq_true (decide (x1.1.2.2.2.2.2 = 125)) with hb | hb
       ·
        have H := AL (A6 hb) H
        rw [hb] at F
        clear hb
        refine AD F W (Ag F Aa Aa Aa Aa) Aa (Ak Aa) (As (v := Value.agg #[v11, v12, .int .i64 x1.1.2.2.1, .int .i64 x1.1.2.2.2.1, .int .i64 x1.1.2.2.2.2.1, .int .i64 x1.1.2.2.2.2.2]) 0 F Aa Aa N9 Aa).q fun a w F W => ?_
        refine Mn (Ag F Aa Aa Aa Aa) ?_
        refine ls F W Aa (BH (v := Value.bool (FN x1.1 125)) F Ur Aa (fun w W => LY any w (v11) (v12) x1.1 125 _ Aa (((Ao 3 Aa) : DT _ _ _ _ _ _) w W).nx (((BA ID h2 (Ao 2 Aa)) : DT _ _ _ _ _ _) w W).nx)) fun a w F W => ?_
        refine ls F W Aa (Aq F Aa Aa Aa).q fun a w F W => ?_
        refine ls F W Aa (Ad F Aa).q fun a w F W => ?_
        rcases Bool.eq_false_or_eq_true (FN x1.1 125) with hb | hb
        ·
         have H := AL hb H
         rw [hb] at F
         clear hb
         refine AD F W (Ag F Aa Aa Aa Aa) Aa (Ak Aa) (As (v := Value.agg #[v11, v12, .int .i64 x1.1.2.2.1, .int .i64 x1.1.2.2.2.1, .int .i64 x1.1.2.2.2.2.1, .int .i64 x1.1.2.2.2.2.2]) 0 F Aa Aa N9 Aa).q fun a w F W => ?_
         refine Mn (Ag F Aa Aa Aa Aa) ?_
         obtain ⟨x5, h10, H⟩ := Al H
         refine Bp (Ml := []) (Zl := []) (M := [(b2, [v11, v12, .int .i64 x1.1.2.2.1, .int .i64 x1.1.2.2.2.1, .int .i64 x1.1.2.2.2.2.1, .int .i64 x1.1.2.2.2.2.2]), (b1, [.int .i64 3, v1, v2])]) (Z := [row v6 46 (Rp.vsl (Rp.int .i64)) v15, row v10 46 (Rp.vsl (Rp.int .i64)) v14, row v12 48 MC v13, row v11 85 A8 x1.1.1, JE v9 (Rp.int .i64) ([7] : List Int), JE v8 (Rp.int .i64) ([1] : List Int), JE v7 (Rp.int .i64) ([1] : List Int), JE v5 (Rp.int .i64) ([7] : List Int), JE v4 (Rp.int .i64) ([1] : List Int), JE v3 (Rp.int .i64) ([0] : List Int), row v2 64 FD ([(2, 7)] : List (Int × Int)), row v1 62 FM ([(0, 0, 1, 0, 1, 1), (1, 1, 2, 0, 1, 2), (0, 1, 2, 1, 1, 1)] : List (Int × Int × Int × Int × Int × Int))]) (β := Value) (rv := fun x => x) (MM := fun x => []) (ZZ := fun x => [row x 54 ND x5]) F W U2 Aa Aa (fun hL => Nr _ w (v11) (v12) x1.1 0 _ h10 ((Ao 3 Aa) w W).nx ((BA ID h2 (Ao 2 Aa)) w W).nx) fun x a w F W => ?_
         obtain ⟨v17, rfl⟩ : ∃ y, y = x := ⟨x, rfl⟩
         have W : Stw ⟨Y, [], w0⟩ [(b2, [v11, v12, .int .i64 x1.1.2.2.1, .int .i64 x1.1.2.2.2.1, .int .i64 x1.1.2.2.2.2.1, .int .i64 x1.1.2.2.2.2.2]), (b1, [.int .i64 3, v1, v2])] [row v17 54 ND x5, row v6 46 (Rp.vsl (Rp.int .i64)) v15, row v10 46 (Rp.vsl (Rp.int .i64)) v14, row v12 48 MC v13, row v11 85 A8 x1.1.1, JE v9 (Rp.int .i64) ([7] : List Int), JE v8 (Rp.int .i64) ([1] : List Int), JE v7 (Rp.int .i64) ([1] : List Int), JE v5 (Rp.int .i64) ([7] : List Int), JE v4 (Rp.int .i64) ([1] : List Int), JE v3 (Rp.int .i64) ([0] : List Int), row v2 64 FD ([(2, 7)] : List (Int × Int)), row v1 62 FM ([(0, 0, 1, 0, 1, 1), (1, 1, 2, 0, 1, 2), (0, 1, 2, 1, 1, 1)] : List (Int × Int × Int × Int × Int × Int))] w := W
         refine AD F W (Ag F Aa Aa Aa Aa) Aa (Ak Aa) (BP (r := ND) (l := x5) R4 Aa F Aa (Ao 0 Aa)).q fun a w F W => ?_
         refine AD F W (Ag F Aa Aa Aa Aa) Aa (Ak Aa) (Cy F Aa Aa).q fun a w F W => ?_
         refine ls F W Aa (Aq F Aa Aa Aa).q fun a w F W => ?_
         refine ls F W Aa (Af F Aa).q fun a w F W => ?_
         refine Ae (Ab ?_)
         have W := W.frontZ (i := 3) Aa Aa
         have W := W.hideR ID h2
         have W := W.frontZ (i := 11) Aa Aa
         have W := W.frontZ (i := 12) Aa Aa
         have W := W.frontZ (i := 2) Aa Aa
         have W := W.frontZ (i := 6) Aa Aa
         have W := W.frontM (i := 1) Aa Aa
         have W := W.frontM (i := 1) Aa Aa
         have W := W.sub (M' := [(b2, [v11, v12, .int .i64 x1.1.2.2.1, .int .i64 x1.1.2.2.2.1, .int .i64 x1.1.2.2.2.2.1, .int .i64 x1.1.2.2.2.2.2]), (b1, [.int .i64 3, v1, v2])]) (Z' := [row v11 85 A8 x1.1.1, row v12 48 HG x1.1.2.1, row v1 62 FM ([(0, 0, 1, 0, 1, 1), (1, 1, 2, 0, 1, 2), (0, 1, 2, 1, 1, 1)] : List (Int × Int × Int × Int × Int × Int)), row v2 64 FD ([(2, 7)] : List (Int × Int))]) (List.Sublist.refl _) (List.Sublist.cons_cons _ (List.Sublist.cons_cons _ (List.Sublist.cons_cons _ (List.Sublist.cons_cons _ (List.nil_sublist _)))))
         exact ⟨_, H, F.re ⟨rfl, trivial⟩, W⟩
        have H := AK (by rw [hb]; decide) H
        rw [hb] at F
        clear hb
        iterate 4 refine Cj F Aa Aa Aa Aa Aa Aa Aa fun a F => ?_
        refine ls F W Aa (Au F Aa Aa Aa).q fun a w F W => ?_
        refine ls F W Aa (Af F Aa).q fun a w F W => ?_
        refine Ae (Ab ?_)
        have W := W.frontZ (i := 2) Aa Aa
        have W := W.hideR ID h2
        have W := W.frontZ (i := 10) Aa Aa
        have W := W.frontZ (i := 11) Aa Aa
        have W := W.frontZ (i := 2) Aa Aa
        have W := W.frontZ (i := 5) Aa Aa
        have W := W.frontM (i := 1) Aa Aa
        have W := W.frontM (i := 1) Aa Aa
        have W := W.sub (M' := [(b2, [v11, v12, .int .i64 x1.1.2.2.1, .int .i64 x1.1.2.2.2.1, .int .i64 x1.1.2.2.2.2.1, .int .i64 x1.1.2.2.2.2.2]), (b1, [.int .i64 3, v1, v2])]) (Z' := [row v11 85 A8 x1.1.1, row v12 48 HG x1.1.2.1, row v1 62 FM ([(0, 0, 1, 0, 1, 1), (1, 1, 2, 0, 1, 2), (0, 1, 2, 1, 1, 1)] : List (Int × Int × Int × Int × Int × Int)), row v2 64 FD ([(2, 7)] : List (Int × Int))]) (List.Sublist.refl _) (List.Sublist.cons_cons _ (List.Sublist.cons_cons _ (List.Sublist.cons_cons _ (List.Sublist.cons_cons _ (List.nil_sublist _)))))
        exact ⟨_, H, F.re ⟨rfl, trivial⟩, W⟩
       have H := AK (A7 hb) H
       rw [hb] at F
       clear hb
       iterate 2 refine Cj F Aa Aa Aa Aa Aa Aa Aa fun a F => ?_
       refine ls F W Aa (Au F Aa Aa Aa).q fun a w F W => ?_
       refine ls F W Aa (Ad F Aa).q fun a w F W => ?_
       iterate 4 refine Cj F Aa Aa Aa Aa Aa Aa Aa fun a F => ?_
       refine ls F W Aa (Au F Aa Aa Aa).q fun a w F W => ?_
       refine ls F W Aa (Af F Aa).q fun a w F W => ?_
       refine Ae (Ab ?_)
       have W := W.frontZ (i := 2) Aa Aa
       have W := W.hideR ID h2
       have W := W.frontZ (i := 10) Aa Aa
       have W := W.frontZ (i := 11) Aa Aa
       have W := W.frontZ (i := 2) Aa Aa
       have W := W.frontZ (i := 5) Aa Aa
       have W := W.frontM (i := 1) Aa Aa
       have W := W.frontM (i := 1) Aa Aa
       have W := W.sub (M' := [(b2, [v11, v12, .int .i64 x1.1.2.2.1, .int .i64 x1.1.2.2.2.1, .int .i64 x1.1.2.2.2.2.1, .int .i64 x1.1.2.2.2.2.2]), (b1, [.int .i64 3, v1, v2])]) (Z' := [row v11 85 A8 x1.1.1, row v12 48 HG x1.1.2.1, row v1 62 FM ([(0, 0, 1, 0, 1, 1), (1, 1, 2, 0, 1, 2), (0, 1, 2, 1, 1, 1)] : List (Int × Int × Int × Int × Int × Int)), row v2 64 FD ([(2, 7)] : List (Int × Int))]) (List.Sublist.refl _) (List.Sublist.cons_cons _ (List.Sublist.cons_cons _ (List.Sublist.cons_cons _ (List.Sublist.cons_cons _ (List.nil_sublist _)))))
       exact ⟨_, H, F.re ⟨rfl, trivial⟩, W⟩
      have H := AK (A7 hb) H
      rw [hb] at F
      clear hb
      iterate 3 refine Cj F Aa Aa Aa Aa Aa Aa Aa fun a F => ?_
      refine ls F W Aa (Au F Aa Aa Aa).q fun a w F W => ?_
      refine ls F W Aa (Ad F Aa).q fun a w F W => ?_
      iterate 2 refine Cj F Aa Aa Aa Aa Aa Aa Aa fun a F => ?_
      refine ls F W Aa (Au F Aa Aa Aa).q fun a w F W => ?_
      refine ls F W Aa (Ad F Aa).q fun a w F W => ?_
      iterate 4 refine Cj F Aa Aa Aa Aa Aa Aa Aa fun a F => ?_
      refine ls F W Aa (Au F Aa Aa Aa).q fun a w F W => ?_
      refine ls F W Aa (Af F Aa).q fun a w F W => ?_
      refine Ae (Ab ?_)
      have W := W.frontZ (i := 2) Aa Aa
      have W := W.hideR ID h2
      have W := W.frontZ (i := 10) Aa Aa
      have W := W.frontZ (i := 11) Aa Aa
      have W := W.frontZ (i := 2) Aa Aa
      have W := W.frontZ (i := 5) Aa Aa
      have W := W.frontM (i := 1) Aa Aa
      have W := W.frontM (i := 1) Aa Aa
      have W := W.sub (M' := [(b2, [v11, v12, .int .i64 x1.1.2.2.1, .int .i64 x1.1.2.2.2.1, .int .i64 x1.1.2.2.2.2.1, .int .i64 x1.1.2.2.2.2.2]), (b1, [.int .i64 3, v1, v2])]) (Z' := [row v11 85 A8 x1.1.1, row v12 48 HG x1.1.2.1, row v1 62 FM ([(0, 0, 1, 0, 1, 1), (1, 1, 2, 0, 1, 2), (0, 1, 2, 1, 1, 1)] : List (Int × Int × Int × Int × Int × Int)), row v2 64 FD ([(2, 7)] : List (Int × Int))]) (List.Sublist.refl _) (List.Sublist.cons_cons _ (List.Sublist.cons_cons _ (List.Sublist.cons_cons _ (List.Sublist.cons_cons _ (List.nil_sublist _)))))
      exact ⟨_, H, F.re ⟨rfl, trivial⟩, W⟩
     have H := AK (A7 hb) H
     rw [hb] at F
     clear hb
     iterate 3 refine Cj F Aa Aa Aa Aa Aa Aa Aa fun a F => ?_
     refine ls F W Aa (Au F Aa Aa Aa).q fun a w F W => ?_
     refine ls F W Aa (Ad F Aa).q fun a w F W => ?_
     iterate 3 refine Cj F Aa Aa Aa Aa Aa Aa Aa fun a F => ?_
     refine ls F W Aa (Au F Aa Aa Aa).q fun a w F W => ?_
     refine ls F W Aa (Ad F Aa).q fun a w F W => ?_
     iterate 2 refine Cj F Aa Aa Aa Aa Aa Aa Aa fun a F => ?_
     refine ls F W Aa (Au F Aa Aa Aa).q fun a w F W => ?_
     refine ls F W Aa (Ad F Aa).q fun a w F W => ?_
     iterate 4 refine Cj F Aa Aa Aa Aa Aa Aa Aa fun a F => ?_
     refine ls F W Aa (Au F Aa Aa Aa).q fun a w F W => ?_
     refine ls F W Aa (Af F Aa).q fun a w F W => ?_
     refine Ae (Ab ?_)
     have W := W.frontZ (i := 2) Aa Aa
     have W := W.hideR ID h2
     have W := W.frontZ (i := 10) Aa Aa
     have W := W.frontZ (i := 11) Aa Aa
     have W := W.frontZ (i := 2) Aa Aa
     have W := W.frontZ (i := 5) Aa Aa
     have W := W.frontM (i := 1) Aa Aa
     have W := W.frontM (i := 1) Aa Aa
     have W := W.sub (M' := [(b2, [v11, v12, .int .i64 x1.1.2.2.1, .int .i64 x1.1.2.2.2.1, .int .i64 x1.1.2.2.2.2.1, .int .i64 x1.1.2.2.2.2.2]), (b1, [.int .i64 3, v1, v2])]) (Z' := [row v11 85 A8 x1.1.1, row v12 48 HG x1.1.2.1, row v1 62 FM ([(0, 0, 1, 0, 1, 1), (1, 1, 2, 0, 1, 2), (0, 1, 2, 1, 1, 1)] : List (Int × Int × Int × Int × Int × Int)), row v2 64 FD ([(2, 7)] : List (Int × Int))]) (List.Sublist.refl _) (List.Sublist.cons_cons _ (List.Sublist.cons_cons _ (List.Sublist.cons_cons _ (List.Sublist.cons_cons _ (List.nil_sublist _)))))
     exact ⟨_, H, F.re ⟨rfl, trivial⟩, W⟩
    have H := AK (A7 hb) H
    rw [hb] at F
    clear hb
    iterate 6 refine Cj F Aa Aa Aa Aa Aa Aa Aa fun a F => ?_
    refine ls F W Aa (Au F Aa Aa Aa).q fun a w F W => ?_
    refine ls F W Aa (Ad F Aa).q fun a w F W => ?_
    iterate 3 refine Cj F Aa Aa Aa Aa Aa Aa Aa fun a F => ?_
    refine ls F W Aa (Au F Aa Aa Aa).q fun a w F W => ?_
    refine ls F W Aa (Ad F Aa).q fun a w F W => ?_
    iterate 3 refine Cj F Aa Aa Aa Aa Aa Aa Aa fun a F => ?_
    refine ls F W Aa (Au F Aa Aa Aa).q fun a w F W => ?_
    refine ls F W Aa (Ad F Aa).q fun a w F W => ?_
    iterate 2 refine Cj F Aa Aa Aa Aa Aa Aa Aa fun a F => ?_
    refine ls F W Aa (Au F Aa Aa Aa).q fun a w F W => ?_
    refine ls F W Aa (Ad F Aa).q fun a w F W => ?_
    iterate 4 refine Cj F Aa Aa Aa Aa Aa Aa Aa fun a F => ?_
    refine ls F W Aa (Au F Aa Aa Aa).q fun a w F W => ?_
    refine ls F W Aa (Af F Aa).q fun a w F W => ?_
    refine Ae (Ab ?_)
    have W := W.frontZ (i := 2) Aa Aa
    have W := W.hideR ID h2
    have W := W.frontZ (i := 10) Aa Aa
    have W := W.frontZ (i := 11) Aa Aa
    have W := W.frontZ (i := 2) Aa Aa
    have W := W.frontZ (i := 5) Aa Aa
    have W := W.frontM (i := 1) Aa Aa
    have W := W.frontM (i := 1) Aa Aa
    have W := W.sub (M' := [(b2, [v11, v12, .int .i64 x1.1.2.2.1, .int .i64 x1.1.2.2.2.1, .int .i64 x1.1.2.2.2.2.1, .int .i64 x1.1.2.2.2.2.2]), (b1, [.int .i64 3, v1, v2])]) (Z' := [row v11 85 A8 x1.1.1, row v12 48 HG x1.1.2.1, row v1 62 FM ([(0, 0, 1, 0, 1, 1), (1, 1, 2, 0, 1, 2), (0, 1, 2, 1, 1, 1)] : List (Int × Int × Int × Int × Int × Int)), row v2 64 FD ([(2, 7)] : List (Int × Int))]) (List.Sublist.refl _) (List.Sublist.cons_cons _ (List.Sublist.cons_cons _ (List.Sublist.cons_cons _ (List.Sublist.cons_cons _ (List.nil_sublist _)))))
    exact ⟨_, H, F.re ⟨rfl, trivial⟩, W⟩
   have H := AK (A7 hb) H
   rw [hb] at F
   clear hb
   iterate 4 refine Cj F Aa Aa Aa Aa Aa Aa Aa fun a F => ?_
   refine ls F W Aa (Au F Aa Aa Aa).q fun a w F W => ?_
   refine ls F W Aa (Ad F Aa).q fun a w F W => ?_
   iterate 6 refine Cj F Aa Aa Aa Aa Aa Aa Aa fun a F => ?_
   refine ls F W Aa (Au F Aa Aa Aa).q fun a w F W => ?_
   refine ls F W Aa (Ad F Aa).q fun a w F W => ?_
   iterate 3 refine Cj F Aa Aa Aa Aa Aa Aa Aa fun a F => ?_
   refine ls F W Aa (Au F Aa Aa Aa).q fun a w F W => ?_
   refine ls F W Aa (Ad F Aa).q fun a w F W => ?_
   iterate 3 refine Cj F Aa Aa Aa Aa Aa Aa Aa fun a F => ?_
   refine ls F W Aa (Au F Aa Aa Aa).q fun a w F W => ?_
   refine ls F W Aa (Ad F Aa).q fun a w F W => ?_
   iterate 2 refine Cj F Aa Aa Aa Aa Aa Aa Aa fun a F => ?_
   refine ls F W Aa (Au F Aa Aa Aa).q fun a w F W => ?_
   refine ls F W Aa (Ad F Aa).q fun a w F W => ?_
   iterate 4 refine Cj F Aa Aa Aa Aa Aa Aa Aa fun a F => ?_
   refine ls F W Aa (Au F Aa Aa Aa).q fun a w F W => ?_
   refine ls F W Aa (Af F Aa).q fun a w F W => ?_
   refine Ae (Ab ?_)
   have W := W.frontZ (i := 2) Aa Aa
   have W := W.hideR ID h2
   have W := W.frontZ (i := 10) Aa Aa
   have W := W.frontZ (i := 11) Aa Aa
   have W := W.frontZ (i := 2) Aa Aa
   have W := W.frontZ (i := 5) Aa Aa
   have W := W.frontM (i := 1) Aa Aa
   have W := W.frontM (i := 1) Aa Aa
   have W := W.sub (M' := [(b2, [v11, v12, .int .i64 x1.1.2.2.1, .int .i64 x1.1.2.2.2.1, .int .i64 x1.1.2.2.2.2.1, .int .i64 x1.1.2.2.2.2.2]), (b1, [.int .i64 3, v1, v2])]) (Z' := [row v11 85 A8 x1.1.1, row v12 48 HG x1.1.2.1, row v1 62 FM ([(0, 0, 1, 0, 1, 1), (1, 1, 2, 0, 1, 2), (0, 1, 2, 1, 1, 1)] : List (Int × Int × Int × Int × Int × Int)), row v2 64 FD ([(2, 7)] : List (Int × Int))]) (List.Sublist.refl _) (List.Sublist.cons_cons _ (List.Sublist.cons_cons _ (List.Sublist.cons_cons _ (List.Sublist.cons_cons _ (List.nil_sublist _)))))
   exact ⟨_, H, F.re ⟨rfl, trivial⟩, W⟩
  have H := AK (A7 hb) H
  rw [hb] at F
  clear hb
  iterate 2 refine Cj F Aa Aa Aa Aa Aa Aa Aa fun a F => ?_
  refine ls F W Aa (Au F Aa Aa Aa).q fun a w F W => ?_
  refine ls F W Aa (Ad F Aa).q fun a w F W => ?_
  iterate 4 refine Cj F Aa Aa Aa Aa Aa Aa Aa fun a F => ?_
  refine ls F W Aa (Au F Aa Aa Aa).q fun a w F W => ?_
  refine ls F W Aa (Ad F Aa).q fun a w F W => ?_
  iterate 6 refine Cj F Aa Aa Aa Aa Aa Aa Aa fun a F => ?_
  refine ls F W Aa (Au F Aa Aa Aa).q fun a w F W => ?_
  refine ls F W Aa (Ad F Aa).q fun a w F W => ?_
  iterate 3 refine Cj F Aa Aa Aa Aa Aa Aa Aa fun a F => ?_
  refine ls F W Aa (Au F Aa Aa Aa).q fun a w F W => ?_
  refine ls F W Aa (Ad F Aa).q fun a w F W => ?_
  iterate 3 refine Cj F Aa Aa Aa Aa Aa Aa Aa fun a F => ?_
  refine ls F W Aa (Au F Aa Aa Aa).q fun a w F W => ?_
  refine ls F W Aa (Ad F Aa).q fun a w F W => ?_
  iterate 2 refine Cj F Aa Aa Aa Aa Aa Aa Aa fun a F => ?_
  refine ls F W Aa (Au F Aa Aa Aa).q fun a w F W => ?_
  refine ls F W Aa (Ad F Aa).q fun a w F W => ?_
  iterate 4 refine Cj F Aa Aa Aa Aa Aa Aa Aa fun a F => ?_
  refine ls F W Aa (Au F Aa Aa Aa).q fun a w F W => ?_
  refine ls F W Aa (Af F Aa).q fun a w F W => ?_
  refine Ae (Ab ?_)
  have W := W.frontZ (i := 2) Aa Aa
  have W := W.hideR ID h2
  have W := W.frontZ (i := 10) Aa Aa
  have W := W.frontZ (i := 11) Aa Aa
  have W := W.frontZ (i := 2) Aa Aa
  have W := W.frontZ (i := 5) Aa Aa
  have W := W.frontM (i := 1) Aa Aa
  have W := W.frontM (i := 1) Aa Aa
  have W := W.sub (M' := [(b2, [v11, v12, .int .i64 x1.1.2.2.1, .int .i64 x1.1.2.2.2.1, .int .i64 x1.1.2.2.2.2.1, .int .i64 x1.1.2.2.2.2.2]), (b1, [.int .i64 3, v1, v2])]) (Z' := [row v11 85 A8 x1.1.1, row v12 48 HG x1.1.2.1, row v1 62 FM ([(0, 0, 1, 0, 1, 1), (1, 1, 2, 0, 1, 2), (0, 1, 2, 1, 1, 1)] : List (Int × Int × Int × Int × Int × Int)), row v2 64 FD ([(2, 7)] : List (Int × Int))]) (List.Sublist.refl _) (List.Sublist.cons_cons _ (List.Sublist.cons_cons _ (List.Sublist.cons_cons _ (List.Sublist.cons_cons _ (List.nil_sublist _)))))
  exact ⟨_, H, F.re ⟨rfl, trivial⟩, W⟩
 rintro a w ⟨x2, hj, F, W⟩
 have hj := AM hj
 subst hj
 have H := K1
 clear G1 K1
 refine wp_ret ?_
 have H := AM H
 subst H
 refine Bl (.inl Aa) F W Aa (Av F Aa) ?_
 exact ⟨rfl, W.done⟩
end Go.Proofs.Ytjcaadbafjgefaa
