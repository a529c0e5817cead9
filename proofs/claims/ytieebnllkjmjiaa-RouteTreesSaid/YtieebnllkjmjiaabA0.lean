/- The functions of layer 21, G0. Conditions: none. -/
import Derived.Test.YtieebnllkjmjiaaRows
import Derived.Test.YtieebnllkjmjiaabOF
import Derived.Test.YtieebnllkjmjiaabOT
import Derived.Test.YtieebnllkjmjiaabQT
import Derived.Test.YtieebnllkjmjiaabOD
import Derived.Test.YtieebnllkjmjiaabRF
import Derived.Test.YtieebnllkjmjiaabDR
import Derived.Test.YtieebnllkjmjiaabOC
import Derived.Test.YtieebnllkjmjiaabOM
import Derived.Test.YtieebnllkjmjiaabDR
import Derived.Test.YtieebnllkjmjiaabOX
namespace Go.Proofs.Ytieebnllkjmjiaa
open Go Go.RowKit
set_option linter.unusedVariables false
set_option linter.unusedSimpArgs false
set_option maxRecDepth 20000
theorem IC : type_of% Try.underlying22 := Try.underlying22
theorem IG : type_of% Try.underlying23 := Try.underlying23
theorem CC : type_of% Try.underlying25 := Try.underlying25
theorem K9 : type_of% Try.underlying31 := Try.underlying31
theorem GH : type_of% Try.underlying37 := Try.underlying37
abbrev Ev : Rp (Int × Int × Int × Int × Int × Int) := (Rp.pair (Rp.int .i64) (Rp.pair (Rp.int .i64) (Rp.pair (Rp.int .i64) (Rp.pair (Rp.int .i64) (Rp.pair (Rp.int .i64) (Rp.int .i64))))))
abbrev Ep : Rp (Int × Int) := (Rp.pair (Rp.int .i64) (Rp.int .i64))
theorem GI : Ty Try.prog 25 true 3 := ⟨by kernel_rfl, by kernel_rfl⟩
abbrev Q6 (p : Value × List Int) : List Int := p.2
theorem F4 : Ex (Rp.slice (Rp.int .i64)) (Rp.vsl (Rp.int .i64)) Q6 := Ex.sliceF
abbrev HU (a : Value × List Int) : List Value := [a.1]
theorem Nk : Jg (Rp.vsl (Rp.int .i64)) HU := Jg.vsl
theorem Nx : Et Try.prog 31 37 1 24 := Et.of K9 (by kernel_rfl) (by kernel_rfl) (by kernel_rfl) (by decide)
theorem PU : Ty Try.prog 37 false 1 := ⟨by kernel_rfl, by kernel_rfl⟩
theorem Il : Ty Try.prog 22 false 1 := ⟨by kernel_rfl, by kernel_rfl⟩
theorem Gy : Ty Try.prog 23 false 1 := ⟨by kernel_rfl, by kernel_rfl⟩
noncomputable def FK (p1 : List (List Int)) : Int → Option (Int ⊕ (Unit ⊕ Bool))
  | x1 => (if x1 < (p1.length : Int) then (ix p1 x1).bind fun x2 => (if 12 < (x2.length : Int) then some (.inr (.inr false)) else some (.inl (BV (x1 + 1)))) else some (.inr (.inl ())))
noncomputable def FC (p0 : Int × (List (Int × Int × Int × Int × Int × Int)) × (List (Int × Int))) (p1 : List (List Int)) : Option Bool := Fv (AA (FK p1) 0) fun _ => some (decide ((p0.2.1.length : Int) ≤ 30) && (decide ((p0.2.2.length : Int) ≤ 12) && decide ((p1.length : Int) ≤ 12)))
theorem La (Y : Nat → Prop) (w0 : World) (v1 : Value) (v2 : Value) (v3 : Value) (p0 : Int × (List (Int × Int × Int × Int × Int × Int)) × (List (Int × Int))) (p1 : List (List Int)) (r : Bool) (H : FC p0 p1 = some r) (h_v1 : Sl w0 (NX []) Ev v1 p0.2.1) (h_v2 : Sl w0 (NX []) Ep v2 p0.2.2) (h_v3 : Sl w0 (NX []) (Rp.slice (Rp.int .i64)) v3 p1) :
    Calls Try.prog 4 #[.agg #[.int .i64 p0.1, v1, v2], v3] w0 fun e w' => e = .returned (.bool r) ∧ Below w0.heap.size w0 w' := by
 refine enter Try.func4 Aa Try.ntmps4 Aa fun a F => ?_
 have W := Stw.start Y w0
 obtain ⟨v4, h1, h_v3⟩ := h_v3.ex F4
 unfold FC at H
 refine Ah (Ab ?_)
 refine C5 (cs := [.int .i64 p0.1, v1, v2]) F W Aa Aa Aa fun b1 a w F W => ?_
 refine ls F W Aa (Ae F Aa).q fun a w F W => ?_
 refine Ad (Ac ?_)
 obtain ⟨o1, G1, K1, L1⟩ := KJ H
 refine AJ (fun a w => some (Sum.inl ()) = some o1 ∧ Fr 33 [] [(1, v3), (2, .pointer (some ⟨b1, 0, none⟩)), (4, .bool false)] a ∧ Stw ⟨Y, [], w0⟩ [(b1, [.int .i64 p0.1, v1, v2])] [] w) ?_ ?_
 ·
  have H := G1
  clear G1 K1
  refine Ah (Ab ?_)
  refine ls F W Aa (Ae F Aa).q fun a w F W => ?_
  refine Ad (Ac (As ?_))
  refine A4 H (fun s a w => Fr 33 [] [(1, v3), (2, .pointer (some ⟨b1, 0, none⟩)), (4, .bool false), (5, .int .i64 s)] a ∧ Stw ⟨Y, [], w0⟩ [(b1, [.int .i64 p0.1, v1, v2])] [] w) ⟨F.re ⟨rfl, Aa, Aa, Aa, trivial⟩, W⟩ fun s o a w H L2 hR => ?_
  obtain ⟨x1, rfl⟩ : ∃ x, x = s := ⟨s, rfl⟩
  obtain ⟨F, W⟩ := hR
  have F : Fr 33 [] [(1, v3), (2, .pointer (some ⟨b1, 0, none⟩)), (4, .bool false), (5, .int .i64 x1)] a := F
  have W : Stw ⟨Y, [], w0⟩ [(b1, [.int .i64 p0.1, v1, v2])] [] w := W
  rw [FK] at H
  refine Ah (Ah (Ab ?_))
  iterate 2 refine ls F W Aa (Af F Aa).q fun a w F W => ?_
  refine ls F W Aa (Bh (r := (Rp.slice (Rp.int .i64))) (l := p1) K9 Aa F Aa (Dj F4 h1 (Ak h_v3))).q fun a w F W => ?_
  refine ls F W Aa (Bg F Aa Aa).q fun a w F W => ?_
  refine Ad (Ac ?_)
  refine Aw F Aa (fun hb => ?_) fun hb => ?_
  ·
   have H := AM (Bj hb) H
   rw [hb] at F
   clear hb
   refine Aq (Ac (Ah (As (Ah (Ab ?_)))))
   iterate 2 refine ls F W Aa (Af F Aa).q fun a w F W => ?_
   obtain ⟨x2, h2, H⟩ := Am H
   obtain ⟨v5, h3, h4⟩ := Hi h1 h2
   have h5 : HU v5 = [(v5.1)] := congrArg (fun q : List Int => ([(v5.1)] : List Value)) h4
   refine ls F W Aa (AK (r := (Rp.vsl (Rp.int .i64))) Nx F Aa Aa (Ak h_v3) h3).q fun a w F W => ?_
   refine ls F W Aa (Ay (y := (v5.1)) (j := 0) (i := x1) (enc := HU) F Aa Aa (Ak h_v3) h3 Nk PU (by rw [h5]; rfl)).q fun a w F W => ?_
   refine ls F W Aa (Bh (r := (Rp.int .i64)) (l := x2) GH Aa F Aa (FQ (Ak h_v3) h3 Gn.here (congrArg (fun q : List Int => q) h4))).q fun a w F W => ?_
   refine ls F W Aa (DI F Aa Aa).q fun a w F W => ?_
   refine Ad (Ac ?_)
   refine Aw F Aa (fun hb => ?_) fun hb => ?_
   ·
    have H := AM (Bj hb) H
    rw [hb] at F
    clear hb
    refine Ah (Ab ?_)
    refine ls F W Aa (Ae F Aa).q fun a w F W => ?_
    refine Ad (Ac (Av (AU ?_)))
    iterate 2 refine AH ?_
    refine AU (AH ?_)
    have H := L2 _ H
    have H := L1 _ H
    have H := AP H
    subst H
    refine AQ (.inl Aa) F W Aa (Ap F Aa) ?_
    exact ⟨rfl, W.done⟩
   have H := AN (Bk hb) H
   rw [hb] at F
   clear hb
   refine Aq (AR (Ac (Ab ?_)))
   refine ls F W Aa (Af F Aa).q fun a w F W => ?_
   refine ls F W Aa (BB F Aa Aa Aa).q fun a w F W => ?_
   refine ls F W Aa (Ae F Aa).q fun a w F W => ?_
   refine Ad (Ac ?_)
   exact ⟨_, H, F.re ⟨rfl, Aa, Aa, Aa, trivial⟩, W⟩
  have H := AN (Bk hb) H
  rw [hb] at F
  clear hb
  refine Ba ?_
  iterate 2 refine Br ?_
  refine Bb (Ac ?_)
  have H := L2 _ H
  exact ⟨H, F.re ⟨rfl, Aa, Aa, trivial⟩, W⟩
 rintro a w ⟨hj, F, W⟩
 have H := K1 _ hj
 clear hj G1 K1 L1
 refine AJ (fun a w => Fr 33 [] [(4, .bool (decide ((p0.2.1.length : Int) ≤ 30) && (decide ((p0.2.2.length : Int) ≤ 12) && decide ((p1.length : Int) ≤ 12))))] a ∧ Stw ⟨Y, [], w0⟩ [(b1, [.int .i64 p0.1, v1, v2])] [] w) ?_ ?_
 ·
  refine Ab ?_
  refine ls F W Aa (Ai CC Aa Aa Aa Il F Aa 1 Aa).q fun a w F W => ?_
  refine ls F W Aa (An (v := v1) 0 F Aa Aa Il Aa).q fun a w F W => ?_
  refine ls F W Aa (Bh (r := Ev) (l := p0.2.1) IC Aa F Aa (Ak h_v1)).q fun a w F W => ?_
  refine ls F W Aa (I3 F Aa Aa).q fun a w F W => ?_
  refine ls F W Aa (Af F Aa).q fun a w F W => ?_
  rcases Bool.eq_false_or_eq_true (decide ((p0.2.1.length : Int) ≤ 30)) with hb0 | hb0
  ·
   rw [hb0] at F
   refine AF F W (Ag F Aa Aa Aa Aa) Aa (Al Aa) (Ai CC Aa Aa Aa Gy F Aa 2 Aa).q fun a w F W => ?_
   refine AF F W (Ag F Aa Aa Aa Aa) Aa (Al Aa) (An (v := v2) 0 F Aa Aa Gy Aa).q fun a w F W => ?_
   refine AF F W (Ag F Aa Aa Aa Aa) Aa (Al Aa) (Bh (r := Ep) (l := p0.2.2) IG Aa F Aa (Ak h_v2)).q fun a w F W => ?_
   refine AF F W (Ag F Aa Aa Aa Aa) Aa (Al Aa) (I3 F Aa Aa).q fun a w F W => ?_
   refine ls F W Aa (Ao F Aa Aa Aa).q fun a w F W => ?_
   refine ls F W Aa (Af F Aa).q fun a w F W => ?_
   rcases Bool.eq_false_or_eq_true (decide ((p0.2.2.length : Int) ≤ 12)) with hb1 | hb1
   ·
    rw [hb1] at F
    refine AF F W (Ag F Aa Aa Aa Aa) Aa (Al Aa) (Af F Aa).q fun a w F W => ?_
    refine AF F W (Ag F Aa Aa Aa Aa) Aa (Al Aa) (Bh (r := (Rp.slice (Rp.int .i64))) (l := p1) K9 Aa F Aa (Dj F4 h1 (Ak h_v3))).q fun a w F W => ?_
    refine AF F W (Ag F Aa Aa Aa Aa) Aa (Al Aa) (I3 F Aa Aa).q fun a w F W => ?_
    refine ls F W Aa (Ao F Aa Aa Aa).q fun a w F W => ?_
    refine ls F W Aa (Ae F Aa).q fun a w F W => ?_
    refine Ad (Ac ?_)
    exact ⟨F.re ⟨(by show some (Value.bool (decide ((p1.length : Int) ≤ 12))) = some (Value.bool (decide ((p0.2.1.length : Int) ≤ 30) && (decide ((p0.2.2.length : Int) ≤ 12) && decide ((p1.length : Int) ≤ 12)))); try rw [hb0]; try rw [hb1]; all_goals simp only [Bool.not_true, Bool.not_false, Bool.true_and, Bool.false_and, Bool.true_or, Bool.false_or, Bool.and_true, Bool.or_false, cond_true, cond_false]), trivial⟩, W⟩
   rw [hb1] at F
   iterate 3 refine Cd F Aa Aa Aa Aa Aa Aa Aa fun a F => ?_
   refine ls F W Aa (Au F Aa Aa Aa).q fun a w F W => ?_
   refine ls F W Aa (Ae F Aa).q fun a w F W => ?_
   refine Ad (Ac ?_)
   exact ⟨F.re ⟨(by show some (Value.bool false) = some (Value.bool (decide ((p0.2.1.length : Int) ≤ 30) && (decide ((p0.2.2.length : Int) ≤ 12) && decide ((p1.length : Int) ≤ 12)))); try rw [hb0]; try rw [hb1]; all_goals simp only [Bool.not_true, Bool.not_false, Bool.true_and, Bool.false_and, Bool.true_or, Bool.false_or, Bool.and_true, Bool.or_false, cond_true, cond_false]), trivial⟩, W⟩
  rw [hb0] at F
  iterate 4 refine Cd F Aa Aa Aa Aa Aa Aa Aa fun a F => ?_
  refine ls F W Aa (Au F Aa Aa Aa).q fun a w F W => ?_
  refine ls F W Aa (Af F Aa).q fun a w F W => ?_
  iterate 3 refine Cd F Aa Aa Aa Aa Aa Aa Aa fun a F => ?_
  refine ls F W Aa (Au F Aa Aa Aa).q fun a w F W => ?_
  refine ls F W Aa (Ae F Aa).q fun a w F W => ?_
  refine Ad (Ac ?_)
  exact ⟨F.re ⟨(by show some (Value.bool false) = some (Value.bool (decide ((p0.2.1.length : Int) ≤ 30) && (decide ((p0.2.2.length : Int) ≤ 12) && decide ((p1.length : Int) ≤ 12)))); try rw [hb0]; all_goals simp only [Bool.not_true, Bool.not_false, Bool.true_and, Bool.false_and, Bool.true_or, Bool.false_or, Bool.and_true, Bool.or_false, cond_true, cond_false]), trivial⟩, W⟩
 rintro a w ⟨F, W⟩
 refine Av ?_
 have H := AP H
 subst H
 refine AQ (.inl Aa) F W Aa (Ap F Aa) ?_
 exact ⟨rfl, W.done⟩
theorem CQ : type_of% Try.underlying41 := Try.underlying41
theorem JQ : type_of% Try.underlying43 := Try.underlying43
theorem H4 : Has Try.prog 4 := ⟨fun args w => Aj Try.func4 rfl (by decide) args w⟩
theorem T3 : Ty Try.prog 3 false 1 := ⟨by kernel_rfl, by kernel_rfl⟩
theorem P9 : Et Try.prog 22 41 6 48 := Et.of IC (by kernel_rfl) (by kernel_rfl) (by kernel_rfl) (by decide)
def Sq (a : Int × Int × Int × Int × Int × Int) : List Value := [.int .i64 a.1, .int .i64 a.2.1, .int .i64 a.2.2.1, .int .i64 a.2.2.2.1, .int .i64 a.2.2.2.2.1, .int .i64 a.2.2.2.2.2]
theorem P1 : Fl Ev Sq := (Fl.pair Fl.int (Fl.pair Fl.int (Fl.pair Fl.int (Fl.pair Fl.int (Fl.pair Fl.int Fl.int)))))
theorem OW : Ty Try.prog 41 true 6 := ⟨by kernel_rfl, by kernel_rfl⟩
theorem Qw : (Try.prog.info? 41).bind (·.zero) = some (.agg #[.int .i64 0, .int .i64 0, .int .i64 0, .int .i64 0, .int .i64 0, .int .i64 0]) := by kernel_rfl
theorem Pl : Et Try.prog 23 43 2 16 := Et.of IG (by kernel_rfl) (by kernel_rfl) (by kernel_rfl) (by decide)
def R6 (a : Int × Int) : List Value := [.int .i64 a.1, .int .i64 a.2]
theorem Po : Fl Ep R6 := (Fl.pair Fl.int Fl.int)
noncomputable def DW (p0 : Int × (List (Int × Int × Int × Int × Int × Int)) × (List (Int × Int))) (p1 : Int) (p2 : Int) : (Int × Int) → Option ((Int × Int) ⊕ Int)
  | (x2, x3) => (if x3 < (p0.2.1.length : Int) then ((ix p0.2.1 x3).bind fun x5 => (if (decide (x5.1 = p1) && decide (x5.2.1 = p2)) = true then some (BV (x2 + 1)) else some x2).bind fun x6 => (if (decide (x5.2.2.1 = p1) && decide (x5.2.2.2.1 = p2)) = true then some (BV (x6 + 1)) else some x6)).bind fun x4 => some (.inl (x4, BV (x3 + 1))) else some (.inr x2))
noncomputable def DX (p0 : Int × (List (Int × Int × Int × Int × Int × Int)) × (List (Int × Int))) (p1 : Int) (p2 : Int) : (Int × Int) → Option ((Int × Int) ⊕ Int)
  | (x8, x9) => (if x9 < (p0.2.2.length : Int) then (((ix p0.2.2 x9).bind fun x12 => (if x12.1 = p1 then (ix p0.2.2 x9).bind fun x13 => some (decide (x13.2 = p2)) else some false)).bind fun x11 => (if x11 = true then some (BV (x8 + 1)) else some x8)).bind fun x10 => some (.inl (x10, BV (x9 + 1))) else some (.inr x8))
noncomputable def E1 (p0 : Int × (List (Int × Int × Int × Int × Int × Int)) × (List (Int × Int))) (p1 : Int) (p2 : Int) : Option Bool := (AA (DW p0 p1 p2) (0, 0)).bind fun x1 => (AA (DX p0 p1 p2) (x1, 0)).bind fun x7 => some (decide (0 ≤ p1) && (decide (p1 < p0.1) && (decide (0 ≤ p2) && (decide (p2 ≤ 7) && decide (x7 = 1)))))
theorem He (Y : Nat → Prop) (w0 : World) (v1 : Value) (v2 : Value) (p0 : Int × (List (Int × Int × Int × Int × Int × Int)) × (List (Int × Int))) (p1 : Int) (p2 : Int) (r : Bool) (H : E1 p0 p1 p2 = some r) (h_v1 : Sl w0 (NX []) Ev v1 p0.2.1) (h_v2 : Sl w0 (NX []) Ep v2 p0.2.2) :
    Calls Try.prog 19 #[.agg #[.int .i64 p0.1, v1, v2], .int .i64 p1, .int .i64 p2] w0 fun e w' => e = .returned (.bool r) ∧ Below w0.heap.size w0 w' := by
 refine enter Try.func19 Aa Try.ntmps19 Aa fun a F => ?_
 have W := Stw.start Y w0
 unfold E1 at H
 refine Ah (Ab ?_)
 refine C5 (cs := [.int .i64 p0.1, v1, v2]) F W Aa Aa Aa fun b1 a w F W => ?_
 refine ls F W Aa (Ae F Aa).q fun a w F W => ?_
 refine Ad (Ac (Ah (Ab ?_)))
 refine ls F W Aa (Ae F Aa).q fun a w F W => ?_
 refine Ad (Ac ?_)
 obtain ⟨o1, G1, K1⟩ := Am H
 refine AJ (fun a w => ∃ x1 : Int, some (x1) = some o1 ∧ Fr 94 [] [(1, .int .i64 p1), (2, .int .i64 p2), (3, .pointer (some ⟨b1, 0, none⟩)), (6, .bool false), (7, .int .i64 x1)] a ∧ Stw ⟨Y, [], w0⟩ [(b1, [.int .i64 p0.1, v1, v2])] [] w) ?_ ?_
 ·
  have H := G1
  clear G1 K1
  refine Ah (Ab ?_)
  refine ls F W Aa (Ae F Aa).q fun a w F W => ?_
  refine Ad (Ac (As ?_))
  refine A4 H (fun s a w => Fr 94 [] [(1, .int .i64 p1), (2, .int .i64 p2), (3, .pointer (some ⟨b1, 0, none⟩)), (6, .bool false), (7, .int .i64 s.1), (8, .int .i64 s.2)] a ∧ Stw ⟨Y, [], w0⟩ [(b1, [.int .i64 p0.1, v1, v2])] [] w) ⟨F.re ⟨rfl, Aa, Aa, Aa, Aa, Aa, trivial⟩, W⟩ fun s o a w H L2 hR => ?_
  obtain ⟨x2, x3⟩ := s
  obtain ⟨F, W⟩ := hR
  have F : Fr 94 [] [(1, .int .i64 p1), (2, .int .i64 p2), (3, .pointer (some ⟨b1, 0, none⟩)), (6, .bool false), (7, .int .i64 x2), (8, .int .i64 x3)] a := F
  have W : Stw ⟨Y, [], w0⟩ [(b1, [.int .i64 p0.1, v1, v2])] [] w := W
  rw [DW] at H
  refine Ah (Ah (Ab ?_))
  refine ls F W Aa (Af F Aa).q fun a w F W => ?_
  refine ls F W Aa (Ai CC Aa Aa Aa Il F Aa 1 Aa).q fun a w F W => ?_
  refine ls F W Aa (An (v := v1) 0 F Aa Aa Il Aa).q fun a w F W => ?_
  refine ls F W Aa (Bh (r := Ev) (l := p0.2.1) IC Aa F Aa (Ak h_v1)).q fun a w F W => ?_
  refine ls F W Aa (Bg F Aa Aa).q fun a w F W => ?_
  refine Ad (Ac ?_)
  refine Aw F Aa (fun hb => ?_) fun hb => ?_
  ·
   have H := AM (Bj hb) H
   rw [hb] at F
   clear hb
   refine Aq (Ac ?_)
   obtain ⟨o3, G3, K3⟩ := Am H
   refine AJ (fun a w => ∃ x4 : Int, some (x4) = some o3 ∧ Fr 94 [] [(1, .int .i64 p1), (2, .int .i64 p2), (3, .pointer (some ⟨b1, 0, none⟩)), (6, .bool false), (7, .int .i64 x4), (8, .int .i64 x3)] a ∧ Stw ⟨Y, [], w0⟩ [(b1, [.int .i64 p0.1, v1, v2])] [] w) ?_ ?_
   ·
    have H := G3
    clear G3 K3
    refine As (Ah (Ab ?_))
    refine ls F W Aa (Ai CC Aa Aa Aa Il F Aa 1 Aa).q fun a w F W => ?_
    refine ls F W Aa (An (v := v1) 0 F Aa Aa Il Aa).q fun a w F W => ?_
    refine ls F W Aa (Af F Aa).q fun a w F W => ?_
    obtain ⟨x5, h1, H⟩ := Am H
    refine ls F W Aa (AK (r := Ev) P9 F Aa Aa (Ak h_v1) h1).q fun a w F W => ?_
    refine ls F W Aa (Ay (y := Value.agg #[.int .i64 x5.1, .int .i64 x5.2.1, .int .i64 x5.2.2.1, .int .i64 x5.2.2.2.1, .int .i64 x5.2.2.2.2.1, .int .i64 x5.2.2.2.2.2]) (j := 0) (i := x3) F Aa Aa (Ak h_v1) h1 P1.to OW Aa).q fun a w F W => ?_
    refine CB (cs := [.int .i64 0, .int .i64 0, .int .i64 0, .int .i64 0, .int .i64 0, .int .i64 0]) F W Aa Qw Aa fun b2 a w F W => ?_
    refine C4 (vs := [.int .i64 x5.1, .int .i64 x5.2.1, .int .i64 x5.2.2.1, .int .i64 x5.2.2.2.1, .int .i64 x5.2.2.2.2.1, .int .i64 x5.2.2.2.2.2]) (M' := [(b2, [.int .i64 x5.1, .int .i64 x5.2.1, .int .i64 x5.2.2.1, .int .i64 x5.2.2.2.1, .int .i64 x5.2.2.2.2.1, .int .i64 x5.2.2.2.2.2]), (b1, [.int .i64 p0.1, v1, v2])]) 0 F W Aa Aa Aa OW Aa Aa Aa Aa Aa fun w W => ?_
    refine Ad (Ac ?_)
    obtain ⟨o4, G4, K4⟩ := Am H
    refine AJ (fun a w => ∃ x6 : Int, some (x6) = some o4 ∧ Fr 94 [] [(1, .int .i64 p1), (2, .int .i64 p2), (3, .pointer (some ⟨b1, 0, none⟩)), (6, .bool false), (7, .int .i64 x6), (8, .int .i64 x3), (9, .pointer (some ⟨b2, 0, none⟩))] a ∧ Stw ⟨Y, [], w0⟩ [(b2, [.int .i64 x5.1, .int .i64 x5.2.1, .int .i64 x5.2.2.1, .int .i64 x5.2.2.2.1, .int .i64 x5.2.2.2.2.1, .int .i64 x5.2.2.2.2.2]), (b1, [.int .i64 p0.1, v1, v2])] [] w) ?_ ?_
    ·
     have H := G4
     clear G4 K4
     refine AJ (fun a w => Fr 94 [] [(1, .int .i64 p1), (2, .int .i64 p2), (3, .pointer (some ⟨b1, 0, none⟩)), (6, .bool false), (7, .int .i64 x2), (8, .int .i64 x3), (9, .pointer (some ⟨b2, 0, none⟩)), (32, .bool (decide (x5.1 = p1) && decide (x5.2.1 = p2)))] a ∧ Stw ⟨Y, [], w0⟩ [(b2, [.int .i64 x5.1, .int .i64 x5.2.1, .int .i64 x5.2.2.1, .int .i64 x5.2.2.2.1, .int .i64 x5.2.2.2.2.1, .int .i64 x5.2.2.2.2.2]), (b1, [.int .i64 p0.1, v1, v2])] [] w) ?_ ?_
     ·
      refine Ab ?_
      refine ls F W Aa (Ai CQ Aa Aa Aa T3 F Aa 0 Aa).q fun a w F W => ?_
      refine ls F W Aa (An (v := Value.int .i64 x5.1) 0 F Aa Aa T3 Aa).q fun a w F W => ?_
      refine ls F W Aa (Af F Aa).q fun a w F W => ?_
      refine ls F W Aa (DO F Aa Aa).q fun a w F W => ?_
      refine ls F W Aa (Af F Aa).q fun a w F W => ?_
      rcases Bool.eq_false_or_eq_true (decide (x5.1 = p1)) with hb0 | hb0
      ·
       rw [hb0] at F
       refine AF F W (Ag F Aa Aa Aa Aa) Aa (Al Aa) (Ai CQ Aa Aa Aa T3 F Aa 1 Aa).q fun a w F W => ?_
       refine AF F W (Ag F Aa Aa Aa Aa) Aa (Al Aa) (An (v := Value.int .i64 x5.2.1) 0 F Aa Aa T3 Aa).q fun a w F W => ?_
       refine AF F W (Ag F Aa Aa Aa Aa) Aa (Al Aa) (Af F Aa).q fun a w F W => ?_
       refine AF F W (Ag F Aa Aa Aa Aa) Aa (Al Aa) (DO F Aa Aa).q fun a w F W => ?_
       refine ls F W Aa (Ao F Aa Aa Aa).q fun a w F W => ?_
       refine Ad (Ac ?_)
       exact ⟨F.re ⟨rfl, Aa, Aa, Aa, Aa, Aa, Aa, (by show some (Value.bool (decide (x5.2.1 = p2))) = some (Value.bool (decide (x5.1 = p1) && decide (x5.2.1 = p2))); try rw [hb0]; all_goals simp only [Bool.not_true, Bool.not_false, Bool.true_and, Bool.false_and, Bool.true_or, Bool.false_or, Bool.and_true, Bool.or_false, cond_true, cond_false]), trivial⟩, W⟩
      rw [hb0] at F
      iterate 4 refine Cd F Aa Aa Aa Aa Aa Aa Aa fun a F => ?_
      refine ls F W Aa (Au F Aa Aa Aa).q fun a w F W => ?_
      refine Ad (Ac ?_)
      exact ⟨F.re ⟨rfl, Aa, Aa, Aa, Aa, Aa, Aa, (by show some (Value.bool false) = some (Value.bool (decide (x5.1 = p1) && decide (x5.2.1 = p2))); try rw [hb0]; all_goals simp only [Bool.not_true, Bool.not_false, Bool.true_and, Bool.false_and, Bool.true_or, Bool.false_or, Bool.and_true, Bool.or_false, cond_true, cond_false]), trivial⟩, W⟩
     rintro a w ⟨F, W⟩
     refine Aw F Aa (fun hb => ?_) fun hb => ?_
     ·
      have H := AM hb H
      rw [hb] at F
      clear hb
      refine Ab ?_
      refine ls F W Aa (Af F Aa).q fun a w F W => ?_
      refine ls F W Aa (BB F Aa Aa Aa).q fun a w F W => ?_
      refine ls F W Aa (Ae F Aa).q fun a w F W => ?_
      refine Ad (Ac ?_)
      have W := W.frontM (i := 1) Aa Aa
      have W := W.frontM (i := 1) Aa Aa
      exact ⟨_, H, F.re ⟨rfl, Aa, Aa, Aa, Aa, Aa, Aa, trivial⟩, W⟩
     have H := AN (by rw [hb]; decide) H
     rw [hb] at F
     clear hb
     refine Aq (Ac ?_)
     have W := W.frontM (i := 1) Aa Aa
     have W := W.frontM (i := 1) Aa Aa
     exact ⟨_, H, F.re ⟨rfl, Aa, Aa, Aa, Aa, Aa, Aa, trivial⟩, W⟩
    rintro a w ⟨x6, hj, F, W⟩
    have hj := AP hj
    subst hj
    have H := K4
    clear G4 K4
    refine AJ (fun a w => Fr 94 [] [(1, .int .i64 p1), (2, .int .i64 p2), (3, .pointer (some ⟨b1, 0, none⟩)), (6, .bool false), (7, .int .i64 x6), (8, .int .i64 x3), (44, .bool (decide (x5.2.2.1 = p1) && decide (x5.2.2.2.1 = p2)))] a ∧ Stw ⟨Y, [], w0⟩ [(b2, [.int .i64 x5.1, .int .i64 x5.2.1, .int .i64 x5.2.2.1, .int .i64 x5.2.2.2.1, .int .i64 x5.2.2.2.2.1, .int .i64 x5.2.2.2.2.2]), (b1, [.int .i64 p0.1, v1, v2])] [] w) ?_ ?_
    ·
     refine Ab ?_
     refine ls F W Aa (Ai CQ Aa Aa Aa T3 F Aa 2 Aa).q fun a w F W => ?_
     refine ls F W Aa (An (v := Value.int .i64 x5.2.2.1) 0 F Aa Aa T3 Aa).q fun a w F W => ?_
     refine ls F W Aa (Af F Aa).q fun a w F W => ?_
     refine ls F W Aa (DO F Aa Aa).q fun a w F W => ?_
     refine ls F W Aa (Af F Aa).q fun a w F W => ?_
     rcases Bool.eq_false_or_eq_true (decide (x5.2.2.1 = p1)) with hb0 | hb0
     ·
      rw [hb0] at F
      refine AF F W (Ag F Aa Aa Aa Aa) Aa (Al Aa) (Ai CQ Aa Aa Aa T3 F Aa 3 Aa).q fun a w F W => ?_
      refine AF F W (Ag F Aa Aa Aa Aa) Aa (Al Aa) (An (v := Value.int .i64 x5.2.2.2.1) 0 F Aa Aa T3 Aa).q fun a w F W => ?_
      refine AF F W (Ag F Aa Aa Aa Aa) Aa (Al Aa) (Af F Aa).q fun a w F W => ?_
      refine AF F W (Ag F Aa Aa Aa Aa) Aa (Al Aa) (DO F Aa Aa).q fun a w F W => ?_
      refine ls F W Aa (Ao F Aa Aa Aa).q fun a w F W => ?_
      refine Ad (Ac ?_)
      exact ⟨F.re ⟨rfl, Aa, Aa, Aa, Aa, Aa, (by show some (Value.bool (decide (x5.2.2.2.1 = p2))) = some (Value.bool (decide (x5.2.2.1 = p1) && decide (x5.2.2.2.1 = p2))); try rw [hb0]; all_goals simp only [Bool.not_true, Bool.not_false, Bool.true_and, Bool.false_and, Bool.true_or, Bool.false_or, Bool.and_true, Bool.or_false, cond_true, cond_false]), trivial⟩, W⟩
     rw [hb0] at F
     iterate 4 refine Cd F Aa Aa Aa Aa Aa Aa Aa fun a F => ?_
     refine ls F W Aa (Au F Aa Aa Aa).q fun a w F W => ?_
     refine Ad (Ac ?_)
     exact ⟨F.re ⟨rfl, Aa, Aa, Aa, Aa, Aa, (by show some (Value.bool false) = some (Value.bool (decide (x5.2.2.1 = p1) && decide (x5.2.2.2.1 = p2))); try rw [hb0]; all_goals simp only [Bool.not_true, Bool.not_false, Bool.true_and, Bool.false_and, Bool.true_or, Bool.false_or, Bool.and_true, Bool.or_false, cond_true, cond_false]), trivial⟩, W⟩
    rintro a w ⟨F, W⟩
    refine Aw F Aa (fun hb => ?_) fun hb => ?_
    ·
     have H := AM hb H
     rw [hb] at F
     clear hb
     refine Ab ?_
     refine ls F W Aa (Af F Aa).q fun a w F W => ?_
     refine ls F W Aa (BB F Aa Aa Aa).q fun a w F W => ?_
     refine ls F W Aa (Ae F Aa).q fun a w F W => ?_
     refine Ad (AR (Ac ?_))
     have W := W.frontM (i := 1) Aa Aa
     have W := W.sub (M' := [(b1, [.int .i64 p0.1, v1, v2])]) (Z' := []) (List.Sublist.cons_cons _ (List.nil_sublist _)) (List.Sublist.refl _)
     exact ⟨_, H, F.re ⟨rfl, Aa, Aa, Aa, Aa, Aa, trivial⟩, W⟩
    have H := AN (by rw [hb]; decide) H
    rw [hb] at F
    clear hb
    refine Aq (AR (Ac ?_))
    have W := W.frontM (i := 1) Aa Aa
    have W := W.sub (M' := [(b1, [.int .i64 p0.1, v1, v2])]) (Z' := []) (List.Sublist.cons_cons _ (List.nil_sublist _)) (List.Sublist.refl _)
    exact ⟨_, H, F.re ⟨rfl, Aa, Aa, Aa, Aa, Aa, trivial⟩, W⟩
   rintro a w ⟨x4, hj, F, W⟩
   have hj := AP hj
   subst hj
   have H := K3
   clear G3 K3
   refine Ab ?_
   refine ls F W Aa (Af F Aa).q fun a w F W => ?_
   refine ls F W Aa (BB F Aa Aa Aa).q fun a w F W => ?_
   refine ls F W Aa (Ae F Aa).q fun a w F W => ?_
   refine Ad (Ac ?_)
   exact ⟨_, H, F.re ⟨rfl, Aa, Aa, Aa, Aa, Aa, trivial⟩, W⟩
  have H := AN (Bk hb) H
  rw [hb] at F
  clear hb
  refine Ba ?_
  iterate 2 refine Br ?_
  refine Bb (Ac ?_)
  have H := L2 _ H
  exact ⟨_, H, F.re ⟨rfl, Aa, Aa, Aa, Aa, trivial⟩, W⟩
 rintro a w ⟨x1, hj, F, W⟩
 have hj := AP hj
 subst hj
 have H := K1
 clear G1 K1
 obtain ⟨o5, G5, K5⟩ := Am H
 refine AJ (fun a w => ∃ x7 : Int, some (x7) = some o5 ∧ Fr 94 [] [(1, .int .i64 p1), (2, .int .i64 p2), (3, .pointer (some ⟨b1, 0, none⟩)), (6, .bool false), (7, .int .i64 x7)] a ∧ Stw ⟨Y, [], w0⟩ [(b1, [.int .i64 p0.1, v1, v2])] [] w) ?_ ?_
 ·
  have H := G5
  clear G5 K5
  refine Ah (Ab ?_)
  refine ls F W Aa (Ae F Aa).q fun a w F W => ?_
  refine Ad (Ac (As ?_))
  refine A4 H (fun s a w => Fr 94 [] [(1, .int .i64 p1), (2, .int .i64 p2), (3, .pointer (some ⟨b1, 0, none⟩)), (6, .bool false), (7, .int .i64 s.1), (10, .int .i64 s.2)] a ∧ Stw ⟨Y, [], w0⟩ [(b1, [.int .i64 p0.1, v1, v2])] [] w) ⟨F.re ⟨rfl, Aa, Aa, Aa, Aa, Aa, trivial⟩, W⟩ fun s o a w H L6 hR => ?_
  obtain ⟨x8, x9⟩ := s
  obtain ⟨F, W⟩ := hR
  have F : Fr 94 [] [(1, .int .i64 p1), (2, .int .i64 p2), (3, .pointer (some ⟨b1, 0, none⟩)), (6, .bool false), (7, .int .i64 x8), (10, .int .i64 x9)] a := F
  have W : Stw ⟨Y, [], w0⟩ [(b1, [.int .i64 p0.1, v1, v2])] [] w := W
  rw [DX] at H
  refine Ah (Ah (Ab ?_))
  refine ls F W Aa (Af F Aa).q fun a w F W => ?_
  refine ls F W Aa (Ai CC Aa Aa Aa Gy F Aa 2 Aa).q fun a w F W => ?_
  refine ls F W Aa (An (v := v2) 0 F Aa Aa Gy Aa).q fun a w F W => ?_
  refine ls F W Aa (Bh (r := Ep) (l := p0.2.2) IG Aa F Aa (Ak h_v2)).q fun a w F W => ?_
  refine ls F W Aa (Bg F Aa Aa).q fun a w F W => ?_
  refine Ad (Ac ?_)
  refine Aw F Aa (fun hb => ?_) fun hb => ?_
  ·
   have H := AM (Bj hb) H
   rw [hb] at F
   clear hb
   refine Aq (Ac ?_)
   obtain ⟨o7, G7, K7⟩ := Am H
   refine AJ (fun a w => ∃ x10 : Int, some (x10) = some o7 ∧ Fr 94 [] [(1, .int .i64 p1), (2, .int .i64 p2), (3, .pointer (some ⟨b1, 0, none⟩)), (6, .bool false), (7, .int .i64 x10), (10, .int .i64 x9)] a ∧ Stw ⟨Y, [], w0⟩ [(b1, [.int .i64 p0.1, v1, v2])] [] w) ?_ ?_
   ·
    have H := G7
    clear G7 K7
    refine As ?_
    obtain ⟨o8, G8, K8⟩ := Am H
    refine AJ (fun a w => ∃ x11 : Bool, some (x11) = some o8 ∧ Fr 94 [] [(1, .int .i64 p1), (2, .int .i64 p2), (3, .pointer (some ⟨b1, 0, none⟩)), (6, .bool false), (7, .int .i64 x8), (10, .int .i64 x9), (71, .bool x11)] a ∧ Stw ⟨Y, [], w0⟩ [(b1, [.int .i64 p0.1, v1, v2])] [] w) ?_ ?_
    ·
     have H := G8
     clear G8 K8
     refine Ab ?_
     refine ls F W Aa (Ai CC Aa Aa Aa Gy F Aa 2 Aa).q fun a w F W => ?_
     refine ls F W Aa (An (v := v2) 0 F Aa Aa Gy Aa).q fun a w F W => ?_
     refine ls F W Aa (Af F Aa).q fun a w F W => ?_
     obtain ⟨x12, h2, H⟩ := Am H
     refine ls F W Aa (AK (r := Ep) Pl F Aa Aa (Ak h_v2) h2).q fun a w F W => ?_
     refine ls F W Aa (Ai JQ Aa Aa Aa T3 F Aa (E0 v2 + (x9).toNat * 2) Aa).q fun a w F W => ?_
     refine ls F W Aa (Ay (y := Value.int .i64 x12.1) (j := 0) (i := x9) F Aa Aa (Ak h_v2) h2 Po.to T3 Aa).q fun a w F W => ?_
     refine ls F W Aa (Af F Aa).q fun a w F W => ?_
     refine ls F W Aa (DO F Aa Aa).q fun a w F W => ?_
     refine ls F W Aa (Af F Aa).q fun a w F W => ?_
     rcases Bool.eq_false_or_eq_true (decide (x12.1 = p1)) with hb | hb
     ·
      have H := AM (Bj hb) H
      rw [hb] at F
      clear hb
      refine AF F W (Ag F Aa Aa Aa Aa) Aa (Al Aa) (Ai CC Aa Aa Aa Gy F Aa 2 Aa).q fun a w F W => ?_
      refine AF F W (Ag F Aa Aa Aa Aa) Aa (Al Aa) (An (v := v2) 0 F Aa Aa Gy Aa).q fun a w F W => ?_
      refine AF F W (Ag F Aa Aa Aa Aa) Aa (Al Aa) (Af F Aa).q fun a w F W => ?_
      obtain ⟨x13, h3, H⟩ := Am H
      refine AF F W (Ag F Aa Aa Aa Aa) Aa (Al Aa) (AK (r := Ep) Pl F Aa Aa (Ak h_v2) h3).q fun a w F W => ?_
      refine AF F W (Ag F Aa Aa Aa Aa) Aa (Al Aa) (Ai JQ Aa Aa Aa T3 F Aa (E0 v2 + (x9).toNat * 2 + 1) Aa).q fun a w F W => ?_
      refine AF F W (Ag F Aa Aa Aa Aa) Aa (Al Aa) (Ay (y := Value.int .i64 x13.2) (j := 1) (i := x9) F Aa Aa (Ak h_v2) h3 Po.to T3 Aa).q fun a w F W => ?_
      refine AF F W (Ag F Aa Aa Aa Aa) Aa (Al Aa) (Af F Aa).q fun a w F W => ?_
      refine AF F W (Ag F Aa Aa Aa Aa) Aa (Al Aa) (DO F Aa Aa).q fun a w F W => ?_
      refine ls F W Aa (Ao F Aa Aa Aa).q fun a w F W => ?_
      refine Ad (Ac ?_)
      exact ⟨_, H, F.re ⟨rfl, Aa, Aa, Aa, Aa, Aa, Aa, trivial⟩, W⟩
     have H := AN (Bk hb) H
     rw [hb] at F
     clear hb
     iterate 8 refine Cd F Aa Aa Aa Aa Aa Aa Aa fun a F => ?_
     refine ls F W Aa (Au F Aa Aa Aa).q fun a w F W => ?_
     refine Ad (Ac ?_)
     exact ⟨_, H, F.re ⟨rfl, Aa, Aa, Aa, Aa, Aa, Aa, trivial⟩, W⟩
    rintro a w ⟨x11, hj, F, W⟩
    have hj := AP hj
    subst hj
    have H := K8
    clear G8 K8
    refine Aw F Aa (fun hb => ?_) fun hb => ?_
    ·
     have H := AM hb H
     rw [hb] at F
     clear hb
     refine Ab ?_
     refine ls F W Aa (Af F Aa).q fun a w F W => ?_
     refine ls F W Aa (BB F Aa Aa Aa).q fun a w F W => ?_
     refine ls F W Aa (Ae F Aa).q fun a w F W => ?_
     refine Ad (AR (Ac ?_))
     exact ⟨_, H, F.re ⟨rfl, Aa, Aa, Aa, Aa, Aa, trivial⟩, W⟩
    have H := AN (by rw [hb]; decide) H
    rw [hb] at F
    clear hb
    refine Aq (AR (Ac ?_))
    exact ⟨_, H, F.re ⟨rfl, Aa, Aa, Aa, Aa, Aa, trivial⟩, W⟩
   rintro a w ⟨x10, hj, F, W⟩
   have hj := AP hj
   subst hj
   have H := K7
   clear G7 K7
   refine Ab ?_
   refine ls F W Aa (Af F Aa).q fun a w F W => ?_
   refine ls F W Aa (BB F Aa Aa Aa).q fun a w F W => ?_
   refine ls F W Aa (Ae F Aa).q fun a w F W => ?_
   refine Ad (Ac ?_)
   exact ⟨_, H, F.re ⟨rfl, Aa, Aa, Aa, Aa, Aa, trivial⟩, W⟩
  have H := AN (Bk hb) H
  rw [hb] at F
  clear hb
  refine Ba ?_
  iterate 2 refine Br ?_
  refine Bb (Ac ?_)
  have H := L6 _ H
  exact ⟨_, H, F.re ⟨rfl, Aa, Aa, Aa, Aa, trivial⟩, W⟩
 rintro a w ⟨x7, hj, F, W⟩
 have hj := AP hj
 subst hj
 have H := K5
 clear G5 K5
 refine AJ (fun a w => Fr 94 [] [(6, .bool (decide (0 ≤ p1) && (decide (p1 < p0.1) && (decide (0 ≤ p2) && (decide (p2 ≤ 7) && decide (x7 = 1))))))] a ∧ Stw ⟨Y, [], w0⟩ [(b1, [.int .i64 p0.1, v1, v2])] [] w) ?_ ?_
 ·
  refine Ab ?_
  refine ls F W Aa (Af F Aa).q fun a w F W => ?_
  refine ls F W Aa (Ei F Aa Aa).q fun a w F W => ?_
  refine ls F W Aa (Af F Aa).q fun a w F W => ?_
  rcases Bool.eq_false_or_eq_true (decide (0 ≤ p1)) with hb0 | hb0
  ·
   rw [hb0] at F
   refine AF F W (Ag F Aa Aa Aa Aa) Aa (Al Aa) (Af F Aa).q fun a w F W => ?_
   refine AF F W (Ag F Aa Aa Aa Aa) Aa (Al Aa) (Ai CC Aa Aa Aa T3 F Aa 0 Aa).q fun a w F W => ?_
   refine AF F W (Ag F Aa Aa Aa Aa) Aa (Al Aa) (An (v := Value.int .i64 p0.1) 0 F Aa Aa T3 Aa).q fun a w F W => ?_
   refine AF F W (Ag F Aa Aa Aa Aa) Aa (Al Aa) (Bg F Aa Aa).q fun a w F W => ?_
   refine ls F W Aa (Ao F Aa Aa Aa).q fun a w F W => ?_
   refine ls F W Aa (Af F Aa).q fun a w F W => ?_
   rcases Bool.eq_false_or_eq_true (decide (p1 < p0.1)) with hb1 | hb1
   ·
    rw [hb1] at F
    refine AF F W (Ag F Aa Aa Aa Aa) Aa (Al Aa) (Af F Aa).q fun a w F W => ?_
    refine AF F W (Ag F Aa Aa Aa Aa) Aa (Al Aa) (Ei F Aa Aa).q fun a w F W => ?_
    refine ls F W Aa (Ao F Aa Aa Aa).q fun a w F W => ?_
    refine ls F W Aa (Af F Aa).q fun a w F W => ?_
    rcases Bool.eq_false_or_eq_true (decide (0 ≤ p2)) with hb2 | hb2
    ·
     rw [hb2] at F
     refine AF F W (Ag F Aa Aa Aa Aa) Aa (Al Aa) (Af F Aa).q fun a w F W => ?_
     refine AF F W (Ag F Aa Aa Aa Aa) Aa (Al Aa) (I3 F Aa Aa).q fun a w F W => ?_
     refine ls F W Aa (Ao F Aa Aa Aa).q fun a w F W => ?_
     refine ls F W Aa (Af F Aa).q fun a w F W => ?_
     rcases Bool.eq_false_or_eq_true (decide (p2 ≤ 7)) with hb3 | hb3
     ·
      rw [hb3] at F
      refine AF F W (Ag F Aa Aa Aa Aa) Aa (Al Aa) (Af F Aa).q fun a w F W => ?_
      refine AF F W (Ag F Aa Aa Aa Aa) Aa (Al Aa) (DO F Aa Aa).q fun a w F W => ?_
      refine ls F W Aa (Ao F Aa Aa Aa).q fun a w F W => ?_
      refine ls F W Aa (Ae F Aa).q fun a w F W => ?_
      refine Ad (Ac ?_)
      exact ⟨F.re ⟨(by show some (Value.bool (decide (x7 = 1))) = some (Value.bool (decide (0 ≤ p1) && (decide (p1 < p0.1) && (decide (0 ≤ p2) && (decide (p2 ≤ 7) && decide (x7 = 1)))))); try rw [hb1]; try rw [hb0]; try rw [hb2]; try rw [hb3]; all_goals simp only [Bool.not_true, Bool.not_false, Bool.true_and, Bool.false_and, Bool.true_or, Bool.false_or, Bool.and_true, Bool.or_false, cond_true, cond_false]), trivial⟩, W⟩
     rw [hb3] at F
     iterate 2 refine Cd F Aa Aa Aa Aa Aa Aa Aa fun a F => ?_
     refine ls F W Aa (Au F Aa Aa Aa).q fun a w F W => ?_
     refine ls F W Aa (Ae F Aa).q fun a w F W => ?_
     refine Ad (Ac ?_)
     exact ⟨F.re ⟨(by show some (Value.bool false) = some (Value.bool (decide (0 ≤ p1) && (decide (p1 < p0.1) && (decide (0 ≤ p2) && (decide (p2 ≤ 7) && decide (x7 = 1)))))); try rw [hb1]; try rw [hb0]; try rw [hb2]; try rw [hb3]; all_goals simp only [Bool.not_true, Bool.not_false, Bool.true_and, Bool.false_and, Bool.true_or, Bool.false_or, Bool.and_true, Bool.or_false, cond_true, cond_false]), trivial⟩, W⟩
    rw [hb2] at F
    iterate 2 refine Cd F Aa Aa Aa Aa Aa Aa Aa fun a F => ?_
    refine ls F W Aa (Au F Aa Aa Aa).q fun a w F W => ?_
    refine ls F W Aa (Af F Aa).q fun a w F W => ?_
    iterate 2 refine Cd F Aa Aa Aa Aa Aa Aa Aa fun a F => ?_
    refine ls F W Aa (Au F Aa Aa Aa).q fun a w F W => ?_
    refine ls F W Aa (Ae F Aa).q fun a w F W => ?_
    refine Ad (Ac ?_)
    exact ⟨F.re ⟨(by show some (Value.bool false) = some (Value.bool (decide (0 ≤ p1) && (decide (p1 < p0.1) && (decide (0 ≤ p2) && (decide (p2 ≤ 7) && decide (x7 = 1)))))); try rw [hb1]; try rw [hb0]; try rw [hb2]; all_goals simp only [Bool.not_true, Bool.not_false, Bool.true_and, Bool.false_and, Bool.true_or, Bool.false_or, Bool.and_true, Bool.or_false, cond_true, cond_false]), trivial⟩, W⟩
   rw [hb1] at F
   iterate 2 refine Cd F Aa Aa Aa Aa Aa Aa Aa fun a F => ?_
   refine ls F W Aa (Au F Aa Aa Aa).q fun a w F W => ?_
   refine ls F W Aa (Af F Aa).q fun a w F W => ?_
   iterate 2 refine Cd F Aa Aa Aa Aa Aa Aa Aa fun a F => ?_
   refine ls F W Aa (Au F Aa Aa Aa).q fun a w F W => ?_
   refine ls F W Aa (Af F Aa).q fun a w F W => ?_
   iterate 2 refine Cd F Aa Aa Aa Aa Aa Aa Aa fun a F => ?_
   refine ls F W Aa (Au F Aa Aa Aa).q fun a w F W => ?_
   refine ls F W Aa (Ae F Aa).q fun a w F W => ?_
   refine Ad (Ac ?_)
   exact ⟨F.re ⟨(by show some (Value.bool false) = some (Value.bool (decide (0 ≤ p1) && (decide (p1 < p0.1) && (decide (0 ≤ p2) && (decide (p2 ≤ 7) && decide (x7 = 1)))))); try rw [hb1]; try rw [hb0]; all_goals simp only [Bool.not_true, Bool.not_false, Bool.true_and, Bool.false_and, Bool.true_or, Bool.false_or, Bool.and_true, Bool.or_false, cond_true, cond_false]), trivial⟩, W⟩
  rw [hb0] at F
  iterate 4 refine Cd F Aa Aa Aa Aa Aa Aa Aa fun a F => ?_
  refine ls F W Aa (Au F Aa Aa Aa).q fun a w F W => ?_
  refine ls F W Aa (Af F Aa).q fun a w F W => ?_
  iterate 2 refine Cd F Aa Aa Aa Aa Aa Aa Aa fun a F => ?_
  refine ls F W Aa (Au F Aa Aa Aa).q fun a w F W => ?_
  refine ls F W Aa (Af F Aa).q fun a w F W => ?_
  iterate 2 refine Cd F Aa Aa Aa Aa Aa Aa Aa fun a F => ?_
  refine ls F W Aa (Au F Aa Aa Aa).q fun a w F W => ?_
  refine ls F W Aa (Af F Aa).q fun a w F W => ?_
  iterate 2 refine Cd F Aa Aa Aa Aa Aa Aa Aa fun a F => ?_
  refine ls F W Aa (Au F Aa Aa Aa).q fun a w F W => ?_
  refine ls F W Aa (Ae F Aa).q fun a w F W => ?_
  refine Ad (Ac ?_)
  exact ⟨F.re ⟨(by show some (Value.bool false) = some (Value.bool (decide (0 ≤ p1) && (decide (p1 < p0.1) && (decide (0 ≤ p2) && (decide (p2 ≤ 7) && decide (x7 = 1)))))); try rw [hb0]; all_goals simp only [Bool.not_true, Bool.not_false, Bool.true_and, Bool.false_and, Bool.true_or, Bool.false_or, Bool.and_true, Bool.or_false, cond_true, cond_false]), trivial⟩, W⟩
 rintro a w ⟨F, W⟩
 refine Av ?_
 have H := AP H
 subst H
 refine AQ (.inl Aa) F W Aa (Ap F Aa) ?_
 exact ⟨rfl, W.done⟩
theorem Rn : Has Try.prog 19 := ⟨fun args w => Aj Try.func19 rfl (by decide) args w⟩
theorem MO : Try.prog.follows .mixedOrders = true := by kernel_rfl
noncomputable def Ee (p0 : Int × (List (Int × Int × Int × Int × Int × Int)) × (List (Int × Int))) : Int → Option (Int ⊕ (Unit ⊕ Bool))
  | x1 => (if x1 < (p0.2.1.length : Int) then (ix p0.2.1 x1).bind fun x2 => (if x2.1 = x2.2.2.1 then some true else (if x2.2.2.2.2.1 < 1 then some true else (if x2.2.2.2.2.2 < x2.2.2.2.2.1 then some true else (if 1000 < x2.2.2.2.2.2 then some true else (E1 p0 x2.1 x2.2.1).bind fun x4 => (if (!x4) = true then some true else (E1 p0 x2.2.2.1 x2.2.2.2.1).bind fun x5 => some (!x5)))))).bind fun x3 => (if x3 = true then some (.inr (.inr false)) else some (.inl (BV (x1 + 1)))) else some (.inr (.inl ())))
noncomputable def D9 (p0 : Int × (List (Int × Int × Int × Int × Int × Int)) × (List (Int × Int))) : Int → Option (Int ⊕ (Unit ⊕ Bool))
  | x6 => (if x6 < (p0.2.2.length : Int) then (ix p0.2.2 x6).bind fun x7 => (ix p0.2.2 x6).bind fun x8 => (E1 p0 x7.1 x8.2).bind fun x9 => (if (!x9) = true then some (.inr (.inr false)) else some (.inl (BV (x6 + 1)))) else some (.inr (.inl ())))
noncomputable def FE (p0 : Int × (List (Int × Int × Int × Int × Int × Int)) × (List (Int × Int))) : Option Bool := (if (decide (p0.1 < 1) || (decide (8 < p0.1) || (decide (24 < (p0.2.1.length : Int)) || decide (8 < (p0.2.2.length : Int))))) = true then some false else Fv (AA (Ee p0) 0) fun _ => Fv (AA (D9 p0) 0) fun _ => some true)
theorem KX (Y : Nat → Prop) (w0 : World) (v1 : Value) (v2 : Value) (p0 : Int × (List (Int × Int × Int × Int × Int × Int)) × (List (Int × Int))) (r : Bool) (H : FE p0 = some r) (h_v1 : Sl w0 (NX []) Ev v1 p0.2.1) (h_v2 : Sl w0 (NX []) Ep v2 p0.2.2) :
    Calls Try.prog 10 #[.agg #[.int .i64 p0.1, v1, v2]] w0 fun e w' => e = .returned (.bool r) ∧ Below w0.heap.size w0 w' := by
 refine enter Try.func10 Aa Try.ntmps10 Aa fun a F => ?_
 have W := Stw.start Y w0
 unfold FE at H
 refine Ah (Ab ?_)
 refine C5 (cs := [.int .i64 p0.1, v1, v2]) F W Aa Aa Aa fun b1 a w F W => ?_
 refine ls F W Aa (Ae F Aa).q fun a w F W => ?_
 refine Ad (Ac (Ah ?_))
 refine AJ (fun a w => Fr 100 [] [(1, .pointer (some ⟨b1, 0, none⟩)), (2, .bool false), (25, .bool (decide (p0.1 < 1) || (decide (8 < p0.1) || (decide (24 < (p0.2.1.length : Int)) || decide (8 < (p0.2.2.length : Int))))))] a ∧ Stw ⟨Y, [], w0⟩ [(b1, [.int .i64 p0.1, v1, v2])] [] w) ?_ ?_
 ·
  refine Ab ?_
  refine ls F W Aa (Ai CC Aa Aa Aa T3 F Aa 0 Aa).q fun a w F W => ?_
  refine ls F W Aa (An (v := Value.int .i64 p0.1) 0 F Aa Aa T3 Aa).q fun a w F W => ?_
  refine ls F W Aa (Bg F Aa Aa).q fun a w F W => ?_
  refine ls F W Aa (Af F Aa).q fun a w F W => ?_
  rcases Bool.eq_false_or_eq_true (decide (p0.1 < 1)) with hb0 | hb0
  ·
   rw [hb0] at F
   iterate 3 refine Cd F Aa Aa Aa Aa Aa Aa Aa fun a F => ?_
   refine ls F W Aa (Ao F Aa Aa Aa).q fun a w F W => ?_
   refine ls F W Aa (Af F Aa).q fun a w F W => ?_
   iterate 4 refine Cd F Aa Aa Aa Aa Aa Aa Aa fun a F => ?_
   refine ls F W Aa (Ao F Aa Aa Aa).q fun a w F W => ?_
   refine ls F W Aa (Af F Aa).q fun a w F W => ?_
   iterate 4 refine Cd F Aa Aa Aa Aa Aa Aa Aa fun a F => ?_
   refine ls F W Aa (Ao F Aa Aa Aa).q fun a w F W => ?_
   refine Ad (Ac ?_)
   exact ⟨F.re ⟨rfl, Aa, (by show some (Value.bool true) = some (Value.bool (decide (p0.1 < 1) || (decide (8 < p0.1) || (decide (24 < (p0.2.1.length : Int)) || decide (8 < (p0.2.2.length : Int)))))); try rw [hb0]; all_goals simp only [Bool.not_true, Bool.not_false, Bool.true_and, Bool.false_and, Bool.true_or, Bool.false_or, Bool.and_true, Bool.or_false, cond_true, cond_false]), trivial⟩, W⟩
  rw [hb0] at F
  refine AF F W (Ag F Aa Aa Aa Aa) Aa (Al Aa) (Ai CC Aa Aa Aa T3 F Aa 0 Aa).q fun a w F W => ?_
  refine AF F W (Ag F Aa Aa Aa Aa) Aa (Al Aa) (An (v := Value.int .i64 p0.1) 0 F Aa Aa T3 Aa).q fun a w F W => ?_
  refine AF F W (Ag F Aa Aa Aa Aa) Aa (Al Aa) (DI F Aa Aa).q fun a w F W => ?_
  refine ls F W Aa (Au F Aa Aa Aa).q fun a w F W => ?_
  refine ls F W Aa (Af F Aa).q fun a w F W => ?_
  rcases Bool.eq_false_or_eq_true (decide (8 < p0.1)) with hb1 | hb1
  ·
   rw [hb1] at F
   iterate 4 refine Cd F Aa Aa Aa Aa Aa Aa Aa fun a F => ?_
   refine ls F W Aa (Ao F Aa Aa Aa).q fun a w F W => ?_
   refine ls F W Aa (Af F Aa).q fun a w F W => ?_
   iterate 4 refine Cd F Aa Aa Aa Aa Aa Aa Aa fun a F => ?_
   refine ls F W Aa (Ao F Aa Aa Aa).q fun a w F W => ?_
   refine Ad (Ac ?_)
   exact ⟨F.re ⟨rfl, Aa, (by show some (Value.bool true) = some (Value.bool (decide (p0.1 < 1) || (decide (8 < p0.1) || (decide (24 < (p0.2.1.length : Int)) || decide (8 < (p0.2.2.length : Int)))))); try rw [hb0]; try rw [hb1]; all_goals simp only [Bool.not_true, Bool.not_false, Bool.true_and, Bool.false_and, Bool.true_or, Bool.false_or, Bool.and_true, Bool.or_false, cond_true, cond_false]), trivial⟩, W⟩
  rw [hb1] at F
  refine AF F W (Ag F Aa Aa Aa Aa) Aa (Al Aa) (Ai CC Aa Aa Aa Il F Aa 1 Aa).q fun a w F W => ?_
  refine AF F W (Ag F Aa Aa Aa Aa) Aa (Al Aa) (An (v := v1) 0 F Aa Aa Il Aa).q fun a w F W => ?_
  refine AF F W (Ag F Aa Aa Aa Aa) Aa (Al Aa) (Bh (r := Ev) (l := p0.2.1) IC Aa F Aa (Ak h_v1)).q fun a w F W => ?_
  refine AF F W (Ag F Aa Aa Aa Aa) Aa (Al Aa) (DI F Aa Aa).q fun a w F W => ?_
  refine ls F W Aa (Au F Aa Aa Aa).q fun a w F W => ?_
  refine ls F W Aa (Af F Aa).q fun a w F W => ?_
  rcases Bool.eq_false_or_eq_true (decide (24 < (p0.2.1.length : Int))) with hb2 | hb2
  ·
   rw [hb2] at F
   iterate 4 refine Cd F Aa Aa Aa Aa Aa Aa Aa fun a F => ?_
   refine ls F W Aa (Ao F Aa Aa Aa).q fun a w F W => ?_
   refine Ad (Ac ?_)
   exact ⟨F.re ⟨rfl, Aa, (by show some (Value.bool true) = some (Value.bool (decide (p0.1 < 1) || (decide (8 < p0.1) || (decide (24 < (p0.2.1.length : Int)) || decide (8 < (p0.2.2.length : Int)))))); try rw [hb2]; try rw [hb0]; try rw [hb1]; all_goals simp only [Bool.not_true, Bool.not_false, Bool.true_and, Bool.false_and, Bool.true_or, Bool.false_or, Bool.and_true, Bool.or_false, cond_true, cond_false]), trivial⟩, W⟩
  rw [hb2] at F
  refine AF F W (Ag F Aa Aa Aa Aa) Aa (Al Aa) (Ai CC Aa Aa Aa Gy F Aa 2 Aa).q fun a w F W => ?_
  refine AF F W (Ag F Aa Aa Aa Aa) Aa (Al Aa) (An (v := v2) 0 F Aa Aa Gy Aa).q fun a w F W => ?_
  refine AF F W (Ag F Aa Aa Aa Aa) Aa (Al Aa) (Bh (r := Ep) (l := p0.2.2) IG Aa F Aa (Ak h_v2)).q fun a w F W => ?_
  refine AF F W (Ag F Aa Aa Aa Aa) Aa (Al Aa) (DI F Aa Aa).q fun a w F W => ?_
  refine ls F W Aa (Au F Aa Aa Aa).q fun a w F W => ?_
  refine Ad (Ac ?_)
  exact ⟨F.re ⟨rfl, Aa, (by show some (Value.bool (decide (8 < (p0.2.2.length : Int)))) = some (Value.bool (decide (p0.1 < 1) || (decide (8 < p0.1) || (decide (24 < (p0.2.1.length : Int)) || decide (8 < (p0.2.2.length : Int)))))); try rw [hb2]; try rw [hb0]; try rw [hb1]; all_goals simp only [Bool.not_true, Bool.not_false, Bool.true_and, Bool.false_and, Bool.true_or, Bool.false_or, Bool.and_true, Bool.or_false, cond_true, cond_false]), trivial⟩, W⟩
 rintro a w ⟨F, W⟩
 refine Aw F Aa (fun hb => ?_) fun hb => ?_
 ·
  have H := AM hb H
  rw [hb] at F
  clear hb
  refine Ah (Ab ?_)
  refine ls F W Aa (Ae F Aa).q fun a w F W => ?_
  refine Ad (Ac (Av (AH ?_)))
  have H := AP H
  subst H
  refine AQ (.inl Aa) F W Aa (Ap F Aa) ?_
  exact ⟨rfl, W.done⟩
 have H := AN (by rw [hb]; decide) H
 rw [hb] at F
 clear hb
 refine Aq (Ac ?_)
 obtain ⟨o1, G1, K1, L1⟩ := KJ H
 refine AJ (fun a w => some (Sum.inl ()) = some o1 ∧ Fr 100 [] [(1, .pointer (some ⟨b1, 0, none⟩)), (2, .bool false)] a ∧ Stw ⟨Y, [], w0⟩ [(b1, [.int .i64 p0.1, v1, v2])] [] w) ?_ ?_
 ·
  have H := G1
  clear G1 K1
  refine Ah (Ab ?_)
  refine ls F W Aa (Ae F Aa).q fun a w F W => ?_
  refine Ad (Ac (As ?_))
  refine A4 H (fun s a w => Fr 100 [] [(1, .pointer (some ⟨b1, 0, none⟩)), (2, .bool false), (3, .int .i64 s)] a ∧ Stw ⟨Y, [], w0⟩ [(b1, [.int .i64 p0.1, v1, v2])] [] w) ⟨F.re ⟨rfl, Aa, Aa, trivial⟩, W⟩ fun s o a w H L2 hR => ?_
  obtain ⟨x1, rfl⟩ : ∃ x, x = s := ⟨s, rfl⟩
  obtain ⟨F, W⟩ := hR
  have F : Fr 100 [] [(1, .pointer (some ⟨b1, 0, none⟩)), (2, .bool false), (3, .int .i64 x1)] a := F
  have W : Stw ⟨Y, [], w0⟩ [(b1, [.int .i64 p0.1, v1, v2])] [] w := W
  rw [Ee] at H
  refine Ah (Ah (Ab ?_))
  refine ls F W Aa (Af F Aa).q fun a w F W => ?_
  refine ls F W Aa (Ai CC Aa Aa Aa Il F Aa 1 Aa).q fun a w F W => ?_
  refine ls F W Aa (An (v := v1) 0 F Aa Aa Il Aa).q fun a w F W => ?_
  refine ls F W Aa (Bh (r := Ev) (l := p0.2.1) IC Aa F Aa (Ak h_v1)).q fun a w F W => ?_
  refine ls F W Aa (Bg F Aa Aa).q fun a w F W => ?_
  refine Ad (Ac ?_)
  refine Aw F Aa (fun hb => ?_) fun hb => ?_
  ·
   have H := AM (Bj hb) H
   rw [hb] at F
   clear hb
   refine Aq (Ac (Ah (As (Ah (Ab ?_)))))
   refine ls F W Aa (Ai CC Aa Aa Aa Il F Aa 1 Aa).q fun a w F W => ?_
   refine ls F W Aa (An (v := v1) 0 F Aa Aa Il Aa).q fun a w F W => ?_
   refine ls F W Aa (Af F Aa).q fun a w F W => ?_
   obtain ⟨x2, h1, H⟩ := Am H
   refine ls F W Aa (AK (r := Ev) P9 F Aa Aa (Ak h_v1) h1).q fun a w F W => ?_
   refine ls F W Aa (Ay (y := Value.agg #[.int .i64 x2.1, .int .i64 x2.2.1, .int .i64 x2.2.2.1, .int .i64 x2.2.2.2.1, .int .i64 x2.2.2.2.2.1, .int .i64 x2.2.2.2.2.2]) (j := 0) (i := x1) F Aa Aa (Ak h_v1) h1 P1.to OW Aa).q fun a w F W => ?_
   refine CB (cs := [.int .i64 0, .int .i64 0, .int .i64 0, .int .i64 0, .int .i64 0, .int .i64 0]) F W Aa Qw Aa fun b2 a w F W => ?_
   refine C4 (vs := [.int .i64 x2.1, .int .i64 x2.2.1, .int .i64 x2.2.2.1, .int .i64 x2.2.2.2.1, .int .i64 x2.2.2.2.2.1, .int .i64 x2.2.2.2.2.2]) (M' := [(b2, [.int .i64 x2.1, .int .i64 x2.2.1, .int .i64 x2.2.2.1, .int .i64 x2.2.2.2.1, .int .i64 x2.2.2.2.2.1, .int .i64 x2.2.2.2.2.2]), (b1, [.int .i64 p0.1, v1, v2])]) 0 F W Aa Aa Aa OW Aa Aa Aa Aa Aa fun w W => ?_
   refine Ad (Ac ?_)
   obtain ⟨o3, G3, K3⟩ := Am H
   refine AJ (fun a w => ∃ x3 : Bool, some (x3) = some o3 ∧ Fr 100 [] [(1, .pointer (some ⟨b1, 0, none⟩)), (2, .bool false), (3, .int .i64 x1), (77, .bool x3)] a ∧ Stw ⟨Y, [], w0⟩ [(b2, [.int .i64 x2.1, .int .i64 x2.2.1, .int .i64 x2.2.2.1, .int .i64 x2.2.2.2.1, .int .i64 x2.2.2.2.2.1, .int .i64 x2.2.2.2.2.2]), (b1, [.int .i64 p0.1, v1, v2])] [] w) ?_ ?_
   ·
    have H := G3
    clear G3 K3
    refine Ab ?_
    refine ls F W Aa (Ai CQ Aa Aa Aa T3 F Aa 0 Aa).q fun a w F W => ?_
    refine ls F W Aa (An (v := Value.int .i64 x2.1) 0 F Aa Aa T3 Aa).q fun a w F W => ?_
    refine ls F W Aa (Ai CQ Aa Aa Aa T3 F Aa 2 Aa).q fun a w F W => ?_
    refine ls F W Aa (An (v := Value.int .i64 x2.2.2.1) 0 F Aa Aa T3 Aa).q fun a w F W => ?_
    refine ls F W Aa (DO F Aa Aa).q fun a w F W => ?_
    refine ls F W Aa (Af F Aa).q fun a w F W => ?_
    rcases Bool.eq_false_or_eq_true (decide (x2.1 = x2.2.2.1)) with hb | hb
    ·
     have H := AM (Bj hb) H
     rw [hb] at F
     clear hb
     iterate 3 refine Cd F Aa Aa Aa Aa Aa Aa Aa fun a F => ?_
     refine ls F W Aa (Ao F Aa Aa Aa).q fun a w F W => ?_
     refine ls F W Aa (Af F Aa).q fun a w F W => ?_
     iterate 5 refine Cd F Aa Aa Aa Aa Aa Aa Aa fun a F => ?_
     refine ls F W Aa (Ao F Aa Aa Aa).q fun a w F W => ?_
     refine ls F W Aa (Af F Aa).q fun a w F W => ?_
     iterate 3 refine Cd F Aa Aa Aa Aa Aa Aa Aa fun a F => ?_
     refine ls F W Aa (Ao F Aa Aa Aa).q fun a w F W => ?_
     refine ls F W Aa (Af F Aa).q fun a w F W => ?_
     iterate 7 refine Cd F Aa Aa Aa Aa Aa Aa Aa fun a F => ?_
     refine ls F W Aa (Ao F Aa Aa Aa).q fun a w F W => ?_
     refine ls F W Aa (Af F Aa).q fun a w F W => ?_
     iterate 7 refine Cd F Aa Aa Aa Aa Aa Aa Aa fun a F => ?_
     refine ls F W Aa (Ao F Aa Aa Aa).q fun a w F W => ?_
     refine Ad (Ac ?_)
     have W := W.frontM (i := 1) Aa Aa
     have W := W.frontM (i := 1) Aa Aa
     exact ⟨_, H, F.re ⟨rfl, Aa, Aa, Aa, trivial⟩, W⟩
    have H := AN (Bk hb) H
    rw [hb] at F
    clear hb
    refine AF F W (Ag F Aa Aa Aa Aa) Aa (Al Aa) (Ai CQ Aa Aa Aa T3 F Aa 4 Aa).q fun a w F W => ?_
    refine AF F W (Ag F Aa Aa Aa Aa) Aa (Al Aa) (An (v := Value.int .i64 x2.2.2.2.2.1) 0 F Aa Aa T3 Aa).q fun a w F W => ?_
    refine AF F W (Ag F Aa Aa Aa Aa) Aa (Al Aa) (Bg F Aa Aa).q fun a w F W => ?_
    refine ls F W Aa (Au F Aa Aa Aa).q fun a w F W => ?_
    refine ls F W Aa (Af F Aa).q fun a w F W => ?_
    rcases Bool.eq_false_or_eq_true (decide (x2.2.2.2.2.1 < 1)) with hb | hb
    ·
     have H := AM (Bj hb) H
     rw [hb] at F
     clear hb
     iterate 5 refine Cd F Aa Aa Aa Aa Aa Aa Aa fun a F => ?_
     refine ls F W Aa (Ao F Aa Aa Aa).q fun a w F W => ?_
     refine ls F W Aa (Af F Aa).q fun a w F W => ?_
     iterate 3 refine Cd F Aa Aa Aa Aa Aa Aa Aa fun a F => ?_
     refine ls F W Aa (Ao F Aa Aa Aa).q fun a w F W => ?_
     refine ls F W Aa (Af F Aa).q fun a w F W => ?_
     iterate 7 refine Cd F Aa Aa Aa Aa Aa Aa Aa fun a F => ?_
     refine ls F W Aa (Ao F Aa Aa Aa).q fun a w F W => ?_
     refine ls F W Aa (Af F Aa).q fun a w F W => ?_
     iterate 7 refine Cd F Aa Aa Aa Aa Aa Aa Aa fun a F => ?_
     refine ls F W Aa (Ao F Aa Aa Aa).q fun a w F W => ?_
     refine Ad (Ac ?_)
     have W := W.frontM (i := 1) Aa Aa
     have W := W.frontM (i := 1) Aa Aa
     exact ⟨_, H, F.re ⟨rfl, Aa, Aa, Aa, trivial⟩, W⟩
    have H := AN (Bk hb) H
    rw [hb] at F
    clear hb
    refine AF F W (Ag F Aa Aa Aa Aa) Aa (Al Aa) (Ai CQ Aa Aa Aa T3 F Aa 4 Aa).q fun a w F W => ?_
    refine AF F W (Ag F Aa Aa Aa Aa) Aa (Al Aa) (An (v := Value.int .i64 x2.2.2.2.2.1) 0 F Aa Aa T3 Aa).q fun a w F W => ?_
    refine AF F W (Ag F Aa Aa Aa Aa) Aa (Al Aa) (Ai CQ Aa Aa Aa T3 F Aa 5 Aa).q fun a w F W => ?_
    refine AF F W (Ag F Aa Aa Aa Aa) Aa (Al Aa) (An (v := Value.int .i64 x2.2.2.2.2.2) 0 F Aa Aa T3 Aa).q fun a w F W => ?_
    refine AF F W (Ag F Aa Aa Aa Aa) Aa (Al Aa) (DI F Aa Aa).q fun a w F W => ?_
    refine ls F W Aa (Au F Aa Aa Aa).q fun a w F W => ?_
    refine ls F W Aa (Af F Aa).q fun a w F W => ?_
    rcases Bool.eq_false_or_eq_true (decide (x2.2.2.2.2.2 < x2.2.2.2.2.1)) with hb | hb
    ·
     have H := AM (Bj hb) H
     rw [hb] at F
     clear hb
     iterate 3 refine Cd F Aa Aa Aa Aa Aa Aa Aa fun a F => ?_
     refine ls F W Aa (Ao F Aa Aa Aa).q fun a w F W => ?_
     refine ls F W Aa (Af F Aa).q fun a w F W => ?_
     iterate 7 refine Cd F Aa Aa Aa Aa Aa Aa Aa fun a F => ?_
     refine ls F W Aa (Ao F Aa Aa Aa).q fun a w F W => ?_
     refine ls F W Aa (Af F Aa).q fun a w F W => ?_
     iterate 7 refine Cd F Aa Aa Aa Aa Aa Aa Aa fun a F => ?_
     refine ls F W Aa (Ao F Aa Aa Aa).q fun a w F W => ?_
     refine Ad (Ac ?_)
     have W := W.frontM (i := 1) Aa Aa
     have W := W.frontM (i := 1) Aa Aa
     exact ⟨_, H, F.re ⟨rfl, Aa, Aa, Aa, trivial⟩, W⟩
    have H := AN (Bk hb) H
    rw [hb] at F
    clear hb
    refine AF F W (Ag F Aa Aa Aa Aa) Aa (Al Aa) (Ai CQ Aa Aa Aa T3 F Aa 5 Aa).q fun a w F W => ?_
    refine AF F W (Ag F Aa Aa Aa Aa) Aa (Al Aa) (An (v := Value.int .i64 x2.2.2.2.2.2) 0 F Aa Aa T3 Aa).q fun a w F W => ?_
    refine AF F W (Ag F Aa Aa Aa Aa) Aa (Al Aa) (DI F Aa Aa).q fun a w F W => ?_
    refine ls F W Aa (Au F Aa Aa Aa).q fun a w F W => ?_
    refine ls F W Aa (Af F Aa).q fun a w F W => ?_
    rcases Bool.eq_false_or_eq_true (decide (1000 < x2.2.2.2.2.2)) with hb | hb
    ·
     have H := AM (Bj hb) H
     rw [hb] at F
     clear hb
     iterate 7 refine Cd F Aa Aa Aa Aa Aa Aa Aa fun a F => ?_
     refine ls F W Aa (Ao F Aa Aa Aa).q fun a w F W => ?_
     refine ls F W Aa (Af F Aa).q fun a w F W => ?_
     iterate 7 refine Cd F Aa Aa Aa Aa Aa Aa Aa fun a F => ?_
     refine ls F W Aa (Ao F Aa Aa Aa).q fun a w F W => ?_
     refine Ad (Ac ?_)
     have W := W.frontM (i := 1) Aa Aa
     have W := W.frontM (i := 1) Aa Aa
     exact ⟨_, H, F.re ⟨rfl, Aa, Aa, Aa, trivial⟩, W⟩
    have H := AN (Bk hb) H
    rw [hb] at F
    clear hb
    refine AF F W (Ag F Aa Aa Aa Aa) Aa (Al Aa) (An (v := Value.agg #[.int .i64 p0.1, v1, v2]) 1 F Aa Aa GI Aa).q fun a w F W => ?_
    refine AF F W (Ag F Aa Aa Aa Aa) Aa (Al Aa) (Ai CQ Aa Aa Aa T3 F Aa 0 Aa).q fun a w F W => ?_
    refine AF F W (Ag F Aa Aa Aa Aa) Aa (Al Aa) (An (v := Value.int .i64 x2.1) 0 F Aa Aa T3 Aa).q fun a w F W => ?_
    refine AF F W (Ag F Aa Aa Aa Aa) Aa (Al Aa) (Ai CQ Aa Aa Aa T3 F Aa 1 Aa).q fun a w F W => ?_
    refine AF F W (Ag F Aa Aa Aa Aa) Aa (Al Aa) (An (v := Value.int .i64 x2.2.1) 0 F Aa Aa T3 Aa).q fun a w F W => ?_
    refine FL (Ag F Aa Aa Aa Aa) ?_
    obtain ⟨x4, h2, H⟩ := Am H
    refine ls F W Aa (AW (v := Value.bool x4) F Rn Aa (fun w W => He any w (v1) (v2) p0 x2.1 x2.2.1 _ h2 (((Ak h_v1) : CE _ _ _ _ _ _) w W).nx (((Ak h_v2) : CE _ _ _ _ _ _) w W).nx)) fun a w F W => ?_
    refine AF F W (Ag F Aa Aa Aa Aa) Aa (Al Aa) (EP F Aa).q fun a w F W => ?_
    refine ls F W Aa (Au F Aa Aa Aa).q fun a w F W => ?_
    refine ls F W Aa (Af F Aa).q fun a w F W => ?_
    rcases Bool.eq_false_or_eq_true (!x4) with hb | hb
    ·
     have H := AM hb H
     rw [hb] at F
     clear hb
     iterate 7 refine Cd F Aa Aa Aa Aa Aa Aa Aa fun a F => ?_
     refine ls F W Aa (Ao F Aa Aa Aa).q fun a w F W => ?_
     refine Ad (Ac ?_)
     have W := W.frontM (i := 1) Aa Aa
     have W := W.frontM (i := 1) Aa Aa
     exact ⟨_, H, F.re ⟨rfl, Aa, Aa, Aa, trivial⟩, W⟩
    have H := AN (by rw [hb]; decide) H
    rw [hb] at F
    clear hb
    refine AF F W (Ag F Aa Aa Aa Aa) Aa (Al Aa) (An (v := Value.agg #[.int .i64 p0.1, v1, v2]) 1 F Aa Aa GI Aa).q fun a w F W => ?_
    refine AF F W (Ag F Aa Aa Aa Aa) Aa (Al Aa) (Ai CQ Aa Aa Aa T3 F Aa 2 Aa).q fun a w F W => ?_
    refine AF F W (Ag F Aa Aa Aa Aa) Aa (Al Aa) (An (v := Value.int .i64 x2.2.2.1) 0 F Aa Aa T3 Aa).q fun a w F W => ?_
    refine AF F W (Ag F Aa Aa Aa Aa) Aa (Al Aa) (Ai CQ Aa Aa Aa T3 F Aa 3 Aa).q fun a w F W => ?_
    refine AF F W (Ag F Aa Aa Aa Aa) Aa (Al Aa) (An (v := Value.int .i64 x2.2.2.2.1) 0 F Aa Aa T3 Aa).q fun a w F W => ?_
    refine FL (Ag F Aa Aa Aa Aa) ?_
    obtain ⟨x5, h3, H⟩ := Am H
    refine ls F W Aa (AW (v := Value.bool x5) F Rn Aa (fun w W => He any w (v1) (v2) p0 x2.2.2.1 x2.2.2.2.1 _ h3 (((Ak h_v1) : CE _ _ _ _ _ _) w W).nx (((Ak h_v2) : CE _ _ _ _ _ _) w W).nx)) fun a w F W => ?_
    refine AF F W (Ag F Aa Aa Aa Aa) Aa (Al Aa) (EP F Aa).q fun a w F W => ?_
    refine ls F W Aa (Au F Aa Aa Aa).q fun a w F W => ?_
    refine Ad (Ac ?_)
    have W := W.frontM (i := 1) Aa Aa
    have W := W.frontM (i := 1) Aa Aa
    exact ⟨_, H, F.re ⟨rfl, Aa, Aa, Aa, trivial⟩, W⟩
   rintro a w ⟨x3, hj, F, W⟩
   have hj := AP hj
   subst hj
   have H := K3
   clear G3 K3
   refine Aw F Aa (fun hb => ?_) fun hb => ?_
   ·
    have H := AM hb H
    rw [hb] at F
    clear hb
    refine Ah (Ab ?_)
    refine ls F W Aa (Ae F Aa).q fun a w F W => ?_
    refine Ad (Ac (Av (AU ?_)))
    iterate 2 refine AH ?_
    refine AU (AH ?_)
    have H := L2 _ H
    have H := L1 _ H
    have H := AP H
    subst H
    refine AQ (.inl Aa) F W Aa (Ap F Aa) ?_
    exact ⟨rfl, W.done⟩
   have H := AN (by rw [hb]; decide) H
   rw [hb] at F
   clear hb
   refine Aq (AR (Ac (Ab ?_)))
   refine ls F W Aa (Af F Aa).q fun a w F W => ?_
   refine ls F W Aa (BB F Aa Aa Aa).q fun a w F W => ?_
   refine ls F W Aa (Ae F Aa).q fun a w F W => ?_
   refine Ad (Ac ?_)
   have W := W.frontM (i := 1) Aa Aa
   have W := W.sub (M' := [(b1, [.int .i64 p0.1, v1, v2])]) (Z' := []) (List.Sublist.cons_cons _ (List.nil_sublist _)) (List.Sublist.refl _)
   exact ⟨_, H, F.re ⟨rfl, Aa, Aa, trivial⟩, W⟩
  have H := AN (Bk hb) H
  rw [hb] at F
  clear hb
  refine Ba ?_
  iterate 2 refine Br ?_
  refine Bb (Ac ?_)
  have H := L2 _ H
  exact ⟨H, F.re ⟨rfl, Aa, trivial⟩, W⟩
 rintro a w ⟨hj, F, W⟩
 have H := K1 _ hj
 clear hj G1 K1 L1
 obtain ⟨o4, G4, K4, L4⟩ := KJ H
 refine AJ (fun a w => some (Sum.inl ()) = some o4 ∧ Fr 100 [] [(2, .bool false)] a ∧ Stw ⟨Y, [], w0⟩ [(b1, [.int .i64 p0.1, v1, v2])] [] w) ?_ ?_
 ·
  have H := G4
  clear G4 K4
  refine Ah (Ab ?_)
  refine ls F W Aa (Ae F Aa).q fun a w F W => ?_
  refine Ad (Ac (As ?_))
  refine A4 H (fun s a w => Fr 100 [] [(1, .pointer (some ⟨b1, 0, none⟩)), (2, .bool false), (5, .int .i64 s)] a ∧ Stw ⟨Y, [], w0⟩ [(b1, [.int .i64 p0.1, v1, v2])] [] w) ⟨F.re ⟨rfl, Aa, Aa, trivial⟩, W⟩ fun s o a w H L5 hR => ?_
  obtain ⟨x6, rfl⟩ : ∃ x, x = s := ⟨s, rfl⟩
  obtain ⟨F, W⟩ := hR
  have F : Fr 100 [] [(1, .pointer (some ⟨b1, 0, none⟩)), (2, .bool false), (5, .int .i64 x6)] a := F
  have W : Stw ⟨Y, [], w0⟩ [(b1, [.int .i64 p0.1, v1, v2])] [] w := W
  rw [D9] at H
  refine Ah (Ah (Ab ?_))
  refine ls F W Aa (Af F Aa).q fun a w F W => ?_
  refine ls F W Aa (Ai CC Aa Aa Aa Gy F Aa 2 Aa).q fun a w F W => ?_
  refine ls F W Aa (An (v := v2) 0 F Aa Aa Gy Aa).q fun a w F W => ?_
  refine ls F W Aa (Bh (r := Ep) (l := p0.2.2) IG Aa F Aa (Ak h_v2)).q fun a w F W => ?_
  refine ls F W Aa (Bg F Aa Aa).q fun a w F W => ?_
  refine Ad (Ac ?_)
  refine Aw F Aa (fun hb => ?_) fun hb => ?_
  ·
   have H := AM (Bj hb) H
   rw [hb] at F
   clear hb
   refine Aq (Ac (Ah (As (Ah ?_))))
   refine Cn W MO (by kernel_rfl) ?_
   refine qs F Aa (An (v := Value.agg #[.int .i64 p0.1, v1, v2]) 0 F Aa Aa GI Aa).q fun a F => ?_
   refine qs F Aa (Ai CC Aa Aa Aa Gy F Aa 2 Aa).q fun a F => ?_
   refine qs F Aa (An (v := v2) 0 F Aa Aa Gy Aa).q fun a F => ?_
   refine qs F Aa (Af F Aa).q fun a F => ?_
   obtain ⟨x7, h4, H⟩ := Am H
   refine qs F Aa (AK (r := Ep) Pl F Aa Aa (Ak h_v2) h4).q fun a F => ?_
   refine qs F Aa (Ai JQ Aa Aa Aa T3 F Aa (E0 v2 + (x6).toNat * 2) Aa).q fun a F => ?_
   refine qs F Aa (Ay (y := Value.int .i64 x7.1) (j := 0) (i := x6) F Aa Aa (Ak h_v2) h4 Po.to T3 Aa).q fun a F => ?_
   refine qs F Aa (Ai CC Aa Aa Aa Gy F Aa 2 Aa).q fun a F => ?_
   refine qs F Aa (An (v := v2) 0 F Aa Aa Gy Aa).q fun a F => ?_
   refine qs F Aa (Af F Aa).q fun a F => ?_
   obtain ⟨x8, h5, H⟩ := Am H
   refine qs F Aa (AK (r := Ep) Pl F Aa Aa (Ak h_v2) h5).q fun a F => ?_
   refine qs F Aa (Ai JQ Aa Aa Aa T3 F Aa (E0 v2 + (x6).toNat * 2 + 1) Aa).q fun a F => ?_
   refine qs F Aa (Ay (y := Value.int .i64 x8.2) (j := 1) (i := x6) F Aa Aa (Ak h_v2) h5 Po.to T3 Aa).q fun a F => ?_
   obtain ⟨x9, h6, H⟩ := Am H
   refine qs F Aa (AW (v := Value.bool x9) F Rn Aa (fun w W => He any w (v1) (v2) p0 x7.1 x8.2 _ h6 (((Ak h_v1) : CE _ _ _ _ _ _) w W).nx (((Ak h_v2) : CE _ _ _ _ _ _) w W).nx)) fun a F => ?_
   refine qs F Aa (EP F Aa).q fun a F => ?_
   refine Bo fun w W => ?_
   refine Ac ?_
   refine Aw F Aa (fun hb => ?_) fun hb => ?_
   ·
    have H := AM hb H
    rw [hb] at F
    clear hb
    refine Ah (Ab ?_)
    refine ls F W Aa (Ae F Aa).q fun a w F W => ?_
    refine Ad (Ac (Av (AU ?_)))
    iterate 2 refine AH ?_
    refine AU (AH ?_)
    have H := L5 _ H
    have H := L4 _ H
    have H := AP H
    subst H
    refine AQ (.inl Aa) F W Aa (Ap F Aa) ?_
    exact ⟨rfl, W.done⟩
   have H := AN (by rw [hb]; decide) H
   rw [hb] at F
   clear hb
   refine Aq (AR (Ac (Ab ?_)))
   refine ls F W Aa (Af F Aa).q fun a w F W => ?_
   refine ls F W Aa (BB F Aa Aa Aa).q fun a w F W => ?_
   refine ls F W Aa (Ae F Aa).q fun a w F W => ?_
   refine Ad (Ac ?_)
   exact ⟨_, H, F.re ⟨rfl, Aa, Aa, trivial⟩, W⟩
  have H := AN (Bk hb) H
  rw [hb] at F
  clear hb
  refine Ba ?_
  iterate 2 refine Br ?_
  refine Bb (Ac ?_)
  have H := L5 _ H
  exact ⟨H, F.re ⟨rfl, trivial⟩, W⟩
 rintro a w ⟨hj, F, W⟩
 have H := K4 _ hj
 clear hj G4 K4 L4
 refine Ah (Ab ?_)
 refine ls F W Aa (Ae F Aa).q fun a w F W => ?_
 refine Ad (Ac (Av ?_))
 have H := AP H
 subst H
 refine AQ (.inl Aa) F W Aa (Ap F Aa) ?_
 exact ⟨rfl, W.done⟩
theorem NY : type_of% Try.underlying26 := Try.underlying26
theorem SH : Has Try.prog 10 := ⟨fun args w => Aj Try.func10 rfl (by decide) args w⟩
theorem RE : Et Try.prog 26 49 1 8 := Et.of NY (by kernel_rfl) (by kernel_rfl) (by kernel_rfl) (by decide)
theorem RR : Ty Try.prog 49 false 1 := ⟨by kernel_rfl, by kernel_rfl⟩
def Dm (p0 : Int) : Bool := (decide (p0 ≤ 9218868437227405312) || decide (p0 = 9223372036854775808))
theorem Me (Y : Nat → Prop) (w0 : World)  (p0 : Int) (r : Bool) (H : Dm p0 = r)  :
    Calls Try.prog 20 #[.int .u64 p0] w0 fun e w' => e = .returned (.bool r) ∧ Below w0.heap.size w0 w' := by
 refine enter Try.func20 Aa Try.ntmps20 Aa fun a F => ?_
 have W := Stw.start Y w0
 unfold Dm at H
 refine Ah (Ab ?_)
 refine ls F W Aa (Ae F Aa).q fun a w F W => ?_
 refine Ad (Ac ?_)
 refine AJ (fun a w => Fr 9 [] [(2, .bool (decide (p0 ≤ 9218868437227405312) || decide (p0 = 9223372036854775808)))] a ∧ Stw ⟨Y, [], w0⟩ [] [] w) ?_ ?_
 ·
  refine Ab ?_
  refine ls F W Aa (Af F Aa).q fun a w F W => ?_
  refine ls F W Aa (I3 F Aa Aa).q fun a w F W => ?_
  refine ls F W Aa (Af F Aa).q fun a w F W => ?_
  rcases Bool.eq_false_or_eq_true (decide (p0 ≤ 9218868437227405312)) with hb0 | hb0
  ·
   rw [hb0] at F
   iterate 2 refine Cd F Aa Aa Aa Aa Aa Aa Aa fun a F => ?_
   refine ls F W Aa (Ao F Aa Aa Aa).q fun a w F W => ?_
   refine ls F W Aa (Ae F Aa).q fun a w F W => ?_
   refine Ad (Ac ?_)
   exact ⟨F.re ⟨(by show some (Value.bool true) = some (Value.bool (decide (p0 ≤ 9218868437227405312) || decide (p0 = 9223372036854775808))); try rw [hb0]; all_goals simp only [Bool.not_true, Bool.not_false, Bool.true_and, Bool.false_and, Bool.true_or, Bool.false_or, Bool.and_true, Bool.or_false, cond_true, cond_false]), trivial⟩, W⟩
  rw [hb0] at F
  refine AF F W (Ag F Aa Aa Aa Aa) Aa (Al Aa) (Af F Aa).q fun a w F W => ?_
  refine AF F W (Ag F Aa Aa Aa Aa) Aa (Al Aa) (DO F Aa Aa).q fun a w F W => ?_
  refine ls F W Aa (Au F Aa Aa Aa).q fun a w F W => ?_
  refine ls F W Aa (Ae F Aa).q fun a w F W => ?_
  refine Ad (Ac ?_)
  exact ⟨F.re ⟨(by show some (Value.bool (decide (p0 = 9223372036854775808))) = some (Value.bool (decide (p0 ≤ 9218868437227405312) || decide (p0 = 9223372036854775808))); try rw [hb0]; all_goals simp only [Bool.not_true, Bool.not_false, Bool.true_and, Bool.false_and, Bool.true_or, Bool.false_or, Bool.and_true, Bool.or_false, cond_true, cond_false]), trivial⟩, W⟩
 rintro a w ⟨F, W⟩
 refine Av ?_
 subst H
 refine AQ (.inl Aa) F W Aa (Ap F Aa) ?_
 exact ⟨rfl, W.done⟩
theorem SJ : Has Try.prog 20 := ⟨fun args w => Aj Try.func20 rfl (by decide) args w⟩
noncomputable def D8 (p0 : List Int) : Int → Option (Int ⊕ (Unit ⊕ Bool))
  | x1 => (if x1 < (p0.length : Int) then (ix p0 x1).bind fun x2 => (if (!(Dm x2)) = true then some (.inr (.inr false)) else some (.inl (BV (x1 + 1)))) else some (.inr (.inl ())))
noncomputable def FF (p0 : List Int) (p1 : Int) : Option Bool := Fv (AA (D8 p0) 0) fun _ => some (decide ((p0.length : Int) = p1))
theorem KP (Y : Nat → Prop) (w0 : World) (v1 : Value) (p0 : List Int) (p1 : Int) (r : Bool) (H : FF p0 p1 = some r) (h_v1 : Sl w0 (NX []) (Rp.int .u64) v1 p0) :
    Calls Try.prog 11 #[v1, .int .i64 p1] w0 fun e w' => e = .returned (.bool r) ∧ Below w0.heap.size w0 w' := by
 refine enter Try.func11 Aa Try.ntmps11 Aa fun a F => ?_
 have W := Stw.start Y w0
 unfold FF at H
 refine Ah (Ab ?_)
 refine ls F W Aa (Ae F Aa).q fun a w F W => ?_
 refine Ad (Ac ?_)
 obtain ⟨o1, G1, K1, L1⟩ := KJ H
 refine AJ (fun a w => some (Sum.inl ()) = some o1 ∧ Fr 22 [] [(0, v1), (1, .int .i64 p1), (4, .bool false)] a ∧ Stw ⟨Y, [], w0⟩ [] [] w) ?_ ?_
 ·
  have H := G1
  clear G1 K1
  refine Ah (Ab ?_)
  refine ls F W Aa (Ae F Aa).q fun a w F W => ?_
  refine Ad (Ac (As ?_))
  refine A4 H (fun s a w => Fr 22 [] [(0, v1), (1, .int .i64 p1), (4, .bool false), (5, .int .i64 s)] a ∧ Stw ⟨Y, [], w0⟩ [] [] w) ⟨F.re ⟨rfl, Aa, Aa, Aa, trivial⟩, W⟩ fun s o a w H L2 hR => ?_
  obtain ⟨x1, rfl⟩ : ∃ x, x = s := ⟨s, rfl⟩
  obtain ⟨F, W⟩ := hR
  have F : Fr 22 [] [(0, v1), (1, .int .i64 p1), (4, .bool false), (5, .int .i64 x1)] a := F
  have W : Stw ⟨Y, [], w0⟩ [] [] w := W
  rw [D8] at H
  refine Ah (Ah (Ab ?_))
  iterate 2 refine ls F W Aa (Af F Aa).q fun a w F W => ?_
  refine ls F W Aa (Bh (r := (Rp.int .u64)) (l := p0) NY Aa F Aa (Ak h_v1)).q fun a w F W => ?_
  refine ls F W Aa (Bg F Aa Aa).q fun a w F W => ?_
  refine Ad (Ac ?_)
  refine Aw F Aa (fun hb => ?_) fun hb => ?_
  ·
   have H := AM (Bj hb) H
   rw [hb] at F
   clear hb
   refine Aq (Ac (Ah (As (Ah (Ab ?_)))))
   iterate 2 refine ls F W Aa (Af F Aa).q fun a w F W => ?_
   obtain ⟨x2, h1, H⟩ := Am H
   refine ls F W Aa (AK (r := (Rp.int .u64)) RE F Aa Aa (Ak h_v1) h1).q fun a w F W => ?_
   refine ls F W Aa (Ay (y := Value.int .u64 x2) (j := 0) (i := x1) F Aa Aa (Ak h_v1) h1 Fl.int.to RR Aa).q fun a w F W => ?_
   refine ls F W Aa (AW (v := Value.bool (Dm x2)) F SJ Aa (fun w W => Me any w x2 _ Aa)) fun a w F W => ?_
   refine ls F W Aa (EP F Aa).q fun a w F W => ?_
   refine Ad (Ac ?_)
   refine Aw F Aa (fun hb => ?_) fun hb => ?_
   ·
    have H := AM hb H
    rw [hb] at F
    clear hb
    refine Ah (Ab ?_)
    refine ls F W Aa (Ae F Aa).q fun a w F W => ?_
    refine Ad (Ac (Av (AU ?_)))
    iterate 2 refine AH ?_
    refine AU (AH ?_)
    have H := L2 _ H
    have H := L1 _ H
    have H := AP H
    subst H
    refine AQ (.inl Aa) F W Aa (Ap F Aa) ?_
    exact ⟨rfl, W.done⟩
   have H := AN (by rw [hb]; decide) H
   rw [hb] at F
   clear hb
   refine Aq (AR (Ac (Ab ?_)))
   refine ls F W Aa (Af F Aa).q fun a w F W => ?_
   refine ls F W Aa (BB F Aa Aa Aa).q fun a w F W => ?_
   refine ls F W Aa (Ae F Aa).q fun a w F W => ?_
   refine Ad (Ac ?_)
   exact ⟨_, H, F.re ⟨rfl, Aa, Aa, Aa, trivial⟩, W⟩
  have H := AN (Bk hb) H
  rw [hb] at F
  clear hb
  refine Ba ?_
  iterate 2 refine Br ?_
  refine Bb (Ac ?_)
  have H := L2 _ H
  exact ⟨H, F.re ⟨rfl, Aa, Aa, trivial⟩, W⟩
 rintro a w ⟨hj, F, W⟩
 have H := K1 _ hj
 clear hj G1 K1 L1
 refine Ah (Ab ?_)
 refine ls F W Aa (Af F Aa).q fun a w F W => ?_
 refine ls F W Aa (Bh (r := (Rp.int .u64)) (l := p0) NY Aa F Aa (Ak h_v1)).q fun a w F W => ?_
 refine ls F W Aa (Af F Aa).q fun a w F W => ?_
 refine ls F W Aa (DO F Aa Aa).q fun a w F W => ?_
 refine ls F W Aa (Ae F Aa).q fun a w F W => ?_
 refine Ad (Ac (Av ?_))
 have H := AP H
 subst H
 refine AQ (.inl Aa) F W Aa (Ap F Aa) ?_
 exact ⟨rfl, W.done⟩
theorem So : Has Try.prog 11 := ⟨fun args w => Aj Try.func11 rfl (by decide) args w⟩
noncomputable def Ds (p0 : Int × (List (Int × Int × Int × Int × Int × Int)) × (List (Int × Int))) (p1 : List Int) : Option Bool := ((FE p0).bind fun x2 => (if x2 = true then (FF p1 (p0.2.1.length : Int)).bind fun x3 => some x3 else some false)).bind fun x1 => some x1
theorem Lb (Y : Nat → Prop) (w0 : World) (v1 : Value) (v2 : Value) (v3 : Value) (p0 : Int × (List (Int × Int × Int × Int × Int × Int)) × (List (Int × Int))) (p1 : List Int) (r : Bool) (H : Ds p0 p1 = some r) (h_v1 : Sl w0 (NX []) Ev v1 p0.2.1) (h_v2 : Sl w0 (NX []) Ep v2 p0.2.2) (h_v3 : Sl w0 (NX []) (Rp.int .u64) v3 p1) :
    Calls Try.prog 5 #[.agg #[.int .i64 p0.1, v1, v2], v3] w0 fun e w' => e = .returned (.bool r) ∧ Below w0.heap.size w0 w' := by
 refine enter Try.func5 Aa Try.ntmps5 Aa fun a F => ?_
 have W := Stw.start Y w0
 unfold Ds at H
 refine Ah (Ab ?_)
 refine C5 (cs := [.int .i64 p0.1, v1, v2]) F W Aa Aa Aa fun b1 a w F W => ?_
 refine ls F W Aa (Ae F Aa).q fun a w F W => ?_
 refine Ad (Ac ?_)
 obtain ⟨o1, G1, K1⟩ := Am H
 refine AJ (fun a w => ∃ x1 : Bool, some (x1) = some o1 ∧ Fr 14 [] [(4, .bool x1)] a ∧ Stw ⟨Y, [], w0⟩ [(b1, [.int .i64 p0.1, v1, v2])] [] w) ?_ ?_
 ·
  have H := G1
  clear G1 K1
  refine Ab ?_
  refine ls F W Aa (An (v := Value.agg #[.int .i64 p0.1, v1, v2]) 0 F Aa Aa GI Aa).q fun a w F W => ?_
  obtain ⟨x2, h1, H⟩ := Am H
  refine ls F W Aa (AW (v := Value.bool x2) F SH Aa (fun w W => KX any w (v1) (v2) p0 _ h1 (((Ak h_v1) : CE _ _ _ _ _ _) w W).nx (((Ak h_v2) : CE _ _ _ _ _ _) w W).nx)) fun a w F W => ?_
  refine ls F W Aa (Af F Aa).q fun a w F W => ?_
  rcases Bool.eq_false_or_eq_true x2 with hb | hb
  ·
   have H := AM hb H
   rw [hb] at F
   clear hb
   refine AF F W (Ag F Aa Aa Aa Aa) Aa (Al Aa) (Af F Aa).q fun a w F W => ?_
   refine AF F W (Ag F Aa Aa Aa Aa) Aa (Al Aa) (Ai CC Aa Aa Aa Il F Aa 1 Aa).q fun a w F W => ?_
   refine AF F W (Ag F Aa Aa Aa Aa) Aa (Al Aa) (An (v := v1) 0 F Aa Aa Il Aa).q fun a w F W => ?_
   refine AF F W (Ag F Aa Aa Aa Aa) Aa (Al Aa) (Bh (r := Ev) (l := p0.2.1) IC Aa F Aa (Ak h_v1)).q fun a w F W => ?_
   refine FL (Ag F Aa Aa Aa Aa) ?_
   obtain ⟨x3, h2, H⟩ := Am H
   refine ls F W Aa (AW (v := Value.bool x3) F So Aa (fun w W => KP any w (v3) p1 (p0.2.1.length : Int) _ h2 (((Ak h_v3) : CE _ _ _ _ _ _) w W).nx)) fun a w F W => ?_
   refine ls F W Aa (Ao F Aa Aa Aa).q fun a w F W => ?_
   refine ls F W Aa (Ae F Aa).q fun a w F W => ?_
   refine Ad (Ac ?_)
   exact ⟨_, H, F.re ⟨rfl, trivial⟩, W⟩
  have H := AN (by rw [hb]; decide) H
  rw [hb] at F
  clear hb
  iterate 5 refine Cd F Aa Aa Aa Aa Aa Aa Aa fun a F => ?_
  refine ls F W Aa (Au F Aa Aa Aa).q fun a w F W => ?_
  refine ls F W Aa (Ae F Aa).q fun a w F W => ?_
  refine Ad (Ac ?_)
  exact ⟨_, H, F.re ⟨rfl, trivial⟩, W⟩
 rintro a w ⟨x1, hj, F, W⟩
 have hj := AP hj
 subst hj
 have H := K1
 clear G1 K1
 refine Av ?_
 have H := AP H
 subst H
 refine AQ (.inl Aa) F W Aa (Ap F Aa) ?_
 exact ⟨rfl, W.done⟩
theorem QL : type_of% Try.underlying70 := Try.underlying70
theorem K6 : type_of% Try.underlying73 := Try.underlying73
theorem H5 : Has Try.prog 5 := ⟨fun args w => Aj Try.func5 rfl (by decide) args w⟩
theorem R0 : Bt Try.prog 41 [.int .i64 0, .int .i64 0, .int .i64 0, .int .i64 0, .int .i64 0, .int .i64 0] [(0, 1), (1, 1), (2, 1), (3, 1), (4, 1), (5, 1)] := ⟨⟨.agg #[.int .i64 0, .int .i64 0, .int .i64 0, .int .i64 0, .int .i64 0, .int .i64 0], by kernel_rfl, rfl⟩, ⟨_, CQ, fun w => by kernel_rfl⟩⟩
theorem RL : Bt Try.prog 43 [.int .i64 0, .int .i64 0] [(0, 1), (1, 1)] := ⟨⟨.agg #[.int .i64 0, .int .i64 0], by kernel_rfl, rfl⟩, ⟨_, JQ, fun w => by kernel_rfl⟩⟩
theorem RG : (Try.prog.info? 43).bind (·.zero) = some (.agg #[.int .i64 0, .int .i64 0]) := by kernel_rfl
theorem Sa : Bt Try.prog 25 [.int .i64 0, .slice none 0 0, .slice none 0 0] [(0, 1), (1, 1), (2, 1)] := ⟨⟨.agg #[.int .i64 0, .slice none 0 0, .slice none 0 0], by kernel_rfl, rfl⟩, ⟨_, CC, fun w => by kernel_rfl⟩⟩
theorem Sr : (Try.prog.info? 25).bind (·.zero) = some (.agg #[.int .i64 0, .slice none 0 0, .slice none 0 0]) := by kernel_rfl
theorem Z3 : (Try.prog.info? 3).bind (·.zero) = some (.int .i64 0) := by kernel_rfl
theorem EQ : Et Try.prog 37 3 1 8 := Et.of GH (by kernel_rfl) (by kernel_rfl) (by kernel_rfl) (by decide)
theorem QE : (Try.prog.info? 37).bind (·.zero) = some (.slice none 0 0) := by kernel_rfl
abbrev Hm (x : Int × Int) : Value := .agg #[.int .i64 x.1, .int .i64 x.2]
abbrev HW (x : Unit) : Value := .agg #[]
theorem Qx : Bt Try.prog 73 [.int .i64 0, .int .i64 0] [(0, 1), (1, 1)] := ⟨⟨.agg #[.int .i64 0, .int .i64 0], by kernel_rfl, rfl⟩, ⟨_, K6, fun w => by kernel_rfl⟩⟩
theorem QY : (Try.prog.info? 73).bind (·.zero) = some (.agg #[.int .i64 0, .int .i64 0]) := by kernel_rfl
abbrev HH : Rp (Int × Int) := (Rp.pair (Rp.int .i64) (Rp.int .i64))
def Ss (a : Int × Int) : List Value := [.int .i64 a.1, .int .i64 a.2]
theorem Rb : Fl HH Ss := (Fl.pair Fl.int Fl.int)
theorem Qz : Et Try.prog 70 73 2 16 := Et.of QL (by kernel_rfl) (by kernel_rfl) (by kernel_rfl) (by decide)
theorem QX : Ty Try.prog 43 true 2 := ⟨by kernel_rfl, by kernel_rfl⟩
noncomputable def B1 (p0 : Int × (List (Int × Int × Int × Int × Int × Int)) × (List (Int × Int))) : ((List (Int × Int)) × Int) → Option (((List (Int × Int)) × Int) ⊕ (List (Int × Int)))
  | (x2, x3) => (if x3 < (p0.2.1.length : Int) then (ix p0.2.1 x3).bind fun x4 => (IQ x2 ([(x4.1, x4.2.1), (x4.2.2.1, x4.2.2.2.1)] : List (Int × Int))).bind fun x5 => some (.inl (x5, BV (x3 + 1))) else some (.inr x2))
noncomputable def B3 (p0 : Int × (List (Int × Int × Int × Int × Int × Int)) × (List (Int × Int))) : ((List (Int × Int)) × Int) → Option (((List (Int × Int)) × Int) ⊕ (List (Int × Int)))
  | (x7, x8) => (if x8 < (p0.2.2.length : Int) then (ix p0.2.2 x8).bind fun x9 => (IQ x7 ([x9] : List (Int × Int))).bind fun x10 => some (.inl (x10, BV (x8 + 1))) else some (.inr x7))
noncomputable def Db (p0 : Int × (List (Int × Int × Int × Int × Int × Int)) × (List (Int × Int))) : Option (List (Int × Int)) := (AA (B1 p0) ([], 0)).bind fun x1 => (AA (B3 p0) (x1, 0)).bind fun x6 => some x6
theorem JB (Y : Nat → Prop) (w0 : World) (v1 : Value) (v2 : Value) (p0 : Int × (List (Int × Int × Int × Int × Int × Int)) × (List (Int × Int))) (r : (List (Int × Int))) (H : Db p0 = some r) (h_v1 : Sl w0 (NX []) Ev v1 p0.2.1) (h_v2 : Sl w0 (NX []) Ep v2 p0.2.2) :
    Calls Try.prog 34 #[.agg #[.int .i64 p0.1, v1, v2]] w0 fun e w' => ∃ x : Value, e = .returned (x) ∧ Stw ⟨Y, [], w0⟩ [] [row (x) 73 HH r] w' := by
 refine enter Try.func34 Aa Try.ntmps34 Aa fun a F => ?_
 have W := Stw.start Y w0
 unfold Db at H
 refine Ah (Ab ?_)
 refine C5 (cs := [.int .i64 p0.1, v1, v2]) F W Aa Aa Aa fun b1 a w F W => ?_
 refine ls F W Aa (Ae F Aa).q fun a w F W => ?_
 refine Ad (Ac (Ah (Ab ?_)))
 refine ls F W Aa (Ae F Aa).q fun a w F W => ?_
 refine Ad (Ac ?_)
 obtain ⟨o1, G1, K1⟩ := Am H
 refine AJ (fun a w => ∃ x1 : List (Int × Int), ∃ v3 : Value, some (x1) = some o1 ∧ Fr 46 [] [(1, .pointer (some ⟨b1, 0, none⟩)), (2, .slice none 0 0), (3, v3)] a ∧ Stw ⟨Y, [], w0⟩ [(b1, [.int .i64 p0.1, v1, v2])] [row v3 73 HH x1] w) ?_ ?_
 ·
  have H := G1
  clear G1 K1
  refine Ah (Ab ?_)
  refine ls F W Aa (Ai CC Aa Aa Aa Il F Aa 1 Aa).q fun a w F W => ?_
  refine ls F W Aa (An (v := v1) 0 F Aa Aa Il Aa).q fun a w F W => ?_
  refine ls F W Aa (Bh (r := Ev) (l := p0.2.1) IC Aa F Aa (Ak h_v1)).q fun a w F W => ?_
  refine ls F W Aa (Af F Aa).q fun a w F W => ?_
  refine Ad (Ac (As ?_))
  have W := W.nilRow 73 HH
  refine A4 H (fun s a w => ∃ v4 : Value, Fr 46 [] [(1, .pointer (some ⟨b1, 0, none⟩)), (2, .slice none 0 0), (3, v4), (9, v1), (10, .int .i64 (p0.2.1.length : Int)), (11, .int .i64 s.2)] a ∧ Stw ⟨Y, [], w0⟩ [(b1, [.int .i64 p0.1, v1, v2])] [row v4 73 HH s.1] w) ⟨(Value.slice none 0 0), F.re ⟨rfl, Aa, Aa, Aa, Aa, Aa, trivial⟩, W⟩ fun s o a w H L2 hR => ?_
  obtain ⟨x2, x3⟩ := s
  obtain ⟨v4, F, W⟩ := hR
  have F : Fr 46 [] [(1, .pointer (some ⟨b1, 0, none⟩)), (2, .slice none 0 0), (3, v4), (9, v1), (10, .int .i64 (p0.2.1.length : Int)), (11, .int .i64 x3)] a := F
  have W : Stw ⟨Y, [], w0⟩ [(b1, [.int .i64 p0.1, v1, v2])] [row v4 73 HH x2] w := W
  rw [B1] at H
  refine Ah (Ab ?_)
  refine ls F W Aa (Bg F Aa Aa).q fun a w F W => ?_
  refine Ad (Ac (Ah ?_))
  refine Aw F Aa (fun hb => ?_) fun hb => ?_
  ·
   have H := AM (Bj hb) H
   rw [hb] at F
   clear hb
   refine Aq (Ac (Ah (As (Ah (Ab ?_)))))
   obtain ⟨x4, h1, H⟩ := Am H
   refine ls F W Aa (AK (r := Ev) P9 F Aa Aa (Ak h_v1) h1).q fun a w F W => ?_
   refine ls F W Aa (Ay (y := Value.agg #[.int .i64 x4.1, .int .i64 x4.2.1, .int .i64 x4.2.2.1, .int .i64 x4.2.2.2.1, .int .i64 x4.2.2.2.2.1, .int .i64 x4.2.2.2.2.2]) (j := 0) (i := x3) F Aa Aa (Ak h_v1) h1 P1.to OW Aa).q fun a w F W => ?_
   refine CB (cs := [.int .i64 0, .int .i64 0, .int .i64 0, .int .i64 0, .int .i64 0, .int .i64 0]) F W Aa Qw Aa fun b2 a w F W => ?_
   refine C4 (vs := [.int .i64 x4.1, .int .i64 x4.2.1, .int .i64 x4.2.2.1, .int .i64 x4.2.2.2.1, .int .i64 x4.2.2.2.2.1, .int .i64 x4.2.2.2.2.2]) (M' := [(b2, [.int .i64 x4.1, .int .i64 x4.2.1, .int .i64 x4.2.2.1, .int .i64 x4.2.2.2.1, .int .i64 x4.2.2.2.2.1, .int .i64 x4.2.2.2.2.2]), (b1, [.int .i64 p0.1, v1, v2])]) 0 F W Aa Aa Aa OW Aa Aa Aa Aa Aa fun w W => ?_
   refine Ad (Ac (Ab ?_))
   refine ls F W Aa (Af F Aa).q fun a w F W => ?_
   refine ls F W Aa (Ai CQ Aa Aa Aa T3 F Aa 0 Aa).q fun a w F W => ?_
   refine ls F W Aa (An (v := Value.int .i64 x4.1) 0 F Aa Aa T3 Aa).q fun a w F W => ?_
   refine ls F W Aa (Ai CQ Aa Aa Aa T3 F Aa 1 Aa).q fun a w F W => ?_
   refine ls F W Aa (An (v := Value.int .i64 x4.2.1) 0 F Aa Aa T3 Aa).q fun a w F W => ?_
   refine ls F W Aa (Dr (v := Value.agg #[.int .i64 x4.1, .int .i64 x4.2.1]) Qx F Aa Aa Aa).q fun a w F W => ?_
   refine ls F W Aa (Ai CQ Aa Aa Aa T3 F Aa 2 Aa).q fun a w F W => ?_
   refine ls F W Aa (An (v := Value.int .i64 x4.2.2.1) 0 F Aa Aa T3 Aa).q fun a w F W => ?_
   refine ls F W Aa (Ai CQ Aa Aa Aa T3 F Aa 3 Aa).q fun a w F W => ?_
   refine ls F W Aa (An (v := Value.int .i64 x4.2.2.2.1) 0 F Aa Aa T3 Aa).q fun a w F W => ?_
   refine ls F W Aa (Dr (v := Value.agg #[.int .i64 x4.2.2.1, .int .i64 x4.2.2.2.1]) Qx F Aa Aa Aa).q fun a w F W => ?_
   refine Cr (z := Value.agg #[.int .i64 0, .int .i64 0]) (cs := [.int .i64 x4.1, .int .i64 x4.2.1, .int .i64 x4.2.2.1, .int .i64 x4.2.2.2.1]) HH ([(x4.1, x4.2.1), (x4.2.2.1, x4.2.2.2.1)] : List (Int × Int)) F W Aa Qz QY Aa Aa Aa Aa Aa Aa (Rb.repL _ _ ([(x4.1, x4.2.1), (x4.2.2.1, x4.2.2.2.1)] : List (Int × Int))) fun v5 a w F W => ?_
   obtain ⟨x5, h2, H⟩ := Am H
   refine DM (r := HH) (i := 1) F W Aa Qz Aa Aa Aa Aa (DP W 0 Aa) h2 Aa fun v6 a w F W => ?_
   have W : Stw ⟨Y, [], w0⟩ [(b2, [.int .i64 x4.1, .int .i64 x4.2.1, .int .i64 x4.2.2.1, .int .i64 x4.2.2.2.1, .int .i64 x4.2.2.2.2.1, .int .i64 x4.2.2.2.2.2]), (b1, [.int .i64 p0.1, v1, v2])] [row v6 73 HH x5, row v5 73 HH ([(x4.1, x4.2.1), (x4.2.2.1, x4.2.2.2.1)] : List (Int × Int))] w := W
   refine ls F W Aa (Ae F Aa).q fun a w F W => ?_
   refine Ad (AR (Ac (Ab ?_)))
   refine ls F W Aa (BB F Aa Aa Aa).q fun a w F W => ?_
   refine ls F W Aa (Af F Aa).q fun a w F W => ?_
   refine Ad (Ac ?_)
   have W := W.frontM (i := 1) Aa Aa
   have W := W.sub (M' := [(b1, [.int .i64 p0.1, v1, v2])]) (Z' := [row v6 73 HH x5]) (List.Sublist.cons_cons _ (List.nil_sublist _)) (List.Sublist.cons_cons _ (List.nil_sublist _))
   exact ⟨_, H, (v6), F.re ⟨rfl, Aa, Aa, Aa, Aa, Aa, trivial⟩, W⟩
  have H := AN (Bk hb) H
  rw [hb] at F
  clear hb
  refine Ba ?_
  iterate 2 refine Br ?_
  refine Bb (Ac ?_)
  have H := L2 _ H
  exact ⟨_, (v4), H, F.re ⟨rfl, Aa, Aa, trivial⟩, W⟩
 rintro a w ⟨x1, v3, hj, F, W⟩
 have hj := AP hj
 subst hj
 have H := K1
 clear G1 K1
 obtain ⟨o3, G3, K3⟩ := Am H
 refine AJ (fun a w => ∃ x6 : List (Int × Int), ∃ v7 : Value, some (x6) = some o3 ∧ Fr 46 [] [(2, .slice none 0 0), (3, v7)] a ∧ Stw ⟨Y, [], w0⟩ [(b1, [.int .i64 p0.1, v1, v2])] [row v7 73 HH x6] w) ?_ ?_
 ·
  have H := G3
  clear G3 K3
  refine Ah (Ab ?_)
  refine ls F W Aa (Ai CC Aa Aa Aa Gy F Aa 2 Aa).q fun a w F W => ?_
  refine ls F W Aa (An (v := v2) 0 F Aa Aa Gy Aa).q fun a w F W => ?_
  refine ls F W Aa (Bh (r := Ep) (l := p0.2.2) IG Aa F Aa (Ak h_v2)).q fun a w F W => ?_
  refine ls F W Aa (Af F Aa).q fun a w F W => ?_
  refine Ad (Ac (As ?_))
  refine A4 H (fun s a w => ∃ v8 : Value, Fr 46 [] [(2, .slice none 0 0), (3, v8), (30, v2), (31, .int .i64 (p0.2.2.length : Int)), (32, .int .i64 s.2)] a ∧ Stw ⟨Y, [], w0⟩ [(b1, [.int .i64 p0.1, v1, v2])] [row v8 73 HH s.1] w) ⟨(v3), F.re ⟨rfl, Aa, Aa, Aa, Aa, trivial⟩, W⟩ fun s o a w H L4 hR => ?_
  obtain ⟨x7, x8⟩ := s
  obtain ⟨v8, F, W⟩ := hR
  have F : Fr 46 [] [(2, .slice none 0 0), (3, v8), (30, v2), (31, .int .i64 (p0.2.2.length : Int)), (32, .int .i64 x8)] a := F
  have W : Stw ⟨Y, [], w0⟩ [(b1, [.int .i64 p0.1, v1, v2])] [row v8 73 HH x7] w := W
  rw [B3] at H
  refine Ah (Ab ?_)
  refine ls F W Aa (Bg F Aa Aa).q fun a w F W => ?_
  refine Ad (Ac (Ah ?_))
  refine Aw F Aa (fun hb => ?_) fun hb => ?_
  ·
   have H := AM (Bj hb) H
   rw [hb] at F
   clear hb
   refine Aq (Ac (Ah (As (Ah (Ab ?_)))))
   obtain ⟨x9, h3, H⟩ := Am H
   refine ls F W Aa (AK (r := Ep) Pl F Aa Aa (Ak h_v2) h3).q fun a w F W => ?_
   refine ls F W Aa (Ay (y := Value.agg #[.int .i64 x9.1, .int .i64 x9.2]) (j := 0) (i := x8) F Aa Aa (Ak h_v2) h3 Po.to QX Aa).q fun a w F W => ?_
   refine CB (cs := [.int .i64 0, .int .i64 0]) F W Aa RG Aa fun b3 a w F W => ?_
   refine C4 (vs := [.int .i64 x9.1, .int .i64 x9.2]) (M' := [(b3, [.int .i64 x9.1, .int .i64 x9.2]), (b1, [.int .i64 p0.1, v1, v2])]) 0 F W Aa Aa Aa QX Aa Aa Aa Aa Aa fun w W => ?_
   refine Ad (Ac (Ab ?_))
   refine ls F W Aa (Af F Aa).q fun a w F W => ?_
   refine ls F W Aa (Ai JQ Aa Aa Aa T3 F Aa 0 Aa).q fun a w F W => ?_
   refine ls F W Aa (An (v := Value.int .i64 x9.1) 0 F Aa Aa T3 Aa).q fun a w F W => ?_
   refine ls F W Aa (Ai JQ Aa Aa Aa T3 F Aa 1 Aa).q fun a w F W => ?_
   refine ls F W Aa (An (v := Value.int .i64 x9.2) 0 F Aa Aa T3 Aa).q fun a w F W => ?_
   refine ls F W Aa (Dr (v := Value.agg #[.int .i64 x9.1, .int .i64 x9.2]) Qx F Aa Aa Aa).q fun a w F W => ?_
   refine Cr (z := Value.agg #[.int .i64 0, .int .i64 0]) (cs := [.int .i64 x9.1, .int .i64 x9.2]) HH ([x9] : List (Int × Int)) F W Aa Qz QY Aa Aa Aa Aa Aa Aa (Rb.repL _ _ ([x9] : List (Int × Int))) fun v9 a w F W => ?_
   obtain ⟨x10, h4, H⟩ := Am H
   refine DM (r := HH) (i := 1) F W Aa Qz Aa Aa Aa Aa (DP W 0 Aa) h4 Aa fun v10 a w F W => ?_
   have W : Stw ⟨Y, [], w0⟩ [(b3, [.int .i64 x9.1, .int .i64 x9.2]), (b1, [.int .i64 p0.1, v1, v2])] [row v10 73 HH x10, row v9 73 HH ([x9] : List (Int × Int))] w := W
   refine ls F W Aa (Ae F Aa).q fun a w F W => ?_
   refine Ad (AR (Ac (Ab ?_)))
   refine ls F W Aa (BB F Aa Aa Aa).q fun a w F W => ?_
   refine ls F W Aa (Af F Aa).q fun a w F W => ?_
   refine Ad (Ac ?_)
   have W := W.frontM (i := 1) Aa Aa
   have W := W.sub (M' := [(b1, [.int .i64 p0.1, v1, v2])]) (Z' := [row v10 73 HH x10]) (List.Sublist.cons_cons _ (List.nil_sublist _)) (List.Sublist.cons_cons _ (List.nil_sublist _))
   exact ⟨_, H, (v10), F.re ⟨rfl, Aa, Aa, Aa, Aa, trivial⟩, W⟩
  have H := AN (Bk hb) H
  rw [hb] at F
  clear hb
  refine Ba ?_
  iterate 2 refine Br ?_
  refine Bb (Ac ?_)
  have H := L4 _ H
  exact ⟨_, (v8), H, F.re ⟨rfl, Aa, trivial⟩, W⟩
 rintro a w ⟨x6, v7, hj, F, W⟩
 have hj := AP hj
 subst hj
 have H := K3
 clear G3 K3
 refine Ah (Ab ?_)
 refine ls F W Aa (Af F Aa).q fun a w F W => ?_
 refine ls F W Aa (Ae F Aa).q fun a w F W => ?_
 refine Ad (Ac (Av ?_))
 have H := AP H
 subst H
 refine AQ (.inl Aa) F W Aa (Ap F Aa) ?_
 have W := W.sub (M' := []) (Z' := [row v7 73 HH x6]) (List.nil_sublist _) (List.Sublist.refl _)
 exact ⟨(v7), Aa, W⟩
theorem LS : type_of% Try.underlying3 := Try.underlying3
theorem Re : type_of% Try.underlying74 := Try.underlying74
theorem RZ : Has Try.prog 34 := ⟨fun args w => Aj Try.func34 rfl (by decide) args w⟩
theorem Qr : Ty Try.prog 73 true 2 := ⟨by kernel_rfl, by kernel_rfl⟩
theorem Q3 (dd : Nat) (x0 : Int) (x1 : Int) (y0 : Int) (y1 : Int) (w : World) : (Op.equalIn (dd + 2) 73 (.agg #[.int .i64 x0, .int .i64 x1]) (.agg #[.int .i64 y0, .int .i64 y1])).run Try.prog w = .ok (decide (x0 = y0 ∧ x1 = y1)) w :=
  J5 (d := dd + 1) (rs := [decide (x0 = y0), decide (x1 = y1)]) K6 (by kernel_rfl) ⟨rfl, IR (d := dd + 0) rfl rfl LS T3 rfl rfl, rfl, IR (d := dd + 0) rfl rfl LS T3 rfl rfl, trivial⟩ (by simp) w
theorem RJ : Try.prog.eqGuardType Try.prog.depth 73 = false := by kernel_rfl
theorem Rj (x0 : Int) (x1 : Int) (y0 : Int) (y1 : Int) (w : World) : (Op.equalIn 10000 73 (.agg #[.int .i64 x0, .int .i64 x1]) (.agg #[.int .i64 y0, .int .i64 y1])).run Try.prog w = .ok (decide (x0 = y0 ∧ x1 = y1)) w := Q3 9998 x0 x1 y0 y1 w
theorem QK : KeyEnc Try.prog 73 Hm := ⟨⟨_, K6, .inl fun _ _ => rfl⟩, fun x y w => (Rj x.1 x.2 y.1 y.2 w).trans (by congr 1; exact decide_eq_decide.2 (by simp only [Prod.ext_iff])), fun b x w => IF (m := 9999) (cs := List.toArray [.int .i64 x.1, .int .i64 x.2]) K6 ⟨⟨_, KO T3 rfl, FT (m := 9998) LS⟩, ⟨_, KO T3 rfl, FT (m := 9998) LS⟩, trivial⟩ b w, fun x => by simp [Instr.sameBits]⟩
theorem RU : (Try.prog.info? 74).bind (·.zero) = some (.agg #[]) := by kernel_rfl
theorem SM : Ty Try.prog 74 true 0 := ⟨by kernel_rfl, by kernel_rfl⟩
theorem Sg : Bt Try.prog 74 [] [] := ⟨⟨.agg #[], by kernel_rfl, rfl⟩, ⟨_, Re, fun w => by kernel_rfl⟩⟩
def Bf (p0 : Int × Int × Int × Int × Int × Int) : Bool := (decide (p0.1 = p0.2.2.1) || (decide (p0.2.2.2.2.1 < 1) || (decide (p0.2.2.2.2.2 < p0.2.2.2.2.1) || decide (1000 < p0.2.2.2.2.2))))
theorem HX (Y : Nat → Prop) (w0 : World)  (p0 : Int × Int × Int × Int × Int × Int) (r : Bool) (H : Bf p0 = r)  :
    Calls Try.prog 36 #[.agg #[.int .i64 p0.1, .int .i64 p0.2.1, .int .i64 p0.2.2.1, .int .i64 p0.2.2.2.1, .int .i64 p0.2.2.2.2.1, .int .i64 p0.2.2.2.2.2]] w0 fun e w' => e = .returned (.bool r) ∧ Below w0.heap.size w0 w' := by
 refine enter Try.func36 Aa Try.ntmps36 Aa fun a F => ?_
 have W := Stw.start Y w0
 unfold Bf at H
 refine Ah (Ab ?_)
 refine C5 (cs := [.int .i64 p0.1, .int .i64 p0.2.1, .int .i64 p0.2.2.1, .int .i64 p0.2.2.2.1, .int .i64 p0.2.2.2.2.1, .int .i64 p0.2.2.2.2.2]) F W Aa Aa Aa fun b1 a w F W => ?_
 refine ls F W Aa (Ae F Aa).q fun a w F W => ?_
 refine Ad (Ac ?_)
 refine AJ (fun a w => Fr 25 [] [(2, .bool (decide (p0.1 = p0.2.2.1) || (decide (p0.2.2.2.2.1 < 1) || (decide (p0.2.2.2.2.2 < p0.2.2.2.2.1) || decide (1000 < p0.2.2.2.2.2)))))] a ∧ Stw ⟨Y, [], w0⟩ [(b1, [.int .i64 p0.1, .int .i64 p0.2.1, .int .i64 p0.2.2.1, .int .i64 p0.2.2.2.1, .int .i64 p0.2.2.2.2.1, .int .i64 p0.2.2.2.2.2])] [] w) ?_ ?_
 ·
  refine Ab ?_
  refine ls F W Aa (Ai CQ Aa Aa Aa T3 F Aa 0 Aa).q fun a w F W => ?_
  refine ls F W Aa (An (v := Value.int .i64 p0.1) 0 F Aa Aa T3 Aa).q fun a w F W => ?_
  refine ls F W Aa (Ai CQ Aa Aa Aa T3 F Aa 2 Aa).q fun a w F W => ?_
  refine ls F W Aa (An (v := Value.int .i64 p0.2.2.1) 0 F Aa Aa T3 Aa).q fun a w F W => ?_
  refine ls F W Aa (DO F Aa Aa).q fun a w F W => ?_
  refine ls F W Aa (Af F Aa).q fun a w F W => ?_
  rcases Bool.eq_false_or_eq_true (decide (p0.1 = p0.2.2.1)) with hb0 | hb0
  ·
   rw [hb0] at F
   iterate 3 refine Cd F Aa Aa Aa Aa Aa Aa Aa fun a F => ?_
   refine ls F W Aa (Ao F Aa Aa Aa).q fun a w F W => ?_
   refine ls F W Aa (Af F Aa).q fun a w F W => ?_
   iterate 5 refine Cd F Aa Aa Aa Aa Aa Aa Aa fun a F => ?_
   refine ls F W Aa (Ao F Aa Aa Aa).q fun a w F W => ?_
   refine ls F W Aa (Af F Aa).q fun a w F W => ?_
   iterate 3 refine Cd F Aa Aa Aa Aa Aa Aa Aa fun a F => ?_
   refine ls F W Aa (Ao F Aa Aa Aa).q fun a w F W => ?_
   refine ls F W Aa (Ae F Aa).q fun a w F W => ?_
   refine Ad (Ac ?_)
   exact ⟨F.re ⟨(by show some (Value.bool true) = some (Value.bool (decide (p0.1 = p0.2.2.1) || (decide (p0.2.2.2.2.1 < 1) || (decide (p0.2.2.2.2.2 < p0.2.2.2.2.1) || decide (1000 < p0.2.2.2.2.2))))); try rw [hb0]; all_goals simp only [Bool.not_true, Bool.not_false, Bool.true_and, Bool.false_and, Bool.true_or, Bool.false_or, Bool.and_true, Bool.or_false, cond_true, cond_false]), trivial⟩, W⟩
  rw [hb0] at F
  refine AF F W (Ag F Aa Aa Aa Aa) Aa (Al Aa) (Ai CQ Aa Aa Aa T3 F Aa 4 Aa).q fun a w F W => ?_
  refine AF F W (Ag F Aa Aa Aa Aa) Aa (Al Aa) (An (v := Value.int .i64 p0.2.2.2.2.1) 0 F Aa Aa T3 Aa).q fun a w F W => ?_
  refine AF F W (Ag F Aa Aa Aa Aa) Aa (Al Aa) (Bg F Aa Aa).q fun a w F W => ?_
  refine ls F W Aa (Au F Aa Aa Aa).q fun a w F W => ?_
  refine ls F W Aa (Af F Aa).q fun a w F W => ?_
  rcases Bool.eq_false_or_eq_true (decide (p0.2.2.2.2.1 < 1)) with hb1 | hb1
  ·
   rw [hb1] at F
   iterate 5 refine Cd F Aa Aa Aa Aa Aa Aa Aa fun a F => ?_
   refine ls F W Aa (Ao F Aa Aa Aa).q fun a w F W => ?_
   refine ls F W Aa (Af F Aa).q fun a w F W => ?_
   iterate 3 refine Cd F Aa Aa Aa Aa Aa Aa Aa fun a F => ?_
   refine ls F W Aa (Ao F Aa Aa Aa).q fun a w F W => ?_
   refine ls F W Aa (Ae F Aa).q fun a w F W => ?_
   refine Ad (Ac ?_)
   exact ⟨F.re ⟨(by show some (Value.bool true) = some (Value.bool (decide (p0.1 = p0.2.2.1) || (decide (p0.2.2.2.2.1 < 1) || (decide (p0.2.2.2.2.2 < p0.2.2.2.2.1) || decide (1000 < p0.2.2.2.2.2))))); try rw [hb1]; try rw [hb0]; all_goals simp only [Bool.not_true, Bool.not_false, Bool.true_and, Bool.false_and, Bool.true_or, Bool.false_or, Bool.and_true, Bool.or_false, cond_true, cond_false]), trivial⟩, W⟩
  rw [hb1] at F
  refine AF F W (Ag F Aa Aa Aa Aa) Aa (Al Aa) (Ai CQ Aa Aa Aa T3 F Aa 5 Aa).q fun a w F W => ?_
  refine AF F W (Ag F Aa Aa Aa Aa) Aa (Al Aa) (An (v := Value.int .i64 p0.2.2.2.2.2) 0 F Aa Aa T3 Aa).q fun a w F W => ?_
  refine AF F W (Ag F Aa Aa Aa Aa) Aa (Al Aa) (Ai CQ Aa Aa Aa T3 F Aa 4 Aa).q fun a w F W => ?_
  refine AF F W (Ag F Aa Aa Aa Aa) Aa (Al Aa) (An (v := Value.int .i64 p0.2.2.2.2.1) 0 F Aa Aa T3 Aa).q fun a w F W => ?_
  refine AF F W (Ag F Aa Aa Aa Aa) Aa (Al Aa) (Bg F Aa Aa).q fun a w F W => ?_
  refine ls F W Aa (Au F Aa Aa Aa).q fun a w F W => ?_
  refine ls F W Aa (Af F Aa).q fun a w F W => ?_
  rcases Bool.eq_false_or_eq_true (decide (p0.2.2.2.2.2 < p0.2.2.2.2.1)) with hb2 | hb2
  ·
   rw [hb2] at F
   iterate 3 refine Cd F Aa Aa Aa Aa Aa Aa Aa fun a F => ?_
   refine ls F W Aa (Ao F Aa Aa Aa).q fun a w F W => ?_
   refine ls F W Aa (Ae F Aa).q fun a w F W => ?_
   refine Ad (Ac ?_)
   exact ⟨F.re ⟨(by show some (Value.bool true) = some (Value.bool (decide (p0.1 = p0.2.2.1) || (decide (p0.2.2.2.2.1 < 1) || (decide (p0.2.2.2.2.2 < p0.2.2.2.2.1) || decide (1000 < p0.2.2.2.2.2))))); try rw [hb2]; try rw [hb1]; try rw [hb0]; all_goals simp only [Bool.not_true, Bool.not_false, Bool.true_and, Bool.false_and, Bool.true_or, Bool.false_or, Bool.and_true, Bool.or_false, cond_true, cond_false]), trivial⟩, W⟩
  rw [hb2] at F
  refine AF F W (Ag F Aa Aa Aa Aa) Aa (Al Aa) (Ai CQ Aa Aa Aa T3 F Aa 5 Aa).q fun a w F W => ?_
  refine AF F W (Ag F Aa Aa Aa Aa) Aa (Al Aa) (An (v := Value.int .i64 p0.2.2.2.2.2) 0 F Aa Aa T3 Aa).q fun a w F W => ?_
  refine AF F W (Ag F Aa Aa Aa Aa) Aa (Al Aa) (DI F Aa Aa).q fun a w F W => ?_
  refine ls F W Aa (Au F Aa Aa Aa).q fun a w F W => ?_
  refine ls F W Aa (Ae F Aa).q fun a w F W => ?_
  refine Ad (Ac ?_)
  exact ⟨F.re ⟨(by show some (Value.bool (decide (1000 < p0.2.2.2.2.2))) = some (Value.bool (decide (p0.1 = p0.2.2.1) || (decide (p0.2.2.2.2.1 < 1) || (decide (p0.2.2.2.2.2 < p0.2.2.2.2.1) || decide (1000 < p0.2.2.2.2.2))))); try rw [hb2]; try rw [hb1]; try rw [hb0]; all_goals simp only [Bool.not_true, Bool.not_false, Bool.true_and, Bool.false_and, Bool.true_or, Bool.false_or, Bool.and_true, Bool.or_false, cond_true, cond_false]), trivial⟩, W⟩
 rintro a w ⟨F, W⟩
 refine Av ?_
 subst H
 refine AQ (.inl Aa) F W Aa (Ap F Aa) ?_
 exact ⟨rfl, W.done⟩
theorem Sk : Has Try.prog 36 := ⟨fun args w => Aj Try.func36 rfl (by decide) args w⟩
noncomputable def AD (p0 : List (Int × Int × Int × Int × Int × Int)) : Int → Option (Int ⊕ (Unit ⊕ Int))
  | x1 => (if x1 < (p0.length : Int) then (ix p0 x1).bind fun x2 => (if (Bf x2) = true then some (.inr (.inr x1)) else some (.inl (BV (x1 + 1)))) else some (.inr (.inl ())))
noncomputable def A2 (p0 : List (Int × Int × Int × Int × Int × Int)) : Option Int := Fv (AA (AD p0) 0) fun _ => some (-1)
theorem DF (Y : Nat → Prop) (w0 : World) (v1 : Value) (p0 : List (Int × Int × Int × Int × Int × Int)) (r : Int) (H : A2 p0 = some r) (h_v1 : Sl w0 (NX []) Ev v1 p0) :
    Calls Try.prog 53 #[v1, .func (.func 36) #[] #[]] w0 fun e w' => e = .returned (.int .i64 r) ∧ Below w0.heap.size w0 w' := by
 refine enter Try.func53 Aa Try.ntmps53 Aa fun a F => ?_
 have W := Stw.start Y w0
 unfold A2 at H
 refine Ah (Ab ?_)
 refine ls F W Aa (Ae F Aa).q fun a w F W => ?_
 refine Ad (Ac ?_)
 obtain ⟨o1, G1, K1, L1⟩ := KJ H
 refine AJ (fun a w => some (Sum.inl ()) = some o1 ∧ Fr 19 [] [(4, .int .i64 0)] a ∧ Stw ⟨Y, [], w0⟩ [] [] w) ?_ ?_
 ·
  have H := G1
  clear G1 K1
  refine Ah (Ab ?_)
  refine ls F W Aa (Af F Aa).q fun a w F W => ?_
  refine ls F W Aa (Bh (r := Ev) (l := p0) IC Aa F Aa (Ak h_v1)).q fun a w F W => ?_
  refine ls F W Aa (Af F Aa).q fun a w F W => ?_
  refine Ad (Ac (As ?_))
  refine A4 H (fun s a w => Fr 19 [] [(0, v1), (1, .func (.func 36) #[] #[]), (4, .int .i64 0), (7, .int .i64 (p0.length : Int)), (8, .int .i64 s)] a ∧ Stw ⟨Y, [], w0⟩ [] [] w) ⟨F.re ⟨rfl, Aa, Aa, Aa, Aa, trivial⟩, W⟩ fun s o a w H L2 hR => ?_
  obtain ⟨x1, rfl⟩ : ∃ x, x = s := ⟨s, rfl⟩
  obtain ⟨F, W⟩ := hR
  have F : Fr 19 [] [(0, v1), (1, .func (.func 36) #[] #[]), (4, .int .i64 0), (7, .int .i64 (p0.length : Int)), (8, .int .i64 x1)] a := F
  have W : Stw ⟨Y, [], w0⟩ [] [] w := W
  rw [AD] at H
  refine Ah (Ab ?_)
  refine ls F W Aa (Bg F Aa Aa).q fun a w F W => ?_
  refine Ad (Ac (Ah ?_))
  refine Aw F Aa (fun hb => ?_) fun hb => ?_
  ·
   have H := AM (Bj hb) H
   rw [hb] at F
   clear hb
   refine Aq (Ac (Ah (As (Ah (Ab ?_)))))
   refine ls F W Aa (Af F Aa).q fun a w F W => ?_
   refine ls F W Aa (Ae F Aa).q fun a w F W => ?_
   refine Ad (Ac (Ah (Ab ?_)))
   iterate 3 refine ls F W Aa (Af F Aa).q fun a w F W => ?_
   obtain ⟨x2, h1, H⟩ := Am H
   refine ls F W Aa (AK (r := Ev) P9 F Aa Aa (Ak h_v1) h1).q fun a w F W => ?_
   refine ls F W Aa (Ay (y := Value.agg #[.int .i64 x2.1, .int .i64 x2.2.1, .int .i64 x2.2.2.1, .int .i64 x2.2.2.2.1, .int .i64 x2.2.2.2.2.1, .int .i64 x2.2.2.2.2.2]) (j := 0) (i := x1) F Aa Aa (Ak h_v1) h1 P1.to OW Aa).q fun a w F W => ?_
   refine ls F W Aa (IM (ws := [.agg #[.int .i64 x2.1, .int .i64 x2.2.1, .int .i64 x2.2.2.1, .int .i64 x2.2.2.2.1, .int .i64 x2.2.2.2.2.1, .int .i64 x2.2.2.2.2.2]]) (v := Value.bool (Bf x2)) F Sk Aa (fun w W => HX any w x2 _ Aa)) fun a w F W => ?_
   refine Ad (Ac ?_)
   refine Aw F Aa (fun hb => ?_) fun hb => ?_
   ·
    have H := AM hb H
    rw [hb] at F
    clear hb
    refine Ah (Ab ?_)
    refine ls F W Aa (Af F Aa).q fun a w F W => ?_
    refine ls F W Aa (Ae F Aa).q fun a w F W => ?_
    refine Ad (Ac (Av (AU ?_)))
    iterate 2 refine AH ?_
    refine AU (AH ?_)
    have H := L2 _ H
    have H := L1 _ H
    have H := AP H
    subst H
    refine AQ (.inl Aa) F W Aa (Ap F Aa) ?_
    exact ⟨rfl, W.done⟩
   have H := AN (by rw [hb]; decide) H
   rw [hb] at F
   clear hb
   refine Aq (AR (Ac (Ab ?_)))
   refine ls F W Aa (BB F Aa Aa Aa).q fun a w F W => ?_
   refine ls F W Aa (Af F Aa).q fun a w F W => ?_
   refine Ad (Ac ?_)
   exact ⟨_, H, F.re ⟨rfl, Aa, Aa, Aa, Aa, trivial⟩, W⟩
  have H := AN (Bk hb) H
  rw [hb] at F
  clear hb
  refine Ba ?_
  iterate 2 refine Br ?_
  refine Bb (Ac ?_)
  have H := L2 _ H
  exact ⟨H, F.re ⟨rfl, trivial⟩, W⟩
 rintro a w ⟨hj, F, W⟩
 have H := K1 _ hj
 clear hj G1 K1 L1
 refine Ah (Ab ?_)
 refine ls F W Aa (Ae F Aa).q fun a w F W => ?_
 refine Ad (Ac (Av ?_))
 have H := AP H
 subst H
 refine AQ (.inl Aa) F W Aa (Ap F Aa) ?_
 exact ⟨rfl, W.done⟩
theorem ST : Has Try.prog 53 := ⟨fun args w => Aj Try.func53 rfl (by decide) args w⟩
noncomputable def AS (p0 : List (Int × Int × Int × Int × Int × Int)) : Option Bool := (A2 p0).bind fun x1 => some (decide (0 ≤ x1))
theorem C7 (Y : Nat → Prop) (w0 : World) (v1 : Value) (p0 : List (Int × Int × Int × Int × Int × Int)) (r : Bool) (H : AS p0 = some r) (h_v1 : Sl w0 (NX []) Ev v1 p0) :
    Calls Try.prog 35 #[v1, .func (.func 36) #[] #[]] w0 fun e w' => e = .returned (.bool r) ∧ Below w0.heap.size w0 w' := by
 refine enter Try.func35 Aa Try.ntmps35 Aa fun a F => ?_
 have W := Stw.start Y w0
 unfold AS at H
 refine Ah (Ab ?_)
 refine ls F W Aa (Ae F Aa).q fun a w F W => ?_
 refine Ad (Ac (Ah (Ab ?_)))
 iterate 2 refine ls F W Aa (Af F Aa).q fun a w F W => ?_
 obtain ⟨x1, h1, H⟩ := Am H
 refine ls F W Aa (AW (v := Value.int .i64 x1) F ST Aa (fun w W => DF any w (v1) p0 _ h1 (((Ak h_v1) : CE _ _ _ _ _ _) w W).nx)) fun a w F W => ?_
 refine ls F W Aa (Ei F Aa Aa).q fun a w F W => ?_
 refine ls F W Aa (Ae F Aa).q fun a w F W => ?_
 refine Ad (Ac (Av ?_))
 have H := AP H
 subst H
 refine AQ (.inl Aa) F W Aa (Ap F Aa) ?_
 exact ⟨rfl, W.done⟩
end Go.Proofs.Ytieebnllkjmjiaa
