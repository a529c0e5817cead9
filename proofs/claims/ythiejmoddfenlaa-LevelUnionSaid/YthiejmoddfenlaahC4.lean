/- The functions of layer 23, HZ. Conditions: none. -/
import Derived.Test.YthiejmoddfenlaahC3
namespace Go.Proofs.Ythiejmoddfenlaa
open Go Go.RowKit
set_option linter.unusedVariables false
set_option linter.unusedSimpArgs false
set_option maxRecDepth 20000
theorem RS : type_of% Try.underlying39 := Try.underlying39
theorem NH : type_of% Try.underlying45 := Try.underlying45
theorem Tt : Has Try.prog 14 := ⟨fun args w => Al Try.func14 rfl (by decide) args w⟩
theorem TM : Bt Try.prog 45 [.int .i64 0, .int .i64 0] [(0, 1), (1, 1)] := ⟨⟨.agg #[.int .i64 0, .int .i64 0], by kernel_rfl, rfl⟩, ⟨_, NH, fun w => by kernel_rfl⟩⟩
theorem SC : (Try.prog.info? 45).bind (·.zero) = some (.agg #[.int .i64 0, .int .i64 0]) := by kernel_rfl
abbrev JT : Rp (Int × Int) := (Rp.pair (Rp.int .i64) (Rp.int .i64))
def Uc (a : Int × Int) : List Value := [.int .i64 a.1, .int .i64 a.2]
theorem SX : Fl JT Uc := (Fl.pair Fl.int Fl.int)
theorem Sy : Et Try.prog 39 45 2 16 := Et.of RS (by kernel_rfl) (by kernel_rfl) (by kernel_rfl) (by decide)
theorem Ss : Ty Try.prog 45 true 2 := ⟨by kernel_rfl, by kernel_rfl⟩
noncomputable def GT (p0 : Int) (p1 : List (Int × Int)) : Int → Option (Int ⊕ (Unit ⊕ Bool))
  | x1 => (if x1 < (p1.length : Int) then (ix p1 x1).bind fun x2 => (if (decide (x2.1 < 0) || (decide (p0 ≤ x2.1) || (decide (x2.2 < 0) || decide (p0 ≤ x2.2)))) = true then some (.inr (.inr false)) else some (.inl (AB (x1 + 1)))) else some (.inr (.inl ())))
noncomputable def Hn (p0 : Int) (p1 : List (Int × Int)) : Option Bool := (if (decide (p0 < 0) || decide (16 < p0)) = true then some false else FB (AG (GT p0 p1) 0) fun _ => some true)
theorem Mf (Y : Nat → Prop) (w0 : World) (v1 : Value) (p0 : Int) (p1 : List (Int × Int)) (r : Bool) (H : Hn p0 p1 = some r) (h_v1 : Sl w0 (NX []) JT v1 p1) :
    Calls Try.prog 35 #[.int .i64 p0, v1] w0 fun e w' => e = .returned (.bool r) ∧ Below w0.heap.size w0 w' := by
 refine enter Try.func35 Aa Try.ntmps35 Aa fun a F => ?_
 have W := Stw.start Y w0
 unfold Hn at H
 refine Ah (Ac ?_)
 refine ls F W Aa (Ag F Aa).q fun a w F W => ?_
 refine Ae (Ab (Ah ?_))
 refine AM (fun a w => Fr 40 [] [(0, .int .i64 p0), (1, v1), (4, .bool false), (12, .bool (decide (p0 < 0) || decide (16 < p0)))] a ∧ Stw ⟨Y, [], w0⟩ [] [] w) ?_ ?_
 ·
  refine Ac ?_
  refine ls F W Aa (Ad F Aa).q fun a w F W => ?_
  refine ls F W Aa (Bu F Aa Aa).q fun a w F W => ?_
  refine ls F W Aa (Ad F Aa).q fun a w F W => ?_
  rcases Bool.eq_false_or_eq_true (decide (p0 < 0)) with hb0 | hb0
  ·
   rw [hb0] at F
   iterate 2 refine Dd F Aa Aa Aa Aa Aa Aa Aa fun a F => ?_
   refine ls F W Aa (Aq F Aa Aa Aa).q fun a w F W => ?_
   refine Ae (Ab ?_)
   exact ⟨F.re ⟨rfl, Aa, Aa, (by show some (Value.bool true) = some (Value.bool (decide (p0 < 0) || decide (16 < p0))); try rw [hb0]; all_goals simp only [Bool.not_true, Bool.not_false, Bool.true_and, Bool.false_and, Bool.true_or, Bool.false_or, Bool.and_true, Bool.or_false, cond_true, cond_false]), trivial⟩, W⟩
  rw [hb0] at F
  refine AJ F W (Af F Aa Aa Aa Aa) Aa (Ai Aa) (Ad F Aa).q fun a w F W => ?_
  refine AJ F W (Af F Aa Aa Aa Aa) Aa (Ai Aa) (Ga F Aa Aa).q fun a w F W => ?_
  refine ls F W Aa (Az F Aa Aa Aa).q fun a w F W => ?_
  refine Ae (Ab ?_)
  exact ⟨F.re ⟨rfl, Aa, Aa, (by show some (Value.bool (decide (16 < p0))) = some (Value.bool (decide (p0 < 0) || decide (16 < p0))); try rw [hb0]; all_goals simp only [Bool.not_true, Bool.not_false, Bool.true_and, Bool.false_and, Bool.true_or, Bool.false_or, Bool.and_true, Bool.or_false, cond_true, cond_false]), trivial⟩, W⟩
 rintro a w ⟨F, W⟩
 refine AA F Aa (fun hb => ?_) fun hb => ?_
 ·
  have H := AS hb H
  rw [hb] at F
  clear hb
  refine Ah (Ac ?_)
  refine ls F W Aa (Ag F Aa).q fun a w F W => ?_
  refine Ae (Ab (AF (AH ?_)))
  have H := AV H
  subst H
  refine BK (.inl Aa) F W Aa (Ay F Aa) ?_
  exact ⟨rfl, W.done⟩
 have H := AR (by rw [hb]; decide) H
 rw [hb] at F
 clear hb
 refine Av (Ab ?_)
 obtain ⟨o1, G1, K1, L1⟩ := Jx H
 refine AM (fun a w => some (Sum.inl ()) = some o1 ∧ Fr 40 [] [(4, .bool false)] a ∧ Stw ⟨Y, [], w0⟩ [] [] w) ?_ ?_
 ·
  have H := G1
  clear G1 K1
  refine Ah (Ac ?_)
  refine ls F W Aa (Ad F Aa).q fun a w F W => ?_
  refine ls F W Aa (B0 (r := JT) (l := p1) RS Aa F Aa (Am h_v1)).q fun a w F W => ?_
  refine ls F W Aa (Ad F Aa).q fun a w F W => ?_
  refine Ae (Ab (As ?_))
  refine Bb H (fun s a w => Fr 40 [] [(0, .int .i64 p0), (4, .bool false), (13, v1), (14, .int .i64 (p1.length : Int)), (15, .int .i64 s)] a ∧ Stw ⟨Y, [], w0⟩ [] [] w) ⟨F.re ⟨rfl, Aa, Aa, Aa, Aa, trivial⟩, W⟩ fun s o a w H L2 hR => ?_
  obtain ⟨x1, rfl⟩ : ∃ x, x = s := ⟨s, rfl⟩
  obtain ⟨F, W⟩ := hR
  have F : Fr 40 [] [(0, .int .i64 p0), (4, .bool false), (13, v1), (14, .int .i64 (p1.length : Int)), (15, .int .i64 x1)] a := F
  have W : Stw ⟨Y, [], w0⟩ [] [] w := W
  rw [GT] at H
  refine Ah (Ac ?_)
  refine ls F W Aa (Bu F Aa Aa).q fun a w F W => ?_
  refine Ae (Ab (Ah ?_))
  refine AA F Aa (fun hb => ?_) fun hb => ?_
  ·
   have H := AS (BD hb) H
   rw [hb] at F
   clear hb
   refine Av (Ab (Ah (As (Ah (Ac ?_)))))
   obtain ⟨x2, h1, H⟩ := Ak H
   refine ls F W Aa (Ax (r := JT) Sy F Aa Aa (Am h_v1) h1).q fun a w F W => ?_
   refine ls F W Aa (Ao (y := Value.agg #[.int .i64 x2.1, .int .i64 x2.2]) (j := 0) (i := x1) F Aa Aa (Am h_v1) h1 SX.to Ss Aa).q fun a w F W => ?_
   refine DX (cs := [.int .i64 0, .int .i64 0]) F W Aa SC Aa fun b1 a w F W => ?_
   refine DC (vs := [.int .i64 x2.1, .int .i64 x2.2]) (M' := [(b1, [.int .i64 x2.1, .int .i64 x2.2])]) 0 F W Aa Aa Aa Ss Aa Aa Aa Aa Aa fun w W => ?_
   refine Ae (Ab ?_)
   refine AM (fun a w => Fr 40 [] [(0, .int .i64 p0), (4, .bool false), (13, v1), (14, .int .i64 (p1.length : Int)), (15, .int .i64 x1), (38, .bool (decide (x2.1 < 0) || (decide (p0 ≤ x2.1) || (decide (x2.2 < 0) || decide (p0 ≤ x2.2)))))] a ∧ Stw ⟨Y, [], w0⟩ [(b1, [.int .i64 x2.1, .int .i64 x2.2])] [] w) ?_ ?_
   ·
    refine Ac ?_
    refine ls F W Aa (Aj NH Aa Aa Aa T3 F Aa 0 Aa).q fun a w F W => ?_
    refine ls F W Aa (Aw (v := Value.int .i64 x2.1) 0 F Aa Aa T3 Aa).q fun a w F W => ?_
    refine ls F W Aa (Bu F Aa Aa).q fun a w F W => ?_
    refine ls F W Aa (Ad F Aa).q fun a w F W => ?_
    rcases Bool.eq_false_or_eq_true (decide (x2.1 < 0)) with hb0 | hb0
    ·
     rw [hb0] at F
     iterate 4 refine Dd F Aa Aa Aa Aa Aa Aa Aa fun a F => ?_
     refine ls F W Aa (Aq F Aa Aa Aa).q fun a w F W => ?_
     refine ls F W Aa (Ad F Aa).q fun a w F W => ?_
     iterate 3 refine Dd F Aa Aa Aa Aa Aa Aa Aa fun a F => ?_
     refine ls F W Aa (Aq F Aa Aa Aa).q fun a w F W => ?_
     refine ls F W Aa (Ad F Aa).q fun a w F W => ?_
     iterate 4 refine Dd F Aa Aa Aa Aa Aa Aa Aa fun a F => ?_
     refine ls F W Aa (Aq F Aa Aa Aa).q fun a w F W => ?_
     refine Ae (Ab ?_)
     exact ⟨F.re ⟨rfl, Aa, Aa, Aa, Aa, (by show some (Value.bool true) = some (Value.bool (decide (x2.1 < 0) || (decide (p0 ≤ x2.1) || (decide (x2.2 < 0) || decide (p0 ≤ x2.2))))); try rw [hb0]; all_goals simp only [Bool.not_true, Bool.not_false, Bool.true_and, Bool.false_and, Bool.true_or, Bool.false_or, Bool.and_true, Bool.or_false, cond_true, cond_false]), trivial⟩, W⟩
    rw [hb0] at F
    refine AJ F W (Af F Aa Aa Aa Aa) Aa (Ai Aa) (Aj NH Aa Aa Aa T3 F Aa 0 Aa).q fun a w F W => ?_
    refine AJ F W (Af F Aa Aa Aa Aa) Aa (Ai Aa) (Aw (v := Value.int .i64 x2.1) 0 F Aa Aa T3 Aa).q fun a w F W => ?_
    refine AJ F W (Af F Aa Aa Aa Aa) Aa (Ai Aa) (Ad F Aa).q fun a w F W => ?_
    refine AJ F W (Af F Aa Aa Aa Aa) Aa (Ai Aa) (DH F Aa Aa).q fun a w F W => ?_
    refine ls F W Aa (Az F Aa Aa Aa).q fun a w F W => ?_
    refine ls F W Aa (Ad F Aa).q fun a w F W => ?_
    rcases Bool.eq_false_or_eq_true (decide (p0 ≤ x2.1)) with hb1 | hb1
    ·
     rw [hb1] at F
     iterate 3 refine Dd F Aa Aa Aa Aa Aa Aa Aa fun a F => ?_
     refine ls F W Aa (Aq F Aa Aa Aa).q fun a w F W => ?_
     refine ls F W Aa (Ad F Aa).q fun a w F W => ?_
     iterate 4 refine Dd F Aa Aa Aa Aa Aa Aa Aa fun a F => ?_
     refine ls F W Aa (Aq F Aa Aa Aa).q fun a w F W => ?_
     refine Ae (Ab ?_)
     exact ⟨F.re ⟨rfl, Aa, Aa, Aa, Aa, (by show some (Value.bool true) = some (Value.bool (decide (x2.1 < 0) || (decide (p0 ≤ x2.1) || (decide (x2.2 < 0) || decide (p0 ≤ x2.2))))); try rw [hb1]; try rw [hb0]; all_goals simp only [Bool.not_true, Bool.not_false, Bool.true_and, Bool.false_and, Bool.true_or, Bool.false_or, Bool.and_true, Bool.or_false, cond_true, cond_false]), trivial⟩, W⟩
    rw [hb1] at F
    refine AJ F W (Af F Aa Aa Aa Aa) Aa (Ai Aa) (Aj NH Aa Aa Aa T3 F Aa 1 Aa).q fun a w F W => ?_
    refine AJ F W (Af F Aa Aa Aa Aa) Aa (Ai Aa) (Aw (v := Value.int .i64 x2.2) 0 F Aa Aa T3 Aa).q fun a w F W => ?_
    refine AJ F W (Af F Aa Aa Aa Aa) Aa (Ai Aa) (Bu F Aa Aa).q fun a w F W => ?_
    refine ls F W Aa (Az F Aa Aa Aa).q fun a w F W => ?_
    refine ls F W Aa (Ad F Aa).q fun a w F W => ?_
    rcases Bool.eq_false_or_eq_true (decide (x2.2 < 0)) with hb2 | hb2
    ·
     rw [hb2] at F
     iterate 4 refine Dd F Aa Aa Aa Aa Aa Aa Aa fun a F => ?_
     refine ls F W Aa (Aq F Aa Aa Aa).q fun a w F W => ?_
     refine Ae (Ab ?_)
     exact ⟨F.re ⟨rfl, Aa, Aa, Aa, Aa, (by show some (Value.bool true) = some (Value.bool (decide (x2.1 < 0) || (decide (p0 ≤ x2.1) || (decide (x2.2 < 0) || decide (p0 ≤ x2.2))))); try rw [hb1]; try rw [hb0]; try rw [hb2]; all_goals simp only [Bool.not_true, Bool.not_false, Bool.true_and, Bool.false_and, Bool.true_or, Bool.false_or, Bool.and_true, Bool.or_false, cond_true, cond_false]), trivial⟩, W⟩
    rw [hb2] at F
    refine AJ F W (Af F Aa Aa Aa Aa) Aa (Ai Aa) (Aj NH Aa Aa Aa T3 F Aa 1 Aa).q fun a w F W => ?_
    refine AJ F W (Af F Aa Aa Aa Aa) Aa (Ai Aa) (Aw (v := Value.int .i64 x2.2) 0 F Aa Aa T3 Aa).q fun a w F W => ?_
    refine AJ F W (Af F Aa Aa Aa Aa) Aa (Ai Aa) (Ad F Aa).q fun a w F W => ?_
    refine AJ F W (Af F Aa Aa Aa Aa) Aa (Ai Aa) (DH F Aa Aa).q fun a w F W => ?_
    refine ls F W Aa (Az F Aa Aa Aa).q fun a w F W => ?_
    refine Ae (Ab ?_)
    exact ⟨F.re ⟨rfl, Aa, Aa, Aa, Aa, (by show some (Value.bool (decide (p0 ≤ x2.2))) = some (Value.bool (decide (x2.1 < 0) || (decide (p0 ≤ x2.1) || (decide (x2.2 < 0) || decide (p0 ≤ x2.2))))); try rw [hb1]; try rw [hb0]; try rw [hb2]; all_goals simp only [Bool.not_true, Bool.not_false, Bool.true_and, Bool.false_and, Bool.true_or, Bool.false_or, Bool.and_true, Bool.or_false, cond_true, cond_false]), trivial⟩, W⟩
   rintro a w ⟨F, W⟩
   refine AA F Aa (fun hb => ?_) fun hb => ?_
   ·
    have H := AS hb H
    rw [hb] at F
    clear hb
    refine Ah (Ac ?_)
    refine ls F W Aa (Ag F Aa).q fun a w F W => ?_
    refine Ae (Ab (AF (AQ ?_)))
    iterate 2 refine AH ?_
    refine AQ (AH ?_)
    have H := L2 _ H
    have H := L1 _ H
    have H := AV H
    subst H
    refine BK (.inl Aa) F W Aa (Ay F Aa) ?_
    exact ⟨rfl, W.done⟩
   have H := AR (by rw [hb]; decide) H
   rw [hb] at F
   clear hb
   refine Av (AP (Ab (Ac ?_)))
   refine ls F W Aa (BC F Aa Aa Aa).q fun a w F W => ?_
   refine ls F W Aa (Ad F Aa).q fun a w F W => ?_
   refine Ae (Ab ?_)
   have W := W.sub (M' := []) (Z' := []) (List.nil_sublist _) (List.Sublist.refl _)
   exact ⟨_, H, F.re ⟨rfl, Aa, Aa, Aa, Aa, trivial⟩, W⟩
  have H := AR (BB hb) H
  rw [hb] at F
  clear hb
  refine A8 ?_
  iterate 2 refine Bq ?_
  refine A9 (Ab ?_)
  have H := L2 _ H
  exact ⟨H, F.re ⟨rfl, trivial⟩, W⟩
 rintro a w ⟨hj, F, W⟩
 have H := K1 _ hj
 clear hj G1 K1 L1
 refine Ah (Ac ?_)
 refine ls F W Aa (Ag F Aa).q fun a w F W => ?_
 refine Ae (Ab (AF ?_))
 have H := AV H
 subst H
 refine BK (.inl Aa) F W Aa (Ay F Aa) ?_
 exact ⟨rfl, W.done⟩
theorem S0 : type_of% Try.underlying85 := Try.underlying85
theorem TJ : Has Try.prog 35 := ⟨fun args w => Al Try.func35 rfl (by decide) args w⟩
theorem SU : (Try.prog.info? 85).bind (·.zero) = some (.agg #[.int .u32 0, .int .u32 0, .int .u32 0, .int .u32 0, .int .u32 0, .int .u32 0, .int .u32 0, .int .u32 0, .int .u32 0, .int .u32 0, .int .u32 0, .int .u32 0, .int .u32 0, .int .u32 0, .int .u32 0, .int .u32 0]) := by kernel_rfl
theorem RI : Ar Try.prog 85 16 84 1 := ⟨S0, by kernel_rfl⟩
theorem SH : Ty Try.prog 84 false 1 := ⟨by kernel_rfl, by kernel_rfl⟩
noncomputable def Ev (p0 : Int) (p1 : Int) : Option Int := (Re (D5 .u32 1 p1) p1).bind fun x1 => some (Sz .u32 p0 x1)
theorem IF (Y : Nat → Prop) (w0 : World)  (p0 : Int) (p1 : Int) (r : Int) (H : Ev p0 p1 = some r)  :
    Calls Try.prog 38 #[.int .u32 p0, .int .i64 p1] w0 fun e w' => e = .returned (.int .u32 r) ∧ Below w0.heap.size w0 w' := by
 refine enter Try.func38 Aa Try.ntmps38 Aa fun a F => ?_
 have W := Stw.start Y w0
 unfold Ev at H
 refine Ah (Ac ?_)
 refine ls F W Aa (Ag F Aa).q fun a w F W => ?_
 refine Ae (Ab (Ah (Ac ?_)))
 iterate 2 refine ls F W Aa (Ad F Aa).q fun a w F W => ?_
 obtain ⟨x1, h1, H⟩ := Ak H
 refine ls F W Aa (P2 (IH h1).2 (OO F Aa Aa (IH h1).1)).q fun a w F W => ?_
 refine ls F W Aa (SI F Aa Aa).q fun a w F W => ?_
 refine ls F W Aa (Ag F Aa).q fun a w F W => ?_
 refine Ae (Ab (AF ?_))
 have H := AV H
 subst H
 refine BK (.inl Aa) F W Aa (Ay F Aa) ?_
 exact ⟨rfl, W.done⟩
theorem Te : Has Try.prog 38 := ⟨fun args w => Al Try.func38 rfl (by decide) args w⟩
theorem R9 : Ty Try.prog 85 true 16 := ⟨by kernel_rfl, by kernel_rfl⟩
noncomputable def CL (p0 : List (Int × Int)) : (Int × Int × Int × Int × Int × Int × Int × Int × Int × Int × Int × Int × Int × Int × Int × Int × Int) → Option ((Int × Int × Int × Int × Int × Int × Int × Int × Int × Int × Int × Int × Int × Int × Int × Int × Int) ⊕ (Int × Int × Int × Int × Int × Int × Int × Int × Int × Int × Int × Int × Int × Int × Int × Int))
  | (x17, x18, x19, x20, x21, x22, x23, x24, x25, x26, x27, x28, x29, x30, x31, x32, x33) => (if x17 < (p0.length : Int) then (ix p0 x17).bind fun x34 => (ix ([x18, x19, x20, x21, x22, x23, x24, x25, x26, x27, x28, x29, x30, x31, x32, x33] : List Int) x34.2).bind fun x35 => (Ev x35 x34.1).bind fun x36 => (ix ([x18, x19, x20, x21, x22, x23, x24, x25, x26, x27, x28, x29, x30, x31, x32, x33] : List Int) x34.2).bind fun x37 => some (.inl (AB (x17 + 1), (if x34.2 = 0 then x36 else x18), (if x34.2 = 1 then x36 else x19), (if x34.2 = 2 then x36 else x20), (if x34.2 = 3 then x36 else x21), (if x34.2 = 4 then x36 else x22), (if x34.2 = 5 then x36 else x23), (if x34.2 = 6 then x36 else x24), (if x34.2 = 7 then x36 else x25), (if x34.2 = 8 then x36 else x26), (if x34.2 = 9 then x36 else x27), (if x34.2 = 10 then x36 else x28), (if x34.2 = 11 then x36 else x29), (if x34.2 = 12 then x36 else x30), (if x34.2 = 13 then x36 else x31), (if x34.2 = 14 then x36 else x32), (if x34.2 = 15 then x36 else x33))) else some (.inr (x18, x19, x20, x21, x22, x23, x24, x25, x26, x27, x28, x29, x30, x31, x32, x33)))
noncomputable def Eu (p0 : List (Int × Int)) : Option (Int × Int × Int × Int × Int × Int × Int × Int × Int × Int × Int × Int × Int × Int × Int × Int) := (AG (CL p0) (0, 0, 0, 0, 0, 0, 0, 0, 0, 0, 0, 0, 0, 0, 0, 0, 0)).bind fun (x1, x2, x3, x4, x5, x6, x7, x8, x9, x10, x11, x12, x13, x14, x15, x16) => some (x1, x2, x3, x4, x5, x6, x7, x8, x9, x10, x11, x12, x13, x14, x15, x16)
theorem Jp (Y : Nat → Prop) (w0 : World) (v1 : Value) (p0 : List (Int × Int)) (r : (Int × Int × Int × Int × Int × Int × Int × Int × Int × Int × Int × Int × Int × Int × Int × Int)) (H : Eu p0 = some r) (h_v1 : Sl w0 (NX []) JT v1 p0) :
    Calls Try.prog 36 #[v1] w0 fun e w' => e = .returned (.agg #[.int .u32 r.1, .int .u32 r.2.1, .int .u32 r.2.2.1, .int .u32 r.2.2.2.1, .int .u32 r.2.2.2.2.1, .int .u32 r.2.2.2.2.2.1, .int .u32 r.2.2.2.2.2.2.1, .int .u32 r.2.2.2.2.2.2.2.1, .int .u32 r.2.2.2.2.2.2.2.2.1, .int .u32 r.2.2.2.2.2.2.2.2.2.1, .int .u32 r.2.2.2.2.2.2.2.2.2.2.1, .int .u32 r.2.2.2.2.2.2.2.2.2.2.2.1, .int .u32 r.2.2.2.2.2.2.2.2.2.2.2.2.1, .int .u32 r.2.2.2.2.2.2.2.2.2.2.2.2.2.1, .int .u32 r.2.2.2.2.2.2.2.2.2.2.2.2.2.2.1, .int .u32 r.2.2.2.2.2.2.2.2.2.2.2.2.2.2.2]) ∧ Below w0.heap.size w0 w' := by
 refine enter Try.func36 Aa Try.ntmps36 Aa fun a F => ?_
 have W := Stw.start Y w0
 unfold Eu at H
 refine Ah (Ac ?_)
 refine DX (cs := [.int .u32 0, .int .u32 0, .int .u32 0, .int .u32 0, .int .u32 0, .int .u32 0, .int .u32 0, .int .u32 0, .int .u32 0, .int .u32 0, .int .u32 0, .int .u32 0, .int .u32 0, .int .u32 0, .int .u32 0, .int .u32 0]) F W Aa SU Aa fun b1 a w F W => ?_
 refine Ae (Ab (Ah (Ac ?_)))
 refine DX (cs := [.int .u32 0, .int .u32 0, .int .u32 0, .int .u32 0, .int .u32 0, .int .u32 0, .int .u32 0, .int .u32 0, .int .u32 0, .int .u32 0, .int .u32 0, .int .u32 0, .int .u32 0, .int .u32 0, .int .u32 0, .int .u32 0]) F W Aa SU Aa fun b2 a w F W => ?_
 refine Ae (Ab ?_)
 obtain ⟨o1, G1, K1⟩ := Ak H
 refine AM (fun a w => ∃ x1 : Int, ∃ x2 : Int, ∃ x3 : Int, ∃ x4 : Int, ∃ x5 : Int, ∃ x6 : Int, ∃ x7 : Int, ∃ x8 : Int, ∃ x9 : Int, ∃ x10 : Int, ∃ x11 : Int, ∃ x12 : Int, ∃ x13 : Int, ∃ x14 : Int, ∃ x15 : Int, ∃ x16 : Int, some ((x1, x2, x3, x4, x5, x6, x7, x8, x9, x10, x11, x12, x13, x14, x15, x16)) = some o1 ∧ Fr 24 [] [(2, .pointer (some ⟨b1, 0, none⟩)), (3, .pointer (some ⟨b2, 0, none⟩))] a ∧ Stw ⟨Y, [], w0⟩ [(b2, [.int .u32 x1, .int .u32 x2, .int .u32 x3, .int .u32 x4, .int .u32 x5, .int .u32 x6, .int .u32 x7, .int .u32 x8, .int .u32 x9, .int .u32 x10, .int .u32 x11, .int .u32 x12, .int .u32 x13, .int .u32 x14, .int .u32 x15, .int .u32 x16]), (b1, [.int .u32 0, .int .u32 0, .int .u32 0, .int .u32 0, .int .u32 0, .int .u32 0, .int .u32 0, .int .u32 0, .int .u32 0, .int .u32 0, .int .u32 0, .int .u32 0, .int .u32 0, .int .u32 0, .int .u32 0, .int .u32 0])] [] w) ?_ ?_
 ·
  have H := G1
  clear G1 K1
  refine Ah (Ac ?_)
  refine ls F W Aa (Ad F Aa).q fun a w F W => ?_
  refine ls F W Aa (B0 (r := JT) (l := p0) RS Aa F Aa (Am h_v1)).q fun a w F W => ?_
  refine ls F W Aa (Ad F Aa).q fun a w F W => ?_
  refine Ae (Ab (As ?_))
  have W := W.frontM (i := 1) Aa Aa
  have W := W.frontM (i := 1) Aa Aa
  refine Bb H (fun s a w => Fr 24 [] [(2, .pointer (some ⟨b1, 0, none⟩)), (3, .pointer (some ⟨b2, 0, none⟩)), (6, v1), (7, .int .i64 (p0.length : Int)), (8, .int .i64 s.1)] a ∧ Stw ⟨Y, [], w0⟩ [(b2, [.int .u32 s.2.1, .int .u32 s.2.2.1, .int .u32 s.2.2.2.1, .int .u32 s.2.2.2.2.1, .int .u32 s.2.2.2.2.2.1, .int .u32 s.2.2.2.2.2.2.1, .int .u32 s.2.2.2.2.2.2.2.1, .int .u32 s.2.2.2.2.2.2.2.2.1, .int .u32 s.2.2.2.2.2.2.2.2.2.1, .int .u32 s.2.2.2.2.2.2.2.2.2.2.1, .int .u32 s.2.2.2.2.2.2.2.2.2.2.2.1, .int .u32 s.2.2.2.2.2.2.2.2.2.2.2.2.1, .int .u32 s.2.2.2.2.2.2.2.2.2.2.2.2.2.1, .int .u32 s.2.2.2.2.2.2.2.2.2.2.2.2.2.2.1, .int .u32 s.2.2.2.2.2.2.2.2.2.2.2.2.2.2.2.1, .int .u32 s.2.2.2.2.2.2.2.2.2.2.2.2.2.2.2.2]), (b1, [.int .u32 0, .int .u32 0, .int .u32 0, .int .u32 0, .int .u32 0, .int .u32 0, .int .u32 0, .int .u32 0, .int .u32 0, .int .u32 0, .int .u32 0, .int .u32 0, .int .u32 0, .int .u32 0, .int .u32 0, .int .u32 0])] [] w) ⟨F.re ⟨rfl, Aa, Aa, Aa, Aa, trivial⟩, W⟩ fun s o a w H L2 hR => ?_
  obtain ⟨x17, x18, x19, x20, x21, x22, x23, x24, x25, x26, x27, x28, x29, x30, x31, x32, x33⟩ := s
  obtain ⟨F, W⟩ := hR
  have F : Fr 24 [] [(2, .pointer (some ⟨b1, 0, none⟩)), (3, .pointer (some ⟨b2, 0, none⟩)), (6, v1), (7, .int .i64 (p0.length : Int)), (8, .int .i64 x17)] a := F
  have W : Stw ⟨Y, [], w0⟩ [(b2, [.int .u32 x18, .int .u32 x19, .int .u32 x20, .int .u32 x21, .int .u32 x22, .int .u32 x23, .int .u32 x24, .int .u32 x25, .int .u32 x26, .int .u32 x27, .int .u32 x28, .int .u32 x29, .int .u32 x30, .int .u32 x31, .int .u32 x32, .int .u32 x33]), (b1, [.int .u32 0, .int .u32 0, .int .u32 0, .int .u32 0, .int .u32 0, .int .u32 0, .int .u32 0, .int .u32 0, .int .u32 0, .int .u32 0, .int .u32 0, .int .u32 0, .int .u32 0, .int .u32 0, .int .u32 0, .int .u32 0])] [] w := W
  rw [CL] at H
  refine Ah (Ac ?_)
  refine ls F W Aa (Bu F Aa Aa).q fun a w F W => ?_
  refine Ae (Ab (Ah ?_))
  refine AA F Aa (fun hb => ?_) fun hb => ?_
  ·
   have H := AS (BD hb) H
   rw [hb] at F
   clear hb
   refine Av (Ab (Ah (As (Ah (Ac ?_)))))
   obtain ⟨x34, h1, H⟩ := Ak H
   refine ls F W Aa (Ax (r := JT) Sy F Aa Aa (Am h_v1) h1).q fun a w F W => ?_
   refine ls F W Aa (Ao (y := Value.agg #[.int .i64 x34.1, .int .i64 x34.2]) (j := 0) (i := x17) F Aa Aa (Am h_v1) h1 SX.to Ss Aa).q fun a w F W => ?_
   refine DX (cs := [.int .i64 0, .int .i64 0]) F W Aa SC Aa fun b3 a w F W => ?_
   refine DC (vs := [.int .i64 x34.1, .int .i64 x34.2]) (M' := [(b3, [.int .i64 x34.1, .int .i64 x34.2]), (b2, [.int .u32 x18, .int .u32 x19, .int .u32 x20, .int .u32 x21, .int .u32 x22, .int .u32 x23, .int .u32 x24, .int .u32 x25, .int .u32 x26, .int .u32 x27, .int .u32 x28, .int .u32 x29, .int .u32 x30, .int .u32 x31, .int .u32 x32, .int .u32 x33]), (b1, [.int .u32 0, .int .u32 0, .int .u32 0, .int .u32 0, .int .u32 0, .int .u32 0, .int .u32 0, .int .u32 0, .int .u32 0, .int .u32 0, .int .u32 0, .int .u32 0, .int .u32 0, .int .u32 0, .int .u32 0, .int .u32 0])]) 0 F W Aa Aa Aa Ss Aa Aa Aa Aa Aa fun w W => ?_
   refine Ae (Ab ?_)
   refine ID 10 W MO (by kernel_rfl) ?_
   refine qs F Aa (Aj NH Aa Aa Aa T3 F Aa 1 Aa).q fun a F => ?_
   refine qs F Aa (Aw (v := Value.int .i64 x34.2) 0 F Aa Aa T3 Aa).q fun a F => ?_
   refine qs F Aa (Aj NH Aa Aa Aa T3 F Aa 1 Aa).q fun a F => ?_
   refine qs F Aa (Aw (v := Value.int .i64 x34.2) 0 F Aa Aa T3 Aa).q fun a F => ?_
   obtain ⟨x35, h2, H⟩ := Ak H
   refine qs F Aa (LO (0 + (x34.2).toNat * 1) RI F Aa Aa Aa h2 Aa).q fun a F => ?_
   refine qs F Aa (Aw (v := Value.int .u32 x35) 1 F Aa Aa SH (OE (base := 0) (m := 16) (l := [x18, x19, x20, x21, x22, x23, x24, x25, x26, x27, x28, x29, x30, x31, x32, x33]) (enc := Value.int .u32) Aa h2)).q fun a F => ?_
   refine qs F Aa (Aj NH Aa Aa Aa T3 F Aa 0 Aa).q fun a F => ?_
   refine qs F Aa (Aw (v := Value.int .i64 x34.1) 0 F Aa Aa T3 Aa).q fun a F => ?_
   obtain ⟨x36, h3, H⟩ := Ak H
   refine qs F Aa (BX (v := Value.int .u32 x36) F Te Aa (fun w W => IF any w x35 x34.1 _ h3)) fun a F => ?_
   obtain ⟨x37, h4, H⟩ := Ak H
   refine qs F Aa (LO (0 + (x34.2).toNat * 1) RI F Aa Aa Aa h4 Aa).q fun a F => ?_
   refine AY fun w W => ?_
   refine NM (o := 0) (m := 16) (i := x34.2) (l := ([x18, x19, x20, x21, x22, x23, x24, x25, x26, x27, x28, x29, x30, x31, x32, x33] : List Int)) (x := x37) (cs := [.int .u32 x18, .int .u32 x19, .int .u32 x20, .int .u32 x21, .int .u32 x22, .int .u32 x23, .int .u32 x24, .int .u32 x25, .int .u32 x26, .int .u32 x27, .int .u32 x28, .int .u32 x29, .int .u32 x30, .int .u32 x31, .int .u32 x32, .int .u32 x33]) (cs' := [.int .u32 (if x34.2 = 0 then x36 else x18), .int .u32 (if x34.2 = 1 then x36 else x19), .int .u32 (if x34.2 = 2 then x36 else x20), .int .u32 (if x34.2 = 3 then x36 else x21), .int .u32 (if x34.2 = 4 then x36 else x22), .int .u32 (if x34.2 = 5 then x36 else x23), .int .u32 (if x34.2 = 6 then x36 else x24), .int .u32 (if x34.2 = 7 then x36 else x25), .int .u32 (if x34.2 = 8 then x36 else x26), .int .u32 (if x34.2 = 9 then x36 else x27), .int .u32 (if x34.2 = 10 then x36 else x28), .int .u32 (if x34.2 = 11 then x36 else x29), .int .u32 (if x34.2 = 12 then x36 else x30), .int .u32 (if x34.2 = 13 then x36 else x31), .int .u32 (if x34.2 = 14 then x36 else x32), .int .u32 (if x34.2 = 15 then x36 else x33)]) 1 F W Aa Aa Aa SH Aa Aa Aa Aa h4 (by intro k hk hn; rw [hk]; match k, hn with | 0, _ => rfl | 1, _ => rfl | 2, _ => rfl | 3, _ => rfl | 4, _ => rfl | 5, _ => rfl | 6, _ => rfl | 7, _ => rfl | 8, _ => rfl | 9, _ => rfl | 10, _ => rfl | 11, _ => rfl | 12, _ => rfl | 13, _ => rfl | 14, _ => rfl | 15, _ => rfl | (z + 16), h => exact absurd h (by omega)) fun w W => ?_
   have W : Stw ⟨Y, [], w0⟩ [(b3, [.int .i64 x34.1, .int .i64 x34.2]), (b2, [.int .u32 (if x34.2 = 0 then x36 else x18), .int .u32 (if x34.2 = 1 then x36 else x19), .int .u32 (if x34.2 = 2 then x36 else x20), .int .u32 (if x34.2 = 3 then x36 else x21), .int .u32 (if x34.2 = 4 then x36 else x22), .int .u32 (if x34.2 = 5 then x36 else x23), .int .u32 (if x34.2 = 6 then x36 else x24), .int .u32 (if x34.2 = 7 then x36 else x25), .int .u32 (if x34.2 = 8 then x36 else x26), .int .u32 (if x34.2 = 9 then x36 else x27), .int .u32 (if x34.2 = 10 then x36 else x28), .int .u32 (if x34.2 = 11 then x36 else x29), .int .u32 (if x34.2 = 12 then x36 else x30), .int .u32 (if x34.2 = 13 then x36 else x31), .int .u32 (if x34.2 = 14 then x36 else x32), .int .u32 (if x34.2 = 15 then x36 else x33)]), (b1, [.int .u32 0, .int .u32 0, .int .u32 0, .int .u32 0, .int .u32 0, .int .u32 0, .int .u32 0, .int .u32 0, .int .u32 0, .int .u32 0, .int .u32 0, .int .u32 0, .int .u32 0, .int .u32 0, .int .u32 0, .int .u32 0])] [] w := W
   refine Ae (AP (Ab (Ac ?_)))
   refine ls F W Aa (BC F Aa Aa Aa).q fun a w F W => ?_
   refine ls F W Aa (Ad F Aa).q fun a w F W => ?_
   refine Ae (Ab ?_)
   have W := W.frontM (i := 2) Aa Aa
   have W := W.frontM (i := 2) Aa Aa
   have W := W.sub (M' := [(b2, [.int .u32 (if x34.2 = 0 then x36 else x18), .int .u32 (if x34.2 = 1 then x36 else x19), .int .u32 (if x34.2 = 2 then x36 else x20), .int .u32 (if x34.2 = 3 then x36 else x21), .int .u32 (if x34.2 = 4 then x36 else x22), .int .u32 (if x34.2 = 5 then x36 else x23), .int .u32 (if x34.2 = 6 then x36 else x24), .int .u32 (if x34.2 = 7 then x36 else x25), .int .u32 (if x34.2 = 8 then x36 else x26), .int .u32 (if x34.2 = 9 then x36 else x27), .int .u32 (if x34.2 = 10 then x36 else x28), .int .u32 (if x34.2 = 11 then x36 else x29), .int .u32 (if x34.2 = 12 then x36 else x30), .int .u32 (if x34.2 = 13 then x36 else x31), .int .u32 (if x34.2 = 14 then x36 else x32), .int .u32 (if x34.2 = 15 then x36 else x33)]), (b1, [.int .u32 0, .int .u32 0, .int .u32 0, .int .u32 0, .int .u32 0, .int .u32 0, .int .u32 0, .int .u32 0, .int .u32 0, .int .u32 0, .int .u32 0, .int .u32 0, .int .u32 0, .int .u32 0, .int .u32 0, .int .u32 0])]) (Z' := []) (List.Sublist.cons_cons _ (List.Sublist.cons_cons _ (List.nil_sublist _))) (List.Sublist.refl _)
   exact ⟨_, H, F.re ⟨rfl, Aa, Aa, Aa, Aa, trivial⟩, W⟩
  have H := AR (BB hb) H
  rw [hb] at F
  clear hb
  refine A8 ?_
  iterate 2 refine Bq ?_
  refine A9 (Ab ?_)
  have W := W.frontM (i := 1) Aa Aa
  have W := W.frontM (i := 1) Aa Aa
  have H := L2 _ H
  exact ⟨_, _, _, _, _, _, _, _, _, _, _, _, _, _, _, _, H, F.re ⟨rfl, Aa, trivial⟩, W⟩
 rintro a w ⟨x1, x2, x3, x4, x5, x6, x7, x8, x9, x10, x11, x12, x13, x14, x15, x16, hj, F, W⟩
 have hj := AV hj
 subst hj
 have H := K1
 clear G1 K1
 refine Ah (Ac ?_)
 refine ls F W Aa (Aw (v := Value.agg #[.int .u32 x1, .int .u32 x2, .int .u32 x3, .int .u32 x4, .int .u32 x5, .int .u32 x6, .int .u32 x7, .int .u32 x8, .int .u32 x9, .int .u32 x10, .int .u32 x11, .int .u32 x12, .int .u32 x13, .int .u32 x14, .int .u32 x15, .int .u32 x16]) 0 F Aa Aa R9 Aa).q fun a w F W => ?_
 refine DC (vs := [.int .u32 x1, .int .u32 x2, .int .u32 x3, .int .u32 x4, .int .u32 x5, .int .u32 x6, .int .u32 x7, .int .u32 x8, .int .u32 x9, .int .u32 x10, .int .u32 x11, .int .u32 x12, .int .u32 x13, .int .u32 x14, .int .u32 x15, .int .u32 x16]) (M' := [(b2, [.int .u32 x1, .int .u32 x2, .int .u32 x3, .int .u32 x4, .int .u32 x5, .int .u32 x6, .int .u32 x7, .int .u32 x8, .int .u32 x9, .int .u32 x10, .int .u32 x11, .int .u32 x12, .int .u32 x13, .int .u32 x14, .int .u32 x15, .int .u32 x16]), (b1, [.int .u32 x1, .int .u32 x2, .int .u32 x3, .int .u32 x4, .int .u32 x5, .int .u32 x6, .int .u32 x7, .int .u32 x8, .int .u32 x9, .int .u32 x10, .int .u32 x11, .int .u32 x12, .int .u32 x13, .int .u32 x14, .int .u32 x15, .int .u32 x16])]) 1 F W Aa Aa Aa R9 Aa Aa Aa Aa Aa fun w W => ?_
 refine Ae (Ab (AF ?_))
 have H := AV H
 subst H
 refine BK (.inl Aa) F W Aa (Qz 1 F Aa Aa R9 Aa) ?_
 exact ⟨rfl, W.done⟩
theorem Tm : Has Try.prog 36 := ⟨fun args w => Al Try.func36 rfl (by decide) args w⟩
noncomputable def Gc (p0 : Int) (p1 : Int) : Option Bool := (Re (Ge .u32 p0 p1) p1).bind fun x1 => some (decide ((KX .u32 x1 1) = 1))
theorem Lf (Y : Nat → Prop) (w0 : World)  (p0 : Int) (p1 : Int) (r : Bool) (H : Gc p0 p1 = some r)  :
    Calls Try.prog 55 #[.int .u32 p0, .int .i64 p1] w0 fun e w' => e = .returned (.bool r) ∧ Below w0.heap.size w0 w' := by
 refine enter Try.func55 Aa Try.ntmps55 Aa fun a F => ?_
 have W := Stw.start Y w0
 unfold Gc at H
 refine Ah (Ac ?_)
 refine ls F W Aa (Ag F Aa).q fun a w F W => ?_
 refine Ae (Ab (Ah (Ac ?_)))
 iterate 2 refine ls F W Aa (Ad F Aa).q fun a w F W => ?_
 obtain ⟨x1, h1, H⟩ := Ak H
 refine ls F W Aa (P2 (IH h1).2 (Nn F Aa Aa (IH h1).1)).q fun a w F W => ?_
 refine ls F W Aa (Rj F Aa Aa).q fun a w F W => ?_
 refine ls F W Aa (DP F Aa Aa).q fun a w F W => ?_
 refine ls F W Aa (Ag F Aa).q fun a w F W => ?_
 refine Ae (Ab (AF ?_))
 have H := AV H
 subst H
 refine BK (.inl Aa) F W Aa (Ay F Aa) ?_
 exact ⟨rfl, W.done⟩
theorem Tq : Has Try.prog 55 := ⟨fun args w => Al Try.func55 rfl (by decide) args w⟩
noncomputable def Ey (p0 : Int) (p1 : Int × Int × Int × Int × Int × Int × Int × Int × Int × Int × Int × Int × Int × Int × Int × Int) (p2 : Int) : Int → Option (Int ⊕ (Unit ⊕ Int))
  | x1 => (if x1 < p0 then ((Gc p2 x1).bind fun x3 => (if (!x3) = true then (ix ([p1.1, p1.2.1, p1.2.2.1, p1.2.2.2.1, p1.2.2.2.2.1, p1.2.2.2.2.2.1, p1.2.2.2.2.2.2.1, p1.2.2.2.2.2.2.2.1, p1.2.2.2.2.2.2.2.2.1, p1.2.2.2.2.2.2.2.2.2.1, p1.2.2.2.2.2.2.2.2.2.2.1, p1.2.2.2.2.2.2.2.2.2.2.2.1, p1.2.2.2.2.2.2.2.2.2.2.2.2.1, p1.2.2.2.2.2.2.2.2.2.2.2.2.2.1, p1.2.2.2.2.2.2.2.2.2.2.2.2.2.2.1, p1.2.2.2.2.2.2.2.2.2.2.2.2.2.2.2] : List Int) x1).bind fun x4 => some (decide ((I1 .u32 x4 p2) = 0)) else some false)).bind fun x2 => (if x2 = true then some (.inr (.inr x1)) else some (.inl (AB (x1 + 1)))) else some (.inr (.inl ())))
noncomputable def En (p0 : Int) (p1 : Int × Int × Int × Int × Int × Int × Int × Int × Int × Int × Int × Int × Int × Int × Int × Int) (p2 : Int) : Option Int := FB (AG (Ey p0 p1 p2) 0) fun _ => some (-1)
theorem Jj (Y : Nat → Prop) (w0 : World)  (p0 : Int) (p1 : Int × Int × Int × Int × Int × Int × Int × Int × Int × Int × Int × Int × Int × Int × Int × Int) (p2 : Int) (r : Int) (H : En p0 p1 p2 = some r)  :
    Calls Try.prog 37 #[.int .i64 p0, .agg #[.int .u32 p1.1, .int .u32 p1.2.1, .int .u32 p1.2.2.1, .int .u32 p1.2.2.2.1, .int .u32 p1.2.2.2.2.1, .int .u32 p1.2.2.2.2.2.1, .int .u32 p1.2.2.2.2.2.2.1, .int .u32 p1.2.2.2.2.2.2.2.1, .int .u32 p1.2.2.2.2.2.2.2.2.1, .int .u32 p1.2.2.2.2.2.2.2.2.2.1, .int .u32 p1.2.2.2.2.2.2.2.2.2.2.1, .int .u32 p1.2.2.2.2.2.2.2.2.2.2.2.1, .int .u32 p1.2.2.2.2.2.2.2.2.2.2.2.2.1, .int .u32 p1.2.2.2.2.2.2.2.2.2.2.2.2.2.1, .int .u32 p1.2.2.2.2.2.2.2.2.2.2.2.2.2.2.1, .int .u32 p1.2.2.2.2.2.2.2.2.2.2.2.2.2.2.2], .int .u32 p2] w0 fun e w' => e = .returned (.int .i64 r) ∧ Below w0.heap.size w0 w' := by
 refine enter Try.func37 Aa Try.ntmps37 Aa fun a F => ?_
 have W := Stw.start Y w0
 unfold En at H
 refine Ah (Ac ?_)
 refine E5 (cs := [.int .u32 p1.1, .int .u32 p1.2.1, .int .u32 p1.2.2.1, .int .u32 p1.2.2.2.1, .int .u32 p1.2.2.2.2.1, .int .u32 p1.2.2.2.2.2.1, .int .u32 p1.2.2.2.2.2.2.1, .int .u32 p1.2.2.2.2.2.2.2.1, .int .u32 p1.2.2.2.2.2.2.2.2.1, .int .u32 p1.2.2.2.2.2.2.2.2.2.1, .int .u32 p1.2.2.2.2.2.2.2.2.2.2.1, .int .u32 p1.2.2.2.2.2.2.2.2.2.2.2.1, .int .u32 p1.2.2.2.2.2.2.2.2.2.2.2.2.1, .int .u32 p1.2.2.2.2.2.2.2.2.2.2.2.2.2.1, .int .u32 p1.2.2.2.2.2.2.2.2.2.2.2.2.2.2.1, .int .u32 p1.2.2.2.2.2.2.2.2.2.2.2.2.2.2.2]) F W Aa Aa Aa fun b1 a w F W => ?_
 refine ls F W Aa (Ag F Aa).q fun a w F W => ?_
 refine Ae (Ab ?_)
 obtain ⟨o1, G1, K1, L1⟩ := Jx H
 refine AM (fun a w => some (Sum.inl ()) = some o1 ∧ Fr 26 [] [(6, .int .i64 0)] a ∧ Stw ⟨Y, [], w0⟩ [(b1, [.int .u32 p1.1, .int .u32 p1.2.1, .int .u32 p1.2.2.1, .int .u32 p1.2.2.2.1, .int .u32 p1.2.2.2.2.1, .int .u32 p1.2.2.2.2.2.1, .int .u32 p1.2.2.2.2.2.2.1, .int .u32 p1.2.2.2.2.2.2.2.1, .int .u32 p1.2.2.2.2.2.2.2.2.1, .int .u32 p1.2.2.2.2.2.2.2.2.2.1, .int .u32 p1.2.2.2.2.2.2.2.2.2.2.1, .int .u32 p1.2.2.2.2.2.2.2.2.2.2.2.1, .int .u32 p1.2.2.2.2.2.2.2.2.2.2.2.2.1, .int .u32 p1.2.2.2.2.2.2.2.2.2.2.2.2.2.1, .int .u32 p1.2.2.2.2.2.2.2.2.2.2.2.2.2.2.1, .int .u32 p1.2.2.2.2.2.2.2.2.2.2.2.2.2.2.2])] [] w) ?_ ?_
 ·
  have H := G1
  clear G1 K1
  refine Ah (Ac ?_)
  iterate 2 refine ls F W Aa (Ad F Aa).q fun a w F W => ?_
  refine Ae (Ab (As ?_))
  refine Bb H (fun s a w => Fr 26 [] [(2, .int .u32 p2), (4, .pointer (some ⟨b1, 0, none⟩)), (6, .int .i64 0), (8, .int .i64 p0), (9, .int .i64 s)] a ∧ Stw ⟨Y, [], w0⟩ [(b1, [.int .u32 p1.1, .int .u32 p1.2.1, .int .u32 p1.2.2.1, .int .u32 p1.2.2.2.1, .int .u32 p1.2.2.2.2.1, .int .u32 p1.2.2.2.2.2.1, .int .u32 p1.2.2.2.2.2.2.1, .int .u32 p1.2.2.2.2.2.2.2.1, .int .u32 p1.2.2.2.2.2.2.2.2.1, .int .u32 p1.2.2.2.2.2.2.2.2.2.1, .int .u32 p1.2.2.2.2.2.2.2.2.2.2.1, .int .u32 p1.2.2.2.2.2.2.2.2.2.2.2.1, .int .u32 p1.2.2.2.2.2.2.2.2.2.2.2.2.1, .int .u32 p1.2.2.2.2.2.2.2.2.2.2.2.2.2.1, .int .u32 p1.2.2.2.2.2.2.2.2.2.2.2.2.2.2.1, .int .u32 p1.2.2.2.2.2.2.2.2.2.2.2.2.2.2.2])] [] w) ⟨F.re ⟨rfl, Aa, Aa, Aa, Aa, trivial⟩, W⟩ fun s o a w H L2 hR => ?_
  obtain ⟨x1, rfl⟩ : ∃ x, x = s := ⟨s, rfl⟩
  obtain ⟨F, W⟩ := hR
  have F : Fr 26 [] [(2, .int .u32 p2), (4, .pointer (some ⟨b1, 0, none⟩)), (6, .int .i64 0), (8, .int .i64 p0), (9, .int .i64 x1)] a := F
  have W : Stw ⟨Y, [], w0⟩ [(b1, [.int .u32 p1.1, .int .u32 p1.2.1, .int .u32 p1.2.2.1, .int .u32 p1.2.2.2.1, .int .u32 p1.2.2.2.2.1, .int .u32 p1.2.2.2.2.2.1, .int .u32 p1.2.2.2.2.2.2.1, .int .u32 p1.2.2.2.2.2.2.2.1, .int .u32 p1.2.2.2.2.2.2.2.2.1, .int .u32 p1.2.2.2.2.2.2.2.2.2.1, .int .u32 p1.2.2.2.2.2.2.2.2.2.2.1, .int .u32 p1.2.2.2.2.2.2.2.2.2.2.2.1, .int .u32 p1.2.2.2.2.2.2.2.2.2.2.2.2.1, .int .u32 p1.2.2.2.2.2.2.2.2.2.2.2.2.2.1, .int .u32 p1.2.2.2.2.2.2.2.2.2.2.2.2.2.2.1, .int .u32 p1.2.2.2.2.2.2.2.2.2.2.2.2.2.2.2])] [] w := W
  rw [Ey] at H
  refine Ah (Ac ?_)
  refine ls F W Aa (Bu F Aa Aa).q fun a w F W => ?_
  refine Ae (Ab (Ah ?_))
  refine AA F Aa (fun hb => ?_) fun hb => ?_
  ·
   have H := AS (BD hb) H
   rw [hb] at F
   clear hb
   refine Av (Ab (Ah (As (Ah (Ac ?_)))))
   refine ls F W Aa (Ad F Aa).q fun a w F W => ?_
   refine ls F W Aa (Ag F Aa).q fun a w F W => ?_
   refine Ae (Ab ?_)
   obtain ⟨o3, G3, K3⟩ := Ak H
   refine AM (fun a w => ∃ x2 : Bool, some (x2) = some o3 ∧ Fr 26 [] [(2, .int .u32 p2), (4, .pointer (some ⟨b1, 0, none⟩)), (6, .int .i64 0), (7, .int .i64 x1), (8, .int .i64 p0), (9, .int .i64 x1), (23, .bool x2)] a ∧ Stw ⟨Y, [], w0⟩ [(b1, [.int .u32 p1.1, .int .u32 p1.2.1, .int .u32 p1.2.2.1, .int .u32 p1.2.2.2.1, .int .u32 p1.2.2.2.2.1, .int .u32 p1.2.2.2.2.2.1, .int .u32 p1.2.2.2.2.2.2.1, .int .u32 p1.2.2.2.2.2.2.2.1, .int .u32 p1.2.2.2.2.2.2.2.2.1, .int .u32 p1.2.2.2.2.2.2.2.2.2.1, .int .u32 p1.2.2.2.2.2.2.2.2.2.2.1, .int .u32 p1.2.2.2.2.2.2.2.2.2.2.2.1, .int .u32 p1.2.2.2.2.2.2.2.2.2.2.2.2.1, .int .u32 p1.2.2.2.2.2.2.2.2.2.2.2.2.2.1, .int .u32 p1.2.2.2.2.2.2.2.2.2.2.2.2.2.2.1, .int .u32 p1.2.2.2.2.2.2.2.2.2.2.2.2.2.2.2])] [] w) ?_ ?_
   ·
    have H := G3
    clear G3 K3
    refine Ac ?_
    iterate 2 refine ls F W Aa (Ad F Aa).q fun a w F W => ?_
    obtain ⟨x3, h1, H⟩ := Ak H
    refine ls F W Aa (BX (v := Value.bool x3) F Tq Aa (fun w W => Lf any w p2 x1 _ h1)) fun a w F W => ?_
    refine ls F W Aa (Eb F Aa).q fun a w F W => ?_
    refine ls F W Aa (Ad F Aa).q fun a w F W => ?_
    rcases Bool.eq_false_or_eq_true (!x3) with hb | hb
    ·
     have H := AS hb H
     rw [hb] at F
     clear hb
     refine AJ F W (Af F Aa Aa Aa Aa) Aa (Ai Aa) (Ad F Aa).q fun a w F W => ?_
     obtain ⟨x4, h2, H⟩ := Ak H
     refine AJ F W (Af F Aa Aa Aa Aa) Aa (Ai Aa) (LO (0 + (x1).toNat * 1) RI F Aa Aa Aa h2 Aa).q fun a w F W => ?_
     refine AJ F W (Af F Aa Aa Aa Aa) Aa (Ai Aa) (Aw (v := Value.int .u32 x4) 0 F Aa Aa SH (OE (base := 0) (m := 16) (l := [p1.1, p1.2.1, p1.2.2.1, p1.2.2.2.1, p1.2.2.2.2.1, p1.2.2.2.2.2.1, p1.2.2.2.2.2.2.1, p1.2.2.2.2.2.2.2.1, p1.2.2.2.2.2.2.2.2.1, p1.2.2.2.2.2.2.2.2.2.1, p1.2.2.2.2.2.2.2.2.2.2.1, p1.2.2.2.2.2.2.2.2.2.2.2.1, p1.2.2.2.2.2.2.2.2.2.2.2.2.1, p1.2.2.2.2.2.2.2.2.2.2.2.2.2.1, p1.2.2.2.2.2.2.2.2.2.2.2.2.2.2.1, p1.2.2.2.2.2.2.2.2.2.2.2.2.2.2.2]) (enc := Value.int .u32) Aa h2)).q fun a w F W => ?_
     refine AJ F W (Af F Aa Aa Aa Aa) Aa (Ai Aa) (Ad F Aa).q fun a w F W => ?_
     refine AJ F W (Af F Aa Aa Aa Aa) Aa (Ai Aa) (Qb F Aa Aa).q fun a w F W => ?_
     refine AJ F W (Af F Aa Aa Aa Aa) Aa (Ai Aa) (DP F Aa Aa).q fun a w F W => ?_
     refine ls F W Aa (Aq F Aa Aa Aa).q fun a w F W => ?_
     refine Ae (Ab ?_)
     exact ⟨_, H, F.re ⟨rfl, Aa, Aa, Aa, Aa, Aa, Aa, trivial⟩, W⟩
    have H := AR (by rw [hb]; decide) H
    rw [hb] at F
    clear hb
    iterate 6 refine Dd F Aa Aa Aa Aa Aa Aa Aa fun a F => ?_
    refine ls F W Aa (Az F Aa Aa Aa).q fun a w F W => ?_
    refine Ae (Ab ?_)
    exact ⟨_, H, F.re ⟨rfl, Aa, Aa, Aa, Aa, Aa, Aa, trivial⟩, W⟩
   rintro a w ⟨x2, hj, F, W⟩
   have hj := AV hj
   subst hj
   have H := K3
   clear G3 K3
   refine AA F Aa (fun hb => ?_) fun hb => ?_
   ·
    have H := AS hb H
    rw [hb] at F
    clear hb
    refine Ah (Ac ?_)
    refine ls F W Aa (Ad F Aa).q fun a w F W => ?_
    refine ls F W Aa (Ag F Aa).q fun a w F W => ?_
    refine Ae (Ab (AF (AQ ?_)))
    iterate 2 refine AH ?_
    refine AQ (AH ?_)
    have H := L2 _ H
    have H := L1 _ H
    have H := AV H
    subst H
    refine BK (.inl Aa) F W Aa (Ay F Aa) ?_
    exact ⟨rfl, W.done⟩
   have H := AR (by rw [hb]; decide) H
   rw [hb] at F
   clear hb
   refine Av (AP (Ab (Ac ?_)))
   refine ls F W Aa (BC F Aa Aa Aa).q fun a w F W => ?_
   refine ls F W Aa (Ad F Aa).q fun a w F W => ?_
   refine Ae (Ab ?_)
   exact ⟨_, H, F.re ⟨rfl, Aa, Aa, Aa, Aa, trivial⟩, W⟩
  have H := AR (BB hb) H
  rw [hb] at F
  clear hb
  refine A8 ?_
  iterate 2 refine Bq ?_
  refine A9 (Ab ?_)
  have H := L2 _ H
  exact ⟨H, F.re ⟨rfl, trivial⟩, W⟩
 rintro a w ⟨hj, F, W⟩
 have H := K1 _ hj
 clear hj G1 K1 L1
 refine Ah (Ac ?_)
 refine ls F W Aa (Ag F Aa).q fun a w F W => ?_
 refine Ae (Ab (AF ?_))
 have H := AV H
 subst H
 refine BK (.inl Aa) F W Aa (Ay F Aa) ?_
 exact ⟨rfl, W.done⟩
theorem TL : Has Try.prog 37 := ⟨fun args w => Al Try.func37 rfl (by decide) args w⟩
noncomputable def Eo (p0 : Int) (x2 : (Int × Int × Int × Int × Int × Int × Int × Int × Int × Int × Int × Int × Int × Int × Int × Int)) : (List Int × Int × Int) → Option ((List Int × Int × Int) ⊕ ((List Int) ⊕ (List Int × Bool)))
  | (x4, x5, x6) => (if x6 < p0 then (En p0 x2 x5).bind fun x7 => (if x7 < 0 then some (.inr (.inr (([] : List Int), false))) else (Ld x4 ([x7] : List Int)).bind fun x8 => (Ev x5 x7).bind fun x9 => some (.inl (x8, x9, AB (x6 + 1)))) else some (.inr (.inl x4)))
noncomputable def Gw (p0 : Int) (p1 : List (Int × Int)) : Option (List Int × Bool) := (Hn p0 p1).bind fun x1 => (if (!x1) = true then some (([] : List Int), false) else (Eu p1).bind fun x2 => FB (AG (Eo p0 x2) ([], 0, 0)) fun x3 => some (x3, true))
theorem Mo (Y : Nat → Prop) (w0 : World) (v1 : Value) (p0 : Int) (p1 : List (Int × Int)) (r : List Int × Bool) (H : Gw p0 p1 = some r) (h_v1 : Sl w0 (NX []) JT v1 p1) :
    Calls Try.prog 16 #[.int .i64 p0, v1] w0 fun e w' => ∃ x : Value, e = .returned (.tuple #[x, .bool r.2]) ∧ Stw ⟨Y, [], w0⟩ [] [row (x) 3 (Rp.int .i64) r.1] w' := by
 refine enter Try.func16 Aa Try.ntmps16 Aa fun a F => ?_
 have W := Stw.start Y w0
 unfold Gw at H
 refine Ah (Ac ?_)
 iterate 2 refine ls F W Aa (Ag F Aa).q fun a w F W => ?_
 refine Ae (Ab (Ah (Ah (Ac ?_))))
 iterate 2 refine ls F W Aa (Ad F Aa).q fun a w F W => ?_
 obtain ⟨x1, h1, H⟩ := Ak H
 refine ls F W Aa (BX (v := Value.bool x1) F TJ Aa (fun w W => Mf any w (v1) p0 p1 _ h1 (((Am h_v1) : D4 _ _ _ _ _ _) w W).nx)) fun a w F W => ?_
 refine ls F W Aa (Eb F Aa).q fun a w F W => ?_
 refine Ae (Ab ?_)
 refine AA F Aa (fun hb => ?_) fun hb => ?_
 ·
  have H := AS hb H
  rw [hb] at F
  clear hb
  refine Ah (Ac ?_)
  iterate 2 refine ls F W Aa (Ag F Aa).q fun a w F W => ?_
  refine Ae (Ab (AF (AH ?_)))
  have H := AV H
  subst H
  refine EO (.inl Aa) F W Aa (Ay F Aa) (Ay F Aa) ?_
  have W := W.nilRow 3 (Rp.int .i64)
  exact ⟨(Value.slice none 0 0), Aa, W⟩
 have H := AR (by rw [hb]; decide) H
 rw [hb] at F
 clear hb
 refine Av (Ab (Ah (Ac ?_)))
 refine ls F W Aa (Ad F Aa).q fun a w F W => ?_
 obtain ⟨x2, h2, H⟩ := Ak H
 refine ls F W Aa (BX (v := Value.agg #[.int .u32 x2.1, .int .u32 x2.2.1, .int .u32 x2.2.2.1, .int .u32 x2.2.2.2.1, .int .u32 x2.2.2.2.2.1, .int .u32 x2.2.2.2.2.2.1, .int .u32 x2.2.2.2.2.2.2.1, .int .u32 x2.2.2.2.2.2.2.2.1, .int .u32 x2.2.2.2.2.2.2.2.2.1, .int .u32 x2.2.2.2.2.2.2.2.2.2.1, .int .u32 x2.2.2.2.2.2.2.2.2.2.2.1, .int .u32 x2.2.2.2.2.2.2.2.2.2.2.2.1, .int .u32 x2.2.2.2.2.2.2.2.2.2.2.2.2.1, .int .u32 x2.2.2.2.2.2.2.2.2.2.2.2.2.2.1, .int .u32 x2.2.2.2.2.2.2.2.2.2.2.2.2.2.2.1, .int .u32 x2.2.2.2.2.2.2.2.2.2.2.2.2.2.2.2]) F Tm Aa (fun w W => Jp any w (v1) p1 _ h2 (((Am h_v1) : D4 _ _ _ _ _ _) w W).nx)) fun a w F W => ?_
 refine DX (cs := [.int .u32 0, .int .u32 0, .int .u32 0, .int .u32 0, .int .u32 0, .int .u32 0, .int .u32 0, .int .u32 0, .int .u32 0, .int .u32 0, .int .u32 0, .int .u32 0, .int .u32 0, .int .u32 0, .int .u32 0, .int .u32 0]) F W Aa SU Aa fun b1 a w F W => ?_
 refine DC (vs := [.int .u32 x2.1, .int .u32 x2.2.1, .int .u32 x2.2.2.1, .int .u32 x2.2.2.2.1, .int .u32 x2.2.2.2.2.1, .int .u32 x2.2.2.2.2.2.1, .int .u32 x2.2.2.2.2.2.2.1, .int .u32 x2.2.2.2.2.2.2.2.1, .int .u32 x2.2.2.2.2.2.2.2.2.1, .int .u32 x2.2.2.2.2.2.2.2.2.2.1, .int .u32 x2.2.2.2.2.2.2.2.2.2.2.1, .int .u32 x2.2.2.2.2.2.2.2.2.2.2.2.1, .int .u32 x2.2.2.2.2.2.2.2.2.2.2.2.2.1, .int .u32 x2.2.2.2.2.2.2.2.2.2.2.2.2.2.1, .int .u32 x2.2.2.2.2.2.2.2.2.2.2.2.2.2.2.1, .int .u32 x2.2.2.2.2.2.2.2.2.2.2.2.2.2.2.2]) (M' := [(b1, [.int .u32 x2.1, .int .u32 x2.2.1, .int .u32 x2.2.2.1, .int .u32 x2.2.2.2.1, .int .u32 x2.2.2.2.2.1, .int .u32 x2.2.2.2.2.2.1, .int .u32 x2.2.2.2.2.2.2.1, .int .u32 x2.2.2.2.2.2.2.2.1, .int .u32 x2.2.2.2.2.2.2.2.2.1, .int .u32 x2.2.2.2.2.2.2.2.2.2.1, .int .u32 x2.2.2.2.2.2.2.2.2.2.2.1, .int .u32 x2.2.2.2.2.2.2.2.2.2.2.2.1, .int .u32 x2.2.2.2.2.2.2.2.2.2.2.2.2.1, .int .u32 x2.2.2.2.2.2.2.2.2.2.2.2.2.2.1, .int .u32 x2.2.2.2.2.2.2.2.2.2.2.2.2.2.2.1, .int .u32 x2.2.2.2.2.2.2.2.2.2.2.2.2.2.2.2])]) 0 F W Aa Aa Aa R9 Aa Aa Aa Aa Aa fun w W => ?_
 refine Ae (Ab (Ah (Ac ?_)))
 refine ls F W Aa (Ag F Aa).q fun a w F W => ?_
 refine Ae (Ab (Ah (Ac ?_)))
 refine ls F W Aa (Ag F Aa).q fun a w F W => ?_
 refine Ae (Ab ?_)
 obtain ⟨o1, G1, K1, L1⟩ := Jx H
 refine AM (fun a w => ∃ x3 : List Int, ∃ v2 : Value, some (Sum.inl x3) = some o1 ∧ Fr 34 [] [(4, .slice none 0 0), (5, .bool false), (7, v2)] a ∧ Stw ⟨Y, [], w0⟩ [(b1, [.int .u32 x2.1, .int .u32 x2.2.1, .int .u32 x2.2.2.1, .int .u32 x2.2.2.2.1, .int .u32 x2.2.2.2.2.1, .int .u32 x2.2.2.2.2.2.1, .int .u32 x2.2.2.2.2.2.2.1, .int .u32 x2.2.2.2.2.2.2.2.1, .int .u32 x2.2.2.2.2.2.2.2.2.1, .int .u32 x2.2.2.2.2.2.2.2.2.2.1, .int .u32 x2.2.2.2.2.2.2.2.2.2.2.1, .int .u32 x2.2.2.2.2.2.2.2.2.2.2.2.1, .int .u32 x2.2.2.2.2.2.2.2.2.2.2.2.2.1, .int .u32 x2.2.2.2.2.2.2.2.2.2.2.2.2.2.1, .int .u32 x2.2.2.2.2.2.2.2.2.2.2.2.2.2.2.1, .int .u32 x2.2.2.2.2.2.2.2.2.2.2.2.2.2.2.2])] [row v2 3 (Rp.int .i64) x3] w) ?_ ?_
 ·
  have H := G1
  clear G1 K1
  refine Ah (Ac ?_)
  iterate 2 refine ls F W Aa (Ad F Aa).q fun a w F W => ?_
  refine Ae (Ab (As ?_))
  have W := W.nilRow 3 (Rp.int .i64)
  refine Bb H (fun s a w => ∃ v3 : Value, Fr 34 [] [(0, .int .i64 p0), (4, .slice none 0 0), (5, .bool false), (6, .pointer (some ⟨b1, 0, none⟩)), (7, v3), (8, .int .u32 s.2.1), (16, .int .i64 p0), (17, .int .i64 s.2.2)] a ∧ Stw ⟨Y, [], w0⟩ [(b1, [.int .u32 x2.1, .int .u32 x2.2.1, .int .u32 x2.2.2.1, .int .u32 x2.2.2.2.1, .int .u32 x2.2.2.2.2.1, .int .u32 x2.2.2.2.2.2.1, .int .u32 x2.2.2.2.2.2.2.1, .int .u32 x2.2.2.2.2.2.2.2.1, .int .u32 x2.2.2.2.2.2.2.2.2.1, .int .u32 x2.2.2.2.2.2.2.2.2.2.1, .int .u32 x2.2.2.2.2.2.2.2.2.2.2.1, .int .u32 x2.2.2.2.2.2.2.2.2.2.2.2.1, .int .u32 x2.2.2.2.2.2.2.2.2.2.2.2.2.1, .int .u32 x2.2.2.2.2.2.2.2.2.2.2.2.2.2.1, .int .u32 x2.2.2.2.2.2.2.2.2.2.2.2.2.2.2.1, .int .u32 x2.2.2.2.2.2.2.2.2.2.2.2.2.2.2.2])] [row v3 3 (Rp.int .i64) s.1] w) ⟨(Value.slice none 0 0), F.re ⟨rfl, Aa, Aa, Aa, Aa, Aa, Aa, Aa, trivial⟩, W⟩ fun s o a w H L2 hR => ?_
  obtain ⟨x4, x5, x6⟩ := s
  obtain ⟨v3, F, W⟩ := hR
  have F : Fr 34 [] [(0, .int .i64 p0), (4, .slice none 0 0), (5, .bool false), (6, .pointer (some ⟨b1, 0, none⟩)), (7, v3), (8, .int .u32 x5), (16, .int .i64 p0), (17, .int .i64 x6)] a := F
  have W : Stw ⟨Y, [], w0⟩ [(b1, [.int .u32 x2.1, .int .u32 x2.2.1, .int .u32 x2.2.2.1, .int .u32 x2.2.2.2.1, .int .u32 x2.2.2.2.2.1, .int .u32 x2.2.2.2.2.2.1, .int .u32 x2.2.2.2.2.2.2.1, .int .u32 x2.2.2.2.2.2.2.2.1, .int .u32 x2.2.2.2.2.2.2.2.2.1, .int .u32 x2.2.2.2.2.2.2.2.2.2.1, .int .u32 x2.2.2.2.2.2.2.2.2.2.2.1, .int .u32 x2.2.2.2.2.2.2.2.2.2.2.2.1, .int .u32 x2.2.2.2.2.2.2.2.2.2.2.2.2.1, .int .u32 x2.2.2.2.2.2.2.2.2.2.2.2.2.2.1, .int .u32 x2.2.2.2.2.2.2.2.2.2.2.2.2.2.2.1, .int .u32 x2.2.2.2.2.2.2.2.2.2.2.2.2.2.2.2])] [row v3 3 (Rp.int .i64) x4] w := W
  rw [Eo] at H
  refine Ah (Ac ?_)
  refine ls F W Aa (Bu F Aa Aa).q fun a w F W => ?_
  refine Ae (Ab (Ah ?_))
  refine AA F Aa (fun hb => ?_) fun hb => ?_
  ·
   have H := AS (BD hb) H
   rw [hb] at F
   clear hb
   refine Av (Ab (Ah (As (Ah (Ac ?_)))))
   refine ls F W Aa (Ad F Aa).q fun a w F W => ?_
   refine ls F W Aa (Aw (v := Value.agg #[.int .u32 x2.1, .int .u32 x2.2.1, .int .u32 x2.2.2.1, .int .u32 x2.2.2.2.1, .int .u32 x2.2.2.2.2.1, .int .u32 x2.2.2.2.2.2.1, .int .u32 x2.2.2.2.2.2.2.1, .int .u32 x2.2.2.2.2.2.2.2.1, .int .u32 x2.2.2.2.2.2.2.2.2.1, .int .u32 x2.2.2.2.2.2.2.2.2.2.1, .int .u32 x2.2.2.2.2.2.2.2.2.2.2.1, .int .u32 x2.2.2.2.2.2.2.2.2.2.2.2.1, .int .u32 x2.2.2.2.2.2.2.2.2.2.2.2.2.1, .int .u32 x2.2.2.2.2.2.2.2.2.2.2.2.2.2.1, .int .u32 x2.2.2.2.2.2.2.2.2.2.2.2.2.2.2.1, .int .u32 x2.2.2.2.2.2.2.2.2.2.2.2.2.2.2.2]) 0 F Aa Aa R9 Aa).q fun a w F W => ?_
   refine ls F W Aa (Ad F Aa).q fun a w F W => ?_
   obtain ⟨x7, h3, H⟩ := Ak H
   refine ls F W Aa (BX (v := Value.int .i64 x7) F TL Aa (fun w W => Jj any w p0 x2 x5 _ h3)) fun a w F W => ?_
   refine ls F W Aa (Ag F Aa).q fun a w F W => ?_
   refine Ae (Ab (Ah (Ah (Ac ?_))))
   refine ls F W Aa (Ad F Aa).q fun a w F W => ?_
   refine ls F W Aa (Bu F Aa Aa).q fun a w F W => ?_
   refine Ae (Ab ?_)
   refine AA F Aa (fun hb => ?_) fun hb => ?_
   ·
    have H := AS (BD hb) H
    rw [hb] at F
    clear hb
    refine Ah (Ac ?_)
    iterate 2 refine ls F W Aa (Ag F Aa).q fun a w F W => ?_
    refine Ae (Ab (AF (AH (AQ ?_))))
    iterate 2 refine AH ?_
    refine AQ (AH ?_)
    have H := L2 _ H
    have H := L1 _ H
    have H := AV H
    subst H
    refine EO (.inl Aa) F W Aa (Ay F Aa) (Ay F Aa) ?_
    have W := W.nilRow 3 (Rp.int .i64)
    have W := W.sub (M' := []) (Z' := [row (Value.slice none 0 0) 3 (Rp.int .i64) ([])]) (List.nil_sublist _) (List.Sublist.cons_cons _ (List.nil_sublist _))
    exact ⟨(Value.slice none 0 0), Aa, W⟩
   have H := AR (BB hb) H
   rw [hb] at F
   clear hb
   refine Av (Ab (Ah (Ac ?_)))
   iterate 2 refine ls F W Aa (Ad F Aa).q fun a w F W => ?_
   refine Fm (z := Value.int .i64 0) (cs := [.int .i64 x7]) (Rp.int .i64) ([x7] : List Int) F W Aa GD Z3 Aa Aa Aa Aa Aa Aa (Fl.int.repL _ _ ([x7] : List Int)) fun v4 a w F W => ?_
   obtain ⟨x8, h4, H⟩ := Ak H
   refine Fj (r := (Rp.int .i64)) (i := 1) F W Aa GD Aa Aa Aa Aa (GP W 0 Aa) h4 Aa fun v5 a w F W => ?_
   have W : Stw ⟨Y, [], w0⟩ [(b1, [.int .u32 x2.1, .int .u32 x2.2.1, .int .u32 x2.2.2.1, .int .u32 x2.2.2.2.1, .int .u32 x2.2.2.2.2.1, .int .u32 x2.2.2.2.2.2.1, .int .u32 x2.2.2.2.2.2.2.1, .int .u32 x2.2.2.2.2.2.2.2.1, .int .u32 x2.2.2.2.2.2.2.2.2.1, .int .u32 x2.2.2.2.2.2.2.2.2.2.1, .int .u32 x2.2.2.2.2.2.2.2.2.2.2.1, .int .u32 x2.2.2.2.2.2.2.2.2.2.2.2.1, .int .u32 x2.2.2.2.2.2.2.2.2.2.2.2.2.1, .int .u32 x2.2.2.2.2.2.2.2.2.2.2.2.2.2.1, .int .u32 x2.2.2.2.2.2.2.2.2.2.2.2.2.2.2.1, .int .u32 x2.2.2.2.2.2.2.2.2.2.2.2.2.2.2.2])] [row v5 3 (Rp.int .i64) x8, row v4 3 (Rp.int .i64) ([x7] : List Int)] w := W
   refine ls F W Aa (Ag F Aa).q fun a w F W => ?_
   refine Ae (Ab (Ac ?_))
   iterate 2 refine ls F W Aa (Ad F Aa).q fun a w F W => ?_
   obtain ⟨x9, h5, H⟩ := Ak H
   refine ls F W Aa (BX (v := Value.int .u32 x9) F Te Aa (fun w W => IF any w x5 x7 _ h5)) fun a w F W => ?_
   refine ls F W Aa (Ag F Aa).q fun a w F W => ?_
   refine Ae (AP (Ab (Ac ?_)))
   refine ls F W Aa (BC F Aa Aa Aa).q fun a w F W => ?_
   refine ls F W Aa (Ad F Aa).q fun a w F W => ?_
   refine Ae (Ab ?_)
   have W := W.sub (M' := [(b1, [.int .u32 x2.1, .int .u32 x2.2.1, .int .u32 x2.2.2.1, .int .u32 x2.2.2.2.1, .int .u32 x2.2.2.2.2.1, .int .u32 x2.2.2.2.2.2.1, .int .u32 x2.2.2.2.2.2.2.1, .int .u32 x2.2.2.2.2.2.2.2.1, .int .u32 x2.2.2.2.2.2.2.2.2.1, .int .u32 x2.2.2.2.2.2.2.2.2.2.1, .int .u32 x2.2.2.2.2.2.2.2.2.2.2.1, .int .u32 x2.2.2.2.2.2.2.2.2.2.2.2.1, .int .u32 x2.2.2.2.2.2.2.2.2.2.2.2.2.1, .int .u32 x2.2.2.2.2.2.2.2.2.2.2.2.2.2.1, .int .u32 x2.2.2.2.2.2.2.2.2.2.2.2.2.2.2.1, .int .u32 x2.2.2.2.2.2.2.2.2.2.2.2.2.2.2.2])]) (Z' := [row v5 3 (Rp.int .i64) x8]) (List.Sublist.refl _) (List.Sublist.cons_cons _ (List.nil_sublist _))
   exact ⟨_, H, (v5), F.re ⟨rfl, Aa, Aa, Aa, Aa, Aa, Aa, Aa, trivial⟩, W⟩
  have H := AR (BB hb) H
  rw [hb] at F
  clear hb
  refine A8 ?_
  iterate 2 refine Bq ?_
  refine A9 (Ab ?_)
  have H := L2 _ H
  exact ⟨_, (v3), H, F.re ⟨rfl, Aa, Aa, trivial⟩, W⟩
 rintro a w ⟨x3, v2, hj, F, W⟩
 have H := K1 _ hj
 clear hj G1 K1 L1
 refine Ah (Ac ?_)
 refine ls F W Aa (Ad F Aa).q fun a w F W => ?_
 iterate 2 refine ls F W Aa (Ag F Aa).q fun a w F W => ?_
 refine Ae (Ab (AF ?_))
 have H := AV H
 subst H
 refine EO (.inl Aa) F W Aa (Ay F Aa) (Ay F Aa) ?_
 have W := W.sub (M' := []) (Z' := [row v2 3 (Rp.int .i64) x3]) (List.nil_sublist _) (List.Sublist.refl _)
 exact ⟨(v2), Aa, W⟩
theorem Ug : Has Try.prog 16 := ⟨fun args w => Al Try.func16 rfl (by decide) args w⟩
noncomputable def CP (p0 : Int × (List (Int × Int × Int × Int × Int × Int)) × (List (Int × Int))) (p4 : Int) (x8 : List (List Int)) (x11 : Int) : ((List (Int × Int)) × Int) → Option (((List (Int × Int)) × Int) ⊕ ((List (Int × Int)) ⊕ (((List (Int × Int)) × Int) ⊕ ((List (Int × Int)) ⊕ Bool))))
  | (x13, x14) => (ix x8 x11).bind fun x15 => (if x14 < (x15.length : Int) then FB ((ix x8 x11).bind fun x17 => (ix x17 x14).bind fun x18 => (HT p0 x11 x18).bind fun x19 => (if (!x19.2.2.2) = true then (ix p0.2.2 p4).bind fun x21 => (if x21.1 ≠ x11 then some true else (ix p0.2.2 p4).bind fun x22 => (ix x8 x11).bind fun x23 => (ix x23 x14).bind fun x24 => (if x22.2 ≠ x24 then some true else (ix x8 x11).bind fun x25 => some (decide (2 < (x25.length : Int))))) else (ix x8 x11).bind fun x26 => some (decide (2 < (x26.length : Int)))).bind fun x20 => (if x20 = true then some (.inr (.inr (.inr (.inr (.inr false))))) else (if x19.2.2.2 = true then (Ld x13 ([(x11, x19.1)] : List (Int × Int))).bind fun x27 => some (.inl x27) else some (.inl x13)))) fun x16 => some (.inl (x16, AB (x14 + 1))) else some (.inr (.inl x13)))
noncomputable def DB (p0 : Int × (List (Int × Int × Int × Int × Int × Int)) × (List (Int × Int))) (p4 : Int) (x8 : List (List Int)) : ((List (Int × Int)) × Int) → Option (((List (Int × Int)) × Int) ⊕ ((List (Int × Int)) ⊕ Bool))
  | (x10, x11) => (if x11 < (x8.length : Int) then FB (AG (CP p0 p4 x8 x11) (x10, 0)) fun x12 => some (.inl (x12, AB (x11 + 1))) else some (.inr (.inl x10)))
noncomputable def GR (p0 : Int × (List (Int × Int × Int × Int × Int × Int)) × (List (Int × Int))) (p1 : List (List Int)) (p2 : List (List Int)) (p3 : Int) (p4 : Int) : Option Bool := ((HQ p0 p1).bind fun x2 => (if (!x2) = true then some true else (HQ p0 p2).bind fun x3 => (if (!x3) = true then some true else (IP p0 p1).bind fun x4 => (if (!x4) = true then some true else (IP p0 p2).bind fun x5 => (if (!x5) = true then some true else (if p4 < 0 then some true else some (decide ((p0.2.2.length : Int) ≤ p4)))))))).bind fun x1 => (if x1 = true then (GY).bind fun x6 => some x6 else (E8 p0 p1 p2).bind fun x7 => (Gv p0 p1 x7.1 p3 p4).bind fun x8 => (if (x8.length : Int) ≠ p0.1 then some false else FB (AG (DB p0 p4 x8) ([], 0)) fun x9 => (Gw p0.1 x9).bind fun x28 => (if x28.2 = true then (GY).bind fun x30 => some x30 else some false).bind fun x29 => some x29))
theorem Ks (Y : Nat → Prop) (w0 : World) (v1 : Value) (v2 : Value) (v3 : Value) (v4 : Value) (p0 : Int × (List (Int × Int × Int × Int × Int × Int)) × (List (Int × Int))) (p1 : List (List Int)) (p2 : List (List Int)) (p3 : Int) (p4 : Int) (r : Bool) (H : GR p0 p1 p2 p3 p4 = some r) (h_v1 : Sl w0 (NX []) Hu v1 p0.2.1) (h_v2 : Sl w0 (NX []) Gz v2 p0.2.2) (s_v3 : Sl w0 Y (Rp.slice (Rp.int .i64)) v3 p1) (h_v4 : Sl w0 (NX []) (Rp.slice (Rp.int .i64)) v4 p2) :
    Calls Try.prog 4 #[.agg #[.int .i64 p0.1, v1, v2], v3, v4, .int .i64 p3, .int .i64 p4] w0 fun e w' => e = .returned (.bool r) ∧ Below w0.heap.size w0 w' := by
 refine enter Try.func4 Aa Try.ntmps4 Aa fun a F => ?_
 have W := Stw.start Y w0
 obtain ⟨v5, h1, s_v3⟩ := s_v3.ex Do
 obtain ⟨v6, h2, h_v4⟩ := h_v4.ex Do
 have h_v3 := W.nx s_v3
 unfold GR at H
 refine Ah (Ac ?_)
 refine E5 (cs := [.int .i64 p0.1, v1, v2]) F W Aa Aa Aa fun b1 a w F W => ?_
 refine ls F W Aa (Ag F Aa).q fun a w F W => ?_
 refine Ae (Ab (Ah ?_))
 obtain ⟨o1, G1, K1⟩ := Ak H
 refine AM (fun a w => ∃ x1 : Bool, some (x1) = some o1 ∧ Fr 159 [] [(1, v3), (2, v4), (3, .int .i64 p3), (4, .int .i64 p4), (5, .pointer (some ⟨b1, 0, none⟩)), (10, .bool false), (55, .bool x1)] a ∧ Stw ⟨Y, [], w0⟩ [(b1, [.int .i64 p0.1, v1, v2])] [] w) ?_ ?_
 ·
  have H := G1
  clear G1 K1
  refine Ac ?_
  refine ls F W Aa (Aw (v := Value.agg #[.int .i64 p0.1, v1, v2]) 0 F Aa Aa JE Aa).q fun a w F W => ?_
  refine ls F W Aa (Ad F Aa).q fun a w F W => ?_
  obtain ⟨x2, h3, H⟩ := Ak H
  refine ls F W Aa (BX (v := Value.bool x2) F H7 Aa (fun w W => KO any w (v1) (v2) (v3) p0 p1 _ h3 (((Am h_v1) : D4 _ _ _ _ _ _) w W).nx (((Am h_v2) : D4 _ _ _ _ _ _) w W).nx (((B8 Do h1 (Am h_v3)) : D4 _ _ _ _ _ _) w W).nx)) fun a w F W => ?_
  refine ls F W Aa (Eb F Aa).q fun a w F W => ?_
  refine ls F W Aa (Ad F Aa).q fun a w F W => ?_
  rcases Bool.eq_false_or_eq_true (!x2) with hb | hb
  ·
   have H := AS hb H
   rw [hb] at F
   clear hb
   iterate 4 refine Dd F Aa Aa Aa Aa Aa Aa Aa fun a F => ?_
   refine ls F W Aa (Aq F Aa Aa Aa).q fun a w F W => ?_
   refine ls F W Aa (Ad F Aa).q fun a w F W => ?_
   iterate 4 refine Dd F Aa Aa Aa Aa Aa Aa Aa fun a F => ?_
   refine ls F W Aa (Aq F Aa Aa Aa).q fun a w F W => ?_
   refine ls F W Aa (Ad F Aa).q fun a w F W => ?_
   iterate 4 refine Dd F Aa Aa Aa Aa Aa Aa Aa fun a F => ?_
   refine ls F W Aa (Aq F Aa Aa Aa).q fun a w F W => ?_
   refine ls F W Aa (Ad F Aa).q fun a w F W => ?_
   iterate 2 refine Dd F Aa Aa Aa Aa Aa Aa Aa fun a F => ?_
   refine ls F W Aa (Aq F Aa Aa Aa).q fun a w F W => ?_
   refine ls F W Aa (Ad F Aa).q fun a w F W => ?_
   iterate 5 refine Dd F Aa Aa Aa Aa Aa Aa Aa fun a F => ?_
   refine ls F W Aa (Aq F Aa Aa Aa).q fun a w F W => ?_
   refine Ae (Ab ?_)
   exact ⟨_, H, F.re ⟨rfl, Aa, Aa, Aa, Aa, Aa, Aa, trivial⟩, W⟩
  have H := AR (by rw [hb]; decide) H
  rw [hb] at F
  clear hb
  refine AJ F W (Af F Aa Aa Aa Aa) Aa (Ai Aa) (Aw (v := Value.agg #[.int .i64 p0.1, v1, v2]) 0 F Aa Aa JE Aa).q fun a w F W => ?_
  refine AJ F W (Af F Aa Aa Aa Aa) Aa (Ai Aa) (Ad F Aa).q fun a w F W => ?_
  refine Kr (Af F Aa Aa Aa Aa) ?_
  obtain ⟨x3, h4, H⟩ := Ak H
  refine ls F W Aa (BX (v := Value.bool x3) F H7 Aa (fun w W => KO any w (v1) (v2) (v4) p0 p2 _ h4 (((Am h_v1) : D4 _ _ _ _ _ _) w W).nx (((Am h_v2) : D4 _ _ _ _ _ _) w W).nx (((B8 Do h2 (Am h_v4)) : D4 _ _ _ _ _ _) w W).nx)) fun a w F W => ?_
  refine AJ F W (Af F Aa Aa Aa Aa) Aa (Ai Aa) (Eb F Aa).q fun a w F W => ?_
  refine ls F W Aa (Az F Aa Aa Aa).q fun a w F W => ?_
  refine ls F W Aa (Ad F Aa).q fun a w F W => ?_
  rcases Bool.eq_false_or_eq_true (!x3) with hb | hb
  ·
   have H := AS hb H
   rw [hb] at F
   clear hb
   iterate 4 refine Dd F Aa Aa Aa Aa Aa Aa Aa fun a F => ?_
   refine ls F W Aa (Aq F Aa Aa Aa).q fun a w F W => ?_
   refine ls F W Aa (Ad F Aa).q fun a w F W => ?_
   iterate 4 refine Dd F Aa Aa Aa Aa Aa Aa Aa fun a F => ?_
   refine ls F W Aa (Aq F Aa Aa Aa).q fun a w F W => ?_
   refine ls F W Aa (Ad F Aa).q fun a w F W => ?_
   iterate 2 refine Dd F Aa Aa Aa Aa Aa Aa Aa fun a F => ?_
   refine ls F W Aa (Aq F Aa Aa Aa).q fun a w F W => ?_
   refine ls F W Aa (Ad F Aa).q fun a w F W => ?_
   iterate 5 refine Dd F Aa Aa Aa Aa Aa Aa Aa fun a F => ?_
   refine ls F W Aa (Aq F Aa Aa Aa).q fun a w F W => ?_
   refine Ae (Ab ?_)
   exact ⟨_, H, F.re ⟨rfl, Aa, Aa, Aa, Aa, Aa, Aa, trivial⟩, W⟩
  have H := AR (by rw [hb]; decide) H
  rw [hb] at F
  clear hb
  refine AJ F W (Af F Aa Aa Aa Aa) Aa (Ai Aa) (Aw (v := Value.agg #[.int .i64 p0.1, v1, v2]) 0 F Aa Aa JE Aa).q fun a w F W => ?_
  refine AJ F W (Af F Aa Aa Aa Aa) Aa (Ai Aa) (Ad F Aa).q fun a w F W => ?_
  refine Kr (Af F Aa Aa Aa Aa) ?_
  obtain ⟨x4, h5, H⟩ := Ak H
  refine ls F W Aa (BX (v := Value.bool x4) F H8 Aa (fun w W => LV any w (v1) (v2) (v3) p0 p1 _ h5 (((Am h_v1) : D4 _ _ _ _ _ _) w W).nx (((Am h_v2) : D4 _ _ _ _ _ _) w W).nx (((B8 Do h1 (Am h_v3)) : D4 _ _ _ _ _ _) w W).nx)) fun a w F W => ?_
  refine AJ F W (Af F Aa Aa Aa Aa) Aa (Ai Aa) (Eb F Aa).q fun a w F W => ?_
  refine ls F W Aa (Az F Aa Aa Aa).q fun a w F W => ?_
  refine ls F W Aa (Ad F Aa).q fun a w F W => ?_
  rcases Bool.eq_false_or_eq_true (!x4) with hb | hb
  ·
   have H := AS hb H
   rw [hb] at F
   clear hb
   iterate 4 refine Dd F Aa Aa Aa Aa Aa Aa Aa fun a F => ?_
   refine ls F W Aa (Aq F Aa Aa Aa).q fun a w F W => ?_
   refine ls F W Aa (Ad F Aa).q fun a w F W => ?_
   iterate 2 refine Dd F Aa Aa Aa Aa Aa Aa Aa fun a F => ?_
   refine ls F W Aa (Aq F Aa Aa Aa).q fun a w F W => ?_
   refine ls F W Aa (Ad F Aa).q fun a w F W => ?_
   iterate 5 refine Dd F Aa Aa Aa Aa Aa Aa Aa fun a F => ?_
   refine ls F W Aa (Aq F Aa Aa Aa).q fun a w F W => ?_
   refine Ae (Ab ?_)
   exact ⟨_, H, F.re ⟨rfl, Aa, Aa, Aa, Aa, Aa, Aa, trivial⟩, W⟩
  have H := AR (by rw [hb]; decide) H
  rw [hb] at F
  clear hb
  refine AJ F W (Af F Aa Aa Aa Aa) Aa (Ai Aa) (Aw (v := Value.agg #[.int .i64 p0.1, v1, v2]) 0 F Aa Aa JE Aa).q fun a w F W => ?_
  refine AJ F W (Af F Aa Aa Aa Aa) Aa (Ai Aa) (Ad F Aa).q fun a w F W => ?_
  refine Kr (Af F Aa Aa Aa Aa) ?_
  obtain ⟨x5, h6, H⟩ := Ak H
  refine ls F W Aa (BX (v := Value.bool x5) F H8 Aa (fun w W => LV any w (v1) (v2) (v4) p0 p2 _ h6 (((Am h_v1) : D4 _ _ _ _ _ _) w W).nx (((Am h_v2) : D4 _ _ _ _ _ _) w W).nx (((B8 Do h2 (Am h_v4)) : D4 _ _ _ _ _ _) w W).nx)) fun a w F W => ?_
  refine AJ F W (Af F Aa Aa Aa Aa) Aa (Ai Aa) (Eb F Aa).q fun a w F W => ?_
  refine ls F W Aa (Az F Aa Aa Aa).q fun a w F W => ?_
  refine ls F W Aa (Ad F Aa).q fun a w F W => ?_
  rcases Bool.eq_false_or_eq_true (!x5) with hb | hb
  ·
   have H := AS hb H
   rw [hb] at F
   clear hb
   iterate 2 refine Dd F Aa Aa Aa Aa Aa Aa Aa fun a F => ?_
   refine ls F W Aa (Aq F Aa Aa Aa).q fun a w F W => ?_
   refine ls F W Aa (Ad F Aa).q fun a w F W => ?_
   iterate 5 refine Dd F Aa Aa Aa Aa Aa Aa Aa fun a F => ?_
   refine ls F W Aa (Aq F Aa Aa Aa).q fun a w F W => ?_
   refine Ae (Ab ?_)
   exact ⟨_, H, F.re ⟨rfl, Aa, Aa, Aa, Aa, Aa, Aa, trivial⟩, W⟩
  have H := AR (by rw [hb]; decide) H
  rw [hb] at F
  clear hb
  refine AJ F W (Af F Aa Aa Aa Aa) Aa (Ai Aa) (Ad F Aa).q fun a w F W => ?_
  refine AJ F W (Af F Aa Aa Aa Aa) Aa (Ai Aa) (Bu F Aa Aa).q fun a w F W => ?_
  refine ls F W Aa (Az F Aa Aa Aa).q fun a w F W => ?_
  refine ls F W Aa (Ad F Aa).q fun a w F W => ?_
  rcases Bool.eq_false_or_eq_true (decide (p4 < 0)) with hb | hb
  ·
   have H := AS (BD hb) H
   rw [hb] at F
   clear hb
   iterate 5 refine Dd F Aa Aa Aa Aa Aa Aa Aa fun a F => ?_
   refine ls F W Aa (Aq F Aa Aa Aa).q fun a w F W => ?_
   refine Ae (Ab ?_)
   exact ⟨_, H, F.re ⟨rfl, Aa, Aa, Aa, Aa, Aa, Aa, trivial⟩, W⟩
  have H := AR (BB hb) H
  rw [hb] at F
  clear hb
  refine AJ F W (Af F Aa Aa Aa Aa) Aa (Ai Aa) (Ad F Aa).q fun a w F W => ?_
  refine AJ F W (Af F Aa Aa Aa Aa) Aa (Ai Aa) (Aj D1 Aa Aa Aa H4 F Aa 2 Aa).q fun a w F W => ?_
  refine AJ F W (Af F Aa Aa Aa Aa) Aa (Ai Aa) (Aw (v := v2) 0 F Aa Aa H4 Aa).q fun a w F W => ?_
  refine AJ F W (Af F Aa Aa Aa Aa) Aa (Ai Aa) (B0 (r := Gz) (l := p0.2.2) JG Aa F Aa (Am h_v2)).q fun a w F W => ?_
  refine AJ F W (Af F Aa Aa Aa Aa) Aa (Ai Aa) (DH F Aa Aa).q fun a w F W => ?_
  refine ls F W Aa (Az F Aa Aa Aa).q fun a w F W => ?_
  refine Ae (Ab ?_)
  exact ⟨_, H, F.re ⟨rfl, Aa, Aa, Aa, Aa, Aa, Aa, trivial⟩, W⟩
 rintro a w ⟨x1, hj, F, W⟩
 have hj := AV hj
 subst hj
 have H := K1
 clear G1 K1
 refine AA F Aa (fun hb => ?_) fun hb => ?_
 ·
  have H := AS hb H
  rw [hb] at F
  clear hb
  refine Ah (Ac ?_)
  obtain ⟨x6, h7, H⟩ := Ak H
  refine ls F W Aa (BX (v := Value.bool x6) F H9 Aa (fun w W => KQ any w _ h7)) fun a w F W => ?_
  refine ls F W Aa (Ag F Aa).q fun a w F W => ?_
  refine Ae (Ab (AF (AH ?_)))
  have H := AV H
  subst H
  refine BK (.inl Aa) F W Aa (Ay F Aa) ?_
  exact ⟨rfl, W.done⟩
 have H := AR (by rw [hb]; decide) H
 rw [hb] at F
 clear hb
 refine Av (Ab (Ah (Ac ?_)))
 refine ls F W Aa (Aw (v := Value.agg #[.int .i64 p0.1, v1, v2]) 0 F Aa Aa JE Aa).q fun a w F W => ?_
 iterate 2 refine ls F W Aa (Ad F Aa).q fun a w F W => ?_
 obtain ⟨x7, h8, H⟩ := Ak H
 refine B7 (Ml := []) (Zl := []) (M := [(b1, [.int .i64 p0.1, v1, v2])]) (Z := []) (β := Value) (rv := fun x => .tuple #[x, .int .i64 x7.2]) (MM := fun x => []) (ZZ := fun x => [row x 62 Bj x7.1]) F W Ti Aa Aa (fun hL => JI _ w (v1) (v2) (v3) (v4) p0 p1 p2 _ h8 ((Am h_v1) w W).nx ((Am h_v2) w W).nx ((B8 Do h1 (Am h_v3)) w W).nx ((B8 Do h2 (Am h_v4)) w W).nx) fun x a w F W => ?_
 obtain ⟨v7, rfl⟩ : ∃ y, y = x := ⟨x, rfl⟩
 have W : Stw ⟨Y, [], w0⟩ [(b1, [.int .i64 p0.1, v1, v2])] [row v7 62 Bj x7.1] w := W
 refine ls F W Aa (Ad F Aa).q fun a w F W => ?_
 refine ls F W Aa (Bi (v := v7) F Aa Aa).q fun a w F W => ?_
 refine ls F W Aa (Bi (v := Value.int .i64 x7.2) F Aa Aa).q fun a w F W => ?_
 iterate 2 refine ls F W Aa (Ag F Aa).q fun a w F W => ?_
 refine Ae (Ab (Ah (Ac ?_)))
 refine ls F W Aa (Aw (v := Value.agg #[.int .i64 p0.1, v1, v2]) 0 F Aa Aa JE Aa).q fun a w F W => ?_
 iterate 4 refine ls F W Aa (Ad F Aa).q fun a w F W => ?_
 obtain ⟨x8, h9, H⟩ := Ak H
 refine B7 (Ml := []) (Zl := []) (M := [(b1, [.int .i64 p0.1, v1, v2])]) (Z := [row v7 62 Bj x7.1]) (β := Value) (rv := fun x => x) (MM := fun x => []) (ZZ := fun x => [row x 28 (Rp.slice (Rp.int .i64)) x8]) F W Tt Aa Aa (fun hL => Mt _ w (v1) (v2) (v3) (v7) p0 p1 x7.1 p3 p4 _ h9 ((Am h_v1) w W).nx ((Am h_v2) w W).nx (Sl.hide Do h1 (W.old s_v3)) ((An 0 Aa) w W).nx) fun x a w F W => ?_
 obtain ⟨v8, rfl⟩ : ∃ y, y = x := ⟨x, rfl⟩
 have W : Stw ⟨Y, [], w0⟩ [(b1, [.int .i64 p0.1, v1, v2])] [row v8 28 (Rp.slice (Rp.int .i64)) x8, row v7 62 Bj x7.1] w := W
 refine ls F W Aa (Ag F Aa).q fun a w F W => ?_
 refine Ae (Ab (Ah (Ah (Ac ?_))))
 refine ls F W Aa (Ad F Aa).q fun a w F W => ?_
 refine ls F W Aa (B0 (r := (Rp.slice (Rp.int .i64))) (l := x8) Q3 Aa F Aa (An 0 Aa)).q fun a w F W => ?_
 refine ls F W Aa (Aj D1 Aa Aa Aa T3 F Aa 0 Aa).q fun a w F W => ?_
 refine ls F W Aa (Aw (v := Value.int .i64 p0.1) 0 F Aa Aa T3 Aa).q fun a w F W => ?_
 refine ls F W Aa (HL F Aa Aa).q fun a w F W => ?_
 refine Ae (Ab ?_)
 refine AA F Aa (fun hb => ?_) fun hb => ?_
 ·
  have H := AS (BD hb) H
  rw [hb] at F
  clear hb
  refine Ah (Ac ?_)
  refine ls F W Aa (Ag F Aa).q fun a w F W => ?_
  refine Ae (Ab (AF (AH ?_)))
  have H := AV H
  subst H
  refine BK (.inl Aa) F W Aa (Ay F Aa) ?_
  exact ⟨rfl, W.done⟩
 have H := AR (BB hb) H
 rw [hb] at F
 clear hb
 refine Av (Ab (Ah (Ac ?_)))
 refine ls F W Aa (Ag F Aa).q fun a w F W => ?_
 refine Ae (Ab ?_)
 obtain ⟨o2, G2, K2, L2⟩ := Jx H
 refine AM (fun a w => ∃ x9 : List (Int × Int), ∃ v9 : Value, some (Sum.inl x9) = some o2 ∧ Fr 159 [] [(5, .pointer (some ⟨b1, 0, none⟩)), (10, .bool false), (14, v9)] a ∧ Stw ⟨Y, [], w0⟩ [(b1, [.int .i64 p0.1, v1, v2])] [row v9 45 JT x9] w) ?_ ?_
 ·
  have H := G2
  clear G2 K2
  refine Ah (Ac ?_)
  refine ls F W Aa (Ag F Aa).q fun a w F W => ?_
  refine Ae (Ab (As ?_))
  have W := W.nilRow 45 JT
  have W := W.frontZ (i := 1) Aa Aa
  have W := W.sub (M' := [(b1, [.int .i64 p0.1, v1, v2])]) (Z' := [row v8 28 (Rp.slice (Rp.int .i64)) x8, row (Value.slice none 0 0) 45 JT ([])]) (List.Sublist.refl _) (List.Sublist.cons_cons _ (List.Sublist.cons_cons _ (List.nil_sublist _)))
  refine Bb H (fun s a w => ∃ v10 : Value, Fr 159 [] [(4, .int .i64 p4), (5, .pointer (some ⟨b1, 0, none⟩)), (10, .bool false), (13, v8), (14, v10), (15, .int .i64 s.2)] a ∧ Stw ⟨Y, [], w0⟩ [(b1, [.int .i64 p0.1, v1, v2])] [row v8 28 (Rp.slice (Rp.int .i64)) x8, row v10 45 JT s.1] w) ⟨(Value.slice none 0 0), F.re ⟨rfl, Aa, Aa, Aa, Aa, Aa, trivial⟩, W⟩ fun s o a w H L3 hR => ?_
  obtain ⟨x10, x11⟩ := s
  obtain ⟨v10, F, W⟩ := hR
  have F : Fr 159 [] [(4, .int .i64 p4), (5, .pointer (some ⟨b1, 0, none⟩)), (10, .bool false), (13, v8), (14, v10), (15, .int .i64 x11)] a := F
  have W : Stw ⟨Y, [], w0⟩ [(b1, [.int .i64 p0.1, v1, v2])] [row v8 28 (Rp.slice (Rp.int .i64)) x8, row v10 45 JT x10] w := W
  rw [DB] at H
  refine Ah (Ah (Ac ?_))
  iterate 2 refine ls F W Aa (Ad F Aa).q fun a w F W => ?_
  refine ls F W Aa (B0 (r := (Rp.slice (Rp.int .i64))) (l := x8) Q3 Aa F Aa (An 0 Aa)).q fun a w F W => ?_
  refine ls F W Aa (Bu F Aa Aa).q fun a w F W => ?_
  refine Ae (Ab ?_)
  refine AA F Aa (fun hb => ?_) fun hb => ?_
  ·
   have H := AS (BD hb) H
   rw [hb] at F
   clear hb
   refine Av (Ab ?_)
   obtain ⟨o4, G4, K4, L4⟩ := Jx H
   refine AM (fun a w => ∃ x12 : List (Int × Int), ∃ v11 : Value, some (Sum.inl x12) = some o4 ∧ Fr 159 [] [(4, .int .i64 p4), (5, .pointer (some ⟨b1, 0, none⟩)), (10, .bool false), (13, v8), (14, v11), (15, .int .i64 x11)] a ∧ Stw ⟨Y, [], w0⟩ [(b1, [.int .i64 p0.1, v1, v2])] [row v8 28 (Rp.slice (Rp.int .i64)) x8, row v11 45 JT x12] w) ?_ ?_
   ·
    have H := G4
    clear G4 K4
    refine As (Ah (Ac ?_))
    refine ls F W Aa (Ag F Aa).q fun a w F W => ?_
    refine Ae (Ab (As ?_))
    have W := W.frontZ (i := 1) Aa Aa
    have W := W.frontZ (i := 1) Aa Aa
    refine Bb H (fun s a w => ∃ v12 : Value, Fr 159 [] [(4, .int .i64 p4), (5, .pointer (some ⟨b1, 0, none⟩)), (10, .bool false), (13, v8), (14, v12), (15, .int .i64 x11), (16, .int .i64 s.2)] a ∧ Stw ⟨Y, [], w0⟩ [(b1, [.int .i64 p0.1, v1, v2])] [row v8 28 (Rp.slice (Rp.int .i64)) x8, row v12 45 JT s.1] w) ⟨(v10), F.re ⟨rfl, Aa, Aa, Aa, Aa, Aa, Aa, trivial⟩, W⟩ fun s o a w H L5 hR => ?_
    obtain ⟨x13, x14⟩ := s
    obtain ⟨v12, F, W⟩ := hR
    have F : Fr 159 [] [(4, .int .i64 p4), (5, .pointer (some ⟨b1, 0, none⟩)), (10, .bool false), (13, v8), (14, v12), (15, .int .i64 x11), (16, .int .i64 x14)] a := F
    have W : Stw ⟨Y, [], w0⟩ [(b1, [.int .i64 p0.1, v1, v2])] [row v8 28 (Rp.slice (Rp.int .i64)) x8, row v12 45 JT x13] w := W
    rw [CP] at H
    iterate 2 refine Ah ?_
    obtain ⟨v13, h10, W⟩ := W.exR Do
    refine Ac ?_
    iterate 3 refine ls F W Aa (Ad F Aa).q fun a w F W => ?_
    obtain ⟨x15, h11, H⟩ := Ak H
    obtain ⟨v14, h12, h13⟩ := DQ h10 h11
    have h14 : EN v14 = [(v14.1)] := congrArg (fun q : List Int => ([(v14.1)] : List Value)) h13
    refine ls F W Aa (Ax (r := (Rp.vsl (Rp.int .i64))) Pp F Aa Aa (An 0 Aa) h12).q fun a w F W => ?_
    refine ls F W Aa (Ao (y := (v14.1)) (j := 0) (i := x11) (enc := EN) F Aa Aa (An 0 Aa) h12 Im JO (by rw [h14]; rfl)).q fun a w F W => ?_
    have W := W.note (W.rowAt (k := 0) Aa h12 EK.here (congrArg (fun q : List Int => q) h13))
    refine ls F W Aa (B0 (r := (Rp.int .i64)) (l := x15) Hr Aa F Aa (OY 0 Aa)).q fun a w F W => ?_
    refine ls F W Aa (Bu F Aa Aa).q fun a w F W => ?_
    refine Ae (Ab ?_)
    refine AA F Aa (fun hb => ?_) fun hb => ?_
    ·
     have H := AS (BD hb) H
     rw [hb] at F
     clear hb
     refine Av (Ab ?_)
     obtain ⟨o6, G6, K6, L6⟩ := Jx H
     refine AM (fun a w => ∃ x16 : List (Int × Int), ∃ v15 : Value, some (Sum.inl x16) = some o6 ∧ Fr 159 [] [(4, .int .i64 p4), (5, .pointer (some ⟨b1, 0, none⟩)), (10, .bool false), (13, v8), (14, v15), (15, .int .i64 x11), (16, .int .i64 x14)] a ∧ Stw ⟨Y, [], w0⟩ [(b1, [.int .i64 p0.1, v1, v2])] [row v8 28 (Rp.slice (Rp.int .i64)) x8, row v15 45 JT x16] w) ?_ ?_
     ·
      have H := G6
      clear G6 K6
      refine As (Ah ?_)
      refine BV W MO (by kernel_rfl) ?_
      refine qs F Aa (Aw (v := Value.agg #[.int .i64 p0.1, v1, v2]) 0 F Aa Aa JE Aa).q fun a F => ?_
      iterate 3 refine qs F Aa (Ad F Aa).q fun a F => ?_
      obtain ⟨x17, h15, H⟩ := Ak H
      obtain ⟨v16, h16, h17⟩ := DQ h10 h15
      have h18 : EN v16 = [(v16.1)] := congrArg (fun q : List Int => ([(v16.1)] : List Value)) h17
      refine qs F Aa (Ax (r := (Rp.vsl (Rp.int .i64))) Pp F Aa Aa (An 1 Aa) h16).q fun a F => ?_
      refine qs F Aa (Ao (y := (v16.1)) (j := 0) (i := x11) (enc := EN) F Aa Aa (An 1 Aa) h16 Im JO (by rw [h18]; rfl)).q fun a F => ?_
      refine qs F Aa (Ad F Aa).q fun a F => ?_
      obtain ⟨x18, h19, H⟩ := Ak H
      refine qs F Aa (Ax (r := (Rp.int .i64)) GD F Aa Aa (Du (An 1 Aa) h16 EK.here (congrArg (fun q : List Int => q) h17)) h19).q fun a F => ?_
      refine qs F Aa (Ao (y := Value.int .i64 x18) (j := 0) (i := x14) F Aa Aa (Du (An 1 Aa) h16 EK.here (congrArg (fun q : List Int => q) h17)) h19 Fl.int.to T3 Aa).q fun a F => ?_
      obtain ⟨x19, h20, H⟩ := Ak H
      refine qs F Aa (BX (v := Value.tuple #[.int .i64 x19.1, .int .i64 x19.2.1, .int .i64 x19.2.2.1, .bool x19.2.2.2]) F S6 Aa (fun w W => Lv any w (v1) (v2) p0 x11 x18 _ h20 (((Am h_v1) : D4 _ _ _ _ _ _) w W).nx (((Am h_v2) : D4 _ _ _ _ _ _) w W).nx)) fun a F => ?_
      refine qs F Aa (Ad F Aa).q fun a F => ?_
      refine qs F Aa (Bi (v := Value.int .i64 x19.1) F Aa Aa).q fun a F => ?_
      refine qs F Aa (Bi (v := Value.int .i64 x19.2.1) F Aa Aa).q fun a F => ?_
      refine qs F Aa (Bi (v := Value.int .i64 x19.2.2.1) F Aa Aa).q fun a F => ?_
      refine qs F Aa (Bi (v := Value.bool x19.2.2.2) F Aa Aa).q fun a F => ?_
      iterate 4 refine qs F Aa (Ag F Aa).q fun a F => ?_
      refine AY fun w W => ?_
      have W := W.note (W.rowAt (k := 1) Aa h16 EK.here (congrArg (fun q : List Int => q) h17))
      refine Ab (Ah ?_)
      obtain ⟨o7, G7, K7⟩ := Ak H
      refine AM (fun a w => ∃ x20 : Bool, some (x20) = some o7 ∧ Fr 159 [] [(4, .int .i64 p4), (5, .pointer (some ⟨b1, 0, none⟩)), (10, .bool false), (13, v8), (14, v12), (15, .int .i64 x11), (16, .int .i64 x14), (17, .int .i64 x19.1), (20, .bool x19.2.2.2), (140, .bool x20)] a ∧ Stw ⟨Y, [], w0⟩ [(b1, [.int .i64 p0.1, v1, v2])] [row v8 28 (Rp.slice (Rp.int .i64)) x8, row v12 45 JT x13] w) ?_ ?_
      ·
       have H := G7
       clear G7 K7
       refine BV W MO (by kernel_rfl) ?_
       refine qs F Aa (Ad F Aa).q fun a F => ?_
       refine qs F Aa (Eb F Aa).q fun a F => ?_
       refine qs F Aa (Ad F Aa).q fun a F => ?_
       rcases Bool.eq_false_or_eq_true (!x19.2.2.2) with hb | hb
       ·
        have H := AS hb H
        rw [hb] at F
        clear hb
        refine Bc F (Af F Aa Aa Aa Aa) Aa (Ai Aa) (Aj D1 Aa Aa Aa H4 F Aa 2 Aa).q fun a F => ?_
        refine Bc F (Af F Aa Aa Aa Aa) Aa (Ai Aa) (Aw (v := v2) 0 F Aa Aa H4 Aa).q fun a F => ?_
        refine Bc F (Af F Aa Aa Aa Aa) Aa (Ai Aa) (Ad F Aa).q fun a F => ?_
        obtain ⟨x21, h21, H⟩ := Ak H
        refine Bc F (Af F Aa Aa Aa Aa) Aa (Ai Aa) (Ax (r := Gz) Py F Aa Aa (Am h_v2) h21).q fun a F => ?_
        refine Bc F (Af F Aa Aa Aa Aa) Aa (Ai Aa) (Aj KZ Aa Aa Aa T3 F Aa (Hl v2 + (p4).toNat * 2) Aa).q fun a F => ?_
        refine Bc F (Af F Aa Aa Aa Aa) Aa (Ai Aa) (Ao (y := Value.int .i64 x21.1) (j := 0) (i := p4) F Aa Aa (Am h_v2) h21 Pw.to T3 Aa).q fun a F => ?_
        refine Bc F (Af F Aa Aa Aa Aa) Aa (Ai Aa) (Ad F Aa).q fun a F => ?_
        refine Bc F (Af F Aa Aa Aa Aa) Aa (Ai Aa) (HL F Aa Aa).q fun a F => ?_
        refine Bc F (Af F Aa Aa Aa Aa) Aa (Ai Aa) (Ad F Aa).q fun a F => ?_
        rcases Bool.eq_false_or_eq_true (decide (x21.1 ≠ x11)) with hb | hb
        ·
         have H := AS (BD hb) H
         rw [hb] at F
         clear hb
         iterate 14 refine Ds F (CM F Aa Aa Aa Aa Aa) Aa Aa fun a F => ?_
         refine Bc F (Af F Aa Aa Aa Aa) Aa (Ai Aa) (Aq F Aa Aa Aa).q fun a F => ?_
         refine qs F Aa (Aq F Aa Aa Aa).q fun a F => ?_
         refine qs F Aa (Ad F Aa).q fun a F => ?_
         iterate 6 refine Ds F (CM F Aa Aa Aa Aa Aa) Aa Aa fun a F => ?_
         refine qs F Aa (Aq F Aa Aa Aa).q fun a F => ?_
         refine AY fun w W => ?_
         refine Ab ?_
         have W := W.frontZ (i := 2) Aa Aa
         have W := W.hideR Do h10
         have W := W.frontZ (i := 3) Aa Aa
         have W := W.frontZ (i := 1) Aa Aa
         have W := W.sub (M' := [(b1, [.int .i64 p0.1, v1, v2])]) (Z' := [row v8 28 (Rp.slice (Rp.int .i64)) x8, row v12 45 JT x13]) (List.Sublist.refl _) (List.Sublist.cons_cons _ (List.Sublist.cons_cons _ (List.nil_sublist _)))
         exact ⟨_, H, F.re ⟨rfl, Aa, Aa, Aa, Aa, Aa, Aa, Aa, Aa, Aa, trivial⟩, W⟩
        have H := AR (BB hb) H
        rw [hb] at F
        clear hb
        refine Bc F (Af F Aa Aa Aa Aa) Aa (Ai Aa) (Aj D1 Aa Aa Aa H4 F Aa 2 Aa).q fun a F => ?_
        refine Bc F (Af F Aa Aa Aa Aa) Aa (Ai Aa) (Aw (v := v2) 0 F Aa Aa H4 Aa).q fun a F => ?_
        refine Bc F (Af F Aa Aa Aa Aa) Aa (Ai Aa) (Ad F Aa).q fun a F => ?_
        obtain ⟨x22, h22, H⟩ := Ak H
        refine Bc F (Af F Aa Aa Aa Aa) Aa (Ai Aa) (Ax (r := Gz) Py F Aa Aa (Am h_v2) h22).q fun a F => ?_
        refine Bc F (Af F Aa Aa Aa Aa) Aa (Ai Aa) (Aj KZ Aa Aa Aa T3 F Aa (Hl v2 + (p4).toNat * 2 + 1) Aa).q fun a F => ?_
        refine Bc F (Af F Aa Aa Aa Aa) Aa (Ai Aa) (Ao (y := Value.int .i64 x22.2) (j := 1) (i := p4) F Aa Aa (Am h_v2) h22 Pw.to T3 Aa).q fun a F => ?_
        iterate 2 refine Bc F (Af F Aa Aa Aa Aa) Aa (Ai Aa) (Ad F Aa).q fun a F => ?_
        obtain ⟨x23, h23, H⟩ := Ak H
        obtain ⟨v17, h24, h25⟩ := DQ h10 h23
        have h26 : EN v17 = [(v17.1)] := congrArg (fun q : List Int => ([(v17.1)] : List Value)) h25
        refine Bc F (Af F Aa Aa Aa Aa) Aa (Ai Aa) (Ax (r := (Rp.vsl (Rp.int .i64))) Pp F Aa Aa (An 2 Aa) h24).q fun a F => ?_
        refine Bc F (Af F Aa Aa Aa Aa) Aa (Ai Aa) (Ao (y := (v17.1)) (j := 0) (i := x11) (enc := EN) F Aa Aa (An 2 Aa) h24 Im JO (by rw [h26]; rfl)).q fun a F => ?_
        refine Bc F (Af F Aa Aa Aa Aa) Aa (Ai Aa) (Ad F Aa).q fun a F => ?_
        obtain ⟨x24, h27, H⟩ := Ak H
        refine Bc F (Af F Aa Aa Aa Aa) Aa (Ai Aa) (Ax (r := (Rp.int .i64)) GD F Aa Aa (Du (An 2 Aa) h24 EK.here (congrArg (fun q : List Int => q) h25)) h27).q fun a F => ?_
        refine Bc F (Af F Aa Aa Aa Aa) Aa (Ai Aa) (Ao (y := Value.int .i64 x24) (j := 0) (i := x14) F Aa Aa (Du (An 2 Aa) h24 EK.here (congrArg (fun q : List Int => q) h25)) h27 Fl.int.to T3 Aa).q fun a F => ?_
        refine Bc F (Af F Aa Aa Aa Aa) Aa (Ai Aa) (HL F Aa Aa).q fun a F => ?_
        refine Bc F (Af F Aa Aa Aa Aa) Aa (Ai Aa) (Az F Aa Aa Aa).q fun a F => ?_
        refine qs F Aa (Aq F Aa Aa Aa).q fun a F => ?_
        refine qs F Aa (Ad F Aa).q fun a F => ?_
        rcases Bool.eq_false_or_eq_true (decide (x22.2 ≠ x24)) with hb | hb
        ·
         have H := AS (BD hb) H
         rw [hb] at F
         clear hb
         iterate 6 refine Ds F (CM F Aa Aa Aa Aa Aa) Aa Aa fun a F => ?_
         refine qs F Aa (Aq F Aa Aa Aa).q fun a F => ?_
         refine AY fun w W => ?_
         have W := W.note (W.rowAt (k := 2) Aa h24 EK.here (congrArg (fun q : List Int => q) h25))
         refine Ab ?_
         have W := W.frontZ (i := 3) Aa Aa
         have W := W.hideR Do h10
         have W := W.frontZ (i := 4) Aa Aa
         have W := W.frontZ (i := 1) Aa Aa
         have W := W.sub (M' := [(b1, [.int .i64 p0.1, v1, v2])]) (Z' := [row v8 28 (Rp.slice (Rp.int .i64)) x8, row v12 45 JT x13]) (List.Sublist.refl _) (List.Sublist.cons_cons _ (List.Sublist.cons_cons _ (List.nil_sublist _)))
         exact ⟨_, H, F.re ⟨rfl, Aa, Aa, Aa, Aa, Aa, Aa, Aa, Aa, Aa, trivial⟩, W⟩
        have H := AR (BB hb) H
        rw [hb] at F
        clear hb
        iterate 2 refine Bc F (Af F Aa Aa Aa Aa) Aa (Ai Aa) (Ad F Aa).q fun a F => ?_
        obtain ⟨x25, h28, H⟩ := Ak H
        obtain ⟨v18, h29, h30⟩ := DQ h10 h28
        have h31 : EN v18 = [(v18.1)] := congrArg (fun q : List Int => ([(v18.1)] : List Value)) h30
        refine Bc F (Af F Aa Aa Aa Aa) Aa (Ai Aa) (Ax (r := (Rp.vsl (Rp.int .i64))) Pp F Aa Aa (An 2 Aa) h29).q fun a F => ?_
        refine Bc F (Af F Aa Aa Aa Aa) Aa (Ai Aa) (Ao (y := (v18.1)) (j := 0) (i := x11) (enc := EN) F Aa Aa (An 2 Aa) h29 Im JO (by rw [h31]; rfl)).q fun a F => ?_
        refine Bc F (Af F Aa Aa Aa Aa) Aa (Ai Aa) (B0 (r := (Rp.int .i64)) (l := x25) Hr Aa F Aa (Du (An 2 Aa) h29 EK.here (congrArg (fun q : List Int => q) h30))).q fun a F => ?_
        refine Bc F (Af F Aa Aa Aa Aa) Aa (Ai Aa) (Ga F Aa Aa).q fun a F => ?_
        refine qs F Aa (Az F Aa Aa Aa).q fun a F => ?_
        refine AY fun w W => ?_
        have W := W.note (W.rowAt (k := 2) Aa h24 EK.here (congrArg (fun q : List Int => q) h25))
        have W := W.note (W.rowAt (k := 3) Aa h29 EK.here (congrArg (fun q : List Int => q) h30))
        refine Ab ?_
        have W := W.frontZ (i := 4) Aa Aa
        have W := W.hideR Do h10
        have W := W.frontZ (i := 5) Aa Aa
        have W := W.frontZ (i := 1) Aa Aa
        have W := W.sub (M' := [(b1, [.int .i64 p0.1, v1, v2])]) (Z' := [row v8 28 (Rp.slice (Rp.int .i64)) x8, row v12 45 JT x13]) (List.Sublist.refl _) (List.Sublist.cons_cons _ (List.Sublist.cons_cons _ (List.nil_sublist _)))
        exact ⟨_, H, F.re ⟨rfl, Aa, Aa, Aa, Aa, Aa, Aa, Aa, Aa, Aa, trivial⟩, W⟩
       have H := AR (by rw [hb]; decide) H
       rw [hb] at F
       clear hb
       iterate 9 refine Ds F (CM F Aa Aa Aa Aa Aa) Aa Aa fun a F => ?_
       iterate 14 refine Ds F (Kl F Aa Aa Aa Aa) Aa Aa fun a F => ?_
       refine Ds F (CM F Aa Aa Aa Aa Aa) Aa Aa fun a F => ?_
       refine qs F Aa (Az F Aa Aa Aa).q fun a F => ?_
       refine qs F Aa (Ad F Aa).q fun a F => ?_
       iterate 2 refine Bc F (Af F Aa Aa Aa Aa) Aa (Ai Aa) (Ad F Aa).q fun a F => ?_
       obtain ⟨x26, h32, H⟩ := Ak H
       obtain ⟨v19, h33, h34⟩ := DQ h10 h32
       have h35 : EN v19 = [(v19.1)] := congrArg (fun q : List Int => ([(v19.1)] : List Value)) h34
       refine Bc F (Af F Aa Aa Aa Aa) Aa (Ai Aa) (Ax (r := (Rp.vsl (Rp.int .i64))) Pp F Aa Aa (An 2 Aa) h33).q fun a F => ?_
       refine Bc F (Af F Aa Aa Aa Aa) Aa (Ai Aa) (Ao (y := (v19.1)) (j := 0) (i := x11) (enc := EN) F Aa Aa (An 2 Aa) h33 Im JO (by rw [h35]; rfl)).q fun a F => ?_
       refine Bc F (Af F Aa Aa Aa Aa) Aa (Ai Aa) (B0 (r := (Rp.int .i64)) (l := x26) Hr Aa F Aa (Du (An 2 Aa) h33 EK.here (congrArg (fun q : List Int => q) h34))).q fun a F => ?_
       refine Bc F (Af F Aa Aa Aa Aa) Aa (Ai Aa) (Ga F Aa Aa).q fun a F => ?_
       refine qs F Aa (Az F Aa Aa Aa).q fun a F => ?_
       refine AY fun w W => ?_
       have W := W.note (W.rowAt (k := 2) Aa h33 EK.here (congrArg (fun q : List Int => q) h34))
       refine Ab ?_
       have W := W.frontZ (i := 3) Aa Aa
       have W := W.hideR Do h10
       have W := W.frontZ (i := 4) Aa Aa
       have W := W.frontZ (i := 1) Aa Aa
       have W := W.sub (M' := [(b1, [.int .i64 p0.1, v1, v2])]) (Z' := [row v8 28 (Rp.slice (Rp.int .i64)) x8, row v12 45 JT x13]) (List.Sublist.refl _) (List.Sublist.cons_cons _ (List.Sublist.cons_cons _ (List.nil_sublist _)))
       exact ⟨_, H, F.re ⟨rfl, Aa, Aa, Aa, Aa, Aa, Aa, Aa, Aa, Aa, trivial⟩, W⟩
      rintro a w ⟨x20, hj, F, W⟩
      have hj := AV hj
      subst hj
      have H := K7
      clear G7 K7
      refine AA F Aa (fun hb => ?_) fun hb => ?_
      ·
       have H := AS hb H
       rw [hb] at F
       clear hb
       refine Ah (Ac ?_)
       refine ls F W Aa (Ag F Aa).q fun a w F W => ?_
       refine Ae (Ab (AF (AH (AQ ?_))))
       iterate 2 refine AH ?_
       iterate 2 refine AQ ?_
       iterate 2 refine AH ?_
       refine AQ (AH ?_)
       have H := L6 _ H
       have H := L5 _ H
       have H := L4 _ H
       have H := L3 _ H
       have H := L2 _ H
       have H := AV H
       subst H
       refine BK (.inl Aa) F W Aa (Ay F Aa) ?_
       exact ⟨rfl, W.done⟩
      have H := AR (by rw [hb]; decide) H
      rw [hb] at F
      clear hb
      refine Av (Ab (Ah (Ac ?_)))
      refine ls F W Aa (Ad F Aa).q fun a w F W => ?_
      refine Ae (Ab ?_)
      refine AA F Aa (fun hb => ?_) fun hb => ?_
      ·
       have H := AS hb H
       rw [hb] at F
       clear hb
       refine Ac ?_
       iterate 3 refine ls F W Aa (Ad F Aa).q fun a w F W => ?_
       refine ls F W Aa (ET (v := Value.agg #[.int .i64 x11, .int .i64 x19.1]) TM F Aa Aa Aa).q fun a w F W => ?_
       refine Fm (z := Value.agg #[.int .i64 0, .int .i64 0]) (cs := [.int .i64 x11, .int .i64 x19.1]) JT ([(x11, x19.1)] : List (Int × Int)) F W Aa Sy SC Aa Aa Aa Aa Aa Aa (SX.repL _ _ ([(x11, x19.1)] : List (Int × Int))) fun v20 a w F W => ?_
       obtain ⟨x27, h36, H⟩ := Ak H
       refine Fj (r := JT) (i := 2) F W Aa Sy Aa Aa Aa Aa (GP W 0 Aa) h36 Aa fun v21 a w F W => ?_
       have W : Stw ⟨Y, [], w0⟩ [(b1, [.int .i64 p0.1, v1, v2])] [row v21 45 JT x27, row v20 45 JT ([(x11, x19.1)] : List (Int × Int)), row v8 28 (Rp.slice (Rp.int .i64)) x8] w := W
       refine ls F W Aa (Ag F Aa).q fun a w F W => ?_
       refine Ae (AP (Ab ?_))
       have W := W.frontZ (i := 2) Aa Aa
       have W := W.sub (M' := [(b1, [.int .i64 p0.1, v1, v2])]) (Z' := [row v8 28 (Rp.slice (Rp.int .i64)) x8, row v21 45 JT x27]) (List.Sublist.refl _) (List.Sublist.cons_cons _ (List.Sublist.cons_cons _ (List.nil_sublist _)))
       exact ⟨_, (v21), H, F.re ⟨rfl, Aa, Aa, Aa, Aa, Aa, Aa, trivial⟩, W⟩
      have H := AR (by rw [hb]; decide) H
      rw [hb] at F
      clear hb
      refine Av (AP (Ab ?_))
      have W := W.frontZ (i := 1) Aa Aa
      have W := W.frontZ (i := 1) Aa Aa
      exact ⟨_, (v12), H, F.re ⟨rfl, Aa, Aa, Aa, Aa, Aa, Aa, trivial⟩, W⟩
     rintro a w ⟨x16, v15, hj, F, W⟩
     have H := K6 _ hj
     clear hj G6 K6 L6
     refine Ac ?_
     refine ls F W Aa (Ad F Aa).q fun a w F W => ?_
     refine ls F W Aa (BC F Aa Aa Aa).q fun a w F W => ?_
     refine ls F W Aa (Ag F Aa).q fun a w F W => ?_
     refine Ae (Ab ?_)
     have W := W.frontZ (i := 1) Aa Aa
     have W := W.frontZ (i := 1) Aa Aa
     exact ⟨_, H, (v15), F.re ⟨rfl, Aa, Aa, Aa, Aa, Aa, Aa, trivial⟩, W⟩
    have H := AR (BB hb) H
    rw [hb] at F
    clear hb
    refine A8 ?_
    iterate 2 refine Bq ?_
    refine A9 (AP (Ab ?_))
    have W := W.frontZ (i := 1) Aa Aa
    have W := W.hideR Do h10
    have W := W.frontZ (i := 2) Aa Aa
    have W := W.frontZ (i := 1) Aa Aa
    have W := W.sub (M' := [(b1, [.int .i64 p0.1, v1, v2])]) (Z' := [row v8 28 (Rp.slice (Rp.int .i64)) x8, row v12 45 JT x13]) (List.Sublist.refl _) (List.Sublist.cons_cons _ (List.Sublist.cons_cons _ (List.nil_sublist _)))
    have H := L5 _ H
    exact ⟨_, (v12), H, F.re ⟨rfl, Aa, Aa, Aa, Aa, Aa, trivial⟩, W⟩
   rintro a w ⟨x12, v11, hj, F, W⟩
   have H := K4 _ hj
   clear hj G4 K4 L4
   refine Ac ?_
   refine ls F W Aa (Ad F Aa).q fun a w F W => ?_
   refine ls F W Aa (BC F Aa Aa Aa).q fun a w F W => ?_
   refine ls F W Aa (Ag F Aa).q fun a w F W => ?_
   refine Ae (Ab ?_)
   have W := W.frontZ (i := 1) Aa Aa
   have W := W.frontZ (i := 1) Aa Aa
   exact ⟨_, H, (v11), F.re ⟨rfl, Aa, Aa, Aa, Aa, Aa, trivial⟩, W⟩
  have H := AR (BB hb) H
  rw [hb] at F
  clear hb
  refine A8 ?_
  iterate 2 refine Bq ?_
  refine A9 (Ab ?_)
  have W := W.frontZ (i := 1) Aa Aa
  have W := W.sub (M' := [(b1, [.int .i64 p0.1, v1, v2])]) (Z' := [row v10 45 JT x10]) (List.Sublist.refl _) (List.Sublist.cons_cons _ (List.nil_sublist _))
  have H := L3 _ H
  exact ⟨_, (v10), H, F.re ⟨rfl, Aa, Aa, trivial⟩, W⟩
 rintro a w ⟨x9, v9, hj, F, W⟩
 have H := K2 _ hj
 clear hj G2 K2 L2
 refine Ah (Ac ?_)
 refine ls F W Aa (Aj D1 Aa Aa Aa T3 F Aa 0 Aa).q fun a w F W => ?_
 refine ls F W Aa (Aw (v := Value.int .i64 p0.1) 0 F Aa Aa T3 Aa).q fun a w F W => ?_
 refine ls F W Aa (Ad F Aa).q fun a w F W => ?_
 obtain ⟨x28, h37, H⟩ := Ak H
 refine B7 (Ml := []) (Zl := []) (M := [(b1, [.int .i64 p0.1, v1, v2])]) (Z := [row v9 45 JT x9]) (β := Value) (rv := fun x => .tuple #[x, .bool x28.2]) (MM := fun x => []) (ZZ := fun x => [row x 3 (Rp.int .i64) x28.1]) F W Ug Aa Aa (fun hL => Mo _ w (v9) p0.1 x9 _ h37 ((An 0 Aa) w W).nx) fun x a w F W => ?_
 obtain ⟨v22, rfl⟩ : ∃ y, y = x := ⟨x, rfl⟩
 have W : Stw ⟨Y, [], w0⟩ [(b1, [.int .i64 p0.1, v1, v2])] [row v22 3 (Rp.int .i64) x28.1, row v9 45 JT x9] w := W
 refine ls F W Aa (Ad F Aa).q fun a w F W => ?_
 refine ls F W Aa (Bi (v := v22) F Aa Aa).q fun a w F W => ?_
 refine ls F W Aa (Bi (v := Value.bool x28.2) F Aa Aa).q fun a w F W => ?_
 iterate 2 refine ls F W Aa (Ag F Aa).q fun a w F W => ?_
 refine Ae (Ab ?_)
 obtain ⟨o8, G8, K8⟩ := Ak H
 refine AM (fun a w => ∃ x29 : Bool, some (x29) = some o8 ∧ Fr 159 [] [(10, .bool x29)] a ∧ Stw ⟨Y, [], w0⟩ [(b1, [.int .i64 p0.1, v1, v2])] [] w) ?_ ?_
 ·
  have H := G8
  clear G8 K8
  refine Ac ?_
  iterate 2 refine ls F W Aa (Ad F Aa).q fun a w F W => ?_
  rcases Bool.eq_false_or_eq_true x28.2 with hb | hb
  ·
   have H := AS hb H
   rw [hb] at F
   clear hb
   refine Kr (Af F Aa Aa Aa Aa) ?_
   obtain ⟨x30, h38, H⟩ := Ak H
   refine ls F W Aa (BX (v := Value.bool x30) F H9 Aa (fun w W => KQ any w _ h38)) fun a w F W => ?_
   refine ls F W Aa (Aq F Aa Aa Aa).q fun a w F W => ?_
   refine ls F W Aa (Ag F Aa).q fun a w F W => ?_
   refine Ae (Ab ?_)
   have W := W.sub (M' := [(b1, [.int .i64 p0.1, v1, v2])]) (Z' := []) (List.Sublist.refl _) (List.nil_sublist _)
   exact ⟨_, H, F.re ⟨rfl, trivial⟩, W⟩
  have H := AR (by rw [hb]; decide) H
  rw [hb] at F
  clear hb
  refine Dd F Aa Aa Aa Aa Aa Aa Aa fun a F => ?_
  refine ls F W Aa (Az F Aa Aa Aa).q fun a w F W => ?_
  refine ls F W Aa (Ag F Aa).q fun a w F W => ?_
  refine Ae (Ab ?_)
  have W := W.sub (M' := [(b1, [.int .i64 p0.1, v1, v2])]) (Z' := []) (List.Sublist.refl _) (List.nil_sublist _)
  exact ⟨_, H, F.re ⟨rfl, trivial⟩, W⟩
 rintro a w ⟨x29, hj, F, W⟩
 have hj := AV hj
 subst hj
 have H := K8
 clear G8 K8
 refine AF ?_
 have H := AV H
 subst H
 refine BK (.inl Aa) F W Aa (Ay F Aa) ?_
 exact ⟨rfl, W.done⟩
end Go.Proofs.Ythiejmoddfenlaa
