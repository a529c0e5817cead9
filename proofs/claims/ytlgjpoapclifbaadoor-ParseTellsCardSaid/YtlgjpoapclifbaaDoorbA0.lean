/- The functions of layer 29, EO. Conditions: none. -/
import Derived.Test.YtlgjpoapclifbaaDoorRows
import Derived.Test.YtlgjpoapclifbaaDoorbQT
import Derived.Test.YtlgjpoapclifbaaDoorbTR
import Derived.Test.YtlgjpoapclifbaaDoorbOG
import Derived.Test.YtlgjpoapclifbaaDoorbOT
import Derived.Test.YtlgjpoapclifbaaDoorbOD
import Derived.Test.YtlgjpoapclifbaaDoorbOC
import Derived.Test.YtlgjpoapclifbaaDoorbOX
namespace Go.Proofs.YtlgjpoapclifbaaDoor
open Go Go.RowKit
set_option linter.unusedVariables false
set_option linter.unusedSimpArgs false
set_option maxRecDepth 20000
theorem Ho : type_of% Tryd.underlying9 := Tryd.underlying9
theorem L4 : (Tryd.prog.info? 28).bind (·.zero) = some (.agg #[.int .i64 0, .int .i64 0, .int .i64 0, .int .i64 0, .slice none 0 0, .int .i64 0, .int .i64 0, .slice none 0 0]) := by kernel_rfl
theorem Z3 : (Tryd.prog.info? 3).bind (·.zero) = some (.int .i64 0) := by kernel_rfl
theorem Tj : (Tryd.prog.info? 29).bind (·.zero) = some (.int .i64 0) := by kernel_rfl
noncomputable def DO (p0 : List UInt8) : (Int × Bool) → Option ((Int × Bool) ⊕ (Int ⊕ Int))
  | (x2, x3) => (if x2 < (p0.length : Int) then J4 ((ix p0 x2).bind fun x5 => (if (x5.toNat : Int) = 10 then some (.inl false) else (if (x5.toNat : Int) = 35 then some (.inl true) else (if (!x3 && (decide ((x5.toNat : Int) ≠ 32) && decide ((x5.toNat : Int) ≠ 9))) = true then some (.inr (.inr (.inr x2))) else some (.inl x3))))) fun x4 => some (.inl (Co (x2 + 1), x4)) else some (.inr (.inl x2)))
noncomputable def Ee (p0 : List UInt8) (p1 : Int) : Option Int := J4 (Bx (DO p0) (p1, false)) fun x1 => some x1
theorem Lx (Y : Nat → Prop) (w0 : World)  (p0 : List UInt8) (p1 : Int) (r : Int) (H : Ee p0 p1 = some r)  :
    Calls Tryd.prog 81 #[.string (bs p0), .int .i64 p1] w0 fun e w' => e = .returned (.int .i64 r) ∧ Below w0.heap.size w0 w' := by
 refine enter Tryd.func81 Aa Tryd.ntmps81 Aa fun a F => ?_
 have W := Stw.start Y w0
 unfold Ee at H
 refine Ai (Ab ?_)
 refine ls F W Aa (Ag F Aa).q fun a w F W => ?_
 refine Ae (Ad (Ai (Ab ?_)))
 refine ls F W Aa (Ag F Aa).q fun a w F W => ?_
 refine Ae (Ad ?_)
 obtain ⟨o1, G1, K1, L1⟩ := O9 H
 refine Bd (fun a w => ∃ x1 : Int, some (Sum.inl x1) = some o1 ∧ Fr 35 [] [(1, .int .i64 x1), (4, .int .i64 0)] a ∧ Stw ⟨Y, [], w0⟩ [] [] w) ?_ ?_
 ·
  have H := G1
  clear G1 K1
  refine AV ?_
  refine Cr H (fun s a w => Fr 35 [] [(0, .string (bs p0)), (1, .int .i64 s.1), (4, .int .i64 0), (5, .bool s.2)] a ∧ Stw ⟨Y, [], w0⟩ [] [] w) ⟨F.re ⟨rfl, Aa, Aa, Aa, trivial⟩, W⟩ fun s o a w H L2 hR => ?_
  obtain ⟨x2, x3⟩ := s
  obtain ⟨F, W⟩ := hR
  have F : Fr 35 [] [(0, .string (bs p0)), (1, .int .i64 x2), (4, .int .i64 0), (5, .bool x3)] a := F
  have W : Stw ⟨Y, [], w0⟩ [] [] w := W
  rw [DO] at H
  refine Ai (Ai (Ab ?_))
  iterate 2 refine ls F W Aa (Ah F Aa).q fun a w F W => ?_
  refine ls F W Aa (DK (l := p0) Ho Aa F Aa).q fun a w F W => ?_
  refine ls F W Aa (Fd F Aa Aa).q fun a w F W => ?_
  refine Ae (Ad ?_)
  refine Aw F Aa (fun hb => ?_) fun hb => ?_
  ·
   have H := AQ (BB hb) H
   rw [hb] at F
   clear hb
   refine Ax (Ad ?_)
   obtain ⟨o3, G3, K3, L3⟩ := O9 H
   refine Bd (fun a w => ∃ x4 : Bool, some (Sum.inl x4) = some o3 ∧ Fr 35 [] [(0, .string (bs p0)), (1, .int .i64 x2), (4, .int .i64 0), (5, .bool x4)] a ∧ Stw ⟨Y, [], w0⟩ [] [] w) ?_ ?_
   ·
    have H := G3
    clear G3 K3
    refine AV (Ai (Ab ?_))
    iterate 2 refine ls F W Aa (Ah F Aa).q fun a w F W => ?_
    obtain ⟨x5, h1, H⟩ := An H
    refine ls F W Aa (Ei (l := p0) Ho F Aa Aa h1).q fun a w F W => ?_
    refine ls F W Aa (Ag F Aa).q fun a w F W => ?_
    refine Ae (Ad (AV (Ai (Ab ?_))))
    refine ls F W Aa (Ah F Aa).q fun a w F W => ?_
    refine ls F W Aa (Bn F Aa Aa).q fun a w F W => ?_
    refine ls F W Aa (Ag F Aa).q fun a w F W => ?_
    refine Ae (Ad ?_)
    refine Aw F Aa (fun hb => ?_) fun hb => ?_
    ·
     have H := AQ (BB hb) H
     rw [hb] at F
     clear hb
     refine Ab ?_
     refine ls F W Aa (Ag F Aa).q fun a w F W => ?_
     refine Ae ?_
     iterate 2 refine Bw ?_
     refine Ad ?_
     exact ⟨_, H, F.re ⟨rfl, Aa, Aa, Aa, trivial⟩, W⟩
    have H := AR (Bz hb) H
    rw [hb] at F
    clear hb
    refine Ai (Ab ?_)
    refine ls F W Aa (Ah F Aa).q fun a w F W => ?_
    refine ls F W Aa (Bn F Aa Aa).q fun a w F W => ?_
    refine ls F W Aa (Ag F Aa).q fun a w F W => ?_
    refine Ae (Ad ?_)
    refine Aw F Aa (fun hb => ?_) fun hb => ?_
    ·
     have H := AQ (BB hb) H
     rw [hb] at F
     clear hb
     refine Ab ?_
     refine ls F W Aa (Ag F Aa).q fun a w F W => ?_
     refine Ae ?_
     iterate 2 refine Bw ?_
     refine Ad ?_
     exact ⟨_, H, F.re ⟨rfl, Aa, Aa, Aa, trivial⟩, W⟩
    have H := AR (Bz hb) H
    rw [hb] at F
    clear hb
    refine Bd (fun a w => Fr 35 [] [(0, .string (bs p0)), (1, .int .i64 x2), (4, .int .i64 0), (5, .bool x3), (22, .bool (!x3 && (decide ((x5.toNat : Int) ≠ 32) && decide ((x5.toNat : Int) ≠ 9))))] a ∧ Stw ⟨Y, [], w0⟩ [] [] w) ?_ ?_
    ·
     refine Ab ?_
     refine ls F W Aa (Ah F Aa).q fun a w F W => ?_
     refine ls F W Aa (FH F Aa).q fun a w F W => ?_
     refine ls F W Aa (Ah F Aa).q fun a w F W => ?_
     rcases Bool.eq_false_or_eq_true (!x3) with hb0 | hb0
     ·
      rw [hb0] at F
      refine AX F W (Ak F Aa Aa Aa Aa) Aa (Ay Aa) (Ah F Aa).q fun a w F W => ?_
      refine AX F W (Ak F Aa Aa Aa Aa) Aa (Ay Aa) (Ev F Aa Aa).q fun a w F W => ?_
      refine ls F W Aa (AE F Aa Aa Aa).q fun a w F W => ?_
      refine ls F W Aa (Ah F Aa).q fun a w F W => ?_
      rcases Bool.eq_false_or_eq_true (decide ((x5.toNat : Int) ≠ 32)) with hb1 | hb1
      ·
       rw [hb1] at F
       refine AX F W (Ak F Aa Aa Aa Aa) Aa (Ay Aa) (Ah F Aa).q fun a w F W => ?_
       refine AX F W (Ak F Aa Aa Aa Aa) Aa (Ay Aa) (Ev F Aa Aa).q fun a w F W => ?_
       refine ls F W Aa (AE F Aa Aa Aa).q fun a w F W => ?_
       refine ls F W Aa (Ag F Aa).q fun a w F W => ?_
       refine Ae (Ad ?_)
       exact ⟨F.re ⟨rfl, Aa, Aa, Aa, (I2 (by try rw [hb1]; try rw [hb0]; all_goals simp only [IZ])), trivial⟩, W⟩
      rw [hb1] at F
      iterate 2 refine Ec F Aa Aa Aa Aa Aa Aa Aa fun a F => ?_
      refine ls F W Aa (AN F Aa Aa Aa).q fun a w F W => ?_
      refine ls F W Aa (Ag F Aa).q fun a w F W => ?_
      refine Ae (Ad ?_)
      exact ⟨F.re ⟨rfl, Aa, Aa, Aa, (I2 (by try rw [hb1]; try rw [hb0]; all_goals simp only [IZ])), trivial⟩, W⟩
     rw [hb0] at F
     iterate 2 refine Ec F Aa Aa Aa Aa Aa Aa Aa fun a F => ?_
     refine ls F W Aa (AN F Aa Aa Aa).q fun a w F W => ?_
     refine ls F W Aa (Ah F Aa).q fun a w F W => ?_
     iterate 2 refine Ec F Aa Aa Aa Aa Aa Aa Aa fun a F => ?_
     refine ls F W Aa (AN F Aa Aa Aa).q fun a w F W => ?_
     refine ls F W Aa (Ag F Aa).q fun a w F W => ?_
     refine Ae (Ad ?_)
     exact ⟨F.re ⟨rfl, Aa, Aa, Aa, (I2 (by try rw [hb0]; all_goals simp only [IZ])), trivial⟩, W⟩
    rintro a w ⟨F, W⟩
    refine Aw F Aa (fun hb => ?_) fun hb => ?_
    ·
     have H := AQ hb H
     rw [hb] at F
     clear hb
     refine Ai (Ab ?_)
     refine ls F W Aa (Ah F Aa).q fun a w F W => ?_
     refine ls F W Aa (Ag F Aa).q fun a w F W => ?_
     refine Ae (Ad (Aq ?_))
     iterate 2 refine A5 ?_
     iterate 2 refine AD ?_
     refine A5 (AD ?_)
     have H := L3 _ H
     have H := L2 _ H
     have H := L1 _ H
     have H := AH H
     subst H
     refine AP (.inl Aa) F W Aa (Ap F Aa) ?_
     exact ⟨rfl, W.done⟩
    have H := AR (by rw [hb]; decide) H
    rw [hb] at F
    clear hb
    refine Ax ?_
    iterate 2 refine Bw ?_
    refine Ad ?_
    exact ⟨_, H, F.re ⟨rfl, Aa, Aa, Aa, trivial⟩, W⟩
   rintro a w ⟨x4, hj, F, W⟩
   have H := K3 _ hj
   clear hj G3 K3 L3
   refine Ab ?_
   refine ls F W Aa (Ah F Aa).q fun a w F W => ?_
   refine ls F W Aa (BT F Aa Aa Aa).q fun a w F W => ?_
   refine ls F W Aa (Ag F Aa).q fun a w F W => ?_
   refine Ae (Ad ?_)
   exact ⟨_, H, F.re ⟨rfl, Aa, Aa, Aa, trivial⟩, W⟩
  have H := AR (Bz hb) H
  rw [hb] at F
  clear hb
  refine Cl ?_
  iterate 2 refine CO ?_
  refine Ck (Ad ?_)
  have H := L2 _ H
  exact ⟨_, H, F.re ⟨rfl, Aa, trivial⟩, W⟩
 rintro a w ⟨x1, hj, F, W⟩
 have H := K1 _ hj
 clear hj G1 K1 L1
 refine Ai (Ab ?_)
 refine ls F W Aa (Ah F Aa).q fun a w F W => ?_
 refine ls F W Aa (Ag F Aa).q fun a w F W => ?_
 refine Ae (Ad (Aq ?_))
 have H := AH H
 subst H
 refine AP (.inl Aa) F W Aa (Ap F Aa) ?_
 exact ⟨rfl, W.done⟩
theorem S9 : Has Tryd.prog 81 := ⟨fun args w => Al Tryd.func81 rfl (by decide) args w⟩
theorem Rs : (Tryd.prog.info? 98).bind (·.zero) = some (.agg #[.int .i64 0, .int .i64 0, .string (bs ([] : List UInt8)), .int .i64 0]) := by kernel_rfl
def D4 (p0 : Int) : Bool := (decide (97 ≤ p0) && decide (p0 ≤ 122))
theorem Ly (Y : Nat → Prop) (w0 : World)  (p0 : Int) (r : Bool) (H : D4 p0 = r)  :
    Calls Tryd.prog 99 #[.int .u8 p0] w0 fun e w' => e = .returned (.bool r) ∧ Below w0.heap.size w0 w' := by
 refine enter Tryd.func99 Aa Tryd.ntmps99 Aa fun a F => ?_
 have W := Stw.start Y w0
 unfold D4 at H
 refine Ai (Ab ?_)
 refine ls F W Aa (Ag F Aa).q fun a w F W => ?_
 refine Ae (Ad ?_)
 refine Bd (fun a w => Fr 9 [] [(2, .bool (decide (97 ≤ p0) && decide (p0 ≤ 122)))] a ∧ Stw ⟨Y, [], w0⟩ [] [] w) ?_ ?_
 ·
  refine Ab ?_
  refine ls F W Aa (Ah F Aa).q fun a w F W => ?_
  refine ls F W Aa (Mf F Aa Aa).q fun a w F W => ?_
  refine ls F W Aa (Ah F Aa).q fun a w F W => ?_
  rcases Bool.eq_false_or_eq_true (decide (97 ≤ p0)) with hb0 | hb0
  ·
   rw [hb0] at F
   refine AX F W (Ak F Aa Aa Aa Aa) Aa (Ay Aa) (Ah F Aa).q fun a w F W => ?_
   refine AX F W (Ak F Aa Aa Aa Aa) Aa (Ay Aa) (Mf F Aa Aa).q fun a w F W => ?_
   refine ls F W Aa (AE F Aa Aa Aa).q fun a w F W => ?_
   refine ls F W Aa (Ag F Aa).q fun a w F W => ?_
   refine Ae (Ad ?_)
   exact ⟨F.re ⟨(I2 (by try rw [hb0]; all_goals simp only [IZ])), trivial⟩, W⟩
  rw [hb0] at F
  iterate 2 refine Ec F Aa Aa Aa Aa Aa Aa Aa fun a F => ?_
  refine ls F W Aa (AN F Aa Aa Aa).q fun a w F W => ?_
  refine ls F W Aa (Ag F Aa).q fun a w F W => ?_
  refine Ae (Ad ?_)
  exact ⟨F.re ⟨(I2 (by try rw [hb0]; all_goals simp only [IZ])), trivial⟩, W⟩
 rintro a w ⟨F, W⟩
 refine Aq ?_
 subst H
 refine AP (.inl Aa) F W Aa (Ap F Aa) ?_
 exact ⟨rfl, W.done⟩
theorem Tz : Has Tryd.prog 99 := ⟨fun args w => Al Tryd.func99 rfl (by decide) args w⟩
noncomputable def FP (p0 : List UInt8) : Int → Option (Int ⊕ Int)
  | x2 => (if x2 < (p0.length : Int) then (ix p0 x2).bind fun x4 => some (D4 (x4.toNat : Int)) else some false).bind fun x3 => (if x3 = true then some (.inl (Co (x2 + 1))) else some (.inr x2))
noncomputable def HT (p0 : List UInt8) : Option Int := (Bx (FP p0) 0).bind fun x1 => some x1
theorem Pq (Y : Nat → Prop) (w0 : World)  (p0 : List UInt8) (r : Int) (H : HT p0 = some r)  :
    Calls Tryd.prog 98 #[.string (bs p0), .func (.func 99) #[] #[]] w0 fun e w' => e = .returned (.int .i64 r) ∧ Below w0.heap.size w0 w' := by
 refine enter Tryd.func98 Aa Tryd.ntmps98 Aa fun a F => ?_
 have W := Stw.start Y w0
 unfold HT at H
 refine Ai (Ab ?_)
 refine ls F W Aa (Ag F Aa).q fun a w F W => ?_
 refine Ae (Ad (Ai (Ab ?_)))
 refine ls F W Aa (Ag F Aa).q fun a w F W => ?_
 refine Ae (Ad ?_)
 obtain ⟨o1, G1, K1⟩ := An H
 refine Bd (fun a w => ∃ x1 : Int, some (x1) = some o1 ∧ Fr 20 [] [(4, .int .i64 0), (5, .int .i64 x1)] a ∧ Stw ⟨Y, [], w0⟩ [] [] w) ?_ ?_
 ·
  have H := G1
  clear G1 K1
  refine AV ?_
  refine Cr H (fun s a w => Fr 20 [] [(0, .string (bs p0)), (1, .func (.func 99) #[] #[]), (4, .int .i64 0), (5, .int .i64 s)] a ∧ Stw ⟨Y, [], w0⟩ [] [] w) ⟨F.re ⟨rfl, Aa, Aa, Aa, trivial⟩, W⟩ fun s o a w H L2 hR => ?_
  obtain ⟨x2, rfl⟩ : ∃ x, x = s := ⟨s, rfl⟩
  obtain ⟨F, W⟩ := hR
  have F : Fr 20 [] [(0, .string (bs p0)), (1, .func (.func 99) #[] #[]), (4, .int .i64 0), (5, .int .i64 x2)] a := F
  have W : Stw ⟨Y, [], w0⟩ [] [] w := W
  rw [FP] at H
  refine Ai ?_
  obtain ⟨o3, G3, K3⟩ := An H
  refine Bd (fun a w => ∃ x3 : Bool, some (x3) = some o3 ∧ Fr 20 [] [(0, .string (bs p0)), (1, .func (.func 99) #[] #[]), (4, .int .i64 0), (5, .int .i64 x2), (16, .bool x3)] a ∧ Stw ⟨Y, [], w0⟩ [] [] w) ?_ ?_
  ·
   have H := G3
   clear G3 K3
   refine Ab ?_
   iterate 2 refine ls F W Aa (Ah F Aa).q fun a w F W => ?_
   refine ls F W Aa (DK (l := p0) Ho Aa F Aa).q fun a w F W => ?_
   refine ls F W Aa (Fd F Aa Aa).q fun a w F W => ?_
   refine ls F W Aa (Ah F Aa).q fun a w F W => ?_
   rcases Bool.eq_false_or_eq_true (decide (x2 < (p0.length : Int))) with hb | hb
   ·
    have H := AQ (BB hb) H
    rw [hb] at F
    clear hb
    iterate 3 refine AX F W (Ak F Aa Aa Aa Aa) Aa (Ay Aa) (Ah F Aa).q fun a w F W => ?_
    obtain ⟨x4, h1, H⟩ := An H
    refine AX F W (Ak F Aa Aa Aa Aa) Aa (Ay Aa) (Ei (l := p0) Ho F Aa Aa h1).q fun a w F W => ?_
    refine JT (Ak F Aa Aa Aa Aa) ?_
    refine ls F W Aa (OK (ws := [.int .u8 (x4.toNat : Int)]) (v := Value.bool (D4 (x4.toNat : Int))) F Tz Aa (fun w W => Ly any w (x4.toNat : Int) _ Aa)) fun a w F W => ?_
    refine ls F W Aa (AE F Aa Aa Aa).q fun a w F W => ?_
    refine Ae (Ad ?_)
    exact ⟨_, H, F.re ⟨rfl, Aa, Aa, Aa, Aa, trivial⟩, W⟩
   have H := AR (Bz hb) H
   rw [hb] at F
   clear hb
   iterate 5 refine Ec F Aa Aa Aa Aa Aa Aa Aa fun a F => ?_
   refine ls F W Aa (AN F Aa Aa Aa).q fun a w F W => ?_
   refine Ae (Ad ?_)
   exact ⟨_, H, F.re ⟨rfl, Aa, Aa, Aa, Aa, trivial⟩, W⟩
  rintro a w ⟨x3, hj, F, W⟩
  have hj := AH hj
  subst hj
  have H := K3
  clear G3 K3
  refine Aw F Aa (fun hb => ?_) fun hb => ?_
  ·
   have H := AQ hb H
   rw [hb] at F
   clear hb
   refine Ax (Ad (AV (Ab ?_)))
   refine ls F W Aa (Ah F Aa).q fun a w F W => ?_
   refine ls F W Aa (BT F Aa Aa Aa).q fun a w F W => ?_
   refine ls F W Aa (Ag F Aa).q fun a w F W => ?_
   refine Ae (Bw (Ad ?_))
   exact ⟨_, H, F.re ⟨rfl, Aa, Aa, Aa, trivial⟩, W⟩
  have H := AR (by rw [hb]; decide) H
  rw [hb] at F
  clear hb
  refine Cl ?_
  iterate 2 refine CO ?_
  refine Ck (Ad ?_)
  have H := L2 _ H
  exact ⟨_, H, F.re ⟨rfl, Aa, trivial⟩, W⟩
 rintro a w ⟨x1, hj, F, W⟩
 have hj := AH hj
 subst hj
 have H := K1
 clear G1 K1
 refine Ai (Ab ?_)
 refine ls F W Aa (Ah F Aa).q fun a w F W => ?_
 refine ls F W Aa (Ag F Aa).q fun a w F W => ?_
 refine Ae (Ad (Aq ?_))
 have H := AH H
 subst H
 refine AP (.inl Aa) F W Aa (Ap F Aa) ?_
 exact ⟨rfl, W.done⟩
theorem KD : type_of% Tryd.underlying98 := Tryd.underlying98
theorem Ti : Has Tryd.prog 98 := ⟨fun args w => Al Tryd.func98 rfl (by decide) args w⟩
theorem RW : Bt Tryd.prog 98 [.int .i64 0, .int .i64 0, .string (bs ([] : List UInt8)), .int .i64 0] [(0, 1), (1, 1), (2, 1), (3, 1)] := ⟨⟨.agg #[.int .i64 0, .int .i64 0, .string (bs ([] : List UInt8)), .int .i64 0], by kernel_rfl, rfl⟩, ⟨_, KD, fun w => by kernel_rfl⟩⟩
theorem MW : Ty Tryd.prog 98 true 4 := ⟨by kernel_rfl, by kernel_rfl⟩
def EH (p0 : Int) : Bool := (decide (48 ≤ p0) && decide (p0 ≤ 57))
theorem L7 (Y : Nat → Prop) (w0 : World)  (p0 : Int) (r : Bool) (H : EH p0 = r)  :
    Calls Tryd.prog 100 #[.int .u8 p0] w0 fun e w' => e = .returned (.bool r) ∧ Below w0.heap.size w0 w' := by
 refine enter Tryd.func100 Aa Tryd.ntmps100 Aa fun a F => ?_
 have W := Stw.start Y w0
 unfold EH at H
 refine Ai (Ab ?_)
 refine ls F W Aa (Ag F Aa).q fun a w F W => ?_
 refine Ae (Ad ?_)
 refine Bd (fun a w => Fr 9 [] [(2, .bool (decide (48 ≤ p0) && decide (p0 ≤ 57)))] a ∧ Stw ⟨Y, [], w0⟩ [] [] w) ?_ ?_
 ·
  refine Ab ?_
  refine ls F W Aa (Ah F Aa).q fun a w F W => ?_
  refine ls F W Aa (Mf F Aa Aa).q fun a w F W => ?_
  refine ls F W Aa (Ah F Aa).q fun a w F W => ?_
  rcases Bool.eq_false_or_eq_true (decide (48 ≤ p0)) with hb0 | hb0
  ·
   rw [hb0] at F
   refine AX F W (Ak F Aa Aa Aa Aa) Aa (Ay Aa) (Ah F Aa).q fun a w F W => ?_
   refine AX F W (Ak F Aa Aa Aa Aa) Aa (Ay Aa) (Mf F Aa Aa).q fun a w F W => ?_
   refine ls F W Aa (AE F Aa Aa Aa).q fun a w F W => ?_
   refine ls F W Aa (Ag F Aa).q fun a w F W => ?_
   refine Ae (Ad ?_)
   exact ⟨F.re ⟨(I2 (by try rw [hb0]; all_goals simp only [IZ])), trivial⟩, W⟩
  rw [hb0] at F
  iterate 2 refine Ec F Aa Aa Aa Aa Aa Aa Aa fun a F => ?_
  refine ls F W Aa (AN F Aa Aa Aa).q fun a w F W => ?_
  refine ls F W Aa (Ag F Aa).q fun a w F W => ?_
  refine Ae (Ad ?_)
  exact ⟨F.re ⟨(I2 (by try rw [hb0]; all_goals simp only [IZ])), trivial⟩, W⟩
 rintro a w ⟨F, W⟩
 refine Aq ?_
 subst H
 refine AP (.inl Aa) F W Aa (Ap F Aa) ?_
 exact ⟨rfl, W.done⟩
theorem S1 : Has Tryd.prog 100 := ⟨fun args w => Al Tryd.func100 rfl (by decide) args w⟩
noncomputable def EJ (p0 : List UInt8) : Int → Option (Int ⊕ Int)
  | x2 => (if x2 < (p0.length : Int) then (ix p0 x2).bind fun x4 => some (EH (x4.toNat : Int)) else some false).bind fun x3 => (if x3 = true then some (.inl (Co (x2 + 1))) else some (.inr x2))
noncomputable def FO (p0 : List UInt8) : Option Int := (Bx (EJ p0) 0).bind fun x1 => some x1
theorem NO (Y : Nat → Prop) (w0 : World)  (p0 : List UInt8) (r : Int) (H : FO p0 = some r)  :
    Calls Tryd.prog 98 #[.string (bs p0), .func (.func 100) #[] #[]] w0 fun e w' => e = .returned (.int .i64 r) ∧ Below w0.heap.size w0 w' := by
 refine enter Tryd.func98 Aa Tryd.ntmps98 Aa fun a F => ?_
 have W := Stw.start Y w0
 unfold FO at H
 refine Ai (Ab ?_)
 refine ls F W Aa (Ag F Aa).q fun a w F W => ?_
 refine Ae (Ad (Ai (Ab ?_)))
 refine ls F W Aa (Ag F Aa).q fun a w F W => ?_
 refine Ae (Ad ?_)
 obtain ⟨o1, G1, K1⟩ := An H
 refine Bd (fun a w => ∃ x1 : Int, some (x1) = some o1 ∧ Fr 20 [] [(4, .int .i64 0), (5, .int .i64 x1)] a ∧ Stw ⟨Y, [], w0⟩ [] [] w) ?_ ?_
 ·
  have H := G1
  clear G1 K1
  refine AV ?_
  refine Cr H (fun s a w => Fr 20 [] [(0, .string (bs p0)), (1, .func (.func 100) #[] #[]), (4, .int .i64 0), (5, .int .i64 s)] a ∧ Stw ⟨Y, [], w0⟩ [] [] w) ⟨F.re ⟨rfl, Aa, Aa, Aa, trivial⟩, W⟩ fun s o a w H L2 hR => ?_
  obtain ⟨x2, rfl⟩ : ∃ x, x = s := ⟨s, rfl⟩
  obtain ⟨F, W⟩ := hR
  have F : Fr 20 [] [(0, .string (bs p0)), (1, .func (.func 100) #[] #[]), (4, .int .i64 0), (5, .int .i64 x2)] a := F
  have W : Stw ⟨Y, [], w0⟩ [] [] w := W
  rw [EJ] at H
  refine Ai ?_
  obtain ⟨o3, G3, K3⟩ := An H
  refine Bd (fun a w => ∃ x3 : Bool, some (x3) = some o3 ∧ Fr 20 [] [(0, .string (bs p0)), (1, .func (.func 100) #[] #[]), (4, .int .i64 0), (5, .int .i64 x2), (16, .bool x3)] a ∧ Stw ⟨Y, [], w0⟩ [] [] w) ?_ ?_
  ·
   have H := G3
   clear G3 K3
   refine Ab ?_
   iterate 2 refine ls F W Aa (Ah F Aa).q fun a w F W => ?_
   refine ls F W Aa (DK (l := p0) Ho Aa F Aa).q fun a w F W => ?_
   refine ls F W Aa (Fd F Aa Aa).q fun a w F W => ?_
   refine ls F W Aa (Ah F Aa).q fun a w F W => ?_
   rcases Bool.eq_false_or_eq_true (decide (x2 < (p0.length : Int))) with hb | hb
   ·
    have H := AQ (BB hb) H
    rw [hb] at F
    clear hb
    iterate 3 refine AX F W (Ak F Aa Aa Aa Aa) Aa (Ay Aa) (Ah F Aa).q fun a w F W => ?_
    obtain ⟨x4, h1, H⟩ := An H
    refine AX F W (Ak F Aa Aa Aa Aa) Aa (Ay Aa) (Ei (l := p0) Ho F Aa Aa h1).q fun a w F W => ?_
    refine JT (Ak F Aa Aa Aa Aa) ?_
    refine ls F W Aa (OK (ws := [.int .u8 (x4.toNat : Int)]) (v := Value.bool (EH (x4.toNat : Int))) F S1 Aa (fun w W => L7 any w (x4.toNat : Int) _ Aa)) fun a w F W => ?_
    refine ls F W Aa (AE F Aa Aa Aa).q fun a w F W => ?_
    refine Ae (Ad ?_)
    exact ⟨_, H, F.re ⟨rfl, Aa, Aa, Aa, Aa, trivial⟩, W⟩
   have H := AR (Bz hb) H
   rw [hb] at F
   clear hb
   iterate 5 refine Ec F Aa Aa Aa Aa Aa Aa Aa fun a F => ?_
   refine ls F W Aa (AN F Aa Aa Aa).q fun a w F W => ?_
   refine Ae (Ad ?_)
   exact ⟨_, H, F.re ⟨rfl, Aa, Aa, Aa, Aa, trivial⟩, W⟩
  rintro a w ⟨x3, hj, F, W⟩
  have hj := AH hj
  subst hj
  have H := K3
  clear G3 K3
  refine Aw F Aa (fun hb => ?_) fun hb => ?_
  ·
   have H := AQ hb H
   rw [hb] at F
   clear hb
   refine Ax (Ad (AV (Ab ?_)))
   refine ls F W Aa (Ah F Aa).q fun a w F W => ?_
   refine ls F W Aa (BT F Aa Aa Aa).q fun a w F W => ?_
   refine ls F W Aa (Ag F Aa).q fun a w F W => ?_
   refine Ae (Bw (Ad ?_))
   exact ⟨_, H, F.re ⟨rfl, Aa, Aa, Aa, trivial⟩, W⟩
  have H := AR (by rw [hb]; decide) H
  rw [hb] at F
  clear hb
  refine Cl ?_
  iterate 2 refine CO ?_
  refine Ck (Ad ?_)
  have H := L2 _ H
  exact ⟨_, H, F.re ⟨rfl, Aa, trivial⟩, W⟩
 rintro a w ⟨x1, hj, F, W⟩
 have hj := AH hj
 subst hj
 have H := K1
 clear G1 K1
 refine Ai (Ab ?_)
 refine ls F W Aa (Ah F Aa).q fun a w F W => ?_
 refine ls F W Aa (Ag F Aa).q fun a w F W => ?_
 refine Ae (Ad (Aq ?_))
 have H := AH H
 subst H
 refine AP (.inl Aa) F W Aa (Ap F Aa) ?_
 exact ⟨rfl, W.done⟩
theorem TN : type_of% Tryd.underlying3 := Tryd.underlying3
theorem Tt : type_of% Tryd.underlying5 := Tryd.underlying5
noncomputable def Cf (p0 : List UInt8) : (Int × Int) → Option ((Int × Int) ⊕ Int)
  | (x4, x5) => (if x5 < (p0.length : Int) then (ix p0 x5).bind fun x6 => some (.inl (Co ((Co (10 * x4)) + (Co (IntKind.u8.wrap ((x6.toNat : Int) - 48)))), Co (x5 + 1))) else some (.inr x4))
noncomputable def Cp (p0 : List UInt8) : Option ((Int × Int × List UInt8 × Int) × Int) := (if 3 < (p0.length : Int) then some true else (if 1 < (p0.length : Int) then (ix p0 0).bind fun x2 => some (decide ((x2.toNat : Int) = 48)) else some false)).bind fun x1 => (if x1 = true then some ((0, 0, ([] : List UInt8), 0), 0) else (Bx (Cf p0) (0, 0)).bind fun x3 => some ((2, x3, ([] : List UInt8), 0), (p0.length : Int)))
theorem MX (Y : Nat → Prop) (w0 : World)  (p0 : List UInt8) (r : (Int × Int × List UInt8 × Int) × Int) (H : Cp p0 = some r)  :
    Calls Tryd.prog 101 #[.string (bs p0)] w0 fun e w' => e = .returned (.tuple #[.agg #[.int .i64 r.1.1, .int .i64 r.1.2.1, .string (bs r.1.2.2.1), .int .i64 r.1.2.2.2], .int .i64 r.2]) ∧ Below w0.heap.size w0 w' := by
 refine enter Tryd.func101 Aa Tryd.ntmps101 Aa fun a F => ?_
 have W := Stw.start Y w0
 unfold Cp at H
 refine Ai (Ab ?_)
 refine AU (cs := [.int .i64 0, .int .i64 0, .string (bs ([] : List UInt8)), .int .i64 0]) F W Aa Rs Aa fun b1 a w F W => ?_
 refine ls F W Aa (Ag F Aa).q fun a w F W => ?_
 refine Ae (Ad (Ai ?_))
 obtain ⟨o1, G1, K1⟩ := An H
 refine Bd (fun a w => ∃ x1 : Bool, some (x1) = some o1 ∧ Fr 38 [] [(0, .string (bs p0)), (2, .pointer (some ⟨b1, 0, none⟩)), (3, .int .i64 0), (18, .bool x1)] a ∧ Stw ⟨Y, [], w0⟩ [(b1, [.int .i64 0, .int .i64 0, .string (bs ([] : List UInt8)), .int .i64 0])] [] w) ?_ ?_
 ·
  have H := G1
  clear G1 K1
  refine Ab ?_
  refine ls F W Aa (Ah F Aa).q fun a w F W => ?_
  refine ls F W Aa (DK (l := p0) Ho Aa F Aa).q fun a w F W => ?_
  refine ls F W Aa (JE F Aa Aa).q fun a w F W => ?_
  refine ls F W Aa (Ah F Aa).q fun a w F W => ?_
  rcases Bool.eq_false_or_eq_true (decide (3 < (p0.length : Int))) with hb | hb
  ·
   have H := AQ (BB hb) H
   rw [hb] at F
   clear hb
   iterate 4 refine Ec F Aa Aa Aa Aa Aa Aa Aa fun a F => ?_
   iterate 3 refine Tv F Aa Aa Aa Aa Aa Aa fun a F => ?_
   refine Ec F Aa Aa Aa Aa Aa Aa Aa fun a F => ?_
   refine ls F W Aa (AE F Aa Aa Aa).q fun a w F W => ?_
   refine Ae (Ad ?_)
   exact ⟨_, H, F.re ⟨rfl, Aa, Aa, Aa, trivial⟩, W⟩
  have H := AR (Bz hb) H
  rw [hb] at F
  clear hb
  refine AX F W (Ak F Aa Aa Aa Aa) Aa (Ay Aa) (Ah F Aa).q fun a w F W => ?_
  refine AX F W (Ak F Aa Aa Aa Aa) Aa (Ay Aa) (DK (l := p0) Ho Aa F Aa).q fun a w F W => ?_
  refine AX F W (Ak F Aa Aa Aa Aa) Aa (Ay Aa) (JE F Aa Aa).q fun a w F W => ?_
  refine AX F W (Ak F Aa Aa Aa Aa) Aa (Ay Aa) (Ah F Aa).q fun a w F W => ?_
  rcases Bool.eq_false_or_eq_true (decide (1 < (p0.length : Int))) with hb | hb
  ·
   have H := AQ (BB hb) H
   rw [hb] at F
   clear hb
   refine AX F W (Ak F Aa Aa Aa Aa) Aa (Ay Aa) (Ah F Aa).q fun a w F W => ?_
   obtain ⟨x2, h1, H⟩ := An H
   refine AX F W (Ak F Aa Aa Aa Aa) Aa (Ay Aa) (Ei (l := p0) Ho F Aa Aa h1).q fun a w F W => ?_
   refine AX F W (Ak F Aa Aa Aa Aa) Aa (Ay Aa) (Bn F Aa Aa).q fun a w F W => ?_
   refine AX F W (Ak F Aa Aa Aa Aa) Aa (Ay Aa) (AE F Aa Aa Aa).q fun a w F W => ?_
   refine ls F W Aa (AN F Aa Aa Aa).q fun a w F W => ?_
   refine Ae (Ad ?_)
   exact ⟨_, H, F.re ⟨rfl, Aa, Aa, Aa, trivial⟩, W⟩
  have H := AR (Bz hb) H
  rw [hb] at F
  clear hb
  iterate 3 refine Ec F Aa Aa Aa Aa Aa Aa Aa fun a F => ?_
  refine AX F W (Ak F Aa Aa Aa Aa) Aa (Ay Aa) (AN F Aa Aa Aa).q fun a w F W => ?_
  refine ls F W Aa (AN F Aa Aa Aa).q fun a w F W => ?_
  refine Ae (Ad ?_)
  exact ⟨_, H, F.re ⟨rfl, Aa, Aa, Aa, trivial⟩, W⟩
 rintro a w ⟨x1, hj, F, W⟩
 have hj := AH hj
 subst hj
 have H := K1
 clear G1 K1
 refine Aw F Aa (fun hb => ?_) fun hb => ?_
 ·
  have H := AQ hb H
  rw [hb] at F
  clear hb
  refine Ai (Ab ?_)
  refine ls F W Aa (Ba (v := Value.agg #[.int .i64 0, .int .i64 0, .string (bs ([] : List UInt8)), .int .i64 0]) RW F Aa Aa Aa).q fun a w F W => ?_
  refine Au (vs := [.int .i64 0, .int .i64 0, .string (bs ([] : List UInt8)), .int .i64 0]) (M' := [(b1, [.int .i64 0, .int .i64 0, .string (bs ([] : List UInt8)), .int .i64 0])]) 0 F W Aa Aa Aa MW Aa Aa Aa Aa Aa fun w W => ?_
  refine ls F W Aa (Ag F Aa).q fun a w F W => ?_
  refine Ae (Ad (Aq (AD ?_)))
  have H := AH H
  subst H
  refine KS (.inl Aa) F W Aa (AB 0 F Aa Aa MW Aa) (Ap F Aa) ?_
  exact ⟨rfl, W.done⟩
 have H := AR (by rw [hb]; decide) H
 rw [hb] at F
 clear hb
 refine Ax (Ad (Ai (Ab ?_)))
 refine ls F W Aa (Ag F Aa).q fun a w F W => ?_
 refine Ae (Ad ?_)
 obtain ⟨o2, G2, K2⟩ := An H
 refine Bd (fun a w => ∃ x3 : Int, some (x3) = some o2 ∧ Fr 38 [] [(0, .string (bs p0)), (2, .pointer (some ⟨b1, 0, none⟩)), (3, .int .i64 0), (4, .int .i64 x3)] a ∧ Stw ⟨Y, [], w0⟩ [(b1, [.int .i64 0, .int .i64 0, .string (bs ([] : List UInt8)), .int .i64 0])] [] w) ?_ ?_
 ·
  have H := G2
  clear G2 K2
  refine Ai (Ab ?_)
  refine ls F W Aa (Ah F Aa).q fun a w F W => ?_
  refine ls F W Aa (DK (l := p0) Ho Aa F Aa).q fun a w F W => ?_
  refine ls F W Aa (Ah F Aa).q fun a w F W => ?_
  refine Ae (Ad (AV ?_))
  refine Cr H (fun s a w => Fr 38 [] [(0, .string (bs p0)), (2, .pointer (some ⟨b1, 0, none⟩)), (3, .int .i64 0), (4, .int .i64 s.1), (21, .int .i64 (p0.length : Int)), (22, .int .i64 s.2)] a ∧ Stw ⟨Y, [], w0⟩ [(b1, [.int .i64 0, .int .i64 0, .string (bs ([] : List UInt8)), .int .i64 0])] [] w) ⟨F.re ⟨rfl, Aa, Aa, Aa, Aa, Aa, trivial⟩, W⟩ fun s o a w H L3 hR => ?_
  obtain ⟨x4, x5⟩ := s
  obtain ⟨F, W⟩ := hR
  have F : Fr 38 [] [(0, .string (bs p0)), (2, .pointer (some ⟨b1, 0, none⟩)), (3, .int .i64 0), (4, .int .i64 x4), (21, .int .i64 (p0.length : Int)), (22, .int .i64 x5)] a := F
  have W : Stw ⟨Y, [], w0⟩ [(b1, [.int .i64 0, .int .i64 0, .string (bs ([] : List UInt8)), .int .i64 0])] [] w := W
  rw [Cf] at H
  refine Ai (Ab ?_)
  refine ls F W Aa (Fd F Aa Aa).q fun a w F W => ?_
  refine Ae (Ad (Ai ?_))
  refine Aw F Aa (fun hb => ?_) fun hb => ?_
  ·
   have H := AQ (BB hb) H
   rw [hb] at F
   clear hb
   refine Ax (Ad (Ai (AV (Ai (Ab ?_)))))
   refine ls F W Aa (Ah F Aa).q fun a w F W => ?_
   refine ls F W Aa (Ag F Aa).q fun a w F W => ?_
   refine Ae (Ad (Ab ?_))
   refine ls F W Aa (Ah F Aa).q fun a w F W => ?_
   refine ls F W Aa (R4 F Aa Aa Aa).q fun a w F W => ?_
   iterate 2 refine ls F W Aa (Ah F Aa).q fun a w F W => ?_
   obtain ⟨x6, h2, H⟩ := An H
   refine ls F W Aa (Ei (l := p0) Ho F Aa Aa h2).q fun a w F W => ?_
   refine ls F W Aa (OH F Aa Aa Aa).q fun a w F W => ?_
   refine ls F W Aa (QT Tt TN F Aa).q fun a w F W => ?_
   refine ls F W Aa (BT F Aa Aa Aa).q fun a w F W => ?_
   refine ls F W Aa (Ag F Aa).q fun a w F W => ?_
   refine Ae (Bw (Ad (Ab ?_)))
   refine ls F W Aa (BT F Aa Aa Aa).q fun a w F W => ?_
   refine ls F W Aa (Ah F Aa).q fun a w F W => ?_
   refine Ae (Ad ?_)
   exact ⟨_, H, F.re ⟨rfl, Aa, Aa, Aa, Aa, Aa, trivial⟩, W⟩
  have H := AR (Bz hb) H
  rw [hb] at F
  clear hb
  refine Cl ?_
  iterate 2 refine CO ?_
  refine Ck (Ad ?_)
  have H := L3 _ H
  exact ⟨_, H, F.re ⟨rfl, Aa, Aa, Aa, trivial⟩, W⟩
 rintro a w ⟨x3, hj, F, W⟩
 have hj := AH hj
 subst hj
 have H := K2
 clear G2 K2
 refine Ai (Ab ?_)
 refine ls F W Aa (Ah F Aa).q fun a w F W => ?_
 refine ls F W Aa (Ba (v := Value.agg #[.int .i64 2, .int .i64 x3, .string (bs ([] : List UInt8)), .int .i64 0]) RW F Aa Aa Aa).q fun a w F W => ?_
 refine ls F W Aa (Ah F Aa).q fun a w F W => ?_
 refine ls F W Aa (DK (l := p0) Ho Aa F Aa).q fun a w F W => ?_
 refine Au (vs := [.int .i64 2, .int .i64 x3, .string (bs ([] : List UInt8)), .int .i64 0]) (M' := [(b1, [.int .i64 2, .int .i64 x3, .string (bs ([] : List UInt8)), .int .i64 0])]) 0 F W Aa Aa Aa MW Aa Aa Aa Aa Aa fun w W => ?_
 refine ls F W Aa (Ag F Aa).q fun a w F W => ?_
 refine Ae (Ad (Aq ?_))
 have H := AH H
 subst H
 refine KS (.inl Aa) F W Aa (AB 0 F Aa Aa MW Aa) (Ap F Aa) ?_
 exact ⟨rfl, W.done⟩
theorem SM : Has Tryd.prog 101 := ⟨fun args w => Al Tryd.func101 rfl (by decide) args w⟩
noncomputable def BK (p0 : List UInt8) (p1 : List UInt8) : Option Bool := (if (p1.length : Int) ≤ (p0.length : Int) then (Fy p0 0 (p1.length : Int)).bind fun x2 => some (decide (x2 = p1)) else some false).bind fun x1 => some x1
theorem Fu (Y : Nat → Prop) (w0 : World)  (p0 : List UInt8) (p1 : List UInt8) (r : Bool) (H : BK p0 p1 = some r)  :
    Calls Tryd.prog 128 #[.string (bs p0), .string (bs p1)] w0 fun e w' => e = .returned (.bool r) ∧ Below w0.heap.size w0 w' := by
 refine enter Tryd.func128 Aa Tryd.ntmps128 Aa fun a F => ?_
 have W := Stw.start Y w0
 unfold BK at H
 refine Ai (Ab ?_)
 refine ls F W Aa (Ag F Aa).q fun a w F W => ?_
 refine Ae (Ad ?_)
 obtain ⟨o1, G1, K1⟩ := An H
 refine Bd (fun a w => ∃ x1 : Bool, some (x1) = some o1 ∧ Fr 18 [] [(4, .bool x1)] a ∧ Stw ⟨Y, [], w0⟩ [] [] w) ?_ ?_
 ·
  have H := G1
  clear G1 K1
  refine Ab ?_
  refine ls F W Aa (Ah F Aa).q fun a w F W => ?_
  refine ls F W Aa (DK (l := p0) Ho Aa F Aa).q fun a w F W => ?_
  refine ls F W Aa (Ah F Aa).q fun a w F W => ?_
  refine ls F W Aa (DK (l := p1) Ho Aa F Aa).q fun a w F W => ?_
  refine ls F W Aa (OW F Aa Aa).q fun a w F W => ?_
  refine ls F W Aa (Ah F Aa).q fun a w F W => ?_
  rcases Bool.eq_false_or_eq_true (decide ((p1.length : Int) ≤ (p0.length : Int))) with hb | hb
  ·
   have H := AQ (BB hb) H
   rw [hb] at F
   clear hb
   iterate 2 refine AX F W (Ak F Aa Aa Aa Aa) Aa (Ay Aa) (Ah F Aa).q fun a w F W => ?_
   refine AX F W (Ak F Aa Aa Aa Aa) Aa (Ay Aa) (DK (l := p1) Ho Aa F Aa).q fun a w F W => ?_
   obtain ⟨x2, h1, H⟩ := An H
   refine AX F W (Ak F Aa Aa Aa Aa) Aa (Ay Aa) (EY (l := p0) Ho F Aa Aa Aa h1).q fun a w F W => ?_
   refine AX F W (Ak F Aa Aa Aa Aa) Aa (Ay Aa) (Ah F Aa).q fun a w F W => ?_
   refine AX F W (Ak F Aa Aa Aa Aa) Aa (Ay Aa) (Iw (l := x2) (m := p1) F Aa Aa).q fun a w F W => ?_
   refine ls F W Aa (AE F Aa Aa Aa).q fun a w F W => ?_
   refine ls F W Aa (Ag F Aa).q fun a w F W => ?_
   refine Ae (Ad ?_)
   exact ⟨_, H, F.re ⟨rfl, trivial⟩, W⟩
  have H := AR (Bz hb) H
  rw [hb] at F
  clear hb
  iterate 6 refine Ec F Aa Aa Aa Aa Aa Aa Aa fun a F => ?_
  refine ls F W Aa (AN F Aa Aa Aa).q fun a w F W => ?_
  refine ls F W Aa (Ag F Aa).q fun a w F W => ?_
  refine Ae (Ad ?_)
  exact ⟨_, H, F.re ⟨rfl, trivial⟩, W⟩
 rintro a w ⟨x1, hj, F, W⟩
 have hj := AH hj
 subst hj
 have H := K1
 clear G1 K1
 refine Aq ?_
 have H := AH H
 subst H
 refine AP (.inl Aa) F W Aa (Ap F Aa) ?_
 exact ⟨rfl, W.done⟩
theorem SG : Has Tryd.prog 128 := ⟨fun args w => Al Tryd.func128 rfl (by decide) args w⟩
noncomputable def Cv (p0 : List UInt8) (p1 : List UInt8) : Option Bool := (BK p0 p1).bind fun x1 => some x1
theorem I0 (Y : Nat → Prop) (w0 : World)  (p0 : List UInt8) (p1 : List UInt8) (r : Bool) (H : Cv p0 p1 = some r)  :
    Calls Tryd.prog 118 #[.string (bs p0), .string (bs p1)] w0 fun e w' => e = .returned (.bool r) ∧ Below w0.heap.size w0 w' := by
 refine enter Tryd.func118 Aa Tryd.ntmps118 Aa fun a F => ?_
 have W := Stw.start Y w0
 unfold Cv at H
 refine Ai (Ab ?_)
 refine ls F W Aa (Ag F Aa).q fun a w F W => ?_
 refine Ae (Ad (Ai (Ab ?_)))
 iterate 2 refine ls F W Aa (Ah F Aa).q fun a w F W => ?_
 obtain ⟨x1, h1, H⟩ := An H
 refine ls F W Aa (A1 (v := Value.bool x1) F SG Aa (fun w W => Fu any w p0 p1 _ h1)) fun a w F W => ?_
 refine ls F W Aa (Ag F Aa).q fun a w F W => ?_
 refine Ae (Ad (Aq ?_))
 have H := AH H
 subst H
 refine AP (.inl Aa) F W Aa (Ap F Aa) ?_
 exact ⟨rfl, W.done⟩
theorem SF : Has Tryd.prog 118 := ⟨fun args w => Al Tryd.func118 rfl (by decide) args w⟩
noncomputable def D9 (p0 : List UInt8) : Option Int := (ix p0 0).bind fun x1 => (if (x1.toNat : Int) = 40 then some true else (if (x1.toNat : Int) = 41 then some true else (if (x1.toNat : Int) = 59 then some true else (if (x1.toNat : Int) = 124 then some true else some (decide ((x1.toNat : Int) = 61)))))).bind fun x2 => (if x2 = true then some 1 else (Cv p0 ([58, 61] : List UInt8)).bind fun x3 => (if x3 = true then some 2 else some 0))
theorem Ls (Y : Nat → Prop) (w0 : World)  (p0 : List UInt8) (r : Int) (H : D9 p0 = some r)  :
    Calls Tryd.prog 102 #[.string (bs p0)] w0 fun e w' => e = .returned (.int .i64 r) ∧ Below w0.heap.size w0 w' := by
 refine enter Tryd.func102 Aa Tryd.ntmps102 Aa fun a F => ?_
 have W := Stw.start Y w0
 unfold D9 at H
 refine Ai (Ab ?_)
 refine ls F W Aa (Ag F Aa).q fun a w F W => ?_
 refine Ae (Ad (Ai (Ai (Ab ?_))))
 refine ls F W Aa (Ah F Aa).q fun a w F W => ?_
 obtain ⟨x1, h1, H⟩ := An H
 refine ls F W Aa (Ei (l := p0) Ho F Aa Aa h1).q fun a w F W => ?_
 refine Ae (Ad (AV ?_))
 obtain ⟨o1, G1, K1⟩ := An H
 refine Bd (fun a w => ∃ x2 : Bool, some (x2) = some o1 ∧ Fr 13 [] [(0, .string (bs p0)), (2, .int .i64 0), (5, .bool x2)] a ∧ Stw ⟨Y, [], w0⟩ [] [] w) ?_ ?_
 ·
  have H := G1
  clear G1 K1
  refine Ai (Ab ?_)
  refine ls F W Aa (Bn F Aa Aa).q fun a w F W => ?_
  refine ls F W Aa (Ag F Aa).q fun a w F W => ?_
  refine Ae (Ad ?_)
  refine Aw F Aa (fun hb => ?_) fun hb => ?_
  ·
   have H := AQ (BB hb) H
   rw [hb] at F
   clear hb
   refine Ax (Ad ?_)
   exact ⟨_, H, F.re ⟨rfl, Aa, Aa, trivial⟩, W⟩
  have H := AR (Bz hb) H
  rw [hb] at F
  clear hb
  refine Ai (Ab ?_)
  refine ls F W Aa (Bn F Aa Aa).q fun a w F W => ?_
  refine ls F W Aa (Ag F Aa).q fun a w F W => ?_
  refine Ae (Ad ?_)
  refine Aw F Aa (fun hb => ?_) fun hb => ?_
  ·
   have H := AQ (BB hb) H
   rw [hb] at F
   clear hb
   refine Ax (Ad ?_)
   exact ⟨_, H, F.re ⟨rfl, Aa, Aa, trivial⟩, W⟩
  have H := AR (Bz hb) H
  rw [hb] at F
  clear hb
  refine Ai (Ab ?_)
  refine ls F W Aa (Bn F Aa Aa).q fun a w F W => ?_
  refine ls F W Aa (Ag F Aa).q fun a w F W => ?_
  refine Ae (Ad ?_)
  refine Aw F Aa (fun hb => ?_) fun hb => ?_
  ·
   have H := AQ (BB hb) H
   rw [hb] at F
   clear hb
   refine Ax (Ad ?_)
   exact ⟨_, H, F.re ⟨rfl, Aa, Aa, trivial⟩, W⟩
  have H := AR (Bz hb) H
  rw [hb] at F
  clear hb
  refine Ai (Ab ?_)
  refine ls F W Aa (Bn F Aa Aa).q fun a w F W => ?_
  refine ls F W Aa (Ag F Aa).q fun a w F W => ?_
  refine Ae (Ad ?_)
  refine Aw F Aa (fun hb => ?_) fun hb => ?_
  ·
   have H := AQ (BB hb) H
   rw [hb] at F
   clear hb
   refine Ax (Ad ?_)
   exact ⟨_, H, F.re ⟨rfl, Aa, Aa, trivial⟩, W⟩
  have H := AR (Bz hb) H
  rw [hb] at F
  clear hb
  refine Ab ?_
  refine ls F W Aa (Bn F Aa Aa).q fun a w F W => ?_
  refine ls F W Aa (Ag F Aa).q fun a w F W => ?_
  refine Ae (Ad ?_)
  exact ⟨_, H, F.re ⟨rfl, Aa, Aa, trivial⟩, W⟩
 rintro a w ⟨x2, hj, F, W⟩
 have hj := AH hj
 subst hj
 have H := K1
 clear G1 K1
 refine Aw F Aa (fun hb => ?_) fun hb => ?_
 ·
  have H := AQ hb H
  rw [hb] at F
  clear hb
  refine Ai (Ab ?_)
  refine ls F W Aa (Ag F Aa).q fun a w F W => ?_
  refine Ae (Ad (Aq (A5 (AD ?_))))
  have H := AH H
  subst H
  refine AP (.inl Aa) F W Aa (Ap F Aa) ?_
  exact ⟨rfl, W.done⟩
 have H := AR (by rw [hb]; decide) H
 rw [hb] at F
 clear hb
 refine Ax (Bw (Ad (Ai (Ai (Ab ?_)))))
 refine ls F W Aa (Ah F Aa).q fun a w F W => ?_
 obtain ⟨x3, h2, H⟩ := An H
 refine ls F W Aa (A1 (v := Value.bool x3) F SF Aa (fun w W => I0 any w p0 ([58, 61] : List UInt8) _ h2)) fun a w F W => ?_
 refine Ae (Ad ?_)
 refine Aw F Aa (fun hb => ?_) fun hb => ?_
 ·
  have H := AQ hb H
  rw [hb] at F
  clear hb
  refine Ai (Ab ?_)
  refine ls F W Aa (Ag F Aa).q fun a w F W => ?_
  refine Ae (Ad (Aq (AD ?_)))
  have H := AH H
  subst H
  refine AP (.inl Aa) F W Aa (Ap F Aa) ?_
  exact ⟨rfl, W.done⟩
 have H := AR (by rw [hb]; decide) H
 rw [hb] at F
 clear hb
 refine Ax (Ad (Ai (Ab ?_)))
 refine ls F W Aa (Ag F Aa).q fun a w F W => ?_
 refine Ae (Ad (Aq ?_))
 have H := AH H
 subst H
 refine AP (.inl Aa) F W Aa (Ap F Aa) ?_
 exact ⟨rfl, W.done⟩
theorem SZ : Has Tryd.prog 102 := ⟨fun args w => Al Tryd.func102 rfl (by decide) args w⟩
noncomputable def Cq (p0 : List UInt8) : Option ((Int × Int × List UInt8 × Int) × Int) := (HT p0).bind fun x1 => (if 0 < x1 then (Fy p0 0 x1).bind fun x2 => some ((1, 0, x2, 0), x1) else (FO p0).bind fun x3 => (if 0 < x3 then (Fy p0 0 x3).bind fun x4 => (Cp x4).bind fun x5 => some (x5.1, x5.2) else (D9 p0).bind fun x6 => (if x6 = 0 then some ((0, 0, ([] : List UInt8), 0), 0) else (Fy p0 0 x6).bind fun x7 => some ((3, 0, x7, 0), x6))))
theorem Nu (Y : Nat → Prop) (w0 : World)  (p0 : List UInt8) (r : (Int × Int × List UInt8 × Int) × Int) (H : Cq p0 = some r)  :
    Calls Tryd.prog 82 #[.string (bs p0)] w0 fun e w' => e = .returned (.tuple #[.agg #[.int .i64 r.1.1, .int .i64 r.1.2.1, .string (bs r.1.2.2.1), .int .i64 r.1.2.2.2], .int .i64 r.2]) ∧ Below w0.heap.size w0 w' := by
 refine enter Tryd.func82 Aa Tryd.ntmps82 Aa fun a F => ?_
 have W := Stw.start Y w0
 unfold Cq at H
 refine Ai (Ab ?_)
 refine AU (cs := [.int .i64 0, .int .i64 0, .string (bs ([] : List UInt8)), .int .i64 0]) F W Aa Rs Aa fun b1 a w F W => ?_
 refine ls F W Aa (Ag F Aa).q fun a w F W => ?_
 refine Ae (Ad (Ai (Ai (Ab ?_))))
 refine ls F W Aa (Ah F Aa).q fun a w F W => ?_
 obtain ⟨x1, h1, H⟩ := An H
 refine ls F W Aa (A1 (v := Value.int .i64 x1) F Ti Aa (fun w W => Pq any w p0 _ h1)) fun a w F W => ?_
 refine ls F W Aa (Ag F Aa).q fun a w F W => ?_
 refine Ae (Ad (Ai (Ab ?_)))
 refine ls F W Aa (Ah F Aa).q fun a w F W => ?_
 refine ls F W Aa (JE F Aa Aa).q fun a w F W => ?_
 refine Ae (Ad ?_)
 refine Aw F Aa (fun hb => ?_) fun hb => ?_
 ·
  have H := AQ (BB hb) H
  rw [hb] at F
  clear hb
  refine Ai (Ab ?_)
  iterate 2 refine ls F W Aa (Ah F Aa).q fun a w F W => ?_
  obtain ⟨x2, h2, H⟩ := An H
  refine ls F W Aa (EY (l := p0) Ho F Aa Aa Aa h2).q fun a w F W => ?_
  refine ls F W Aa (Ba (v := Value.agg #[.int .i64 1, .int .i64 0, .string (bs x2), .int .i64 0]) RW F Aa Aa Aa).q fun a w F W => ?_
  refine ls F W Aa (Ah F Aa).q fun a w F W => ?_
  refine Au (vs := [.int .i64 1, .int .i64 0, .string (bs x2), .int .i64 0]) (M' := [(b1, [.int .i64 1, .int .i64 0, .string (bs x2), .int .i64 0])]) 0 F W Aa Aa Aa MW Aa Aa Aa Aa Aa fun w W => ?_
  refine ls F W Aa (Ag F Aa).q fun a w F W => ?_
  refine Ae (Ad (Aq (AD ?_)))
  have H := AH H
  subst H
  refine KS (.inl Aa) F W Aa (AB 0 F Aa Aa MW Aa) (Ap F Aa) ?_
  exact ⟨rfl, W.done⟩
 have H := AR (Bz hb) H
 rw [hb] at F
 clear hb
 refine Ax (Ad (Ai (Ai (Ab ?_))))
 refine ls F W Aa (Ah F Aa).q fun a w F W => ?_
 obtain ⟨x3, h3, H⟩ := An H
 refine ls F W Aa (A1 (v := Value.int .i64 x3) F Ti Aa (fun w W => NO any w p0 _ h3)) fun a w F W => ?_
 refine ls F W Aa (Ag F Aa).q fun a w F W => ?_
 refine Ae (Ad (Ai (Ab ?_)))
 refine ls F W Aa (Ah F Aa).q fun a w F W => ?_
 refine ls F W Aa (JE F Aa Aa).q fun a w F W => ?_
 refine Ae (Ad ?_)
 refine Aw F Aa (fun hb => ?_) fun hb => ?_
 ·
  have H := AQ (BB hb) H
  rw [hb] at F
  clear hb
  refine Ai (Ab ?_)
  iterate 2 refine ls F W Aa (Ah F Aa).q fun a w F W => ?_
  obtain ⟨x4, h4, H⟩ := An H
  refine ls F W Aa (EY (l := p0) Ho F Aa Aa Aa h4).q fun a w F W => ?_
  obtain ⟨x5, h5, H⟩ := An H
  refine ls F W Aa (A1 (v := Value.tuple #[.agg #[.int .i64 x5.1.1, .int .i64 x5.1.2.1, .string (bs x5.1.2.2.1), .int .i64 x5.1.2.2.2], .int .i64 x5.2]) F SM Aa (fun w W => MX any w x4 _ h5)) fun a w F W => ?_
  refine ls F W Aa (As (v := Value.agg #[.int .i64 x5.1.1, .int .i64 x5.1.2.1, .string (bs x5.1.2.2.1), .int .i64 x5.1.2.2.2]) F Aa Aa).q fun a w F W => ?_
  refine ls F W Aa (As (v := Value.int .i64 x5.2) F Aa Aa).q fun a w F W => ?_
  refine Au (vs := [.int .i64 x5.1.1, .int .i64 x5.1.2.1, .string (bs x5.1.2.2.1), .int .i64 x5.1.2.2.2]) (M' := [(b1, [.int .i64 x5.1.1, .int .i64 x5.1.2.1, .string (bs x5.1.2.2.1), .int .i64 x5.1.2.2.2])]) 0 F W Aa Aa Aa MW Aa Aa Aa Aa Aa fun w W => ?_
  refine ls F W Aa (Ag F Aa).q fun a w F W => ?_
  refine Ae (Ad (Aq (AD ?_)))
  have H := AH H
  subst H
  refine KS (.inl Aa) F W Aa (AB 0 F Aa Aa MW Aa) (Ap F Aa) ?_
  exact ⟨rfl, W.done⟩
 have H := AR (Bz hb) H
 rw [hb] at F
 clear hb
 refine Ax (Ad (Ai (Ab ?_)))
 refine ls F W Aa (Ah F Aa).q fun a w F W => ?_
 obtain ⟨x6, h6, H⟩ := An H
 refine ls F W Aa (A1 (v := Value.int .i64 x6) F SZ Aa (fun w W => Ls any w p0 _ h6)) fun a w F W => ?_
 refine ls F W Aa (Ag F Aa).q fun a w F W => ?_
 refine Ae (Ad (Ai (Ai (Ab ?_))))
 refine ls F W Aa (Ah F Aa).q fun a w F W => ?_
 refine ls F W Aa (Bn F Aa Aa).q fun a w F W => ?_
 refine Ae (Ad ?_)
 refine Aw F Aa (fun hb => ?_) fun hb => ?_
 ·
  have H := AQ (BB hb) H
  rw [hb] at F
  clear hb
  refine Ai (Ab ?_)
  refine ls F W Aa (Ba (v := Value.agg #[.int .i64 0, .int .i64 0, .string (bs ([] : List UInt8)), .int .i64 0]) RW F Aa Aa Aa).q fun a w F W => ?_
  refine Au (vs := [.int .i64 0, .int .i64 0, .string (bs ([] : List UInt8)), .int .i64 0]) (M' := [(b1, [.int .i64 0, .int .i64 0, .string (bs ([] : List UInt8)), .int .i64 0])]) 0 F W Aa Aa Aa MW Aa Aa Aa Aa Aa fun w W => ?_
  refine ls F W Aa (Ag F Aa).q fun a w F W => ?_
  refine Ae (Ad (Aq (AD ?_)))
  have H := AH H
  subst H
  refine KS (.inl Aa) F W Aa (AB 0 F Aa Aa MW Aa) (Ap F Aa) ?_
  exact ⟨rfl, W.done⟩
 have H := AR (Bz hb) H
 rw [hb] at F
 clear hb
 refine Ax (Ad (Ai (Ab ?_)))
 iterate 2 refine ls F W Aa (Ah F Aa).q fun a w F W => ?_
 obtain ⟨x7, h7, H⟩ := An H
 refine ls F W Aa (EY (l := p0) Ho F Aa Aa Aa h7).q fun a w F W => ?_
 refine ls F W Aa (Ba (v := Value.agg #[.int .i64 3, .int .i64 0, .string (bs x7), .int .i64 0]) RW F Aa Aa Aa).q fun a w F W => ?_
 refine ls F W Aa (Ah F Aa).q fun a w F W => ?_
 refine Au (vs := [.int .i64 3, .int .i64 0, .string (bs x7), .int .i64 0]) (M' := [(b1, [.int .i64 3, .int .i64 0, .string (bs x7), .int .i64 0])]) 0 F W Aa Aa Aa MW Aa Aa Aa Aa Aa fun w W => ?_
 refine ls F W Aa (Ag F Aa).q fun a w F W => ?_
 refine Ae (Ad (Aq ?_))
 have H := AH H
 subst H
 refine KS (.inl Aa) F W Aa (AB 0 F Aa Aa MW Aa) (Ap F Aa) ?_
 exact ⟨rfl, W.done⟩
theorem R6 : type_of% Tryd.underlying91 := Tryd.underlying91
theorem TM : Has Tryd.prog 82 := ⟨fun args w => Al Tryd.func82 rfl (by decide) args w⟩
abbrev Az : Rp (Int × Int × List UInt8 × Int) := (Rp.pair (Rp.int .i64) (Rp.pair (Rp.int .i64) (Rp.pair Rp.str (Rp.int .i64))))
theorem T3 : Ty Tryd.prog 3 false 1 := ⟨by kernel_rfl, by kernel_rfl⟩
def Tp (a : Int × Int × List UInt8 × Int) : List Value := [.int .i64 a.1, .int .i64 a.2.1, .string (bs a.2.2.1), .int .i64 a.2.2.2]
theorem SR : Fl Az Tp := (Fl.pair Fl.int (Fl.pair Fl.int (Fl.pair Fl.str Fl.int)))
theorem Sd : Et Tryd.prog 91 98 4 40 := Et.of R6 (by kernel_rfl) (by kernel_rfl) (by kernel_rfl) (by decide)
noncomputable def Cb (p0 : List UInt8) : ((List (Int × Int × List UInt8 × Int)) × Int) → Option (((List (Int × Int × List UInt8 × Int)) × Int) ⊕ ((List (Int × Int × List UInt8 × Int)) ⊕ ((List (Int × Int × List UInt8 × Int)) × Int × Int)))
  | (x3, x4) => (if x4 < (p0.length : Int) then (Fy p0 x4 (p0.length : Int)).bind fun x5 => (Cq x5).bind fun x6 => (if x6.2 = 0 then some (.inr (.inr (([] : List (Int × Int × List UInt8 × Int)), x4, 10))) else (if (x3.length : Int) = 500 then some (.inr (.inr (([] : List (Int × Int × List UInt8 × Int)), x4, 6))) else (Eo x3 ([(x6.1.1, x6.1.2.1, x6.1.2.2.1, x4)] : List (Int × Int × List UInt8 × Int))).bind fun x7 => (Ee p0 (Co (x4 + x6.2))).bind fun x8 => some (.inl (x7, x8)))) else some (.inr (.inl x3)))
noncomputable def FQ (p0 : List UInt8) : Option ((List (Int × Int × List UInt8 × Int)) × Int × Int) := (if 4000 < (p0.length : Int) then some (([] : List (Int × Int × List UInt8 × Int)), 0, 3) else (Ee p0 0).bind fun x1 => J4 (Bx (Cb p0) ([], x1)) fun x2 => (Eo x2 ([(4, 0, ([] : List UInt8), (p0.length : Int))] : List (Int × Int × List UInt8 × Int))).bind fun x9 => some (x9, 0, 0))
theorem Pu (Y : Nat → Prop) (w0 : World)  (p0 : List UInt8) (r : (List (Int × Int × List UInt8 × Int)) × Int × Int) (H : FQ p0 = some r)  :
    Calls Tryd.prog 55 #[.string (bs p0)] w0 fun e w' => ∃ x : Value, e = .returned (.tuple #[x, .int .i64 r.2.1, .int .i64 r.2.2]) ∧ Stw ⟨Y, [], w0⟩ [] [row (x) 98 Az r.1] w' := by
 refine enter Tryd.func55 Aa Tryd.ntmps55 Aa fun a F => ?_
 have W := Stw.start Y w0
 unfold FQ at H
 refine Ai (Ab ?_)
 iterate 3 refine ls F W Aa (Ag F Aa).q fun a w F W => ?_
 refine Ae (Ad (Ai (Ai (Ab ?_))))
 refine ls F W Aa (Ah F Aa).q fun a w F W => ?_
 refine ls F W Aa (DK (l := p0) Ho Aa F Aa).q fun a w F W => ?_
 refine ls F W Aa (JE F Aa Aa).q fun a w F W => ?_
 refine Ae (Ad ?_)
 refine Aw F Aa (fun hb => ?_) fun hb => ?_
 ·
  have H := AQ (BB hb) H
  rw [hb] at F
  clear hb
  refine Ai (Ab ?_)
  iterate 3 refine ls F W Aa (Ag F Aa).q fun a w F W => ?_
  refine Ae (Ad (Aq (AD ?_)))
  have H := AH H
  subst H
  refine CD (.inl Aa) F W Aa (Ap F Aa) (Ap F Aa) (Ap F Aa) ?_
  have W := W.nilRow 98 Az
  exact ⟨(Value.slice none 0 0), Aa, W⟩
 have H := AR (Bz hb) H
 rw [hb] at F
 clear hb
 refine Ax (Ad (Ai (Ab ?_)))
 refine ls F W Aa (Ag F Aa).q fun a w F W => ?_
 refine Ae (Ad (Ai (Ab ?_)))
 refine ls F W Aa (Ah F Aa).q fun a w F W => ?_
 obtain ⟨x1, h1, H⟩ := An H
 refine ls F W Aa (A1 (v := Value.int .i64 x1) F S9 Aa (fun w W => Lx any w p0 0 _ h1)) fun a w F W => ?_
 refine ls F W Aa (Ag F Aa).q fun a w F W => ?_
 refine Ae (Ad ?_)
 obtain ⟨o1, G1, K1, L1⟩ := O9 H
 refine Bd (fun a w => ∃ x2 : List (Int × Int × List UInt8 × Int), ∃ v1 : Value, some (Sum.inl x2) = some o1 ∧ Fr 49 [] [(0, .string (bs p0)), (2, .slice none 0 0), (3, .int .i64 0), (4, .int .i64 0), (5, v1)] a ∧ Stw ⟨Y, [], w0⟩ [] [row v1 98 Az x2] w) ?_ ?_
 ·
  have H := G1
  clear G1 K1
  refine AV ?_
  have W := W.nilRow 98 Az
  refine Cr H (fun s a w => ∃ v2 : Value, Fr 49 [] [(0, .string (bs p0)), (2, .slice none 0 0), (3, .int .i64 0), (4, .int .i64 0), (5, v2), (6, .int .i64 s.2)] a ∧ Stw ⟨Y, [], w0⟩ [] [row v2 98 Az s.1] w) ⟨(Value.slice none 0 0), F.re ⟨rfl, Aa, Aa, Aa, Aa, Aa, trivial⟩, W⟩ fun s o a w H L2 hR => ?_
  obtain ⟨x3, x4⟩ := s
  obtain ⟨v2, F, W⟩ := hR
  have F : Fr 49 [] [(0, .string (bs p0)), (2, .slice none 0 0), (3, .int .i64 0), (4, .int .i64 0), (5, v2), (6, .int .i64 x4)] a := F
  have W : Stw ⟨Y, [], w0⟩ [] [row v2 98 Az x3] w := W
  rw [Cb] at H
  refine Ai (Ai (Ab ?_))
  iterate 2 refine ls F W Aa (Ah F Aa).q fun a w F W => ?_
  refine ls F W Aa (DK (l := p0) Ho Aa F Aa).q fun a w F W => ?_
  refine ls F W Aa (Fd F Aa Aa).q fun a w F W => ?_
  refine Ae (Ad ?_)
  refine Aw F Aa (fun hb => ?_) fun hb => ?_
  ·
   have H := AQ (BB hb) H
   rw [hb] at F
   clear hb
   refine Ax (Ad (AV (Ai (Ab ?_))))
   iterate 2 refine ls F W Aa (Ah F Aa).q fun a w F W => ?_
   obtain ⟨x5, h2, H⟩ := An H
   refine ls F W Aa (EY (l := p0) Ho F Aa Aa Aa h2).q fun a w F W => ?_
   obtain ⟨x6, h3, H⟩ := An H
   refine ls F W Aa (A1 (v := Value.tuple #[.agg #[.int .i64 x6.1.1, .int .i64 x6.1.2.1, .string (bs x6.1.2.2.1), .int .i64 x6.1.2.2.2], .int .i64 x6.2]) F TM Aa (fun w W => Nu any w x5 _ h3)) fun a w F W => ?_
   refine ls F W Aa (Ah F Aa).q fun a w F W => ?_
   refine ls F W Aa (As (v := Value.agg #[.int .i64 x6.1.1, .int .i64 x6.1.2.1, .string (bs x6.1.2.2.1), .int .i64 x6.1.2.2.2]) F Aa Aa).q fun a w F W => ?_
   refine ls F W Aa (As (v := Value.int .i64 x6.2) F Aa Aa).q fun a w F W => ?_
   refine AU (cs := [.int .i64 0, .int .i64 0, .string (bs ([] : List UInt8)), .int .i64 0]) F W Aa Rs Aa fun b1 a w F W => ?_
   refine Au (vs := [.int .i64 x6.1.1, .int .i64 x6.1.2.1, .string (bs x6.1.2.2.1), .int .i64 x6.1.2.2.2]) (M' := [(b1, [.int .i64 x6.1.1, .int .i64 x6.1.2.1, .string (bs x6.1.2.2.1), .int .i64 x6.1.2.2.2])]) 0 F W Aa Aa Aa MW Aa Aa Aa Aa Aa fun w W => ?_
   refine ls F W Aa (Ag F Aa).q fun a w F W => ?_
   refine Ae (Ad (Ai (Ai (Ab ?_))))
   refine ls F W Aa (Ah F Aa).q fun a w F W => ?_
   refine ls F W Aa (Bn F Aa Aa).q fun a w F W => ?_
   refine Ae (Ad ?_)
   refine Aw F Aa (fun hb => ?_) fun hb => ?_
   ·
    have H := AQ (BB hb) H
    rw [hb] at F
    clear hb
    refine Ai (Ab ?_)
    refine ls F W Aa (Ah F Aa).q fun a w F W => ?_
    iterate 3 refine ls F W Aa (Ag F Aa).q fun a w F W => ?_
    refine Ae (Ad (Aq (AD (A5 (AD (A5 (AD ?_)))))))
    have H := L2 _ H
    have H := L1 _ H
    have H := AH H
    subst H
    refine CD (.inl Aa) F W Aa (Ap F Aa) (Ap F Aa) (Ap F Aa) ?_
    have W := W.nilRow 98 Az
    have W := W.sub (M' := []) (Z' := [row (Value.slice none 0 0) 98 Az ([])]) (List.nil_sublist _) (List.Sublist.cons_cons _ (List.nil_sublist _))
    exact ⟨(Value.slice none 0 0), Aa, W⟩
   have H := AR (Bz hb) H
   rw [hb] at F
   clear hb
   refine Ax (Ad (Ai (Ai (Ab ?_))))
   refine ls F W Aa (Ah F Aa).q fun a w F W => ?_
   refine ls F W Aa (E4 (r := Az) (l := x3) R6 Aa F Aa (Bq 0 Aa)).q fun a w F W => ?_
   refine ls F W Aa (Bn F Aa Aa).q fun a w F W => ?_
   refine Ae (Ad ?_)
   refine Aw F Aa (fun hb => ?_) fun hb => ?_
   ·
    have H := AQ (BB hb) H
    rw [hb] at F
    clear hb
    refine Ai (Ab ?_)
    refine ls F W Aa (Ah F Aa).q fun a w F W => ?_
    iterate 3 refine ls F W Aa (Ag F Aa).q fun a w F W => ?_
    refine Ae (Ad (Aq (AD (A5 (AD (A5 (AD ?_)))))))
    have H := L2 _ H
    have H := L1 _ H
    have H := AH H
    subst H
    refine CD (.inl Aa) F W Aa (Ap F Aa) (Ap F Aa) (Ap F Aa) ?_
    have W := W.nilRow 98 Az
    have W := W.sub (M' := []) (Z' := [row (Value.slice none 0 0) 98 Az ([])]) (List.nil_sublist _) (List.Sublist.cons_cons _ (List.nil_sublist _))
    exact ⟨(Value.slice none 0 0), Aa, W⟩
   have H := AR (Bz hb) H
   rw [hb] at F
   clear hb
   refine Ax (Ad (Ai (Ab ?_)))
   refine ls F W Aa (Ah F Aa).q fun a w F W => ?_
   refine ls F W Aa (Ao KD Aa Aa Aa T3 F Aa 3 Aa).q fun a w F W => ?_
   refine Au (vs := [.int .i64 x4]) (M' := [(b1, [.int .i64 x6.1.1, .int .i64 x6.1.2.1, .string (bs x6.1.2.2.1), .int .i64 x4])]) 0 F W Aa Aa Aa T3 Aa Aa Aa Aa Aa fun w W => ?_
   refine Ae (Ad (Ai (Ab ?_)))
   refine ls F W Aa (Ah F Aa).q fun a w F W => ?_
   refine ls F W Aa (AJ (v := Value.agg #[.int .i64 x6.1.1, .int .i64 x6.1.2.1, .string (bs x6.1.2.2.1), .int .i64 x4]) 0 F Aa Aa MW Aa).q fun a w F W => ?_
   refine Dj (z := Value.agg #[.int .i64 0, .int .i64 0, .string (bs ([] : List UInt8)), .int .i64 0]) (cs := [.int .i64 x6.1.1, .int .i64 x6.1.2.1, .string (bs x6.1.2.2.1), .int .i64 x4]) Az ([(x6.1.1, x6.1.2.1, x6.1.2.2.1, x4)] : List (Int × Int × List UInt8 × Int)) F W Aa Sd Rs Aa Aa Aa Aa Aa Aa (SR.repL _ _ ([(x6.1.1, x6.1.2.1, x6.1.2.2.1, x4)] : List (Int × Int × List UInt8 × Int))) fun v3 a w F W => ?_
   obtain ⟨x7, h4, H⟩ := An H
   refine CU (r := Az) (i := 1) F W Aa Sd Aa Aa Aa Aa (DD W 0 Aa) h4 Aa fun v4 a w F W => ?_
   have W : Stw ⟨Y, [], w0⟩ [(b1, [.int .i64 x6.1.1, .int .i64 x6.1.2.1, .string (bs x6.1.2.2.1), .int .i64 x4])] [row v4 98 Az x7, row v3 98 Az ([(x6.1.1, x6.1.2.1, x6.1.2.2.1, x4)] : List (Int × Int × List UInt8 × Int))] w := W
   refine ls F W Aa (Ag F Aa).q fun a w F W => ?_
   refine Ae (Ad (Ab ?_))
   iterate 3 refine ls F W Aa (Ah F Aa).q fun a w F W => ?_
   refine ls F W Aa (BT F Aa Aa Aa).q fun a w F W => ?_
   obtain ⟨x8, h5, H⟩ := An H
   refine ls F W Aa (A1 (v := Value.int .i64 x8) F S9 Aa (fun w W => Lx any w p0 (Co (x4 + x6.2)) _ h5)) fun a w F W => ?_
   refine ls F W Aa (Ag F Aa).q fun a w F W => ?_
   refine Ae (Bw (Ad ?_))
   have W := W.sub (M' := []) (Z' := [row v4 98 Az x7]) (List.nil_sublist _) (List.Sublist.cons_cons _ (List.nil_sublist _))
   exact ⟨_, H, (v4), F.re ⟨rfl, Aa, Aa, Aa, Aa, Aa, trivial⟩, W⟩
  have H := AR (Bz hb) H
  rw [hb] at F
  clear hb
  refine Cl ?_
  iterate 2 refine CO ?_
  refine Ck (Ad ?_)
  have H := L2 _ H
  exact ⟨_, (v2), H, F.re ⟨rfl, Aa, Aa, Aa, Aa, trivial⟩, W⟩
 rintro a w ⟨x2, v1, hj, F, W⟩
 have H := K1 _ hj
 clear hj G1 K1 L1
 refine Ai (Ab ?_)
 iterate 2 refine ls F W Aa (Ah F Aa).q fun a w F W => ?_
 refine ls F W Aa (DK (l := p0) Ho Aa F Aa).q fun a w F W => ?_
 refine ls F W Aa (Ba (v := Value.agg #[.int .i64 4, .int .i64 0, .string (bs ([] : List UInt8)), .int .i64 (p0.length : Int)]) RW F Aa Aa Aa).q fun a w F W => ?_
 refine Dj (z := Value.agg #[.int .i64 0, .int .i64 0, .string (bs ([] : List UInt8)), .int .i64 0]) (cs := [.int .i64 4, .int .i64 0, .string (bs ([] : List UInt8)), .int .i64 (p0.length : Int)]) Az ([(4, 0, ([] : List UInt8), (p0.length : Int))] : List (Int × Int × List UInt8 × Int)) F W Aa Sd Rs Aa Aa Aa Aa Aa Aa (SR.repL _ _ ([(4, 0, ([] : List UInt8), (p0.length : Int))] : List (Int × Int × List UInt8 × Int))) fun v5 a w F W => ?_
 obtain ⟨x9, h6, H⟩ := An H
 refine CU (r := Az) (i := 1) F W Aa Sd Aa Aa Aa Aa (DD W 0 Aa) h6 Aa fun v6 a w F W => ?_
 have W : Stw ⟨Y, [], w0⟩ [] [row v6 98 Az x9, row v5 98 Az ([(4, 0, ([] : List UInt8), (p0.length : Int))] : List (Int × Int × List UInt8 × Int))] w := W
 iterate 3 refine ls F W Aa (Ag F Aa).q fun a w F W => ?_
 refine Ae (Ad (Aq ?_))
 have H := AH H
 subst H
 refine CD (.inl Aa) F W Aa (Ap F Aa) (Ap F Aa) (Ap F Aa) ?_
 have W := W.sub (M' := []) (Z' := [row v6 98 Az x9]) (List.Sublist.refl _) (List.Sublist.cons_cons _ (List.nil_sublist _))
 exact ⟨(v6), Aa, W⟩
theorem RI : type_of% Tryd.underlying89 := Tryd.underlying89
theorem MT : type_of% Tryd.underlying95 := Tryd.underlying95
theorem Tq : Has Tryd.prog 55 := ⟨fun args w => Al Tryd.func55 rfl (by decide) args w⟩
theorem Tk : Bt Tryd.prog 89 [.int .i64 0, .int .i64 0] [(0, 1), (1, 1)] := ⟨⟨.agg #[.int .i64 0, .int .i64 0], by kernel_rfl, rfl⟩, ⟨_, RI, fun w => by kernel_rfl⟩⟩
theorem SY : (Tryd.prog.underlying 89).map (fun d => match d with | .interface _ => true | _ => false) = some false := by kernel_rfl
theorem Tu : Bt Tryd.prog 95 [.slice none 0 0, .int .i64 0] [(0, 1), (1, 1)] := ⟨⟨.agg #[.slice none 0 0, .int .i64 0], by kernel_rfl, rfl⟩, ⟨_, MT, fun w => by kernel_rfl⟩⟩
noncomputable def ED (p0 : List UInt8) : Option (((List (Int × Int × List UInt8 × Int)) × Int) ⊕ (Int × Int)) := (FQ p0).bind fun x1 => (if x1.2.2 ≠ 0 then some (.inr x1.2) else some (.inl (x1.1, 0)))
theorem Gr (Y : Nat → Prop) (w0 : World)  (p0 : List UInt8) (r : ((List (Int × Int × List UInt8 × Int)) × Int) ⊕ (Int × Int)) (H : ED p0 = some r)  :
    Calls Tryd.prog 27 #[.string (bs p0)] w0 fun e w' => DH r (fun r => ∃ x : Nat × Value, e = .returned (.pointer (some ⟨x.1, 0, none⟩)) ∧ Stw ⟨Y, [], w0⟩ [(x.1, [x.2, .int .i64 r.2])] [row (x.2) 98 Az r.1] w') (fun r => ∃ x : Unit, e = .panicked [{ v := .iface 89 (.agg #[.int .i64 r.1, .int .i64 r.2]), recovered := false }] ∧ Stw ⟨Y, [], w0⟩ [] [] w') := by
 refine enter Tryd.func27 Aa Tryd.ntmps27 Aa fun a F => ?_
 have W := Stw.start Y w0
 unfold ED at H
 refine Ai (Ab ?_)
 refine ls F W Aa (Ag F Aa).q fun a w F W => ?_
 refine Ae (Ad (Ai (Ab ?_)))
 refine ls F W Aa (Ah F Aa).q fun a w F W => ?_
 obtain ⟨x1, h1, H⟩ := An H
 refine AO (Ml := []) (Zl := []) (M := []) (Z := []) (β := Value) (rv := fun x => .tuple #[x, .int .i64 x1.2.1, .int .i64 x1.2.2]) (MM := fun x => []) (ZZ := fun x => [row x 98 Az x1.1]) F W Tq Aa Aa (fun hL => Pu _ w p0 _ h1) fun x a w F W => ?_
 obtain ⟨v1, rfl⟩ : ∃ y, y = x := ⟨x, rfl⟩
 have W : Stw ⟨Y, [], w0⟩ [] [row v1 98 Az x1.1] w := W
 refine ls F W Aa (Ah F Aa).q fun a w F W => ?_
 refine ls F W Aa (As (v := v1) F Aa Aa).q fun a w F W => ?_
 refine ls F W Aa (As (v := Value.int .i64 x1.2.1) F Aa Aa).q fun a w F W => ?_
 refine ls F W Aa (As (v := Value.int .i64 x1.2.2) F Aa Aa).q fun a w F W => ?_
 iterate 3 refine ls F W Aa (Ag F Aa).q fun a w F W => ?_
 refine Ae (Ad (Ai (Ai (Ab ?_))))
 refine ls F W Aa (Ah F Aa).q fun a w F W => ?_
 refine ls F W Aa (Ev F Aa Aa).q fun a w F W => ?_
 refine Ae (Ad ?_)
 refine Aw F Aa (fun hb => ?_) fun hb => ?_
 ·
  have H := AQ (BB hb) H
  rw [hb] at F
  clear hb
  refine Ab ?_
  iterate 2 refine ls F W Aa (Ah F Aa).q fun a w F W => ?_
  refine ls F W Aa (Ba (v := Value.agg #[.int .i64 x1.2.1, .int .i64 x1.2.2]) Tk F Aa Aa Aa).q fun a w F W => ?_
  refine ls F W Aa (Kj SY F Aa).q fun a w F W => ?_
  refine OA F Aa ?_
  refine BF ?_
  have H := AH H
  subst H
  refine A4 F ?_
  have W := W.sub (M' := []) (Z' := []) (List.Sublist.refl _) (List.nil_sublist _)
  exact ⟨(), Aa, W⟩
 have H := AR (Bz hb) H
 rw [hb] at F
 clear hb
 refine Ax (Ad (Ai (Ab ?_)))
 refine ls F W Aa (Ah F Aa).q fun a w F W => ?_
 refine ls F W Aa (Ba (v := Value.agg #[v1, .int .i64 0]) Tu F Aa (AK Aa (C4 (W.one (k := 0) Aa)) Aa Br) Aa).q fun a w F W => ?_
 refine H2 (cs := [v1, .int .i64 0]) F W Aa Aa Aa fun b1 a w F W => ?_
 refine ls F W Aa (Ag F Aa).q fun a w F W => ?_
 refine Ae (Ad (Aq ?_))
 have H := AH H
 subst H
 refine AP (.inl Aa) F W Aa (Ap F Aa) ?_
 exact ⟨(b1, (v1)), Aa, W⟩
theorem Sm : Has Tryd.prog 27 := ⟨fun args w => Al Tryd.func27 rfl (by decide) args w⟩
inductive Tr25 : Type where
  | mk : Int → Int → Int → (List Tr25) → Tr25
def Tr25.un : Tr25 → Int × Int × Int × List Tr25
  | .mk a0 a1 a2 a3 => (a0, a1, a2, a3)
abbrev Tr25.of (p : Int × Int × Int × List Tr25) : Tr25 := .mk p.1 p.2.1 p.2.2.1 p.2.2.2
def Tr25.cnt : Tr25 → Nat
  | .mk _ _ _ a3 => 1 + ((a3.map Tr25.cnt).sum)
inductive Tr28 : Type where
  | mk : Int → Tr25 → Int → Int → (List Tr28) → Tr28
def Tr28.un : Tr28 → Int × Tr25 × Int × Int × List Tr28
  | .mk a0 a1 a2 a3 a4 => (a0, a1, a2, a3, a4)
abbrev Tr28.of (p : Int × Tr25 × Int × Int × List Tr28) : Tr28 := .mk p.1 p.2.1 p.2.2.1 p.2.2.2.1 p.2.2.2.2
def Tr28.cnt : Tr28 → Nat
  | .mk _ a1 _ _ a4 => 1 + (a1.cnt + (a4.map Tr28.cnt).sum)
theorem MO : Tryd.prog.follows .mixedOrders = true := by kernel_rfl
theorem Tc : Ty Tryd.prog 91 false 1 := ⟨by kernel_rfl, by kernel_rfl⟩
noncomputable def BM (p0 : (List (Int × Int × List UInt8 × Int)) × Int) : Option (Int × Int × List UInt8 × Int) := (ix p0.1 p0.2).bind fun x1 => some x1
theorem CM (Y : Nat → Prop) (w0 : World) (q_p0 : Nat) (v1 : Value) (p0 : (List (Int × Int × List UInt8 × Int)) × Int) (r : (Int × Int × List UInt8 × Int)) (H : BM p0 = some r) (h_v1 : Sl w0 (NX []) Az v1 p0.1) (a_q_p0 : At ⟨Y, [], w0⟩ q_p0 0 [v1, .int .i64 p0.2]) :
    Calls Tryd.prog 59 #[.pointer (some ⟨q_p0, 0, none⟩)] w0 fun e w' => e = .returned (.agg #[.int .i64 r.1, .int .i64 r.2.1, .string (bs r.2.2.1), .int .i64 r.2.2.2]) ∧ Below w0.heap.size w0 w' := by
 refine enter Tryd.func59 Aa Tryd.ntmps59 Aa fun a F => ?_
 have W := Stw.start Y w0
 unfold BM at H
 refine Ai (Ab ?_)
 refine AU (cs := [.int .i64 0, .int .i64 0, .string (bs ([] : List UInt8)), .int .i64 0]) F W Aa Rs Aa fun b1 a w F W => ?_
 refine Ae (Ad (Ai ?_))
 refine Qg 10 W MO (by kernel_rfl) ?_
 refine qs F Aa (Ah F Aa).q fun a F => ?_
 refine qs F Aa (EF F Aa).q fun a F => ?_
 refine qs F Aa (Ao MT Aa Aa Aa Tc F Aa 0 Aa).q fun a F => ?_
 refine qs F Aa (Mv (y := v1) (j := 0) F Aa (Nat.zero_add _).symm a_q_p0 Tc Aa).q fun a F => ?_
 refine qs F Aa (Ah F Aa).q fun a F => ?_
 refine qs F Aa (EF F Aa).q fun a F => ?_
 refine qs F Aa (Ao MT Aa Aa Aa T3 F Aa 1 Aa).q fun a F => ?_
 refine qs F Aa (Mv (y := Value.int .i64 p0.2) (j := 1) F Aa (Nat.zero_add _).symm a_q_p0 T3 Aa).q fun a F => ?_
 obtain ⟨x1, h1, H⟩ := An H
 refine qs F Aa (CE (r := Az) Sd F Aa Aa (AG h_v1) h1).q fun a F => ?_
 refine qs F Aa (BV (y := Value.agg #[.int .i64 x1.1, .int .i64 x1.2.1, .string (bs x1.2.2.1), .int .i64 x1.2.2.2]) (j := 0) (i := p0.2) F Aa Aa (AG h_v1) h1 SR.to MW Aa).q fun a F => ?_
 refine Ek fun w W => ?_
 refine Au (vs := [.int .i64 x1.1, .int .i64 x1.2.1, .string (bs x1.2.2.1), .int .i64 x1.2.2.2]) (M' := [(b1, [.int .i64 x1.1, .int .i64 x1.2.1, .string (bs x1.2.2.1), .int .i64 x1.2.2.2])]) 0 F W Aa Aa Aa MW Aa Aa Aa Aa Aa fun w W => ?_
 refine Ae (Ad (Aq ?_))
 have H := AH H
 subst H
 refine AP (.inl Aa) F W Aa (AB 0 F Aa Aa MW Aa) ?_
 exact ⟨rfl, W.done⟩
theorem Se : Has Tryd.prog 59 := ⟨fun args w => Al Tryd.func59 rfl (by decide) args w⟩
theorem T9 : Ty Tryd.prog 9 false 1 := ⟨by kernel_rfl, by kernel_rfl⟩
noncomputable def AL (p0 : (List (Int × Int × List UInt8 × Int)) × Int) (p1 : List UInt8) : Option (Bool × ((List (Int × Int × List UInt8 × Int)) × Int)) := (BM p0).bind fun x1 => (if (bif decide (x1.1 ≠ 1) then (decide (x1.1 ≠ 3) || decide (x1.2.2.1 ≠ p1)) else decide (x1.2.2.1 ≠ p1)) = true then some (false, p0) else some (true, (p0.1, Co (p0.2 + 1))))
theorem A7 (Y : Nat → Prop) (X : List Nat) (w0 : World) (q_p0 : Nat) (v1 : Value) (p0 : (List (Int × Int × List UInt8 × Int)) × Int) (p1 : List UInt8) (r : Bool × ((List (Int × Int × List UInt8 × Int)) × Int)) (H : AL p0 p1 = some r) (hL : Stw ⟨Y, X, w0⟩ [(q_p0, [v1, .int .i64 p0.2])] [row v1 98 Az p0.1] w0) :
    Calls Tryd.prog 83 #[.pointer (some ⟨q_p0, 0, none⟩), .string (bs p1)] w0 fun e w' => ∃ x : Value, e = .returned (.bool r.1) ∧ Stw ⟨Y, X, w0⟩ [(q_p0, [x, .int .i64 r.2.2])] [row (x) 98 Az r.2.1] w' := by
 refine enter Tryd.func83 Aa Tryd.ntmps83 Aa fun a F => ?_
 have W := hL
 unfold AL at H
 refine Ai (Ab ?_)
 refine ls F W Aa (Ag F Aa).q fun a w F W => ?_
 refine Ae (Ad (Ai (Ab ?_)))
 refine ls F W Aa (Ah F Aa).q fun a w F W => ?_
 obtain ⟨x1, h1, H⟩ := An H
 refine ls F W Aa (A1 (v := Value.agg #[.int .i64 x1.1, .int .i64 x1.2.1, .string (bs x1.2.2.1), .int .i64 x1.2.2.2]) F Se Aa (fun w W => CM any w q_p0 (v1) p0 _ h1 (((Bq 0 Aa) : EN _ _ _ _ _ _) w W).nx (LW W 0 Aa))) fun a w F W => ?_
 refine AU (cs := [.int .i64 0, .int .i64 0, .string (bs ([] : List UInt8)), .int .i64 0]) F W Aa Rs Aa fun b1 a w F W => ?_
 refine Au (vs := [.int .i64 x1.1, .int .i64 x1.2.1, .string (bs x1.2.2.1), .int .i64 x1.2.2.2]) (M' := [(b1, [.int .i64 x1.1, .int .i64 x1.2.1, .string (bs x1.2.2.1), .int .i64 x1.2.2.2]), (q_p0, [v1, .int .i64 p0.2])]) 0 F W Aa Aa Aa MW Aa Aa Aa Aa Aa fun w W => ?_
 refine Ae (Ad (Ai ?_))
 refine Bd (fun a w => Fr 29 [] [(0, .pointer (some ⟨q_p0, 0, none⟩)), (4, .bool false), (21, .bool (bif decide (x1.1 ≠ 1) then (decide (x1.1 ≠ 3) || decide (x1.2.2.1 ≠ p1)) else decide (x1.2.2.1 ≠ p1)))] a ∧ Stw ⟨Y, X, w0⟩ [(b1, [.int .i64 x1.1, .int .i64 x1.2.1, .string (bs x1.2.2.1), .int .i64 x1.2.2.2]), (q_p0, [v1, .int .i64 p0.2])] [row v1 98 Az p0.1] w) ?_ ?_
 ·
  refine Ab ?_
  refine ls F W Aa (Ao KD Aa Aa Aa T3 F Aa 0 Aa).q fun a w F W => ?_
  refine ls F W Aa (AJ (v := Value.int .i64 x1.1) 0 F Aa Aa T3 Aa).q fun a w F W => ?_
  refine ls F W Aa (Ev F Aa Aa).q fun a w F W => ?_
  refine ls F W Aa (Ah F Aa).q fun a w F W => ?_
  rcases Bool.eq_false_or_eq_true (decide (x1.1 ≠ 1)) with hb0 | hb0
  ·
   rw [hb0] at F
   refine AX F W (Ak F Aa Aa Aa Aa) Aa (Ay Aa) (Ao KD Aa Aa Aa T3 F Aa 0 Aa).q fun a w F W => ?_
   refine AX F W (Ak F Aa Aa Aa Aa) Aa (Ay Aa) (AJ (v := Value.int .i64 x1.1) 0 F Aa Aa T3 Aa).q fun a w F W => ?_
   refine AX F W (Ak F Aa Aa Aa Aa) Aa (Ay Aa) (Ev F Aa Aa).q fun a w F W => ?_
   refine ls F W Aa (AE F Aa Aa Aa).q fun a w F W => ?_
   refine ls F W Aa (Ah F Aa).q fun a w F W => ?_
   rcases Bool.eq_false_or_eq_true (decide (x1.1 ≠ 3)) with hb1 | hb1
   ·
    rw [hb1] at F
    iterate 4 refine Ec F Aa Aa Aa Aa Aa Aa Aa fun a F => ?_
    refine ls F W Aa (AE F Aa Aa Aa).q fun a w F W => ?_
    refine Ae (Ad ?_)
    exact ⟨F.re ⟨rfl, Aa, (I2 (by try rw [hb0]; try rw [hb1]; all_goals simp only [IZ])), trivial⟩, W⟩
   rw [hb1] at F
   refine AX F W (Ak F Aa Aa Aa Aa) Aa (Ay Aa) (Ao KD Aa Aa Aa T9 F Aa 2 Aa).q fun a w F W => ?_
   refine AX F W (Ak F Aa Aa Aa Aa) Aa (Ay Aa) (AJ (v := Value.string (bs x1.2.2.1)) 0 F Aa Aa T9 Aa).q fun a w F W => ?_
   refine AX F W (Ak F Aa Aa Aa Aa) Aa (Ay Aa) (Ah F Aa).q fun a w F W => ?_
   refine AX F W (Ak F Aa Aa Aa Aa) Aa (Ay Aa) (Re (l := x1.2.2.1) (m := p1) F Aa Aa).q fun a w F W => ?_
   refine ls F W Aa (AN F Aa Aa Aa).q fun a w F W => ?_
   refine Ae (Ad ?_)
   exact ⟨F.re ⟨rfl, Aa, (I2 (by try rw [hb0]; try rw [hb1]; all_goals simp only [IZ])), trivial⟩, W⟩
  rw [hb0] at F
  iterate 3 refine Ec F Aa Aa Aa Aa Aa Aa Aa fun a F => ?_
  refine ls F W Aa (AN F Aa Aa Aa).q fun a w F W => ?_
  refine ls F W Aa (Ah F Aa).q fun a w F W => ?_
  refine AX F W (Ak F Aa Aa Aa Aa) Aa (Ay Aa) (Ao KD Aa Aa Aa T9 F Aa 2 Aa).q fun a w F W => ?_
  refine AX F W (Ak F Aa Aa Aa Aa) Aa (Ay Aa) (AJ (v := Value.string (bs x1.2.2.1)) 0 F Aa Aa T9 Aa).q fun a w F W => ?_
  refine AX F W (Ak F Aa Aa Aa Aa) Aa (Ay Aa) (Ah F Aa).q fun a w F W => ?_
  refine AX F W (Ak F Aa Aa Aa Aa) Aa (Ay Aa) (Re (l := x1.2.2.1) (m := p1) F Aa Aa).q fun a w F W => ?_
  refine ls F W Aa (AN F Aa Aa Aa).q fun a w F W => ?_
  refine Ae (Ad ?_)
  exact ⟨F.re ⟨rfl, Aa, (I2 (by try rw [hb0]; all_goals simp only [IZ])), trivial⟩, W⟩
 rintro a w ⟨F, W⟩
 refine Aw F Aa (fun hb => ?_) fun hb => ?_
 ·
  have H := AQ hb H
  rw [hb] at F
  clear hb
  refine Ai (Ab ?_)
  refine ls F W Aa (Ag F Aa).q fun a w F W => ?_
  refine Ae (Ad (Aq (AD ?_)))
  have H := AH H
  subst H
  refine AP (.inl Aa) F W Aa (Ap F Aa) ?_
  have W := W.frontM (i := 1) Aa Aa
  have W := W.sub (M' := [(q_p0, [v1, .int .i64 p0.2])]) (Z' := [row v1 98 Az p0.1]) (List.Sublist.cons_cons _ (List.nil_sublist _)) (List.Sublist.refl _)
  exact ⟨(v1), Aa, W⟩
 have H := AR (by rw [hb]; decide) H
 rw [hb] at F
 clear hb
 refine Ax (Ad (Ai (Ab ?_)))
 refine ls F W Aa (Ah F Aa).q fun a w F W => ?_
 refine ls F W Aa (EF F Aa).q fun a w F W => ?_
 refine ls F W Aa (Ao MT Aa Aa Aa T3 F Aa 1 Aa).q fun a w F W => ?_
 refine ls F W Aa (AJ (v := Value.int .i64 p0.2) 1 F Aa Aa T3 Aa).q fun a w F W => ?_
 refine ls F W Aa (BT F Aa Aa Aa).q fun a w F W => ?_
 refine ls F W Aa (EF F Aa).q fun a w F W => ?_
 refine ls F W Aa (Ao MT Aa Aa Aa T3 F Aa 1 Aa).q fun a w F W => ?_
 refine Au (vs := [.int .i64 (Co (p0.2 + 1))]) (M' := [(b1, [.int .i64 x1.1, .int .i64 x1.2.1, .string (bs x1.2.2.1), .int .i64 x1.2.2.2]), (q_p0, [v1, .int .i64 (Co (p0.2 + 1))])]) 1 F W Aa Aa Aa T3 Aa Aa Aa Aa Aa fun w W => ?_
 refine Ae (Ad (Ai (Ab ?_)))
 refine ls F W Aa (Ag F Aa).q fun a w F W => ?_
 refine Ae (Ad (Aq ?_))
 have H := AH H
 subst H
 refine AP (.inl Aa) F W Aa (Ap F Aa) ?_
 have W := W.frontM (i := 1) Aa Aa
 have W := W.sub (M' := [(q_p0, [v1, .int .i64 (Co (p0.2 + 1))])]) (Z' := [row v1 98 Az p0.1]) (List.Sublist.cons_cons _ (List.nil_sublist _)) (List.Sublist.refl _)
 exact ⟨(v1), Aa, W⟩
theorem Jm : type_of% Tryd.underlying25 := Tryd.underlying25
theorem Hv : type_of% Tryd.underlying28 := Tryd.underlying28
theorem OT : Has Tryd.prog 83 := ⟨fun args w => Al Tryd.func83 rfl (by decide) args w⟩
theorem Q5 : Bt Tryd.prog 25 [.int .i64 0, .int .i64 0, .int .i64 0, .slice none 0 0] [(0, 1), (1, 1), (2, 1), (3, 1)] := ⟨⟨.agg #[.int .i64 0, .int .i64 0, .int .i64 0, .slice none 0 0], by kernel_rfl, rfl⟩, ⟨_, Jm, fun w => by kernel_rfl⟩⟩
abbrev RP (r : Rp Tr25) : Rp (Int × Int × Int × List Tr25) := (Rp.pair (Rp.int .i64) (Rp.pair (Rp.int .i64) (Rp.pair (Rp.int .i64) (Rp.slice r))))
theorem Q3 : Kt RP := (Kt.pair (Kt.const _) (Kt.pair (Kt.const _) (Kt.pair (Kt.const _) Kt.hole)))
abbrev AY : Rp Tr25 := Rp.knot RP Tr25.un Q3
theorem Lb {w : World} {A : Nat → Prop} {cs : List Value} {a : Tr25} : AY.rep w A cs a ↔ (RP AY).rep w A cs a.un := Hw Q3
abbrev N5 : Rp (Int × Int × Int × (Value × List Tr25)) := (Rp.pair (Rp.int .i64) (Rp.pair (Rp.int .i64) (Rp.pair (Rp.int .i64) (Rp.vsl AY))))
abbrev SX (p : Int × Int × Int × (Value × List Tr25)) : Tr25 := (Tr25.of (p.1, p.2.1, p.2.2.1, p.2.2.2.2))
theorem Gq : Ex AY N5 SX := (Ex.knot Q3 (of := Tr25.of) (fun _ => rfl) (fun x => by cases x; rfl) (Ex.pair Ex.rfl' (Ex.pair Ex.rfl' (Ex.pair Ex.rfl' Ex.sliceF))))
theorem FV : Ty Tryd.prog 25 true 4 := ⟨by kernel_rfl, by kernel_rfl⟩
theorem RZ : Bt Tryd.prog 28 [.int .i64 0, .int .i64 0, .int .i64 0, .int .i64 0, .slice none 0 0, .int .i64 0, .int .i64 0, .slice none 0 0] [(0, 1), (1, 4), (5, 1), (6, 1), (7, 1)] := ⟨⟨.agg #[.int .i64 0, .int .i64 0, .int .i64 0, .int .i64 0, .slice none 0 0, .int .i64 0, .int .i64 0, .slice none 0 0], by kernel_rfl, rfl⟩, ⟨_, Hv, fun w => by kernel_rfl⟩⟩
theorem FG : Ty Tryd.prog 28 true 8 := ⟨by kernel_rfl, by kernel_rfl⟩
abbrev RH (r : Rp Tr28) : Rp (Int × Tr25 × Int × Int × List Tr28) := (Rp.pair (Rp.int .i64) (Rp.pair AY (Rp.pair (Rp.int .i64) (Rp.pair (Rp.int .i64) (Rp.slice r)))))
theorem RJ : Kt RH := (Kt.pair (Kt.const _) (Kt.pair (Kt.const _) (Kt.pair (Kt.const _) (Kt.pair (Kt.const _) Kt.hole))))
abbrev BJ : Rp Tr28 := Rp.knot RH Tr28.un RJ
theorem O8 {w : World} {A : Nat → Prop} {cs : List Value} {a : Tr28} : BJ.rep w A cs a ↔ (RH BJ).rep w A cs a.un := Hw RJ
abbrev MI (a0 : Tr25) (a1 : Value) : List Value := [.int .i64 a0.un.1, .int .i64 a0.un.2.1, .int .i64 a0.un.2.2.1, a1]
abbrev Bl  : List Value := [.int .i64 0, .int .i64 0, .int .i64 0, .int .i64 0, .slice none 0 0, .int .i64 0, .int .i64 0, .slice none 0 0]
def Aj (p0 : Tr25) : Tr28 := Tr28.of (1, p0, 0, 0, ([] : List Tr28))
theorem GE (Y : Nat → Prop) (w0 : World) (v1 : Value) (p0 : Tr25) (r : Tr28) (H : Aj p0 = r) (s_v1 : Sl w0 Y AY v1 p0.un.2.2.2) :
    Calls Tryd.prog 103 #[.agg #[.int .i64 p0.un.1, .int .i64 p0.un.2.1, .int .i64 p0.un.2.2.1, v1]] w0 fun e w' => ∃ x : Value × Value, e = .returned (.agg #[.int .i64 r.un.1, .int .i64 r.un.2.1.un.1, .int .i64 r.un.2.1.un.2.1, .int .i64 r.un.2.1.un.2.2.1, x.1, .int .i64 r.un.2.2.1, .int .i64 r.un.2.2.2.1, x.2]) ∧ Stw ⟨Y, [], w0⟩ [] [Av (x.1) AY r.un.2.1.un.2.2.2, row (x.2) 28 BJ r.un.2.2.2.2] w' := by
 refine enter Tryd.func103 Aa Tryd.ntmps103 Aa fun a F => ?_
 have W := Stw.start Y w0
 obtain ⟨v2, h1, s_v1⟩ := s_v1.ex Gq
 have h_v1 := W.nx s_v1
 unfold Aj at H
 refine Ai (Ab ?_)
 refine H2 (cs := (MI p0 v1)) F W Aa Aa Aa fun b1 a w F W => ?_
 refine AU (cs := (Bl)) F W Aa L4 Aa fun b2 a w F W => ?_
 refine Ae (Ad (Ai (Ab ?_)))
 refine ls F W Aa (AJ (v := Value.agg #[.int .i64 p0.un.1, .int .i64 p0.un.2.1, .int .i64 p0.un.2.2.1, v1]) 1 F Aa Aa FV Aa).q fun a w F W => ?_
 refine ls F W Aa (Ba (v := Value.agg #[.int .i64 1, .int .i64 p0.un.1, .int .i64 p0.un.2.1, .int .i64 p0.un.2.2.1, v1, .int .i64 0, .int .i64 0, .slice none 0 0]) RZ F Aa (AK Aa Aa Aa (AK Aa Aa Aa Br)) Aa).q fun a w F W => ?_
 refine Au (vs := [.int .i64 1, .int .i64 p0.un.1, .int .i64 p0.un.2.1, .int .i64 p0.un.2.2.1, v1, .int .i64 0, .int .i64 0, .slice none 0 0]) (M' := [(b2, [.int .i64 1, .int .i64 p0.un.1, .int .i64 p0.un.2.1, .int .i64 p0.un.2.2.1, v1, .int .i64 0, .int .i64 0, .slice none 0 0]), (b1, [.int .i64 p0.un.1, .int .i64 p0.un.2.1, .int .i64 p0.un.2.2.1, v1])]) 0 F W Aa Aa Aa FG Aa Aa Aa (Ac Aa (Ac Aa (Ac Aa (Ac Aa (Ac h_v1.one (Ac Aa (Ac Aa (Ac Aa AM)))))))) Aa fun w W => ?_
 refine Ae (Ad (Aq ?_))
 subst H
 refine AP (.inl Aa) F W Aa (AB 0 F Aa Aa FG Aa) ?_
 have W := W.note (Sl.hide Gq h1 (W.old s_v1))
 have W := W.nilRow 28 BJ
 have W := W.frontZ (i := 1) Aa Aa
 have W := W.sub (M' := []) (Z' := [Av v1 AY p0.un.2.2.2, row (Value.slice none 0 0) 28 BJ ([])]) (List.nil_sublist _) (List.Sublist.refl _)
 exact ⟨((v1), (Value.slice none 0 0)), Aa, W⟩
theorem Qb : type_of% Tryd.underlying23 := Tryd.underlying23
theorem RC : Has Tryd.prog 103 := ⟨fun args w => Al Tryd.func103 rfl (by decide) args w⟩
theorem NG : (Tryd.prog.info? 25).bind (·.zero) = some (.agg #[.int .i64 0, .int .i64 0, .int .i64 0, .slice none 0 0]) := by kernel_rfl
theorem R0 : Has Tryd.prog 88 := ⟨fun args w => Al Tryd.func88 rfl (by decide) args w⟩
theorem PN : Et Tryd.prog 23 25 4 48 := Et.of Qb (by kernel_rfl) (by kernel_rfl) (by kernel_rfl) (by decide)
theorem Rk : Has Tryd.prog 33 := ⟨fun args w => Al Tryd.func33 rfl (by decide) args w⟩
noncomputable def BQ (p0 : (List (Int × Int × List UInt8 × Int)) × Int) : Option (Int × Int) := (BM p0).bind fun x1 => some (x1.2.2.2, 10)
theorem DE (Y : Nat → Prop) (w0 : World) (q_p0 : Nat) (v1 : Value) (p0 : (List (Int × Int × List UInt8 × Int)) × Int) (r : (Int × Int)) (H : BQ p0 = some r) (h_v1 : Sl w0 (NX []) Az v1 p0.1) (a_q_p0 : At ⟨Y, [], w0⟩ q_p0 0 [v1, .int .i64 p0.2]) :
    Calls Tryd.prog 60 #[.pointer (some ⟨q_p0, 0, none⟩)] w0 fun e w' => ∃ x : Unit, e = .panicked [{ v := .iface 89 (.agg #[.int .i64 r.1, .int .i64 r.2]), recovered := false }] ∧ Stw ⟨Y, [], w0⟩ [] [] w' := by
 refine enter Tryd.func60 Aa Tryd.ntmps60 Aa fun a F => ?_
 have W := Stw.start Y w0
 unfold BQ at H
 refine Ab ?_
 refine ls F W Aa (Ah F Aa).q fun a w F W => ?_
 obtain ⟨x1, h1, H⟩ := An H
 refine ls F W Aa (A1 (v := Value.agg #[.int .i64 x1.1, .int .i64 x1.2.1, .string (bs x1.2.2.1), .int .i64 x1.2.2.2]) F Se Aa (fun w W => CM any w q_p0 (v1) p0 _ h1 (((AG h_v1) : EN _ _ _ _ _ _) w W).nx (At.re a_q_p0 W))) fun a w F W => ?_
 refine ls F W Aa (O2 (v := Value.int .i64 x1.2.2.2) KD Aa Aa Aa T3 F Aa Aa).q fun a w F W => ?_
 refine ls F W Aa (Ba (v := Value.agg #[.int .i64 x1.2.2.2, .int .i64 10]) Tk F Aa Aa Aa).q fun a w F W => ?_
 refine ls F W Aa (Kj SY F Aa).q fun a w F W => ?_
 refine OA F Aa ?_
 have H := AH H
 subst H
 refine A4 F ?_
 exact ⟨(), Aa, W⟩
theorem Sw : Has Tryd.prog 60 := ⟨fun args w => Al Tryd.func60 rfl (by decide) args w⟩
noncomputable def AA (p0 : (List (Int × Int × List UInt8 × Int)) × Int) (p1 : List UInt8) : Option (((List (Int × Int × List UInt8 × Int)) × Int) ⊕ ((Int × Int) × ((List (Int × Int × List UInt8 × Int)) × Int))) := (AL p0 p1).bind fun x1 => (if (!x1.1) = true then (BQ x1.2).bind fun x2 => some (.inr (x2, x1.2)) else some (.inl x1.2))
theorem Bj (Y : Nat → Prop) (X : List Nat) (w0 : World) (q_p0 : Nat) (v1 : Value) (p0 : (List (Int × Int × List UInt8 × Int)) × Int) (p1 : List UInt8) (r : ((List (Int × Int × List UInt8 × Int)) × Int) ⊕ ((Int × Int) × ((List (Int × Int × List UInt8 × Int)) × Int))) (H : AA p0 p1 = some r) (hL : Stw ⟨Y, X, w0⟩ [(q_p0, [v1, .int .i64 p0.2])] [row v1 98 Az p0.1] w0) :
    Calls Tryd.prog 105 #[.pointer (some ⟨q_p0, 0, none⟩), .string (bs p1)] w0 fun e w' => DH r (fun r => ∃ x : Value, e = .returned (.tuple #[]) ∧ Stw ⟨Y, X, w0⟩ [(q_p0, [x, .int .i64 r.2])] [row (x) 98 Az r.1] w') (fun r => ∃ x : Value, e = .panicked [{ v := .iface 89 (.agg #[.int .i64 r.1.1, .int .i64 r.1.2]), recovered := false }] ∧ Stw ⟨Y, X, w0⟩ [(q_p0, [x, .int .i64 r.2.2])] [row (x) 98 Az r.2.1] w') := by
 refine enter Tryd.func105 Aa Tryd.ntmps105 Aa fun a F => ?_
 have W := hL
 unfold AA at H
 refine Ai (Ab ?_)
 iterate 2 refine ls F W Aa (Ah F Aa).q fun a w F W => ?_
 obtain ⟨x1, h1, H⟩ := An H
 refine AO (Ml := [(q_p0, [v1, .int .i64 p0.2])]) (Zl := [row v1 98 Az p0.1]) (M := []) (Z := []) (β := Value) (rv := fun x => .bool x1.1) (MM := fun x => [(q_p0, [x, .int .i64 x1.2.2])]) (ZZ := fun x => [row x 98 Az x1.2.1]) F W OT Aa Aa (fun hL => A7 _ _ w q_p0 (v1) p0 p1 _ h1 hL) fun x a w F W => ?_
 obtain ⟨v2, rfl⟩ : ∃ y, y = x := ⟨x, rfl⟩
 have W : Stw ⟨Y, X, w0⟩ [(q_p0, [v2, .int .i64 x1.2.2])] [row v2 98 Az x1.2.1] w := W
 refine ls F W Aa (FH F Aa).q fun a w F W => ?_
 refine Ae (Ad ?_)
 refine Aw F Aa (fun hb => ?_) fun hb => ?_
 ·
  have H := AQ hb H
  rw [hb] at F
  clear hb
  refine Ab ?_
  refine ls F W Aa (Ah F Aa).q fun a w F W => ?_
  obtain ⟨x2, h2, H⟩ := An H
  refine B0 (Ml := []) (Zl := []) (M := [(q_p0, [v2, .int .i64 x1.2.2])]) (Z := [row v2 98 Az x1.2.1]) (β := Unit) (pv := fun x => .iface 89 (.agg #[.int .i64 x2.1, .int .i64 x2.2])) (MM := fun x => []) (ZZ := fun x => []) F W Sw Aa (fun hL => DE _ w q_p0 (v2) x1.2 _ h2 ((Bq 0 Aa) w W).nx (LW W 0 Aa)) fun x w W => ?_
  have W : Stw ⟨Y, X, w0⟩ [(q_p0, [v2, .int .i64 x1.2.2])] [row v2 98 Az x1.2.1] w := W
  have H := AH H
  subst H
  refine A4 F ?_
  exact ⟨(v2), Aa, W⟩
 have H := AR (by rw [hb]; decide) H
 rw [hb] at F
 clear hb
 refine Ax ?_
 have H := AH H
 subst H
 refine Mi (.inr Aa) F Aa ?_
 exact ⟨(v2), Aa, W⟩
theorem Ks : Has Tryd.prog 105 := ⟨fun args w => Al Tryd.func105 rfl (by decide) args w⟩
def Bm (p0 : Int × Int × List UInt8 × Int) : Int := (if p0.1 ≠ 1 then (-1) else (if p0.2.2.1 = ([115, 114, 99] : List UInt8) then 0 else (if p0.2.2.1 = ([100, 115, 116] : List UInt8) then 1 else (if p0.2.2.1 = ([107, 105, 110, 100] : List UInt8) then 2 else (if p0.2.2.1 = ([116, 97, 103] : List UInt8) then 3 else (if p0.2.2.1 = ([112, 111, 114, 116] : List UInt8) then 4 else (if p0.2.2.1 = ([115, 119, 105, 116, 99, 104] : List UInt8) then 5 else (-1))))))))
theorem KA (Y : Nat → Prop) (w0 : World)  (p0 : Int × Int × List UInt8 × Int) (r : Int) (H : Bm p0 = r)  :
    Calls Tryd.prog 119 #[.agg #[.int .i64 p0.1, .int .i64 p0.2.1, .string (bs p0.2.2.1), .int .i64 p0.2.2.2]] w0 fun e w' => e = .returned (.int .i64 r) ∧ Below w0.heap.size w0 w' := by
 refine enter Tryd.func119 Aa Tryd.ntmps119 Aa fun a F => ?_
 have W := Stw.start Y w0
 unfold Bm at H
 refine Ai (Ab ?_)
 refine H2 (cs := [.int .i64 p0.1, .int .i64 p0.2.1, .string (bs p0.2.2.1), .int .i64 p0.2.2.2]) F W Aa Aa Aa fun b1 a w F W => ?_
 refine ls F W Aa (Ag F Aa).q fun a w F W => ?_
 refine Ae (Ad (Ai (Ai (Ab ?_))))
 refine ls F W Aa (Ao KD Aa Aa Aa T3 F Aa 0 Aa).q fun a w F W => ?_
 refine ls F W Aa (AJ (v := Value.int .i64 p0.1) 0 F Aa Aa T3 Aa).q fun a w F W => ?_
 refine ls F W Aa (Ev F Aa Aa).q fun a w F W => ?_
 refine Ae (Ad ?_)
 refine Aw F Aa (fun hb => ?_) fun hb => ?_
 ·
  have H := AQ (BB hb) H
  rw [hb] at F
  clear hb
  refine Ai (Ab ?_)
  refine ls F W Aa (Ag F Aa).q fun a w F W => ?_
  refine Ae (Ad (Aq (AD ?_)))
  subst H
  refine AP (.inl Aa) F W Aa (Ap F Aa) ?_
  exact ⟨rfl, W.done⟩
 have H := AR (Bz hb) H
 rw [hb] at F
 clear hb
 refine Ax (Ad (Ai (Ai (Ab ?_))))
 refine ls F W Aa (Ao KD Aa Aa Aa T9 F Aa 2 Aa).q fun a w F W => ?_
 refine ls F W Aa (AJ (v := Value.string (bs p0.2.2.1)) 0 F Aa Aa T9 Aa).q fun a w F W => ?_
 refine Ae (Ad (AV (Ai (Ab ?_))))
 refine ls F W Aa (Iw (l := p0.2.2.1) (m := ([115, 114, 99] : List UInt8)) F Aa Aa).q fun a w F W => ?_
 refine ls F W Aa (Ag F Aa).q fun a w F W => ?_
 refine Ae (Ad ?_)
 refine Aw F Aa (fun hb => ?_) fun hb => ?_
 ·
  have H := AQ (BB hb) H
  rw [hb] at F
  clear hb
  refine Ai (Ab ?_)
  refine ls F W Aa (Ag F Aa).q fun a w F W => ?_
  refine Ae (Ad (Aq (A5 (AD ?_))))
  subst H
  refine AP (.inl Aa) F W Aa (Ap F Aa) ?_
  exact ⟨rfl, W.done⟩
 have H := AR (Bz hb) H
 rw [hb] at F
 clear hb
 refine Ai (Ab ?_)
 refine ls F W Aa (Iw (l := p0.2.2.1) (m := ([100, 115, 116] : List UInt8)) F Aa Aa).q fun a w F W => ?_
 refine ls F W Aa (Ag F Aa).q fun a w F W => ?_
 refine Ae (Ad ?_)
 refine Aw F Aa (fun hb => ?_) fun hb => ?_
 ·
  have H := AQ (BB hb) H
  rw [hb] at F
  clear hb
  refine Ai (Ab ?_)
  refine ls F W Aa (Ag F Aa).q fun a w F W => ?_
  refine Ae (Ad (Aq (A5 (AD ?_))))
  subst H
  refine AP (.inl Aa) F W Aa (Ap F Aa) ?_
  exact ⟨rfl, W.done⟩
 have H := AR (Bz hb) H
 rw [hb] at F
 clear hb
 refine Ai (Ab ?_)
 refine ls F W Aa (Iw (l := p0.2.2.1) (m := ([107, 105, 110, 100] : List UInt8)) F Aa Aa).q fun a w F W => ?_
 refine ls F W Aa (Ag F Aa).q fun a w F W => ?_
 refine Ae (Ad ?_)
 refine Aw F Aa (fun hb => ?_) fun hb => ?_
 ·
  have H := AQ (BB hb) H
  rw [hb] at F
  clear hb
  refine Ai (Ab ?_)
  refine ls F W Aa (Ag F Aa).q fun a w F W => ?_
  refine Ae (Ad (Aq (A5 (AD ?_))))
  subst H
  refine AP (.inl Aa) F W Aa (Ap F Aa) ?_
  exact ⟨rfl, W.done⟩
 have H := AR (Bz hb) H
 rw [hb] at F
 clear hb
 refine Ai (Ab ?_)
 refine ls F W Aa (Iw (l := p0.2.2.1) (m := ([116, 97, 103] : List UInt8)) F Aa Aa).q fun a w F W => ?_
 refine ls F W Aa (Ag F Aa).q fun a w F W => ?_
 refine Ae (Ad ?_)
 refine Aw F Aa (fun hb => ?_) fun hb => ?_
 ·
  have H := AQ (BB hb) H
  rw [hb] at F
  clear hb
  refine Ai (Ab ?_)
  refine ls F W Aa (Ag F Aa).q fun a w F W => ?_
  refine Ae (Ad (Aq (A5 (AD ?_))))
  subst H
  refine AP (.inl Aa) F W Aa (Ap F Aa) ?_
  exact ⟨rfl, W.done⟩
 have H := AR (Bz hb) H
 rw [hb] at F
 clear hb
 refine Ai (Ab ?_)
 refine ls F W Aa (Iw (l := p0.2.2.1) (m := ([112, 111, 114, 116] : List UInt8)) F Aa Aa).q fun a w F W => ?_
 refine ls F W Aa (Ag F Aa).q fun a w F W => ?_
 refine Ae (Ad ?_)
 refine Aw F Aa (fun hb => ?_) fun hb => ?_
 ·
  have H := AQ (BB hb) H
  rw [hb] at F
  clear hb
  refine Ai (Ab ?_)
  refine ls F W Aa (Ag F Aa).q fun a w F W => ?_
  refine Ae (Ad (Aq (A5 (AD ?_))))
  subst H
  refine AP (.inl Aa) F W Aa (Ap F Aa) ?_
  exact ⟨rfl, W.done⟩
 have H := AR (Bz hb) H
 rw [hb] at F
 clear hb
 refine Ai (Ab ?_)
 refine ls F W Aa (Iw (l := p0.2.2.1) (m := ([115, 119, 105, 116, 99, 104] : List UInt8)) F Aa Aa).q fun a w F W => ?_
 refine ls F W Aa (Ag F Aa).q fun a w F W => ?_
 refine Ae (Ad ?_)
 refine Aw F Aa (fun hb => ?_) fun hb => ?_
 ·
  have H := AQ (BB hb) H
  rw [hb] at F
  clear hb
  refine Ai (Ab ?_)
  refine ls F W Aa (Ag F Aa).q fun a w F W => ?_
  refine Ae (Ad (Aq (A5 (AD ?_))))
  subst H
  refine AP (.inl Aa) F W Aa (Ap F Aa) ?_
  exact ⟨rfl, W.done⟩
 have H := AR (Bz hb) H
 rw [hb] at F
 clear hb
 refine Ax (Bw (Ad (Ai (Ab ?_))))
 refine ls F W Aa (Ag F Aa).q fun a w F W => ?_
 refine Ae (Ad (Aq ?_))
 subst H
 refine AP (.inl Aa) F W Aa (Ap F Aa) ?_
 exact ⟨rfl, W.done⟩
theorem SN : Has Tryd.prog 119 := ⟨fun args w => Al Tryd.func119 rfl (by decide) args w⟩
noncomputable def B5 (p0 : (List (Int × Int × List UInt8 × Int)) × Int) (p1 : Int) : Option ((Int × ((List (Int × Int × List UInt8 × Int)) × Int)) ⊕ ((Int × Int) × ((List (Int × Int × List UInt8 × Int)) × Int))) := (BM p0).bind fun x1 => (if (decide ((Bm x1) < 0) || decide (p1 < (Bm x1))) = true then (BQ p0).bind fun x2 => some (.inr (x2, p0)) else some (.inl ((Bm x1), (p0.1, Co (p0.2 + 1)))))
theorem Dq (Y : Nat → Prop) (X : List Nat) (w0 : World) (q_p0 : Nat) (v1 : Value) (p0 : (List (Int × Int × List UInt8 × Int)) × Int) (p1 : Int) (r : (Int × ((List (Int × Int × List UInt8 × Int)) × Int)) ⊕ ((Int × Int) × ((List (Int × Int × List UInt8 × Int)) × Int))) (H : B5 p0 p1 = some r) (hL : Stw ⟨Y, X, w0⟩ [(q_p0, [v1, .int .i64 p0.2])] [row v1 98 Az p0.1] w0) :
    Calls Tryd.prog 106 #[.pointer (some ⟨q_p0, 0, none⟩), .int .i64 p1] w0 fun e w' => DH r (fun r => ∃ x : Value, e = .returned (.int .i64 r.1) ∧ Stw ⟨Y, X, w0⟩ [(q_p0, [x, .int .i64 r.2.2])] [row (x) 98 Az r.2.1] w') (fun r => ∃ x : Value, e = .panicked [{ v := .iface 89 (.agg #[.int .i64 r.1.1, .int .i64 r.1.2]), recovered := false }] ∧ Stw ⟨Y, X, w0⟩ [(q_p0, [x, .int .i64 r.2.2])] [row (x) 98 Az r.2.1] w') := by
 refine enter Tryd.func106 Aa Tryd.ntmps106 Aa fun a F => ?_
 have W := hL
 unfold B5 at H
 refine Ai (Ab ?_)
 refine ls F W Aa (Ag F Aa).q fun a w F W => ?_
 refine Ae (Ad (Ai (Ab ?_)))
 refine ls F W Aa (Ah F Aa).q fun a w F W => ?_
 obtain ⟨x1, h1, H⟩ := An H
 refine ls F W Aa (A1 (v := Value.agg #[.int .i64 x1.1, .int .i64 x1.2.1, .string (bs x1.2.2.1), .int .i64 x1.2.2.2]) F Se Aa (fun w W => CM any w q_p0 (v1) p0 _ h1 (((Bq 0 Aa) : EN _ _ _ _ _ _) w W).nx (LW W 0 Aa))) fun a w F W => ?_
 refine ls F W Aa (A1 (v := Value.int .i64 (Bm x1)) F SN Aa (fun w W => KA any w x1 _ Aa)) fun a w F W => ?_
 refine ls F W Aa (Ag F Aa).q fun a w F W => ?_
 refine Ae (Ad (Ai ?_))
 refine Bd (fun a w => Fr 26 [] [(0, .pointer (some ⟨q_p0, 0, none⟩)), (4, .int .i64 0), (5, .int .i64 (Bm x1)), (15, .bool (decide ((Bm x1) < 0) || decide (p1 < (Bm x1))))] a ∧ Stw ⟨Y, X, w0⟩ [(q_p0, [v1, .int .i64 p0.2])] [row v1 98 Az p0.1] w) ?_ ?_
 ·
  refine Ab ?_
  refine ls F W Aa (Ah F Aa).q fun a w F W => ?_
  refine ls F W Aa (Fd F Aa Aa).q fun a w F W => ?_
  refine ls F W Aa (Ah F Aa).q fun a w F W => ?_
  rcases Bool.eq_false_or_eq_true (decide ((Bm x1) < 0)) with hb0 | hb0
  ·
   rw [hb0] at F
   iterate 3 refine Ec F Aa Aa Aa Aa Aa Aa Aa fun a F => ?_
   refine ls F W Aa (AE F Aa Aa Aa).q fun a w F W => ?_
   refine Ae (Ad ?_)
   exact ⟨F.re ⟨rfl, Aa, Aa, (I2 (by try rw [hb0]; all_goals simp only [IZ])), trivial⟩, W⟩
  rw [hb0] at F
  iterate 2 refine AX F W (Ak F Aa Aa Aa Aa) Aa (Ay Aa) (Ah F Aa).q fun a w F W => ?_
  refine AX F W (Ak F Aa Aa Aa Aa) Aa (Ay Aa) (JE F Aa Aa).q fun a w F W => ?_
  refine ls F W Aa (AN F Aa Aa Aa).q fun a w F W => ?_
  refine Ae (Ad ?_)
  exact ⟨F.re ⟨rfl, Aa, Aa, (I2 (by try rw [hb0]; all_goals simp only [IZ])), trivial⟩, W⟩
 rintro a w ⟨F, W⟩
 refine Aw F Aa (fun hb => ?_) fun hb => ?_
 ·
  have H := AQ hb H
  rw [hb] at F
  clear hb
  refine Ab ?_
  refine ls F W Aa (Ah F Aa).q fun a w F W => ?_
  obtain ⟨x2, h2, H⟩ := An H
  refine B0 (Ml := []) (Zl := []) (M := [(q_p0, [v1, .int .i64 p0.2])]) (Z := [row v1 98 Az p0.1]) (β := Unit) (pv := fun x => .iface 89 (.agg #[.int .i64 x2.1, .int .i64 x2.2])) (MM := fun x => []) (ZZ := fun x => []) F W Sw Aa (fun hL => DE _ w q_p0 (v1) p0 _ h2 ((Bq 0 Aa) w W).nx (LW W 0 Aa)) fun x w W => ?_
  have W : Stw ⟨Y, X, w0⟩ [(q_p0, [v1, .int .i64 p0.2])] [row v1 98 Az p0.1] w := W
  refine BF ?_
  have H := AH H
  subst H
  refine A4 F ?_
  exact ⟨(v1), Aa, W⟩
 have H := AR (by rw [hb]; decide) H
 rw [hb] at F
 clear hb
 refine Ax (Ad (Ai (Ab ?_)))
 refine ls F W Aa (Ah F Aa).q fun a w F W => ?_
 refine ls F W Aa (EF F Aa).q fun a w F W => ?_
 refine ls F W Aa (Ao MT Aa Aa Aa T3 F Aa 1 Aa).q fun a w F W => ?_
 refine ls F W Aa (AJ (v := Value.int .i64 p0.2) 0 F Aa Aa T3 Aa).q fun a w F W => ?_
 refine ls F W Aa (BT F Aa Aa Aa).q fun a w F W => ?_
 refine ls F W Aa (EF F Aa).q fun a w F W => ?_
 refine ls F W Aa (Ao MT Aa Aa Aa T3 F Aa 1 Aa).q fun a w F W => ?_
 refine Au (vs := [.int .i64 (Co (p0.2 + 1))]) (M' := [(q_p0, [v1, .int .i64 (Co (p0.2 + 1))])]) 0 F W Aa Aa Aa T3 Aa Aa Aa Aa Aa fun w W => ?_
 refine Ae (Ad (Ai (Ab ?_)))
 refine ls F W Aa (Ah F Aa).q fun a w F W => ?_
 refine ls F W Aa (Ag F Aa).q fun a w F W => ?_
 refine Ae (Ad (Aq ?_))
 have H := AH H
 subst H
 refine AP (.inl Aa) F W Aa (Ap F Aa) ?_
 exact ⟨(v1), Aa, W⟩
theorem QY : Has Tryd.prog 106 := ⟨fun args w => Al Tryd.func106 rfl (by decide) args w⟩
noncomputable def Be (p0 : (List (Int × Int × List UInt8 × Int)) × Int) : Option ((Int × ((List (Int × Int × List UInt8 × Int)) × Int)) ⊕ ((Int × Int) × ((List (Int × Int × List UInt8 × Int)) × Int))) := (BM p0).bind fun x1 => (if x1.1 ≠ 2 then (BQ p0).bind fun x2 => some (.inr (x2, p0)) else some (.inl (x1.2.1, (p0.1, Co (p0.2 + 1)))))
theorem Da (Y : Nat → Prop) (X : List Nat) (w0 : World) (q_p0 : Nat) (v1 : Value) (p0 : (List (Int × Int × List UInt8 × Int)) × Int) (r : (Int × ((List (Int × Int × List UInt8 × Int)) × Int)) ⊕ ((Int × Int) × ((List (Int × Int × List UInt8 × Int)) × Int))) (H : Be p0 = some r) (hL : Stw ⟨Y, X, w0⟩ [(q_p0, [v1, .int .i64 p0.2])] [row v1 98 Az p0.1] w0) :
    Calls Tryd.prog 107 #[.pointer (some ⟨q_p0, 0, none⟩)] w0 fun e w' => DH r (fun r => ∃ x : Value, e = .returned (.int .i64 r.1) ∧ Stw ⟨Y, X, w0⟩ [(q_p0, [x, .int .i64 r.2.2])] [row (x) 98 Az r.2.1] w') (fun r => ∃ x : Value, e = .panicked [{ v := .iface 89 (.agg #[.int .i64 r.1.1, .int .i64 r.1.2]), recovered := false }] ∧ Stw ⟨Y, X, w0⟩ [(q_p0, [x, .int .i64 r.2.2])] [row (x) 98 Az r.2.1] w') := by
 refine enter Tryd.func107 Aa Tryd.ntmps107 Aa fun a F => ?_
 have W := hL
 unfold Be at H
 refine Ai (Ab ?_)
 refine ls F W Aa (Ag F Aa).q fun a w F W => ?_
 refine Ae (Ad (Ai (Ab ?_)))
 refine ls F W Aa (Ah F Aa).q fun a w F W => ?_
 obtain ⟨x1, h1, H⟩ := An H
 refine ls F W Aa (A1 (v := Value.agg #[.int .i64 x1.1, .int .i64 x1.2.1, .string (bs x1.2.2.1), .int .i64 x1.2.2.2]) F Se Aa (fun w W => CM any w q_p0 (v1) p0 _ h1 (((Bq 0 Aa) : EN _ _ _ _ _ _) w W).nx (LW W 0 Aa))) fun a w F W => ?_
 refine AU (cs := [.int .i64 0, .int .i64 0, .string (bs ([] : List UInt8)), .int .i64 0]) F W Aa Rs Aa fun b1 a w F W => ?_
 refine Au (vs := [.int .i64 x1.1, .int .i64 x1.2.1, .string (bs x1.2.2.1), .int .i64 x1.2.2.2]) (M' := [(b1, [.int .i64 x1.1, .int .i64 x1.2.1, .string (bs x1.2.2.1), .int .i64 x1.2.2.2]), (q_p0, [v1, .int .i64 p0.2])]) 0 F W Aa Aa Aa MW Aa Aa Aa Aa Aa fun w W => ?_
 refine Ae (Ad (Ai (Ai (Ab ?_))))
 refine ls F W Aa (Ao KD Aa Aa Aa T3 F Aa 0 Aa).q fun a w F W => ?_
 refine ls F W Aa (AJ (v := Value.int .i64 x1.1) 0 F Aa Aa T3 Aa).q fun a w F W => ?_
 refine ls F W Aa (Ev F Aa Aa).q fun a w F W => ?_
 refine Ae (Ad ?_)
 refine Aw F Aa (fun hb => ?_) fun hb => ?_
 ·
  have H := AQ (BB hb) H
  rw [hb] at F
  clear hb
  refine Ab ?_
  refine ls F W Aa (Ah F Aa).q fun a w F W => ?_
  obtain ⟨x2, h2, H⟩ := An H
  refine B0 (Ml := []) (Zl := []) (M := [(b1, [.int .i64 x1.1, .int .i64 x1.2.1, .string (bs x1.2.2.1), .int .i64 x1.2.2.2]), (q_p0, [v1, .int .i64 p0.2])]) (Z := [row v1 98 Az p0.1]) (β := Unit) (pv := fun x => .iface 89 (.agg #[.int .i64 x2.1, .int .i64 x2.2])) (MM := fun x => []) (ZZ := fun x => []) F W Sw Aa (fun hL => DE _ w q_p0 (v1) p0 _ h2 ((Bq 0 Aa) w W).nx (LW W 1 Aa)) fun x w W => ?_
  have W : Stw ⟨Y, X, w0⟩ [(b1, [.int .i64 x1.1, .int .i64 x1.2.1, .string (bs x1.2.2.1), .int .i64 x1.2.2.2]), (q_p0, [v1, .int .i64 p0.2])] [row v1 98 Az p0.1] w := W
  refine BF ?_
  have H := AH H
  subst H
  refine A4 F ?_
  have W := W.frontM (i := 1) Aa Aa
  have W := W.sub (M' := [(q_p0, [v1, .int .i64 p0.2])]) (Z' := [row v1 98 Az p0.1]) (List.Sublist.cons_cons _ (List.nil_sublist _)) (List.Sublist.refl _)
  exact ⟨(v1), Aa, W⟩
 have H := AR (Bz hb) H
 rw [hb] at F
 clear hb
 refine Ax (Ad (Ai (Ab ?_)))
 refine ls F W Aa (Ah F Aa).q fun a w F W => ?_
 refine ls F W Aa (EF F Aa).q fun a w F W => ?_
 refine ls F W Aa (Ao MT Aa Aa Aa T3 F Aa 1 Aa).q fun a w F W => ?_
 refine ls F W Aa (AJ (v := Value.int .i64 p0.2) 1 F Aa Aa T3 Aa).q fun a w F W => ?_
 refine ls F W Aa (BT F Aa Aa Aa).q fun a w F W => ?_
 refine ls F W Aa (EF F Aa).q fun a w F W => ?_
 refine ls F W Aa (Ao MT Aa Aa Aa T3 F Aa 1 Aa).q fun a w F W => ?_
 refine Au (vs := [.int .i64 (Co (p0.2 + 1))]) (M' := [(b1, [.int .i64 x1.1, .int .i64 x1.2.1, .string (bs x1.2.2.1), .int .i64 x1.2.2.2]), (q_p0, [v1, .int .i64 (Co (p0.2 + 1))])]) 1 F W Aa Aa Aa T3 Aa Aa Aa Aa Aa fun w W => ?_
 refine Ae (Ad (Ai (Ab ?_)))
 refine ls F W Aa (Ao KD Aa Aa Aa T3 F Aa 1 Aa).q fun a w F W => ?_
 refine ls F W Aa (AJ (v := Value.int .i64 x1.2.1) 0 F Aa Aa T3 Aa).q fun a w F W => ?_
 refine ls F W Aa (Ag F Aa).q fun a w F W => ?_
 refine Ae (Ad (Aq ?_))
 have H := AH H
 subst H
 refine AP (.inl Aa) F W Aa (Ap F Aa) ?_
 have W := W.frontM (i := 1) Aa Aa
 have W := W.sub (M' := [(q_p0, [v1, .int .i64 (Co (p0.2 + 1))])]) (Z' := [row v1 98 Az p0.1]) (List.Sublist.cons_cons _ (List.nil_sublist _)) (List.Sublist.refl _)
 exact ⟨(v1), Aa, W⟩
end Go.Proofs.YtlgjpoapclifbaaDoor
