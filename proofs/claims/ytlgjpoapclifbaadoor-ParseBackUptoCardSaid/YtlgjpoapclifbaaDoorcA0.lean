/- The functions of layer 29, E5. Conditions: none. -/
import Derived.Test.YtlgjpoapclifbaaDoorRows
import Derived.Test.YtlgjpoapclifbaaDoorcQT
import Derived.Test.YtlgjpoapclifbaaDoorcTR
import Derived.Test.YtlgjpoapclifbaaDoorcOG
import Derived.Test.YtlgjpoapclifbaaDoorcOT
import Derived.Test.YtlgjpoapclifbaaDoorcOD
import Derived.Test.YtlgjpoapclifbaaDoorcOC
import Derived.Test.YtlgjpoapclifbaaDoorcOX
namespace Go.Proofs.YtlgjpoapclifbaaDoor
open Go Go.RowKit
set_option linter.unusedVariables false
set_option linter.unusedSimpArgs false
set_option maxRecDepth 20000
theorem KB : type_of% Tryd.underlying9 := Tryd.underlying9
theorem Lh : (Tryd.prog.info? 28).bind (·.zero) = some (.agg #[.int .i64 0, .int .i64 0, .int .i64 0, .int .i64 0, .slice none 0 0, .int .i64 0, .int .i64 0, .slice none 0 0]) := by kernel_rfl
theorem Z3 : (Tryd.prog.info? 3).bind (·.zero) = some (.int .i64 0) := by kernel_rfl
theorem VN : (Tryd.prog.info? 29).bind (·.zero) = some (.int .i64 0) := by kernel_rfl
noncomputable def Ep (p0 : List UInt8) : (Int × Bool) → Option ((Int × Bool) ⊕ (Int ⊕ Int))
  | (x2, x3) => (if x2 < (p0.length : Int) then KC ((ix p0 x2).bind fun x5 => (if (x5.toNat : Int) = 10 then some (.inl false) else (if (x5.toNat : Int) = 35 then some (.inl true) else (if (!x3 && (decide ((x5.toNat : Int) ≠ 32) && decide ((x5.toNat : Int) ≠ 9))) = true then some (.inr (.inr (.inr x2))) else some (.inl x3))))) fun x4 => some (.inl (DP (x2 + 1), x4)) else some (.inr (.inl x2)))
noncomputable def Fq (p0 : List UInt8) (p1 : Int) : Option Int := KC (Br (Ep p0) (p1, false)) fun x1 => some x1
theorem Mr (Y : Nat → Prop) (w0 : World)  (p0 : List UInt8) (p1 : Int) (r : Int) (H : Fq p0 p1 = some r)  :
    Calls Tryd.prog 81 #[.string (bs p0), .int .i64 p1] w0 fun e w' => e = .returned (.int .i64 r) ∧ Below w0.heap.size w0 w' := by
 refine enter Tryd.func81 Aa Tryd.ntmps81 Aa fun a F => ?_
 have W := Stw.start Y w0
 unfold Fq at H
 refine Ak (Ab ?_)
 refine ls F W Aa (Ag F Aa).q fun a w F W => ?_
 refine Ae (Ac (Ak (Ab ?_)))
 refine ls F W Aa (Ag F Aa).q fun a w F W => ?_
 refine Ae (Ac ?_)
 obtain ⟨o1, G1, K1, L1⟩ := Rk H
 refine A1 (fun a w => ∃ x1 : Int, some (Sum.inl x1) = some o1 ∧ Fr 35 [] [(1, .int .i64 x1), (4, .int .i64 0)] a ∧ Stw ⟨Y, [], w0⟩ [] [] w) ?_ ?_
 ·
  have H := G1
  clear G1 K1
  refine AP ?_
  refine Cx H (fun s a w => Fr 35 [] [(0, .string (bs p0)), (1, .int .i64 s.1), (4, .int .i64 0), (5, .bool s.2)] a ∧ Stw ⟨Y, [], w0⟩ [] [] w) ⟨F.re ⟨rfl, Aa, Aa, Aa, trivial⟩, W⟩ fun s o a w H L2 hR => ?_
  obtain ⟨x2, x3⟩ := s
  obtain ⟨F, W⟩ := hR
  have F : Fr 35 [] [(0, .string (bs p0)), (1, .int .i64 x2), (4, .int .i64 0), (5, .bool x3)] a := F
  have W : Stw ⟨Y, [], w0⟩ [] [] w := W
  rw [Ep] at H
  refine Ak (Ak (Ab ?_))
  iterate 2 refine ls F W Aa (Ah F Aa).q fun a w F W => ?_
  refine ls F W Aa (FA (l := p0) KB Aa F Aa).q fun a w F W => ?_
  refine ls F W Aa (Co F Aa Aa).q fun a w F W => ?_
  refine Ae (Ac ?_)
  refine Az F Aa (fun hb => ?_) fun hb => ?_
  ·
   have H := AW (Bw hb) H
   rw [hb] at F
   clear hb
   refine AA (Ac ?_)
   obtain ⟨o3, G3, K3, L3⟩ := Rk H
   refine A1 (fun a w => ∃ x4 : Bool, some (Sum.inl x4) = some o3 ∧ Fr 35 [] [(0, .string (bs p0)), (1, .int .i64 x2), (4, .int .i64 0), (5, .bool x4)] a ∧ Stw ⟨Y, [], w0⟩ [] [] w) ?_ ?_
   ·
    have H := G3
    clear G3 K3
    refine AP (Ak (Ab ?_))
    iterate 2 refine ls F W Aa (Ah F Aa).q fun a w F W => ?_
    obtain ⟨x5, h1, H⟩ := Aq H
    refine ls F W Aa (HY (l := p0) KB F Aa Aa h1).q fun a w F W => ?_
    refine ls F W Aa (Ag F Aa).q fun a w F W => ?_
    refine Ae (Ac (AP (Ak (Ab ?_))))
    refine ls F W Aa (Ah F Aa).q fun a w F W => ?_
    refine ls F W Aa (Bd F Aa Aa).q fun a w F W => ?_
    refine ls F W Aa (Ag F Aa).q fun a w F W => ?_
    refine Ae (Ac ?_)
    refine Az F Aa (fun hb => ?_) fun hb => ?_
    ·
     have H := AW (Bw hb) H
     rw [hb] at F
     clear hb
     refine Ab ?_
     refine ls F W Aa (Ag F Aa).q fun a w F W => ?_
     refine Ae ?_
     iterate 2 refine Bn ?_
     refine Ac ?_
     exact ⟨_, H, F.re ⟨rfl, Aa, Aa, Aa, trivial⟩, W⟩
    have H := AY (Bx hb) H
    rw [hb] at F
    clear hb
    refine Ak (Ab ?_)
    refine ls F W Aa (Ah F Aa).q fun a w F W => ?_
    refine ls F W Aa (Bd F Aa Aa).q fun a w F W => ?_
    refine ls F W Aa (Ag F Aa).q fun a w F W => ?_
    refine Ae (Ac ?_)
    refine Az F Aa (fun hb => ?_) fun hb => ?_
    ·
     have H := AW (Bw hb) H
     rw [hb] at F
     clear hb
     refine Ab ?_
     refine ls F W Aa (Ag F Aa).q fun a w F W => ?_
     refine Ae ?_
     iterate 2 refine Bn ?_
     refine Ac ?_
     exact ⟨_, H, F.re ⟨rfl, Aa, Aa, Aa, trivial⟩, W⟩
    have H := AY (Bx hb) H
    rw [hb] at F
    clear hb
    refine A1 (fun a w => Fr 35 [] [(0, .string (bs p0)), (1, .int .i64 x2), (4, .int .i64 0), (5, .bool x3), (22, .bool (!x3 && (decide ((x5.toNat : Int) ≠ 32) && decide ((x5.toNat : Int) ≠ 9))))] a ∧ Stw ⟨Y, [], w0⟩ [] [] w) ?_ ?_
    ·
     refine Ab ?_
     refine ls F W Aa (Ah F Aa).q fun a w F W => ?_
     refine ls F W Aa (Hs F Aa).q fun a w F W => ?_
     refine ls F W Aa (Ah F Aa).q fun a w F W => ?_
     rcases Bool.eq_false_or_eq_true (!x3) with hb0 | hb0
     ·
      rw [hb0] at F
      refine Au F W (Ad F Aa Aa Aa Aa) Aa (Al Aa) (Ah F Aa).q fun a w F W => ?_
      refine Au F W (Ad F Aa Aa Aa Aa) Aa (Al Aa) (Dp F Aa Aa).q fun a w F W => ?_
      refine ls F W Aa (As F Aa Aa Aa).q fun a w F W => ?_
      refine ls F W Aa (Ah F Aa).q fun a w F W => ?_
      rcases Bool.eq_false_or_eq_true (decide ((x5.toNat : Int) ≠ 32)) with hb1 | hb1
      ·
       rw [hb1] at F
       refine Au F W (Ad F Aa Aa Aa Aa) Aa (Al Aa) (Ah F Aa).q fun a w F W => ?_
       refine Au F W (Ad F Aa Aa Aa Aa) Aa (Al Aa) (Dp F Aa Aa).q fun a w F W => ?_
       refine ls F W Aa (As F Aa Aa Aa).q fun a w F W => ?_
       refine ls F W Aa (Ag F Aa).q fun a w F W => ?_
       refine Ae (Ac ?_)
       exact ⟨F.re ⟨rfl, Aa, Aa, Aa, (Dq (by try rw [hb1]; try rw [hb0]; all_goals simp only [Dr])), trivial⟩, W⟩
      rw [hb1] at F
      iterate 2 refine Cd F Aa Aa Aa Aa Aa Aa Aa fun a F => ?_
      refine ls F W Aa (Ap F Aa Aa Aa).q fun a w F W => ?_
      refine ls F W Aa (Ag F Aa).q fun a w F W => ?_
      refine Ae (Ac ?_)
      exact ⟨F.re ⟨rfl, Aa, Aa, Aa, (Dq (by try rw [hb1]; try rw [hb0]; all_goals simp only [Dr])), trivial⟩, W⟩
     rw [hb0] at F
     iterate 2 refine Cd F Aa Aa Aa Aa Aa Aa Aa fun a F => ?_
     refine ls F W Aa (Ap F Aa Aa Aa).q fun a w F W => ?_
     refine ls F W Aa (Ah F Aa).q fun a w F W => ?_
     iterate 2 refine Cd F Aa Aa Aa Aa Aa Aa Aa fun a F => ?_
     refine ls F W Aa (Ap F Aa Aa Aa).q fun a w F W => ?_
     refine ls F W Aa (Ag F Aa).q fun a w F W => ?_
     refine Ae (Ac ?_)
     exact ⟨F.re ⟨rfl, Aa, Aa, Aa, (Dq (by try rw [hb0]; all_goals simp only [Dr])), trivial⟩, W⟩
    rintro a w ⟨F, W⟩
    refine Az F Aa (fun hb => ?_) fun hb => ?_
    ·
     have H := AW hb H
     rw [hb] at F
     clear hb
     refine Ak (Ab ?_)
     refine ls F W Aa (Ah F Aa).q fun a w F W => ?_
     refine ls F W Aa (Ag F Aa).q fun a w F W => ?_
     refine Ae (Ac (Ax ?_))
     iterate 2 refine Bc ?_
     iterate 2 refine AO ?_
     refine Bc (AO ?_)
     have H := L3 _ H
     have H := L2 _ H
     have H := L1 _ H
     have H := AK H
     subst H
     refine AG (.inl Aa) F W Aa (AD F Aa) ?_
     exact ⟨rfl, W.done⟩
    have H := AY (by rw [hb]; decide) H
    rw [hb] at F
    clear hb
    refine AA ?_
    iterate 2 refine Bn ?_
    refine Ac ?_
    exact ⟨_, H, F.re ⟨rfl, Aa, Aa, Aa, trivial⟩, W⟩
   rintro a w ⟨x4, hj, F, W⟩
   have H := K3 _ hj
   clear hj G3 K3 L3
   refine Ab ?_
   refine ls F W Aa (Ah F Aa).q fun a w F W => ?_
   refine ls F W Aa (C5 F Aa Aa Aa).q fun a w F W => ?_
   refine ls F W Aa (Ag F Aa).q fun a w F W => ?_
   refine Ae (Ac ?_)
   exact ⟨_, H, F.re ⟨rfl, Aa, Aa, Aa, trivial⟩, W⟩
  have H := AY (Bx hb) H
  rw [hb] at F
  clear hb
  refine Cz ?_
  iterate 2 refine C8 ?_
  refine Cy (Ac ?_)
  have H := L2 _ H
  exact ⟨_, H, F.re ⟨rfl, Aa, trivial⟩, W⟩
 rintro a w ⟨x1, hj, F, W⟩
 have H := K1 _ hj
 clear hj G1 K1 L1
 refine Ak (Ab ?_)
 refine ls F W Aa (Ah F Aa).q fun a w F W => ?_
 refine ls F W Aa (Ag F Aa).q fun a w F W => ?_
 refine Ae (Ac (Ax ?_))
 have H := AK H
 subst H
 refine AG (.inl Aa) F W Aa (AD F Aa) ?_
 exact ⟨rfl, W.done⟩
theorem VF : Has Tryd.prog 81 := ⟨fun args w => An Tryd.func81 rfl (by decide) args w⟩
theorem TJ : (Tryd.prog.info? 98).bind (·.zero) = some (.agg #[.int .i64 0, .int .i64 0, .string (bs ([] : List UInt8)), .int .i64 0]) := by kernel_rfl
def ED (p0 : Int) : Bool := (decide (97 ≤ p0) && decide (p0 ≤ 122))
theorem Mj (Y : Nat → Prop) (w0 : World)  (p0 : Int) (r : Bool) (H : ED p0 = r)  :
    Calls Tryd.prog 99 #[.int .u8 p0] w0 fun e w' => e = .returned (.bool r) ∧ Below w0.heap.size w0 w' := by
 refine enter Tryd.func99 Aa Tryd.ntmps99 Aa fun a F => ?_
 have W := Stw.start Y w0
 unfold ED at H
 refine Ak (Ab ?_)
 refine ls F W Aa (Ag F Aa).q fun a w F W => ?_
 refine Ae (Ac ?_)
 refine A1 (fun a w => Fr 9 [] [(2, .bool (decide (97 ≤ p0) && decide (p0 ≤ 122)))] a ∧ Stw ⟨Y, [], w0⟩ [] [] w) ?_ ?_
 ·
  refine Ab ?_
  refine ls F W Aa (Ah F Aa).q fun a w F W => ?_
  refine ls F W Aa (HX F Aa Aa).q fun a w F W => ?_
  refine ls F W Aa (Ah F Aa).q fun a w F W => ?_
  rcases Bool.eq_false_or_eq_true (decide (97 ≤ p0)) with hb0 | hb0
  ·
   rw [hb0] at F
   refine Au F W (Ad F Aa Aa Aa Aa) Aa (Al Aa) (Ah F Aa).q fun a w F W => ?_
   refine Au F W (Ad F Aa Aa Aa Aa) Aa (Al Aa) (HX F Aa Aa).q fun a w F W => ?_
   refine ls F W Aa (As F Aa Aa Aa).q fun a w F W => ?_
   refine ls F W Aa (Ag F Aa).q fun a w F W => ?_
   refine Ae (Ac ?_)
   exact ⟨F.re ⟨(Dq (by try rw [hb0]; all_goals simp only [Dr])), trivial⟩, W⟩
  rw [hb0] at F
  iterate 2 refine Cd F Aa Aa Aa Aa Aa Aa Aa fun a F => ?_
  refine ls F W Aa (Ap F Aa Aa Aa).q fun a w F W => ?_
  refine ls F W Aa (Ag F Aa).q fun a w F W => ?_
  refine Ae (Ac ?_)
  exact ⟨F.re ⟨(Dq (by try rw [hb0]; all_goals simp only [Dr])), trivial⟩, W⟩
 rintro a w ⟨F, W⟩
 refine Ax ?_
 subst H
 refine AG (.inl Aa) F W Aa (AD F Aa) ?_
 exact ⟨rfl, W.done⟩
theorem Wg : Has Tryd.prog 99 := ⟨fun args w => An Tryd.func99 rfl (by decide) args w⟩
noncomputable def Gd (p0 : List UInt8) : Int → Option (Int ⊕ Int)
  | x2 => (if x2 < (p0.length : Int) then (ix p0 x2).bind fun x4 => some (ED (x4.toNat : Int)) else some false).bind fun x3 => (if x3 = true then some (.inl (DP (x2 + 1))) else some (.inr x2))
noncomputable def Ia (p0 : List UInt8) : Option Int := (Br (Gd p0) 0).bind fun x1 => some x1
theorem Rf (Y : Nat → Prop) (w0 : World)  (p0 : List UInt8) (r : Int) (H : Ia p0 = some r)  :
    Calls Tryd.prog 98 #[.string (bs p0), .func (.func 99) #[] #[]] w0 fun e w' => e = .returned (.int .i64 r) ∧ Below w0.heap.size w0 w' := by
 refine enter Tryd.func98 Aa Tryd.ntmps98 Aa fun a F => ?_
 have W := Stw.start Y w0
 unfold Ia at H
 refine Ak (Ab ?_)
 refine ls F W Aa (Ag F Aa).q fun a w F W => ?_
 refine Ae (Ac (Ak (Ab ?_)))
 refine ls F W Aa (Ag F Aa).q fun a w F W => ?_
 refine Ae (Ac ?_)
 obtain ⟨o1, G1, K1⟩ := Aq H
 refine A1 (fun a w => ∃ x1 : Int, some (x1) = some o1 ∧ Fr 20 [] [(4, .int .i64 0), (5, .int .i64 x1)] a ∧ Stw ⟨Y, [], w0⟩ [] [] w) ?_ ?_
 ·
  have H := G1
  clear G1 K1
  refine AP ?_
  refine Cx H (fun s a w => Fr 20 [] [(0, .string (bs p0)), (1, .func (.func 99) #[] #[]), (4, .int .i64 0), (5, .int .i64 s)] a ∧ Stw ⟨Y, [], w0⟩ [] [] w) ⟨F.re ⟨rfl, Aa, Aa, Aa, trivial⟩, W⟩ fun s o a w H L2 hR => ?_
  obtain ⟨x2, rfl⟩ : ∃ x, x = s := ⟨s, rfl⟩
  obtain ⟨F, W⟩ := hR
  have F : Fr 20 [] [(0, .string (bs p0)), (1, .func (.func 99) #[] #[]), (4, .int .i64 0), (5, .int .i64 x2)] a := F
  have W : Stw ⟨Y, [], w0⟩ [] [] w := W
  rw [Gd] at H
  refine Ak ?_
  obtain ⟨o3, G3, K3⟩ := Aq H
  refine A1 (fun a w => ∃ x3 : Bool, some (x3) = some o3 ∧ Fr 20 [] [(0, .string (bs p0)), (1, .func (.func 99) #[] #[]), (4, .int .i64 0), (5, .int .i64 x2), (16, .bool x3)] a ∧ Stw ⟨Y, [], w0⟩ [] [] w) ?_ ?_
  ·
   have H := G3
   clear G3 K3
   refine Ab ?_
   iterate 2 refine ls F W Aa (Ah F Aa).q fun a w F W => ?_
   refine ls F W Aa (FA (l := p0) KB Aa F Aa).q fun a w F W => ?_
   refine ls F W Aa (Co F Aa Aa).q fun a w F W => ?_
   refine ls F W Aa (Ah F Aa).q fun a w F W => ?_
   rcases Bool.eq_false_or_eq_true (decide (x2 < (p0.length : Int))) with hb | hb
   ·
    have H := AW (Bw hb) H
    rw [hb] at F
    clear hb
    iterate 3 refine Au F W (Ad F Aa Aa Aa Aa) Aa (Al Aa) (Ah F Aa).q fun a w F W => ?_
    obtain ⟨x4, h1, H⟩ := Aq H
    refine Au F W (Ad F Aa Aa Aa Aa) Aa (Al Aa) (HY (l := p0) KB F Aa Aa h1).q fun a w F W => ?_
    refine Jc (Ad F Aa Aa Aa Aa) ?_
    refine ls F W Aa (QQ (ws := [.int .u8 (x4.toNat : Int)]) (v := Value.bool (ED (x4.toNat : Int))) F Wg Aa (fun w W => Mj any w (x4.toNat : Int) _ Aa)) fun a w F W => ?_
    refine ls F W Aa (As F Aa Aa Aa).q fun a w F W => ?_
    refine Ae (Ac ?_)
    exact ⟨_, H, F.re ⟨rfl, Aa, Aa, Aa, Aa, trivial⟩, W⟩
   have H := AY (Bx hb) H
   rw [hb] at F
   clear hb
   iterate 5 refine Cd F Aa Aa Aa Aa Aa Aa Aa fun a F => ?_
   refine ls F W Aa (Ap F Aa Aa Aa).q fun a w F W => ?_
   refine Ae (Ac ?_)
   exact ⟨_, H, F.re ⟨rfl, Aa, Aa, Aa, Aa, trivial⟩, W⟩
  rintro a w ⟨x3, hj, F, W⟩
  have hj := AK hj
  subst hj
  have H := K3
  clear G3 K3
  refine Az F Aa (fun hb => ?_) fun hb => ?_
  ·
   have H := AW hb H
   rw [hb] at F
   clear hb
   refine AA (Ac (AP (Ab ?_)))
   refine ls F W Aa (Ah F Aa).q fun a w F W => ?_
   refine ls F W Aa (C5 F Aa Aa Aa).q fun a w F W => ?_
   refine ls F W Aa (Ag F Aa).q fun a w F W => ?_
   refine Ae (Bn (Ac ?_))
   exact ⟨_, H, F.re ⟨rfl, Aa, Aa, Aa, trivial⟩, W⟩
  have H := AY (by rw [hb]; decide) H
  rw [hb] at F
  clear hb
  refine Cz ?_
  iterate 2 refine C8 ?_
  refine Cy (Ac ?_)
  have H := L2 _ H
  exact ⟨_, H, F.re ⟨rfl, Aa, trivial⟩, W⟩
 rintro a w ⟨x1, hj, F, W⟩
 have hj := AK hj
 subst hj
 have H := K1
 clear G1 K1
 refine Ak (Ab ?_)
 refine ls F W Aa (Ah F Aa).q fun a w F W => ?_
 refine ls F W Aa (Ag F Aa).q fun a w F W => ?_
 refine Ae (Ac (Ax ?_))
 have H := AK H
 subst H
 refine AG (.inl Aa) F W Aa (AD F Aa) ?_
 exact ⟨rfl, W.done⟩
theorem Li : type_of% Tryd.underlying98 := Tryd.underlying98
theorem VW : Has Tryd.prog 98 := ⟨fun args w => An Tryd.func98 rfl (by decide) args w⟩
theorem Uq : Bt Tryd.prog 98 [.int .i64 0, .int .i64 0, .string (bs ([] : List UInt8)), .int .i64 0] [(0, 1), (1, 1), (2, 1), (3, 1)] := ⟨⟨.agg #[.int .i64 0, .int .i64 0, .string (bs ([] : List UInt8)), .int .i64 0], by kernel_rfl, rfl⟩, ⟨_, Li, fun w => by kernel_rfl⟩⟩
theorem NT : Ty Tryd.prog 98 true 4 := ⟨by kernel_rfl, by kernel_rfl⟩
def E7 (p0 : Int) : Bool := (decide (48 ≤ p0) && decide (p0 ≤ 57))
theorem Na (Y : Nat → Prop) (w0 : World)  (p0 : Int) (r : Bool) (H : E7 p0 = r)  :
    Calls Tryd.prog 100 #[.int .u8 p0] w0 fun e w' => e = .returned (.bool r) ∧ Below w0.heap.size w0 w' := by
 refine enter Tryd.func100 Aa Tryd.ntmps100 Aa fun a F => ?_
 have W := Stw.start Y w0
 unfold E7 at H
 refine Ak (Ab ?_)
 refine ls F W Aa (Ag F Aa).q fun a w F W => ?_
 refine Ae (Ac ?_)
 refine A1 (fun a w => Fr 9 [] [(2, .bool (decide (48 ≤ p0) && decide (p0 ≤ 57)))] a ∧ Stw ⟨Y, [], w0⟩ [] [] w) ?_ ?_
 ·
  refine Ab ?_
  refine ls F W Aa (Ah F Aa).q fun a w F W => ?_
  refine ls F W Aa (HX F Aa Aa).q fun a w F W => ?_
  refine ls F W Aa (Ah F Aa).q fun a w F W => ?_
  rcases Bool.eq_false_or_eq_true (decide (48 ≤ p0)) with hb0 | hb0
  ·
   rw [hb0] at F
   refine Au F W (Ad F Aa Aa Aa Aa) Aa (Al Aa) (Ah F Aa).q fun a w F W => ?_
   refine Au F W (Ad F Aa Aa Aa Aa) Aa (Al Aa) (HX F Aa Aa).q fun a w F W => ?_
   refine ls F W Aa (As F Aa Aa Aa).q fun a w F W => ?_
   refine ls F W Aa (Ag F Aa).q fun a w F W => ?_
   refine Ae (Ac ?_)
   exact ⟨F.re ⟨(Dq (by try rw [hb0]; all_goals simp only [Dr])), trivial⟩, W⟩
  rw [hb0] at F
  iterate 2 refine Cd F Aa Aa Aa Aa Aa Aa Aa fun a F => ?_
  refine ls F W Aa (Ap F Aa Aa Aa).q fun a w F W => ?_
  refine ls F W Aa (Ag F Aa).q fun a w F W => ?_
  refine Ae (Ac ?_)
  exact ⟨F.re ⟨(Dq (by try rw [hb0]; all_goals simp only [Dr])), trivial⟩, W⟩
 rintro a w ⟨F, W⟩
 refine Ax ?_
 subst H
 refine AG (.inl Aa) F W Aa (AD F Aa) ?_
 exact ⟨rfl, W.done⟩
theorem Vt : Has Tryd.prog 100 := ⟨fun args w => An Tryd.func100 rfl (by decide) args w⟩
noncomputable def E9 (p0 : List UInt8) : Int → Option (Int ⊕ Int)
  | x2 => (if x2 < (p0.length : Int) then (ix p0 x2).bind fun x4 => some (E7 (x4.toNat : Int)) else some false).bind fun x3 => (if x3 = true then some (.inl (DP (x2 + 1))) else some (.inr x2))
noncomputable def F7 (p0 : List UInt8) : Option Int := (Br (E9 p0) 0).bind fun x1 => some x1
theorem OQ (Y : Nat → Prop) (w0 : World)  (p0 : List UInt8) (r : Int) (H : F7 p0 = some r)  :
    Calls Tryd.prog 98 #[.string (bs p0), .func (.func 100) #[] #[]] w0 fun e w' => e = .returned (.int .i64 r) ∧ Below w0.heap.size w0 w' := by
 refine enter Tryd.func98 Aa Tryd.ntmps98 Aa fun a F => ?_
 have W := Stw.start Y w0
 unfold F7 at H
 refine Ak (Ab ?_)
 refine ls F W Aa (Ag F Aa).q fun a w F W => ?_
 refine Ae (Ac (Ak (Ab ?_)))
 refine ls F W Aa (Ag F Aa).q fun a w F W => ?_
 refine Ae (Ac ?_)
 obtain ⟨o1, G1, K1⟩ := Aq H
 refine A1 (fun a w => ∃ x1 : Int, some (x1) = some o1 ∧ Fr 20 [] [(4, .int .i64 0), (5, .int .i64 x1)] a ∧ Stw ⟨Y, [], w0⟩ [] [] w) ?_ ?_
 ·
  have H := G1
  clear G1 K1
  refine AP ?_
  refine Cx H (fun s a w => Fr 20 [] [(0, .string (bs p0)), (1, .func (.func 100) #[] #[]), (4, .int .i64 0), (5, .int .i64 s)] a ∧ Stw ⟨Y, [], w0⟩ [] [] w) ⟨F.re ⟨rfl, Aa, Aa, Aa, trivial⟩, W⟩ fun s o a w H L2 hR => ?_
  obtain ⟨x2, rfl⟩ : ∃ x, x = s := ⟨s, rfl⟩
  obtain ⟨F, W⟩ := hR
  have F : Fr 20 [] [(0, .string (bs p0)), (1, .func (.func 100) #[] #[]), (4, .int .i64 0), (5, .int .i64 x2)] a := F
  have W : Stw ⟨Y, [], w0⟩ [] [] w := W
  rw [E9] at H
  refine Ak ?_
  obtain ⟨o3, G3, K3⟩ := Aq H
  refine A1 (fun a w => ∃ x3 : Bool, some (x3) = some o3 ∧ Fr 20 [] [(0, .string (bs p0)), (1, .func (.func 100) #[] #[]), (4, .int .i64 0), (5, .int .i64 x2), (16, .bool x3)] a ∧ Stw ⟨Y, [], w0⟩ [] [] w) ?_ ?_
  ·
   have H := G3
   clear G3 K3
   refine Ab ?_
   iterate 2 refine ls F W Aa (Ah F Aa).q fun a w F W => ?_
   refine ls F W Aa (FA (l := p0) KB Aa F Aa).q fun a w F W => ?_
   refine ls F W Aa (Co F Aa Aa).q fun a w F W => ?_
   refine ls F W Aa (Ah F Aa).q fun a w F W => ?_
   rcases Bool.eq_false_or_eq_true (decide (x2 < (p0.length : Int))) with hb | hb
   ·
    have H := AW (Bw hb) H
    rw [hb] at F
    clear hb
    iterate 3 refine Au F W (Ad F Aa Aa Aa Aa) Aa (Al Aa) (Ah F Aa).q fun a w F W => ?_
    obtain ⟨x4, h1, H⟩ := Aq H
    refine Au F W (Ad F Aa Aa Aa Aa) Aa (Al Aa) (HY (l := p0) KB F Aa Aa h1).q fun a w F W => ?_
    refine Jc (Ad F Aa Aa Aa Aa) ?_
    refine ls F W Aa (QQ (ws := [.int .u8 (x4.toNat : Int)]) (v := Value.bool (E7 (x4.toNat : Int))) F Vt Aa (fun w W => Na any w (x4.toNat : Int) _ Aa)) fun a w F W => ?_
    refine ls F W Aa (As F Aa Aa Aa).q fun a w F W => ?_
    refine Ae (Ac ?_)
    exact ⟨_, H, F.re ⟨rfl, Aa, Aa, Aa, Aa, trivial⟩, W⟩
   have H := AY (Bx hb) H
   rw [hb] at F
   clear hb
   iterate 5 refine Cd F Aa Aa Aa Aa Aa Aa Aa fun a F => ?_
   refine ls F W Aa (Ap F Aa Aa Aa).q fun a w F W => ?_
   refine Ae (Ac ?_)
   exact ⟨_, H, F.re ⟨rfl, Aa, Aa, Aa, Aa, trivial⟩, W⟩
  rintro a w ⟨x3, hj, F, W⟩
  have hj := AK hj
  subst hj
  have H := K3
  clear G3 K3
  refine Az F Aa (fun hb => ?_) fun hb => ?_
  ·
   have H := AW hb H
   rw [hb] at F
   clear hb
   refine AA (Ac (AP (Ab ?_)))
   refine ls F W Aa (Ah F Aa).q fun a w F W => ?_
   refine ls F W Aa (C5 F Aa Aa Aa).q fun a w F W => ?_
   refine ls F W Aa (Ag F Aa).q fun a w F W => ?_
   refine Ae (Bn (Ac ?_))
   exact ⟨_, H, F.re ⟨rfl, Aa, Aa, Aa, trivial⟩, W⟩
  have H := AY (by rw [hb]; decide) H
  rw [hb] at F
  clear hb
  refine Cz ?_
  iterate 2 refine C8 ?_
  refine Cy (Ac ?_)
  have H := L2 _ H
  exact ⟨_, H, F.re ⟨rfl, Aa, trivial⟩, W⟩
 rintro a w ⟨x1, hj, F, W⟩
 have hj := AK hj
 subst hj
 have H := K1
 clear G1 K1
 refine Ak (Ab ?_)
 refine ls F W Aa (Ah F Aa).q fun a w F W => ?_
 refine ls F W Aa (Ag F Aa).q fun a w F W => ?_
 refine Ae (Ac (Ax ?_))
 have H := AK H
 subst H
 refine AG (.inl Aa) F W Aa (AD F Aa) ?_
 exact ⟨rfl, W.done⟩
theorem V3 : type_of% Tryd.underlying3 := Tryd.underlying3
theorem V0 : type_of% Tryd.underlying5 := Tryd.underlying5
noncomputable def Cm (p0 : List UInt8) : (Int × Int) → Option ((Int × Int) ⊕ Int)
  | (x4, x5) => (if x5 < (p0.length : Int) then (ix p0 x5).bind fun x6 => some (.inl (DP ((DP (10 * x4)) + (DP (IntKind.u8.wrap ((x6.toNat : Int) - 48)))), DP (x5 + 1))) else some (.inr x4))
noncomputable def Cu (p0 : List UInt8) : Option ((Int × Int × List UInt8 × Int) × Int) := (if 3 < (p0.length : Int) then some true else (if 1 < (p0.length : Int) then (ix p0 0).bind fun x2 => some (decide ((x2.toNat : Int) = 48)) else some false)).bind fun x1 => (if x1 = true then some ((0, 0, ([] : List UInt8), 0), 0) else (Br (Cm p0) (0, 0)).bind fun x3 => some ((2, x3, ([] : List UInt8), 0), (p0.length : Int)))
theorem OD (Y : Nat → Prop) (w0 : World)  (p0 : List UInt8) (r : (Int × Int × List UInt8 × Int) × Int) (H : Cu p0 = some r)  :
    Calls Tryd.prog 101 #[.string (bs p0)] w0 fun e w' => e = .returned (.tuple #[.agg #[.int .i64 r.1.1, .int .i64 r.1.2.1, .string (bs r.1.2.2.1), .int .i64 r.1.2.2.2], .int .i64 r.2]) ∧ Below w0.heap.size w0 w' := by
 refine enter Tryd.func101 Aa Tryd.ntmps101 Aa fun a F => ?_
 have W := Stw.start Y w0
 unfold Cu at H
 refine Ak (Ab ?_)
 refine Bi (cs := [.int .i64 0, .int .i64 0, .string (bs ([] : List UInt8)), .int .i64 0]) F W Aa TJ Aa fun b1 a w F W => ?_
 refine ls F W Aa (Ag F Aa).q fun a w F W => ?_
 refine Ae (Ac (Ak ?_))
 obtain ⟨o1, G1, K1⟩ := Aq H
 refine A1 (fun a w => ∃ x1 : Bool, some (x1) = some o1 ∧ Fr 38 [] [(0, .string (bs p0)), (2, .pointer (some ⟨b1, 0, none⟩)), (3, .int .i64 0), (18, .bool x1)] a ∧ Stw ⟨Y, [], w0⟩ [(b1, [.int .i64 0, .int .i64 0, .string (bs ([] : List UInt8)), .int .i64 0])] [] w) ?_ ?_
 ·
  have H := G1
  clear G1 K1
  refine Ab ?_
  refine ls F W Aa (Ah F Aa).q fun a w F W => ?_
  refine ls F W Aa (FA (l := p0) KB Aa F Aa).q fun a w F W => ?_
  refine ls F W Aa (C2 F Aa Aa).q fun a w F W => ?_
  refine ls F W Aa (Ah F Aa).q fun a w F W => ?_
  rcases Bool.eq_false_or_eq_true (decide (3 < (p0.length : Int))) with hb | hb
  ·
   have H := AW (Bw hb) H
   rw [hb] at F
   clear hb
   iterate 4 refine Cd F Aa Aa Aa Aa Aa Aa Aa fun a F => ?_
   iterate 3 refine Ll F Aa Aa Aa Aa Aa Aa fun a F => ?_
   refine Cd F Aa Aa Aa Aa Aa Aa Aa fun a F => ?_
   refine ls F W Aa (As F Aa Aa Aa).q fun a w F W => ?_
   refine Ae (Ac ?_)
   exact ⟨_, H, F.re ⟨rfl, Aa, Aa, Aa, trivial⟩, W⟩
  have H := AY (Bx hb) H
  rw [hb] at F
  clear hb
  refine Au F W (Ad F Aa Aa Aa Aa) Aa (Al Aa) (Ah F Aa).q fun a w F W => ?_
  refine Au F W (Ad F Aa Aa Aa Aa) Aa (Al Aa) (FA (l := p0) KB Aa F Aa).q fun a w F W => ?_
  refine Au F W (Ad F Aa Aa Aa Aa) Aa (Al Aa) (C2 F Aa Aa).q fun a w F W => ?_
  refine Au F W (Ad F Aa Aa Aa Aa) Aa (Al Aa) (Ah F Aa).q fun a w F W => ?_
  rcases Bool.eq_false_or_eq_true (decide (1 < (p0.length : Int))) with hb | hb
  ·
   have H := AW (Bw hb) H
   rw [hb] at F
   clear hb
   refine Au F W (Ad F Aa Aa Aa Aa) Aa (Al Aa) (Ah F Aa).q fun a w F W => ?_
   obtain ⟨x2, h1, H⟩ := Aq H
   refine Au F W (Ad F Aa Aa Aa Aa) Aa (Al Aa) (HY (l := p0) KB F Aa Aa h1).q fun a w F W => ?_
   refine Au F W (Ad F Aa Aa Aa Aa) Aa (Al Aa) (Bd F Aa Aa).q fun a w F W => ?_
   refine Au F W (Ad F Aa Aa Aa Aa) Aa (Al Aa) (As F Aa Aa Aa).q fun a w F W => ?_
   refine ls F W Aa (Ap F Aa Aa Aa).q fun a w F W => ?_
   refine Ae (Ac ?_)
   exact ⟨_, H, F.re ⟨rfl, Aa, Aa, Aa, trivial⟩, W⟩
  have H := AY (Bx hb) H
  rw [hb] at F
  clear hb
  iterate 3 refine Cd F Aa Aa Aa Aa Aa Aa Aa fun a F => ?_
  refine Au F W (Ad F Aa Aa Aa Aa) Aa (Al Aa) (Ap F Aa Aa Aa).q fun a w F W => ?_
  refine ls F W Aa (Ap F Aa Aa Aa).q fun a w F W => ?_
  refine Ae (Ac ?_)
  exact ⟨_, H, F.re ⟨rfl, Aa, Aa, Aa, trivial⟩, W⟩
 rintro a w ⟨x1, hj, F, W⟩
 have hj := AK hj
 subst hj
 have H := K1
 clear G1 K1
 refine Az F Aa (fun hb => ?_) fun hb => ?_
 ·
  have H := AW hb H
  rw [hb] at F
  clear hb
  refine Ak (Ab ?_)
  refine ls F W Aa (B7 (v := Value.agg #[.int .i64 0, .int .i64 0, .string (bs ([] : List UInt8)), .int .i64 0]) Uq F Aa Aa Aa).q fun a w F W => ?_
  refine AL (vs := [.int .i64 0, .int .i64 0, .string (bs ([] : List UInt8)), .int .i64 0]) (M' := [(b1, [.int .i64 0, .int .i64 0, .string (bs ([] : List UInt8)), .int .i64 0])]) 0 F W Aa Aa Aa NT Aa Aa Aa Aa Aa fun w W => ?_
  refine ls F W Aa (Ag F Aa).q fun a w F W => ?_
  refine Ae (Ac (Ax (AO ?_)))
  have H := AK H
  subst H
  refine MF (.inl Aa) F W Aa (A3 0 F Aa Aa NT Aa) (AD F Aa) ?_
  exact ⟨rfl, W.done⟩
 have H := AY (by rw [hb]; decide) H
 rw [hb] at F
 clear hb
 refine AA (Ac (Ak (Ab ?_)))
 refine ls F W Aa (Ag F Aa).q fun a w F W => ?_
 refine Ae (Ac ?_)
 obtain ⟨o2, G2, K2⟩ := Aq H
 refine A1 (fun a w => ∃ x3 : Int, some (x3) = some o2 ∧ Fr 38 [] [(0, .string (bs p0)), (2, .pointer (some ⟨b1, 0, none⟩)), (3, .int .i64 0), (4, .int .i64 x3)] a ∧ Stw ⟨Y, [], w0⟩ [(b1, [.int .i64 0, .int .i64 0, .string (bs ([] : List UInt8)), .int .i64 0])] [] w) ?_ ?_
 ·
  have H := G2
  clear G2 K2
  refine Ak (Ab ?_)
  refine ls F W Aa (Ah F Aa).q fun a w F W => ?_
  refine ls F W Aa (FA (l := p0) KB Aa F Aa).q fun a w F W => ?_
  refine ls F W Aa (Ah F Aa).q fun a w F W => ?_
  refine Ae (Ac (AP ?_))
  refine Cx H (fun s a w => Fr 38 [] [(0, .string (bs p0)), (2, .pointer (some ⟨b1, 0, none⟩)), (3, .int .i64 0), (4, .int .i64 s.1), (21, .int .i64 (p0.length : Int)), (22, .int .i64 s.2)] a ∧ Stw ⟨Y, [], w0⟩ [(b1, [.int .i64 0, .int .i64 0, .string (bs ([] : List UInt8)), .int .i64 0])] [] w) ⟨F.re ⟨rfl, Aa, Aa, Aa, Aa, Aa, trivial⟩, W⟩ fun s o a w H L3 hR => ?_
  obtain ⟨x4, x5⟩ := s
  obtain ⟨F, W⟩ := hR
  have F : Fr 38 [] [(0, .string (bs p0)), (2, .pointer (some ⟨b1, 0, none⟩)), (3, .int .i64 0), (4, .int .i64 x4), (21, .int .i64 (p0.length : Int)), (22, .int .i64 x5)] a := F
  have W : Stw ⟨Y, [], w0⟩ [(b1, [.int .i64 0, .int .i64 0, .string (bs ([] : List UInt8)), .int .i64 0])] [] w := W
  rw [Cm] at H
  refine Ak (Ab ?_)
  refine ls F W Aa (Co F Aa Aa).q fun a w F W => ?_
  refine Ae (Ac (Ak ?_))
  refine Az F Aa (fun hb => ?_) fun hb => ?_
  ·
   have H := AW (Bw hb) H
   rw [hb] at F
   clear hb
   refine AA (Ac (Ak (AP (Ak (Ab ?_)))))
   refine ls F W Aa (Ah F Aa).q fun a w F W => ?_
   refine ls F W Aa (Ag F Aa).q fun a w F W => ?_
   refine Ae (Ac (Ab ?_))
   refine ls F W Aa (Ah F Aa).q fun a w F W => ?_
   refine ls F W Aa (TU F Aa Aa Aa).q fun a w F W => ?_
   iterate 2 refine ls F W Aa (Ah F Aa).q fun a w F W => ?_
   obtain ⟨x6, h2, H⟩ := Aq H
   refine ls F W Aa (HY (l := p0) KB F Aa Aa h2).q fun a w F W => ?_
   refine ls F W Aa (Qv F Aa Aa Aa).q fun a w F W => ?_
   refine ls F W Aa (SO V0 V3 F Aa).q fun a w F W => ?_
   refine ls F W Aa (C5 F Aa Aa Aa).q fun a w F W => ?_
   refine ls F W Aa (Ag F Aa).q fun a w F W => ?_
   refine Ae (Bn (Ac (Ab ?_)))
   refine ls F W Aa (C5 F Aa Aa Aa).q fun a w F W => ?_
   refine ls F W Aa (Ah F Aa).q fun a w F W => ?_
   refine Ae (Ac ?_)
   exact ⟨_, H, F.re ⟨rfl, Aa, Aa, Aa, Aa, Aa, trivial⟩, W⟩
  have H := AY (Bx hb) H
  rw [hb] at F
  clear hb
  refine Cz ?_
  iterate 2 refine C8 ?_
  refine Cy (Ac ?_)
  have H := L3 _ H
  exact ⟨_, H, F.re ⟨rfl, Aa, Aa, Aa, trivial⟩, W⟩
 rintro a w ⟨x3, hj, F, W⟩
 have hj := AK hj
 subst hj
 have H := K2
 clear G2 K2
 refine Ak (Ab ?_)
 refine ls F W Aa (Ah F Aa).q fun a w F W => ?_
 refine ls F W Aa (B7 (v := Value.agg #[.int .i64 2, .int .i64 x3, .string (bs ([] : List UInt8)), .int .i64 0]) Uq F Aa Aa Aa).q fun a w F W => ?_
 refine ls F W Aa (Ah F Aa).q fun a w F W => ?_
 refine ls F W Aa (FA (l := p0) KB Aa F Aa).q fun a w F W => ?_
 refine AL (vs := [.int .i64 2, .int .i64 x3, .string (bs ([] : List UInt8)), .int .i64 0]) (M' := [(b1, [.int .i64 2, .int .i64 x3, .string (bs ([] : List UInt8)), .int .i64 0])]) 0 F W Aa Aa Aa NT Aa Aa Aa Aa Aa fun w W => ?_
 refine ls F W Aa (Ag F Aa).q fun a w F W => ?_
 refine Ae (Ac (Ax ?_))
 have H := AK H
 subst H
 refine MF (.inl Aa) F W Aa (A3 0 F Aa Aa NT Aa) (AD F Aa) ?_
 exact ⟨rfl, W.done⟩
theorem Vc : Has Tryd.prog 101 := ⟨fun args w => An Tryd.func101 rfl (by decide) args w⟩
noncomputable def BI (p0 : List UInt8) (p1 : List UInt8) : Option Bool := (if (p1.length : Int) ≤ (p0.length : Int) then (GR p0 0 (p1.length : Int)).bind fun x2 => some (decide (x2 = p1)) else some false).bind fun x1 => some x1
theorem FM (Y : Nat → Prop) (w0 : World)  (p0 : List UInt8) (p1 : List UInt8) (r : Bool) (H : BI p0 p1 = some r)  :
    Calls Tryd.prog 128 #[.string (bs p0), .string (bs p1)] w0 fun e w' => e = .returned (.bool r) ∧ Below w0.heap.size w0 w' := by
 refine enter Tryd.func128 Aa Tryd.ntmps128 Aa fun a F => ?_
 have W := Stw.start Y w0
 unfold BI at H
 refine Ak (Ab ?_)
 refine ls F W Aa (Ag F Aa).q fun a w F W => ?_
 refine Ae (Ac ?_)
 obtain ⟨o1, G1, K1⟩ := Aq H
 refine A1 (fun a w => ∃ x1 : Bool, some (x1) = some o1 ∧ Fr 18 [] [(4, .bool x1)] a ∧ Stw ⟨Y, [], w0⟩ [] [] w) ?_ ?_
 ·
  have H := G1
  clear G1 K1
  refine Ab ?_
  refine ls F W Aa (Ah F Aa).q fun a w F W => ?_
  refine ls F W Aa (FA (l := p0) KB Aa F Aa).q fun a w F W => ?_
  refine ls F W Aa (Ah F Aa).q fun a w F W => ?_
  refine ls F W Aa (FA (l := p1) KB Aa F Aa).q fun a w F W => ?_
  refine ls F W Aa (Nv F Aa Aa).q fun a w F W => ?_
  refine ls F W Aa (Ah F Aa).q fun a w F W => ?_
  rcases Bool.eq_false_or_eq_true (decide ((p1.length : Int) ≤ (p0.length : Int))) with hb | hb
  ·
   have H := AW (Bw hb) H
   rw [hb] at F
   clear hb
   iterate 2 refine Au F W (Ad F Aa Aa Aa Aa) Aa (Al Aa) (Ah F Aa).q fun a w F W => ?_
   refine Au F W (Ad F Aa Aa Aa Aa) Aa (Al Aa) (FA (l := p1) KB Aa F Aa).q fun a w F W => ?_
   obtain ⟨x2, h1, H⟩ := Aq H
   refine Au F W (Ad F Aa Aa Aa Aa) Aa (Al Aa) (GN (l := p0) KB F Aa Aa Aa h1).q fun a w F W => ?_
   refine Au F W (Ad F Aa Aa Aa Aa) Aa (Al Aa) (Ah F Aa).q fun a w F W => ?_
   refine Au F W (Ad F Aa Aa Aa Aa) Aa (Al Aa) (Lb (l := x2) (m := p1) F Aa Aa).q fun a w F W => ?_
   refine ls F W Aa (As F Aa Aa Aa).q fun a w F W => ?_
   refine ls F W Aa (Ag F Aa).q fun a w F W => ?_
   refine Ae (Ac ?_)
   exact ⟨_, H, F.re ⟨rfl, trivial⟩, W⟩
  have H := AY (Bx hb) H
  rw [hb] at F
  clear hb
  iterate 6 refine Cd F Aa Aa Aa Aa Aa Aa Aa fun a F => ?_
  refine ls F W Aa (Ap F Aa Aa Aa).q fun a w F W => ?_
  refine ls F W Aa (Ag F Aa).q fun a w F W => ?_
  refine Ae (Ac ?_)
  exact ⟨_, H, F.re ⟨rfl, trivial⟩, W⟩
 rintro a w ⟨x1, hj, F, W⟩
 have hj := AK hj
 subst hj
 have H := K1
 clear G1 K1
 refine Ax ?_
 have H := AK H
 subst H
 refine AG (.inl Aa) F W Aa (AD F Aa) ?_
 exact ⟨rfl, W.done⟩
theorem Vm : Has Tryd.prog 128 := ⟨fun args w => An Tryd.func128 rfl (by decide) args w⟩
noncomputable def CP (p0 : List UInt8) (p1 : List UInt8) : Option Bool := (BI p0 p1).bind fun x1 => some x1
theorem Jp (Y : Nat → Prop) (w0 : World)  (p0 : List UInt8) (p1 : List UInt8) (r : Bool) (H : CP p0 p1 = some r)  :
    Calls Tryd.prog 118 #[.string (bs p0), .string (bs p1)] w0 fun e w' => e = .returned (.bool r) ∧ Below w0.heap.size w0 w' := by
 refine enter Tryd.func118 Aa Tryd.ntmps118 Aa fun a F => ?_
 have W := Stw.start Y w0
 unfold CP at H
 refine Ak (Ab ?_)
 refine ls F W Aa (Ag F Aa).q fun a w F W => ?_
 refine Ae (Ac (Ak (Ab ?_)))
 iterate 2 refine ls F W Aa (Ah F Aa).q fun a w F W => ?_
 obtain ⟨x1, h1, H⟩ := Aq H
 refine ls F W Aa (A0 (v := Value.bool x1) F Vm Aa (fun w W => FM any w p0 p1 _ h1)) fun a w F W => ?_
 refine ls F W Aa (Ag F Aa).q fun a w F W => ?_
 refine Ae (Ac (Ax ?_))
 have H := AK H
 subst H
 refine AG (.inl Aa) F W Aa (AD F Aa) ?_
 exact ⟨rfl, W.done⟩
theorem Vy : Has Tryd.prog 118 := ⟨fun args w => An Tryd.func118 rfl (by decide) args w⟩
noncomputable def EI (p0 : List UInt8) : Option Int := (ix p0 0).bind fun x1 => (if (x1.toNat : Int) = 40 then some true else (if (x1.toNat : Int) = 41 then some true else (if (x1.toNat : Int) = 59 then some true else (if (x1.toNat : Int) = 124 then some true else some (decide ((x1.toNat : Int) = 61)))))).bind fun x2 => (if x2 = true then some 1 else (CP p0 ([58, 61] : List UInt8)).bind fun x3 => (if x3 = true then some 2 else some 0))
theorem MN (Y : Nat → Prop) (w0 : World)  (p0 : List UInt8) (r : Int) (H : EI p0 = some r)  :
    Calls Tryd.prog 102 #[.string (bs p0)] w0 fun e w' => e = .returned (.int .i64 r) ∧ Below w0.heap.size w0 w' := by
 refine enter Tryd.func102 Aa Tryd.ntmps102 Aa fun a F => ?_
 have W := Stw.start Y w0
 unfold EI at H
 refine Ak (Ab ?_)
 refine ls F W Aa (Ag F Aa).q fun a w F W => ?_
 refine Ae (Ac (Ak (Ak (Ab ?_))))
 refine ls F W Aa (Ah F Aa).q fun a w F W => ?_
 obtain ⟨x1, h1, H⟩ := Aq H
 refine ls F W Aa (HY (l := p0) KB F Aa Aa h1).q fun a w F W => ?_
 refine Ae (Ac (AP ?_))
 obtain ⟨o1, G1, K1⟩ := Aq H
 refine A1 (fun a w => ∃ x2 : Bool, some (x2) = some o1 ∧ Fr 13 [] [(0, .string (bs p0)), (2, .int .i64 0), (5, .bool x2)] a ∧ Stw ⟨Y, [], w0⟩ [] [] w) ?_ ?_
 ·
  have H := G1
  clear G1 K1
  refine Ak (Ab ?_)
  refine ls F W Aa (Bd F Aa Aa).q fun a w F W => ?_
  refine ls F W Aa (Ag F Aa).q fun a w F W => ?_
  refine Ae (Ac ?_)
  refine Az F Aa (fun hb => ?_) fun hb => ?_
  ·
   have H := AW (Bw hb) H
   rw [hb] at F
   clear hb
   refine AA (Ac ?_)
   exact ⟨_, H, F.re ⟨rfl, Aa, Aa, trivial⟩, W⟩
  have H := AY (Bx hb) H
  rw [hb] at F
  clear hb
  refine Ak (Ab ?_)
  refine ls F W Aa (Bd F Aa Aa).q fun a w F W => ?_
  refine ls F W Aa (Ag F Aa).q fun a w F W => ?_
  refine Ae (Ac ?_)
  refine Az F Aa (fun hb => ?_) fun hb => ?_
  ·
   have H := AW (Bw hb) H
   rw [hb] at F
   clear hb
   refine AA (Ac ?_)
   exact ⟨_, H, F.re ⟨rfl, Aa, Aa, trivial⟩, W⟩
  have H := AY (Bx hb) H
  rw [hb] at F
  clear hb
  refine Ak (Ab ?_)
  refine ls F W Aa (Bd F Aa Aa).q fun a w F W => ?_
  refine ls F W Aa (Ag F Aa).q fun a w F W => ?_
  refine Ae (Ac ?_)
  refine Az F Aa (fun hb => ?_) fun hb => ?_
  ·
   have H := AW (Bw hb) H
   rw [hb] at F
   clear hb
   refine AA (Ac ?_)
   exact ⟨_, H, F.re ⟨rfl, Aa, Aa, trivial⟩, W⟩
  have H := AY (Bx hb) H
  rw [hb] at F
  clear hb
  refine Ak (Ab ?_)
  refine ls F W Aa (Bd F Aa Aa).q fun a w F W => ?_
  refine ls F W Aa (Ag F Aa).q fun a w F W => ?_
  refine Ae (Ac ?_)
  refine Az F Aa (fun hb => ?_) fun hb => ?_
  ·
   have H := AW (Bw hb) H
   rw [hb] at F
   clear hb
   refine AA (Ac ?_)
   exact ⟨_, H, F.re ⟨rfl, Aa, Aa, trivial⟩, W⟩
  have H := AY (Bx hb) H
  rw [hb] at F
  clear hb
  refine Ab ?_
  refine ls F W Aa (Bd F Aa Aa).q fun a w F W => ?_
  refine ls F W Aa (Ag F Aa).q fun a w F W => ?_
  refine Ae (Ac ?_)
  exact ⟨_, H, F.re ⟨rfl, Aa, Aa, trivial⟩, W⟩
 rintro a w ⟨x2, hj, F, W⟩
 have hj := AK hj
 subst hj
 have H := K1
 clear G1 K1
 refine Az F Aa (fun hb => ?_) fun hb => ?_
 ·
  have H := AW hb H
  rw [hb] at F
  clear hb
  refine Ak (Ab ?_)
  refine ls F W Aa (Ag F Aa).q fun a w F W => ?_
  refine Ae (Ac (Ax (Bc (AO ?_))))
  have H := AK H
  subst H
  refine AG (.inl Aa) F W Aa (AD F Aa) ?_
  exact ⟨rfl, W.done⟩
 have H := AY (by rw [hb]; decide) H
 rw [hb] at F
 clear hb
 refine AA (Bn (Ac (Ak (Ak (Ab ?_)))))
 refine ls F W Aa (Ah F Aa).q fun a w F W => ?_
 obtain ⟨x3, h2, H⟩ := Aq H
 refine ls F W Aa (A0 (v := Value.bool x3) F Vy Aa (fun w W => Jp any w p0 ([58, 61] : List UInt8) _ h2)) fun a w F W => ?_
 refine Ae (Ac ?_)
 refine Az F Aa (fun hb => ?_) fun hb => ?_
 ·
  have H := AW hb H
  rw [hb] at F
  clear hb
  refine Ak (Ab ?_)
  refine ls F W Aa (Ag F Aa).q fun a w F W => ?_
  refine Ae (Ac (Ax (AO ?_)))
  have H := AK H
  subst H
  refine AG (.inl Aa) F W Aa (AD F Aa) ?_
  exact ⟨rfl, W.done⟩
 have H := AY (by rw [hb]; decide) H
 rw [hb] at F
 clear hb
 refine AA (Ac (Ak (Ab ?_)))
 refine ls F W Aa (Ag F Aa).q fun a w F W => ?_
 refine Ae (Ac (Ax ?_))
 have H := AK H
 subst H
 refine AG (.inl Aa) F W Aa (AD F Aa) ?_
 exact ⟨rfl, W.done⟩
theorem Vu : Has Tryd.prog 102 := ⟨fun args w => An Tryd.func102 rfl (by decide) args w⟩
noncomputable def CC (p0 : List UInt8) : Option ((Int × Int × List UInt8 × Int) × Int) := (Ia p0).bind fun x1 => (if 0 < x1 then (GR p0 0 x1).bind fun x2 => some ((1, 0, x2, 0), x1) else (F7 p0).bind fun x3 => (if 0 < x3 then (GR p0 0 x3).bind fun x4 => (Cu x4).bind fun x5 => some (x5.1, x5.2) else (EI p0).bind fun x6 => (if x6 = 0 then some ((0, 0, ([] : List UInt8), 0), 0) else (GR p0 0 x6).bind fun x7 => some ((3, 0, x7, 0), x6))))
theorem PH (Y : Nat → Prop) (w0 : World)  (p0 : List UInt8) (r : (Int × Int × List UInt8 × Int) × Int) (H : CC p0 = some r)  :
    Calls Tryd.prog 82 #[.string (bs p0)] w0 fun e w' => e = .returned (.tuple #[.agg #[.int .i64 r.1.1, .int .i64 r.1.2.1, .string (bs r.1.2.2.1), .int .i64 r.1.2.2.2], .int .i64 r.2]) ∧ Below w0.heap.size w0 w' := by
 refine enter Tryd.func82 Aa Tryd.ntmps82 Aa fun a F => ?_
 have W := Stw.start Y w0
 unfold CC at H
 refine Ak (Ab ?_)
 refine Bi (cs := [.int .i64 0, .int .i64 0, .string (bs ([] : List UInt8)), .int .i64 0]) F W Aa TJ Aa fun b1 a w F W => ?_
 refine ls F W Aa (Ag F Aa).q fun a w F W => ?_
 refine Ae (Ac (Ak (Ak (Ab ?_))))
 refine ls F W Aa (Ah F Aa).q fun a w F W => ?_
 obtain ⟨x1, h1, H⟩ := Aq H
 refine ls F W Aa (A0 (v := Value.int .i64 x1) F VW Aa (fun w W => Rf any w p0 _ h1)) fun a w F W => ?_
 refine ls F W Aa (Ag F Aa).q fun a w F W => ?_
 refine Ae (Ac (Ak (Ab ?_)))
 refine ls F W Aa (Ah F Aa).q fun a w F W => ?_
 refine ls F W Aa (C2 F Aa Aa).q fun a w F W => ?_
 refine Ae (Ac ?_)
 refine Az F Aa (fun hb => ?_) fun hb => ?_
 ·
  have H := AW (Bw hb) H
  rw [hb] at F
  clear hb
  refine Ak (Ab ?_)
  iterate 2 refine ls F W Aa (Ah F Aa).q fun a w F W => ?_
  obtain ⟨x2, h2, H⟩ := Aq H
  refine ls F W Aa (GN (l := p0) KB F Aa Aa Aa h2).q fun a w F W => ?_
  refine ls F W Aa (B7 (v := Value.agg #[.int .i64 1, .int .i64 0, .string (bs x2), .int .i64 0]) Uq F Aa Aa Aa).q fun a w F W => ?_
  refine ls F W Aa (Ah F Aa).q fun a w F W => ?_
  refine AL (vs := [.int .i64 1, .int .i64 0, .string (bs x2), .int .i64 0]) (M' := [(b1, [.int .i64 1, .int .i64 0, .string (bs x2), .int .i64 0])]) 0 F W Aa Aa Aa NT Aa Aa Aa Aa Aa fun w W => ?_
  refine ls F W Aa (Ag F Aa).q fun a w F W => ?_
  refine Ae (Ac (Ax (AO ?_)))
  have H := AK H
  subst H
  refine MF (.inl Aa) F W Aa (A3 0 F Aa Aa NT Aa) (AD F Aa) ?_
  exact ⟨rfl, W.done⟩
 have H := AY (Bx hb) H
 rw [hb] at F
 clear hb
 refine AA (Ac (Ak (Ak (Ab ?_))))
 refine ls F W Aa (Ah F Aa).q fun a w F W => ?_
 obtain ⟨x3, h3, H⟩ := Aq H
 refine ls F W Aa (A0 (v := Value.int .i64 x3) F VW Aa (fun w W => OQ any w p0 _ h3)) fun a w F W => ?_
 refine ls F W Aa (Ag F Aa).q fun a w F W => ?_
 refine Ae (Ac (Ak (Ab ?_)))
 refine ls F W Aa (Ah F Aa).q fun a w F W => ?_
 refine ls F W Aa (C2 F Aa Aa).q fun a w F W => ?_
 refine Ae (Ac ?_)
 refine Az F Aa (fun hb => ?_) fun hb => ?_
 ·
  have H := AW (Bw hb) H
  rw [hb] at F
  clear hb
  refine Ak (Ab ?_)
  iterate 2 refine ls F W Aa (Ah F Aa).q fun a w F W => ?_
  obtain ⟨x4, h4, H⟩ := Aq H
  refine ls F W Aa (GN (l := p0) KB F Aa Aa Aa h4).q fun a w F W => ?_
  obtain ⟨x5, h5, H⟩ := Aq H
  refine ls F W Aa (A0 (v := Value.tuple #[.agg #[.int .i64 x5.1.1, .int .i64 x5.1.2.1, .string (bs x5.1.2.2.1), .int .i64 x5.1.2.2.2], .int .i64 x5.2]) F Vc Aa (fun w W => OD any w x4 _ h5)) fun a w F W => ?_
  refine ls F W Aa (B3 (v := Value.agg #[.int .i64 x5.1.1, .int .i64 x5.1.2.1, .string (bs x5.1.2.2.1), .int .i64 x5.1.2.2.2]) F Aa Aa).q fun a w F W => ?_
  refine ls F W Aa (B3 (v := Value.int .i64 x5.2) F Aa Aa).q fun a w F W => ?_
  refine AL (vs := [.int .i64 x5.1.1, .int .i64 x5.1.2.1, .string (bs x5.1.2.2.1), .int .i64 x5.1.2.2.2]) (M' := [(b1, [.int .i64 x5.1.1, .int .i64 x5.1.2.1, .string (bs x5.1.2.2.1), .int .i64 x5.1.2.2.2])]) 0 F W Aa Aa Aa NT Aa Aa Aa Aa Aa fun w W => ?_
  refine ls F W Aa (Ag F Aa).q fun a w F W => ?_
  refine Ae (Ac (Ax (AO ?_)))
  have H := AK H
  subst H
  refine MF (.inl Aa) F W Aa (A3 0 F Aa Aa NT Aa) (AD F Aa) ?_
  exact ⟨rfl, W.done⟩
 have H := AY (Bx hb) H
 rw [hb] at F
 clear hb
 refine AA (Ac (Ak (Ab ?_)))
 refine ls F W Aa (Ah F Aa).q fun a w F W => ?_
 obtain ⟨x6, h6, H⟩ := Aq H
 refine ls F W Aa (A0 (v := Value.int .i64 x6) F Vu Aa (fun w W => MN any w p0 _ h6)) fun a w F W => ?_
 refine ls F W Aa (Ag F Aa).q fun a w F W => ?_
 refine Ae (Ac (Ak (Ak (Ab ?_))))
 refine ls F W Aa (Ah F Aa).q fun a w F W => ?_
 refine ls F W Aa (Bd F Aa Aa).q fun a w F W => ?_
 refine Ae (Ac ?_)
 refine Az F Aa (fun hb => ?_) fun hb => ?_
 ·
  have H := AW (Bw hb) H
  rw [hb] at F
  clear hb
  refine Ak (Ab ?_)
  refine ls F W Aa (B7 (v := Value.agg #[.int .i64 0, .int .i64 0, .string (bs ([] : List UInt8)), .int .i64 0]) Uq F Aa Aa Aa).q fun a w F W => ?_
  refine AL (vs := [.int .i64 0, .int .i64 0, .string (bs ([] : List UInt8)), .int .i64 0]) (M' := [(b1, [.int .i64 0, .int .i64 0, .string (bs ([] : List UInt8)), .int .i64 0])]) 0 F W Aa Aa Aa NT Aa Aa Aa Aa Aa fun w W => ?_
  refine ls F W Aa (Ag F Aa).q fun a w F W => ?_
  refine Ae (Ac (Ax (AO ?_)))
  have H := AK H
  subst H
  refine MF (.inl Aa) F W Aa (A3 0 F Aa Aa NT Aa) (AD F Aa) ?_
  exact ⟨rfl, W.done⟩
 have H := AY (Bx hb) H
 rw [hb] at F
 clear hb
 refine AA (Ac (Ak (Ab ?_)))
 iterate 2 refine ls F W Aa (Ah F Aa).q fun a w F W => ?_
 obtain ⟨x7, h7, H⟩ := Aq H
 refine ls F W Aa (GN (l := p0) KB F Aa Aa Aa h7).q fun a w F W => ?_
 refine ls F W Aa (B7 (v := Value.agg #[.int .i64 3, .int .i64 0, .string (bs x7), .int .i64 0]) Uq F Aa Aa Aa).q fun a w F W => ?_
 refine ls F W Aa (Ah F Aa).q fun a w F W => ?_
 refine AL (vs := [.int .i64 3, .int .i64 0, .string (bs x7), .int .i64 0]) (M' := [(b1, [.int .i64 3, .int .i64 0, .string (bs x7), .int .i64 0])]) 0 F W Aa Aa Aa NT Aa Aa Aa Aa Aa fun w W => ?_
 refine ls F W Aa (Ag F Aa).q fun a w F W => ?_
 refine Ae (Ac (Ax ?_))
 have H := AK H
 subst H
 refine MF (.inl Aa) F W Aa (A3 0 F Aa Aa NT Aa) (AD F Aa) ?_
 exact ⟨rfl, W.done⟩
theorem Uz : type_of% Tryd.underlying91 := Tryd.underlying91
theorem Wn : Has Tryd.prog 82 := ⟨fun args w => An Tryd.func82 rfl (by decide) args w⟩
abbrev AC : Rp (Int × Int × List UInt8 × Int) := (Rp.pair (Rp.int .i64) (Rp.pair (Rp.int .i64) (Rp.pair Rp.str (Rp.int .i64))))
theorem T3 : Ty Tryd.prog 3 false 1 := ⟨by kernel_rfl, by kernel_rfl⟩
def Wb (a : Int × Int × List UInt8 × Int) : List Value := [.int .i64 a.1, .int .i64 a.2.1, .string (bs a.2.2.1), .int .i64 a.2.2.2]
theorem Vi : Fl AC Wb := (Fl.pair Fl.int (Fl.pair Fl.int (Fl.pair Fl.str Fl.int)))
theorem UE : Et Tryd.prog 91 98 4 40 := Et.of Uz (by kernel_rfl) (by kernel_rfl) (by kernel_rfl) (by decide)
noncomputable def E6 (p0 : List UInt8) : ((List (Int × Int × List UInt8 × Int)) × Int) → Option (((List (Int × Int × List UInt8 × Int)) × Int) ⊕ ((List (Int × Int × List UInt8 × Int)) ⊕ ((List (Int × Int × List UInt8 × Int)) × Int × Int)))
  | (x3, x4) => (if x4 < (p0.length : Int) then (GR p0 x4 (p0.length : Int)).bind fun x5 => (CC x5).bind fun x6 => (if x6.2 = 0 then some (.inr (.inr (([] : List (Int × Int × List UInt8 × Int)), x4, 10))) else (if (x3.length : Int) = 500 then some (.inr (.inr (([] : List (Int × Int × List UInt8 × Int)), x4, 6))) else (DQ x3 ([(x6.1.1, x6.1.2.1, x6.1.2.2.1, x4)] : List (Int × Int × List UInt8 × Int))).bind fun x7 => (Fq p0 (DP (x4 + x6.2))).bind fun x8 => some (.inl (x7, x8)))) else some (.inr (.inl x3)))
noncomputable def Hu (p0 : List UInt8) : Option ((List (Int × Int × List UInt8 × Int)) × Int × Int) := (if 4000 < (p0.length : Int) then some (([] : List (Int × Int × List UInt8 × Int)), 0, 3) else (Fq p0 0).bind fun x1 => KC (Br (E6 p0) ([], x1)) fun x2 => (DQ x2 ([(4, 0, ([] : List UInt8), (p0.length : Int))] : List (Int × Int × List UInt8 × Int))).bind fun x9 => some (x9, 0, 0))
theorem Rh (Y : Nat → Prop) (w0 : World)  (p0 : List UInt8) (r : (List (Int × Int × List UInt8 × Int)) × Int × Int) (H : Hu p0 = some r)  :
    Calls Tryd.prog 55 #[.string (bs p0)] w0 fun e w' => ∃ x : Value, e = .returned (.tuple #[x, .int .i64 r.2.1, .int .i64 r.2.2]) ∧ Stw ⟨Y, [], w0⟩ [] [row (x) 98 AC r.1] w' := by
 refine enter Tryd.func55 Aa Tryd.ntmps55 Aa fun a F => ?_
 have W := Stw.start Y w0
 unfold Hu at H
 refine Ak (Ab ?_)
 iterate 3 refine ls F W Aa (Ag F Aa).q fun a w F W => ?_
 refine Ae (Ac (Ak (Ak (Ab ?_))))
 refine ls F W Aa (Ah F Aa).q fun a w F W => ?_
 refine ls F W Aa (FA (l := p0) KB Aa F Aa).q fun a w F W => ?_
 refine ls F W Aa (C2 F Aa Aa).q fun a w F W => ?_
 refine Ae (Ac ?_)
 refine Az F Aa (fun hb => ?_) fun hb => ?_
 ·
  have H := AW (Bw hb) H
  rw [hb] at F
  clear hb
  refine Ak (Ab ?_)
  iterate 3 refine ls F W Aa (Ag F Aa).q fun a w F W => ?_
  refine Ae (Ac (Ax (AO ?_)))
  have H := AK H
  subst H
  refine Ra (.inl Aa) F W Aa (AD F Aa) (AD F Aa) (AD F Aa) ?_
  have W := W.nilRow 98 AC
  exact ⟨(Value.slice none 0 0), Aa, W⟩
 have H := AY (Bx hb) H
 rw [hb] at F
 clear hb
 refine AA (Ac (Ak (Ab ?_)))
 refine ls F W Aa (Ag F Aa).q fun a w F W => ?_
 refine Ae (Ac (Ak (Ab ?_)))
 refine ls F W Aa (Ah F Aa).q fun a w F W => ?_
 obtain ⟨x1, h1, H⟩ := Aq H
 refine ls F W Aa (A0 (v := Value.int .i64 x1) F VF Aa (fun w W => Mr any w p0 0 _ h1)) fun a w F W => ?_
 refine ls F W Aa (Ag F Aa).q fun a w F W => ?_
 refine Ae (Ac ?_)
 obtain ⟨o1, G1, K1, L1⟩ := Rk H
 refine A1 (fun a w => ∃ x2 : List (Int × Int × List UInt8 × Int), ∃ v1 : Value, some (Sum.inl x2) = some o1 ∧ Fr 49 [] [(0, .string (bs p0)), (2, .slice none 0 0), (3, .int .i64 0), (4, .int .i64 0), (5, v1)] a ∧ Stw ⟨Y, [], w0⟩ [] [row v1 98 AC x2] w) ?_ ?_
 ·
  have H := G1
  clear G1 K1
  refine AP ?_
  have W := W.nilRow 98 AC
  refine Cx H (fun s a w => ∃ v2 : Value, Fr 49 [] [(0, .string (bs p0)), (2, .slice none 0 0), (3, .int .i64 0), (4, .int .i64 0), (5, v2), (6, .int .i64 s.2)] a ∧ Stw ⟨Y, [], w0⟩ [] [row v2 98 AC s.1] w) ⟨(Value.slice none 0 0), F.re ⟨rfl, Aa, Aa, Aa, Aa, Aa, trivial⟩, W⟩ fun s o a w H L2 hR => ?_
  obtain ⟨x3, x4⟩ := s
  obtain ⟨v2, F, W⟩ := hR
  have F : Fr 49 [] [(0, .string (bs p0)), (2, .slice none 0 0), (3, .int .i64 0), (4, .int .i64 0), (5, v2), (6, .int .i64 x4)] a := F
  have W : Stw ⟨Y, [], w0⟩ [] [row v2 98 AC x3] w := W
  rw [E6] at H
  refine Ak (Ak (Ab ?_))
  iterate 2 refine ls F W Aa (Ah F Aa).q fun a w F W => ?_
  refine ls F W Aa (FA (l := p0) KB Aa F Aa).q fun a w F W => ?_
  refine ls F W Aa (Co F Aa Aa).q fun a w F W => ?_
  refine Ae (Ac ?_)
  refine Az F Aa (fun hb => ?_) fun hb => ?_
  ·
   have H := AW (Bw hb) H
   rw [hb] at F
   clear hb
   refine AA (Ac (AP (Ak (Ab ?_))))
   iterate 2 refine ls F W Aa (Ah F Aa).q fun a w F W => ?_
   obtain ⟨x5, h2, H⟩ := Aq H
   refine ls F W Aa (GN (l := p0) KB F Aa Aa Aa h2).q fun a w F W => ?_
   obtain ⟨x6, h3, H⟩ := Aq H
   refine ls F W Aa (A0 (v := Value.tuple #[.agg #[.int .i64 x6.1.1, .int .i64 x6.1.2.1, .string (bs x6.1.2.2.1), .int .i64 x6.1.2.2.2], .int .i64 x6.2]) F Wn Aa (fun w W => PH any w x5 _ h3)) fun a w F W => ?_
   refine ls F W Aa (Ah F Aa).q fun a w F W => ?_
   refine ls F W Aa (B3 (v := Value.agg #[.int .i64 x6.1.1, .int .i64 x6.1.2.1, .string (bs x6.1.2.2.1), .int .i64 x6.1.2.2.2]) F Aa Aa).q fun a w F W => ?_
   refine ls F W Aa (B3 (v := Value.int .i64 x6.2) F Aa Aa).q fun a w F W => ?_
   refine Bi (cs := [.int .i64 0, .int .i64 0, .string (bs ([] : List UInt8)), .int .i64 0]) F W Aa TJ Aa fun b1 a w F W => ?_
   refine AL (vs := [.int .i64 x6.1.1, .int .i64 x6.1.2.1, .string (bs x6.1.2.2.1), .int .i64 x6.1.2.2.2]) (M' := [(b1, [.int .i64 x6.1.1, .int .i64 x6.1.2.1, .string (bs x6.1.2.2.1), .int .i64 x6.1.2.2.2])]) 0 F W Aa Aa Aa NT Aa Aa Aa Aa Aa fun w W => ?_
   refine ls F W Aa (Ag F Aa).q fun a w F W => ?_
   refine Ae (Ac (Ak (Ak (Ab ?_))))
   refine ls F W Aa (Ah F Aa).q fun a w F W => ?_
   refine ls F W Aa (Bd F Aa Aa).q fun a w F W => ?_
   refine Ae (Ac ?_)
   refine Az F Aa (fun hb => ?_) fun hb => ?_
   ·
    have H := AW (Bw hb) H
    rw [hb] at F
    clear hb
    refine Ak (Ab ?_)
    refine ls F W Aa (Ah F Aa).q fun a w F W => ?_
    iterate 3 refine ls F W Aa (Ag F Aa).q fun a w F W => ?_
    refine Ae (Ac (Ax (AO (Bc (AO (Bc (AO ?_)))))))
    have H := L2 _ H
    have H := L1 _ H
    have H := AK H
    subst H
    refine Ra (.inl Aa) F W Aa (AD F Aa) (AD F Aa) (AD F Aa) ?_
    have W := W.nilRow 98 AC
    have W := W.sub (M' := []) (Z' := [row (Value.slice none 0 0) 98 AC ([])]) (List.nil_sublist _) (List.Sublist.cons_cons _ (List.nil_sublist _))
    exact ⟨(Value.slice none 0 0), Aa, W⟩
   have H := AY (Bx hb) H
   rw [hb] at F
   clear hb
   refine AA (Ac (Ak (Ak (Ab ?_))))
   refine ls F W Aa (Ah F Aa).q fun a w F W => ?_
   refine ls F W Aa (D7 (r := AC) (l := x3) Uz Aa F Aa (BP 0 Aa)).q fun a w F W => ?_
   refine ls F W Aa (Bd F Aa Aa).q fun a w F W => ?_
   refine Ae (Ac ?_)
   refine Az F Aa (fun hb => ?_) fun hb => ?_
   ·
    have H := AW (Bw hb) H
    rw [hb] at F
    clear hb
    refine Ak (Ab ?_)
    refine ls F W Aa (Ah F Aa).q fun a w F W => ?_
    iterate 3 refine ls F W Aa (Ag F Aa).q fun a w F W => ?_
    refine Ae (Ac (Ax (AO (Bc (AO (Bc (AO ?_)))))))
    have H := L2 _ H
    have H := L1 _ H
    have H := AK H
    subst H
    refine Ra (.inl Aa) F W Aa (AD F Aa) (AD F Aa) (AD F Aa) ?_
    have W := W.nilRow 98 AC
    have W := W.sub (M' := []) (Z' := [row (Value.slice none 0 0) 98 AC ([])]) (List.nil_sublist _) (List.Sublist.cons_cons _ (List.nil_sublist _))
    exact ⟨(Value.slice none 0 0), Aa, W⟩
   have H := AY (Bx hb) H
   rw [hb] at F
   clear hb
   refine AA (Ac (Ak (Ab ?_)))
   refine ls F W Aa (Ah F Aa).q fun a w F W => ?_
   refine ls F W Aa (Aj Li Aa Aa Aa T3 F Aa 3 Aa).q fun a w F W => ?_
   refine AL (vs := [.int .i64 x4]) (M' := [(b1, [.int .i64 x6.1.1, .int .i64 x6.1.2.1, .string (bs x6.1.2.2.1), .int .i64 x4])]) 0 F W Aa Aa Aa T3 Aa Aa Aa Aa Aa fun w W => ?_
   refine Ae (Ac (Ak (Ab ?_)))
   refine ls F W Aa (Ah F Aa).q fun a w F W => ?_
   refine ls F W Aa (Av (v := Value.agg #[.int .i64 x6.1.1, .int .i64 x6.1.2.1, .string (bs x6.1.2.2.1), .int .i64 x4]) 0 F Aa Aa NT Aa).q fun a w F W => ?_
   refine FN (z := Value.agg #[.int .i64 0, .int .i64 0, .string (bs ([] : List UInt8)), .int .i64 0]) (cs := [.int .i64 x6.1.1, .int .i64 x6.1.2.1, .string (bs x6.1.2.2.1), .int .i64 x4]) AC ([(x6.1.1, x6.1.2.1, x6.1.2.2.1, x4)] : List (Int × Int × List UInt8 × Int)) F W Aa UE TJ Aa Aa Aa Aa Aa Aa (Vi.repL _ _ ([(x6.1.1, x6.1.2.1, x6.1.2.2.1, x4)] : List (Int × Int × List UInt8 × Int))) fun v3 a w F W => ?_
   obtain ⟨x7, h4, H⟩ := Aq H
   refine EP (r := AC) (i := 1) F W Aa UE Aa Aa Aa Aa (Fv W 0 Aa) h4 Aa fun v4 a w F W => ?_
   have W : Stw ⟨Y, [], w0⟩ [(b1, [.int .i64 x6.1.1, .int .i64 x6.1.2.1, .string (bs x6.1.2.2.1), .int .i64 x4])] [row v4 98 AC x7, row v3 98 AC ([(x6.1.1, x6.1.2.1, x6.1.2.2.1, x4)] : List (Int × Int × List UInt8 × Int))] w := W
   refine ls F W Aa (Ag F Aa).q fun a w F W => ?_
   refine Ae (Ac (Ab ?_))
   iterate 3 refine ls F W Aa (Ah F Aa).q fun a w F W => ?_
   refine ls F W Aa (C5 F Aa Aa Aa).q fun a w F W => ?_
   obtain ⟨x8, h5, H⟩ := Aq H
   refine ls F W Aa (A0 (v := Value.int .i64 x8) F VF Aa (fun w W => Mr any w p0 (DP (x4 + x6.2)) _ h5)) fun a w F W => ?_
   refine ls F W Aa (Ag F Aa).q fun a w F W => ?_
   refine Ae (Bn (Ac ?_))
   have W := W.sub (M' := []) (Z' := [row v4 98 AC x7]) (List.nil_sublist _) (List.Sublist.cons_cons _ (List.nil_sublist _))
   exact ⟨_, H, (v4), F.re ⟨rfl, Aa, Aa, Aa, Aa, Aa, trivial⟩, W⟩
  have H := AY (Bx hb) H
  rw [hb] at F
  clear hb
  refine Cz ?_
  iterate 2 refine C8 ?_
  refine Cy (Ac ?_)
  have H := L2 _ H
  exact ⟨_, (v2), H, F.re ⟨rfl, Aa, Aa, Aa, Aa, trivial⟩, W⟩
 rintro a w ⟨x2, v1, hj, F, W⟩
 have H := K1 _ hj
 clear hj G1 K1 L1
 refine Ak (Ab ?_)
 iterate 2 refine ls F W Aa (Ah F Aa).q fun a w F W => ?_
 refine ls F W Aa (FA (l := p0) KB Aa F Aa).q fun a w F W => ?_
 refine ls F W Aa (B7 (v := Value.agg #[.int .i64 4, .int .i64 0, .string (bs ([] : List UInt8)), .int .i64 (p0.length : Int)]) Uq F Aa Aa Aa).q fun a w F W => ?_
 refine FN (z := Value.agg #[.int .i64 0, .int .i64 0, .string (bs ([] : List UInt8)), .int .i64 0]) (cs := [.int .i64 4, .int .i64 0, .string (bs ([] : List UInt8)), .int .i64 (p0.length : Int)]) AC ([(4, 0, ([] : List UInt8), (p0.length : Int))] : List (Int × Int × List UInt8 × Int)) F W Aa UE TJ Aa Aa Aa Aa Aa Aa (Vi.repL _ _ ([(4, 0, ([] : List UInt8), (p0.length : Int))] : List (Int × Int × List UInt8 × Int))) fun v5 a w F W => ?_
 obtain ⟨x9, h6, H⟩ := Aq H
 refine EP (r := AC) (i := 1) F W Aa UE Aa Aa Aa Aa (Fv W 0 Aa) h6 Aa fun v6 a w F W => ?_
 have W : Stw ⟨Y, [], w0⟩ [] [row v6 98 AC x9, row v5 98 AC ([(4, 0, ([] : List UInt8), (p0.length : Int))] : List (Int × Int × List UInt8 × Int))] w := W
 iterate 3 refine ls F W Aa (Ag F Aa).q fun a w F W => ?_
 refine Ae (Ac (Ax ?_))
 have H := AK H
 subst H
 refine Ra (.inl Aa) F W Aa (AD F Aa) (AD F Aa) (AD F Aa) ?_
 have W := W.sub (M' := []) (Z' := [row v6 98 AC x9]) (List.Sublist.refl _) (List.Sublist.cons_cons _ (List.nil_sublist _))
 exact ⟨(v6), Aa, W⟩
theorem T4 : type_of% Tryd.underlying89 := Tryd.underlying89
theorem On : type_of% Tryd.underlying95 := Tryd.underlying95
theorem V9 : Has Tryd.prog 55 := ⟨fun args w => An Tryd.func55 rfl (by decide) args w⟩
theorem VG : Bt Tryd.prog 89 [.int .i64 0, .int .i64 0] [(0, 1), (1, 1)] := ⟨⟨.agg #[.int .i64 0, .int .i64 0], by kernel_rfl, rfl⟩, ⟨_, T4, fun w => by kernel_rfl⟩⟩
theorem Vn : (Tryd.prog.underlying 89).map (fun d => match d with | .interface _ => true | _ => false) = some false := by kernel_rfl
theorem Wl : Bt Tryd.prog 95 [.slice none 0 0, .int .i64 0] [(0, 1), (1, 1)] := ⟨⟨.agg #[.slice none 0 0, .int .i64 0], by kernel_rfl, rfl⟩, ⟨_, On, fun w => by kernel_rfl⟩⟩
noncomputable def E3 (p0 : List UInt8) : Option (((List (Int × Int × List UInt8 × Int)) × Int) ⊕ (Int × Int)) := (Hu p0).bind fun x1 => (if x1.2.2 ≠ 0 then some (.inr x1.2) else some (.inl (x1.1, 0)))
theorem GG (Y : Nat → Prop) (w0 : World)  (p0 : List UInt8) (r : ((List (Int × Int × List UInt8 × Int)) × Int) ⊕ (Int × Int)) (H : E3 p0 = some r)  :
    Calls Tryd.prog 27 #[.string (bs p0)] w0 fun e w' => D9 r (fun r => ∃ x : Nat × Value, e = .returned (.pointer (some ⟨x.1, 0, none⟩)) ∧ Stw ⟨Y, [], w0⟩ [(x.1, [x.2, .int .i64 r.2])] [row (x.2) 98 AC r.1] w') (fun r => ∃ x : Unit, e = .panicked [{ v := .iface 89 (.agg #[.int .i64 r.1, .int .i64 r.2]), recovered := false }] ∧ Stw ⟨Y, [], w0⟩ [] [] w') := by
 refine enter Tryd.func27 Aa Tryd.ntmps27 Aa fun a F => ?_
 have W := Stw.start Y w0
 unfold E3 at H
 refine Ak (Ab ?_)
 refine ls F W Aa (Ag F Aa).q fun a w F W => ?_
 refine Ae (Ac (Ak (Ab ?_)))
 refine ls F W Aa (Ah F Aa).q fun a w F W => ?_
 obtain ⟨x1, h1, H⟩ := Aq H
 refine A2 (Ml := []) (Zl := []) (M := []) (Z := []) (β := Value) (rv := fun x => .tuple #[x, .int .i64 x1.2.1, .int .i64 x1.2.2]) (MM := fun x => []) (ZZ := fun x => [row x 98 AC x1.1]) F W V9 Aa Aa (fun hL => Rh _ w p0 _ h1) fun x a w F W => ?_
 obtain ⟨v1, rfl⟩ : ∃ y, y = x := ⟨x, rfl⟩
 have W : Stw ⟨Y, [], w0⟩ [] [row v1 98 AC x1.1] w := W
 refine ls F W Aa (Ah F Aa).q fun a w F W => ?_
 refine ls F W Aa (B3 (v := v1) F Aa Aa).q fun a w F W => ?_
 refine ls F W Aa (B3 (v := Value.int .i64 x1.2.1) F Aa Aa).q fun a w F W => ?_
 refine ls F W Aa (B3 (v := Value.int .i64 x1.2.2) F Aa Aa).q fun a w F W => ?_
 iterate 3 refine ls F W Aa (Ag F Aa).q fun a w F W => ?_
 refine Ae (Ac (Ak (Ak (Ab ?_))))
 refine ls F W Aa (Ah F Aa).q fun a w F W => ?_
 refine ls F W Aa (Dp F Aa Aa).q fun a w F W => ?_
 refine Ae (Ac ?_)
 refine Az F Aa (fun hb => ?_) fun hb => ?_
 ·
  have H := AW (Bw hb) H
  rw [hb] at F
  clear hb
  refine Ab ?_
  iterate 2 refine ls F W Aa (Ah F Aa).q fun a w F W => ?_
  refine ls F W Aa (B7 (v := Value.agg #[.int .i64 x1.2.1, .int .i64 x1.2.2]) VG F Aa Aa Aa).q fun a w F W => ?_
  refine ls F W Aa (La Vn F Aa).q fun a w F W => ?_
  refine QP F Aa ?_
  refine BF ?_
  have H := AK H
  subst H
  refine A7 F ?_
  have W := W.sub (M' := []) (Z' := []) (List.Sublist.refl _) (List.nil_sublist _)
  exact ⟨(), Aa, W⟩
 have H := AY (Bx hb) H
 rw [hb] at F
 clear hb
 refine AA (Ac (Ak (Ab ?_)))
 refine ls F W Aa (Ah F Aa).q fun a w F W => ?_
 refine ls F W Aa (B7 (v := Value.agg #[v1, .int .i64 0]) Wl F Aa (AX Aa (FH (W.one (k := 0) Aa)) Aa B2) Aa).q fun a w F W => ?_
 refine D6 (cs := [v1, .int .i64 0]) F W Aa Aa Aa fun b1 a w F W => ?_
 refine ls F W Aa (Ag F Aa).q fun a w F W => ?_
 refine Ae (Ac (Ax ?_))
 have H := AK H
 subst H
 refine AG (.inl Aa) F W Aa (AD F Aa) ?_
 exact ⟨(b1, (v1)), Aa, W⟩
theorem U4 : Has Tryd.prog 27 := ⟨fun args w => An Tryd.func27 rfl (by decide) args w⟩
inductive Tr25 : Type where
  | mk : Int → Int → Int → (List Tr25) → Tr25
def Tr25.un : Tr25 → Int × Int × Int × List Tr25
  | .mk a0 a1 a2 a3 => (a0, a1, a2, a3)
abbrev Tr25.of (p : Int × Int × Int × List Tr25) : Tr25 := .mk p.1 p.2.1 p.2.2.1 p.2.2.2
def Tr25.cnt : Tr25 → Nat
  | .mk _ _ _ a3 => 1 + ((a3.map Tr25.cnt).sum)
inductive Tr28 : Type where
  | mk : Int → Tr25 → Int → Int → (List Tr28) → Tr28
def Tr28.un : Tr28 → Int × Tr25 × Int × Int × List Tr28
  | .mk a0 a1 a2 a3 a4 => (a0, a1, a2, a3, a4)
abbrev Tr28.of (p : Int × Tr25 × Int × Int × List Tr28) : Tr28 := .mk p.1 p.2.1 p.2.2.1 p.2.2.2.1 p.2.2.2.2
def Tr28.cnt : Tr28 → Nat
  | .mk _ a1 _ _ a4 => 1 + (a1.cnt + (a4.map Tr28.cnt).sum)
theorem MO : Tryd.prog.follows .mixedOrders = true := by kernel_rfl
theorem VJ : Ty Tryd.prog 91 false 1 := ⟨by kernel_rfl, by kernel_rfl⟩
noncomputable def BL (p0 : (List (Int × Int × List UInt8 × Int)) × Int) : Option (Int × Int × List UInt8 × Int) := (ix p0.1 p0.2).bind fun x1 => some x1
theorem C7 (Y : Nat → Prop) (w0 : World) (q_p0 : Nat) (v1 : Value) (p0 : (List (Int × Int × List UInt8 × Int)) × Int) (r : (Int × Int × List UInt8 × Int)) (H : BL p0 = some r) (h_v1 : Sl w0 (NX []) AC v1 p0.1) (a_q_p0 : At ⟨Y, [], w0⟩ q_p0 0 [v1, .int .i64 p0.2]) :
    Calls Tryd.prog 59 #[.pointer (some ⟨q_p0, 0, none⟩)] w0 fun e w' => e = .returned (.agg #[.int .i64 r.1, .int .i64 r.2.1, .string (bs r.2.2.1), .int .i64 r.2.2.2]) ∧ Below w0.heap.size w0 w' := by
 refine enter Tryd.func59 Aa Tryd.ntmps59 Aa fun a F => ?_
 have W := Stw.start Y w0
 unfold BL at H
 refine Ak (Ab ?_)
 refine Bi (cs := [.int .i64 0, .int .i64 0, .string (bs ([] : List UInt8)), .int .i64 0]) F W Aa TJ Aa fun b1 a w F W => ?_
 refine Ae (Ac (Ak ?_))
 refine RK 10 W MO (by kernel_rfl) ?_
 refine qs F Aa (Ah F Aa).q fun a F => ?_
 refine qs F Aa (E4 F Aa).q fun a F => ?_
 refine qs F Aa (Aj On Aa Aa Aa VJ F Aa 0 Aa).q fun a F => ?_
 refine qs F Aa (NL (y := v1) (j := 0) F Aa (Nat.zero_add _).symm a_q_p0 VJ Aa).q fun a F => ?_
 refine qs F Aa (Ah F Aa).q fun a F => ?_
 refine qs F Aa (E4 F Aa).q fun a F => ?_
 refine qs F Aa (Aj On Aa Aa Aa T3 F Aa 1 Aa).q fun a F => ?_
 refine qs F Aa (NL (y := Value.int .i64 p0.2) (j := 1) F Aa (Nat.zero_add _).symm a_q_p0 T3 Aa).q fun a F => ?_
 obtain ⟨x1, h1, H⟩ := Aq H
 refine qs F Aa (Cg (r := AC) UE F Aa Aa (Ay h_v1) h1).q fun a F => ?_
 refine qs F Aa (BC (y := Value.agg #[.int .i64 x1.1, .int .i64 x1.2.1, .string (bs x1.2.2.1), .int .i64 x1.2.2.2]) (j := 0) (i := p0.2) F Aa Aa (Ay h_v1) h1 Vi.to NT Aa).q fun a F => ?_
 refine Cr fun w W => ?_
 refine AL (vs := [.int .i64 x1.1, .int .i64 x1.2.1, .string (bs x1.2.2.1), .int .i64 x1.2.2.2]) (M' := [(b1, [.int .i64 x1.1, .int .i64 x1.2.1, .string (bs x1.2.2.1), .int .i64 x1.2.2.2])]) 0 F W Aa Aa Aa NT Aa Aa Aa Aa Aa fun w W => ?_
 refine Ae (Ac (Ax ?_))
 have H := AK H
 subst H
 refine AG (.inl Aa) F W Aa (A3 0 F Aa Aa NT Aa) ?_
 exact ⟨rfl, W.done⟩
theorem Ut : Has Tryd.prog 59 := ⟨fun args w => An Tryd.func59 rfl (by decide) args w⟩
theorem T9 : Ty Tryd.prog 9 false 1 := ⟨by kernel_rfl, by kernel_rfl⟩
noncomputable def AF (p0 : (List (Int × Int × List UInt8 × Int)) × Int) (p1 : List UInt8) : Option (Bool × ((List (Int × Int × List UInt8 × Int)) × Int)) := (BL p0).bind fun x1 => (if (bif decide (x1.1 ≠ 1) then (decide (x1.1 ≠ 3) || decide (x1.2.2.1 ≠ p1)) else decide (x1.2.2.1 ≠ p1)) = true then some (false, p0) else some (true, (p0.1, DP (p0.2 + 1))))
theorem A9 (Y : Nat → Prop) (X : List Nat) (w0 : World) (q_p0 : Nat) (v1 : Value) (p0 : (List (Int × Int × List UInt8 × Int)) × Int) (p1 : List UInt8) (r : Bool × ((List (Int × Int × List UInt8 × Int)) × Int)) (H : AF p0 p1 = some r) (hL : Stw ⟨Y, X, w0⟩ [(q_p0, [v1, .int .i64 p0.2])] [row v1 98 AC p0.1] w0) :
    Calls Tryd.prog 83 #[.pointer (some ⟨q_p0, 0, none⟩), .string (bs p1)] w0 fun e w' => ∃ x : Value, e = .returned (.bool r.1) ∧ Stw ⟨Y, X, w0⟩ [(q_p0, [x, .int .i64 r.2.2])] [row (x) 98 AC r.2.1] w' := by
 refine enter Tryd.func83 Aa Tryd.ntmps83 Aa fun a F => ?_
 have W := hL
 unfold AF at H
 refine Ak (Ab ?_)
 refine ls F W Aa (Ag F Aa).q fun a w F W => ?_
 refine Ae (Ac (Ak (Ab ?_)))
 refine ls F W Aa (Ah F Aa).q fun a w F W => ?_
 obtain ⟨x1, h1, H⟩ := Aq H
 refine ls F W Aa (A0 (v := Value.agg #[.int .i64 x1.1, .int .i64 x1.2.1, .string (bs x1.2.2.1), .int .i64 x1.2.2.2]) F Ut Aa (fun w W => C7 any w q_p0 (v1) p0 _ h1 (((BP 0 Aa) : DZ _ _ _ _ _ _) w W).nx (M7 W 0 Aa))) fun a w F W => ?_
 refine Bi (cs := [.int .i64 0, .int .i64 0, .string (bs ([] : List UInt8)), .int .i64 0]) F W Aa TJ Aa fun b1 a w F W => ?_
 refine AL (vs := [.int .i64 x1.1, .int .i64 x1.2.1, .string (bs x1.2.2.1), .int .i64 x1.2.2.2]) (M' := [(b1, [.int .i64 x1.1, .int .i64 x1.2.1, .string (bs x1.2.2.1), .int .i64 x1.2.2.2]), (q_p0, [v1, .int .i64 p0.2])]) 0 F W Aa Aa Aa NT Aa Aa Aa Aa Aa fun w W => ?_
 refine Ae (Ac (Ak ?_))
 refine A1 (fun a w => Fr 29 [] [(0, .pointer (some ⟨q_p0, 0, none⟩)), (4, .bool false), (21, .bool (bif decide (x1.1 ≠ 1) then (decide (x1.1 ≠ 3) || decide (x1.2.2.1 ≠ p1)) else decide (x1.2.2.1 ≠ p1)))] a ∧ Stw ⟨Y, X, w0⟩ [(b1, [.int .i64 x1.1, .int .i64 x1.2.1, .string (bs x1.2.2.1), .int .i64 x1.2.2.2]), (q_p0, [v1, .int .i64 p0.2])] [row v1 98 AC p0.1] w) ?_ ?_
 ·
  refine Ab ?_
  refine ls F W Aa (Aj Li Aa Aa Aa T3 F Aa 0 Aa).q fun a w F W => ?_
  refine ls F W Aa (Av (v := Value.int .i64 x1.1) 0 F Aa Aa T3 Aa).q fun a w F W => ?_
  refine ls F W Aa (Dp F Aa Aa).q fun a w F W => ?_
  refine ls F W Aa (Ah F Aa).q fun a w F W => ?_
  rcases Bool.eq_false_or_eq_true (decide (x1.1 ≠ 1)) with hb0 | hb0
  ·
   rw [hb0] at F
   refine Au F W (Ad F Aa Aa Aa Aa) Aa (Al Aa) (Aj Li Aa Aa Aa T3 F Aa 0 Aa).q fun a w F W => ?_
   refine Au F W (Ad F Aa Aa Aa Aa) Aa (Al Aa) (Av (v := Value.int .i64 x1.1) 0 F Aa Aa T3 Aa).q fun a w F W => ?_
   refine Au F W (Ad F Aa Aa Aa Aa) Aa (Al Aa) (Dp F Aa Aa).q fun a w F W => ?_
   refine ls F W Aa (As F Aa Aa Aa).q fun a w F W => ?_
   refine ls F W Aa (Ah F Aa).q fun a w F W => ?_
   rcases Bool.eq_false_or_eq_true (decide (x1.1 ≠ 3)) with hb1 | hb1
   ·
    rw [hb1] at F
    iterate 4 refine Cd F Aa Aa Aa Aa Aa Aa Aa fun a F => ?_
    refine ls F W Aa (As F Aa Aa Aa).q fun a w F W => ?_
    refine Ae (Ac ?_)
    exact ⟨F.re ⟨rfl, Aa, (Dq (by try rw [hb0]; try rw [hb1]; all_goals simp only [Dr])), trivial⟩, W⟩
   rw [hb1] at F
   refine Au F W (Ad F Aa Aa Aa Aa) Aa (Al Aa) (Aj Li Aa Aa Aa T9 F Aa 2 Aa).q fun a w F W => ?_
   refine Au F W (Ad F Aa Aa Aa Aa) Aa (Al Aa) (Av (v := Value.string (bs x1.2.2.1)) 0 F Aa Aa T9 Aa).q fun a w F W => ?_
   refine Au F W (Ad F Aa Aa Aa Aa) Aa (Al Aa) (Ah F Aa).q fun a w F W => ?_
   refine Au F W (Ad F Aa Aa Aa Aa) Aa (Al Aa) (TS (l := x1.2.2.1) (m := p1) F Aa Aa).q fun a w F W => ?_
   refine ls F W Aa (Ap F Aa Aa Aa).q fun a w F W => ?_
   refine Ae (Ac ?_)
   exact ⟨F.re ⟨rfl, Aa, (Dq (by try rw [hb0]; try rw [hb1]; all_goals simp only [Dr])), trivial⟩, W⟩
  rw [hb0] at F
  iterate 3 refine Cd F Aa Aa Aa Aa Aa Aa Aa fun a F => ?_
  refine ls F W Aa (Ap F Aa Aa Aa).q fun a w F W => ?_
  refine ls F W Aa (Ah F Aa).q fun a w F W => ?_
  refine Au F W (Ad F Aa Aa Aa Aa) Aa (Al Aa) (Aj Li Aa Aa Aa T9 F Aa 2 Aa).q fun a w F W => ?_
  refine Au F W (Ad F Aa Aa Aa Aa) Aa (Al Aa) (Av (v := Value.string (bs x1.2.2.1)) 0 F Aa Aa T9 Aa).q fun a w F W => ?_
  refine Au F W (Ad F Aa Aa Aa Aa) Aa (Al Aa) (Ah F Aa).q fun a w F W => ?_
  refine Au F W (Ad F Aa Aa Aa Aa) Aa (Al Aa) (TS (l := x1.2.2.1) (m := p1) F Aa Aa).q fun a w F W => ?_
  refine ls F W Aa (Ap F Aa Aa Aa).q fun a w F W => ?_
  refine Ae (Ac ?_)
  exact ⟨F.re ⟨rfl, Aa, (Dq (by try rw [hb0]; all_goals simp only [Dr])), trivial⟩, W⟩
 rintro a w ⟨F, W⟩
 refine Az F Aa (fun hb => ?_) fun hb => ?_
 ·
  have H := AW hb H
  rw [hb] at F
  clear hb
  refine Ak (Ab ?_)
  refine ls F W Aa (Ag F Aa).q fun a w F W => ?_
  refine Ae (Ac (Ax (AO ?_)))
  have H := AK H
  subst H
  refine AG (.inl Aa) F W Aa (AD F Aa) ?_
  have W := W.frontM (i := 1) Aa Aa
  have W := W.sub (M' := [(q_p0, [v1, .int .i64 p0.2])]) (Z' := [row v1 98 AC p0.1]) (List.Sublist.cons_cons _ (List.nil_sublist _)) (List.Sublist.refl _)
  exact ⟨(v1), Aa, W⟩
 have H := AY (by rw [hb]; decide) H
 rw [hb] at F
 clear hb
 refine AA (Ac (Ak (Ab ?_)))
 refine ls F W Aa (Ah F Aa).q fun a w F W => ?_
 refine ls F W Aa (E4 F Aa).q fun a w F W => ?_
 refine ls F W Aa (Aj On Aa Aa Aa T3 F Aa 1 Aa).q fun a w F W => ?_
 refine ls F W Aa (Av (v := Value.int .i64 p0.2) 1 F Aa Aa T3 Aa).q fun a w F W => ?_
 refine ls F W Aa (C5 F Aa Aa Aa).q fun a w F W => ?_
 refine ls F W Aa (E4 F Aa).q fun a w F W => ?_
 refine ls F W Aa (Aj On Aa Aa Aa T3 F Aa 1 Aa).q fun a w F W => ?_
 refine AL (vs := [.int .i64 (DP (p0.2 + 1))]) (M' := [(b1, [.int .i64 x1.1, .int .i64 x1.2.1, .string (bs x1.2.2.1), .int .i64 x1.2.2.2]), (q_p0, [v1, .int .i64 (DP (p0.2 + 1))])]) 1 F W Aa Aa Aa T3 Aa Aa Aa Aa Aa fun w W => ?_
 refine Ae (Ac (Ak (Ab ?_)))
 refine ls F W Aa (Ag F Aa).q fun a w F W => ?_
 refine Ae (Ac (Ax ?_))
 have H := AK H
 subst H
 refine AG (.inl Aa) F W Aa (AD F Aa) ?_
 have W := W.frontM (i := 1) Aa Aa
 have W := W.sub (M' := [(q_p0, [v1, .int .i64 (DP (p0.2 + 1))])]) (Z' := [row v1 98 AC p0.1]) (List.Sublist.cons_cons _ (List.nil_sublist _)) (List.Sublist.refl _)
 exact ⟨(v1), Aa, W⟩
theorem Ja : type_of% Tryd.underlying25 := Tryd.underlying25
theorem Hl : type_of% Tryd.underlying28 := Tryd.underlying28
theorem QR : Has Tryd.prog 83 := ⟨fun args w => An Tryd.func83 rfl (by decide) args w⟩
theorem SM : Bt Tryd.prog 25 [.int .i64 0, .int .i64 0, .int .i64 0, .slice none 0 0] [(0, 1), (1, 1), (2, 1), (3, 1)] := ⟨⟨.agg #[.int .i64 0, .int .i64 0, .int .i64 0, .slice none 0 0], by kernel_rfl, rfl⟩, ⟨_, Ja, fun w => by kernel_rfl⟩⟩
abbrev TW (r : Rp Tr25) : Rp (Int × Int × Int × List Tr25) := (Rp.pair (Rp.int .i64) (Rp.pair (Rp.int .i64) (Rp.pair (Rp.int .i64) (Rp.slice r))))
theorem Tc : Kt TW := (Kt.pair (Kt.const _) (Kt.pair (Kt.const _) (Kt.pair (Kt.const _) Kt.hole)))
abbrev AR : Rp Tr25 := Rp.knot TW Tr25.un Tc
theorem KO {w : World} {A : Nat → Prop} {cs : List Value} {a : Tr25} : AR.rep w A cs a ↔ (TW AR).rep w A cs a.un := GO Tc
abbrev Ln : Rp (Int × Int × Int × (Value × List Tr25)) := (Rp.pair (Rp.int .i64) (Rp.pair (Rp.int .i64) (Rp.pair (Rp.int .i64) (Rp.vsl AR))))
abbrev Vs (p : Int × Int × Int × (Value × List Tr25)) : Tr25 := (Tr25.of (p.1, p.2.1, p.2.2.1, p.2.2.2.2))
theorem FZ : Ex AR Ln Vs := (Ex.knot Tc (of := Tr25.of) (fun _ => rfl) (fun x => by cases x; rfl) (Ex.pair Ex.rfl' (Ex.pair Ex.rfl' (Ex.pair Ex.rfl' Ex.sliceF))))
theorem FW : Ty Tryd.prog 25 true 4 := ⟨by kernel_rfl, by kernel_rfl⟩
theorem TR : Bt Tryd.prog 28 [.int .i64 0, .int .i64 0, .int .i64 0, .int .i64 0, .slice none 0 0, .int .i64 0, .int .i64 0, .slice none 0 0] [(0, 1), (1, 4), (5, 1), (6, 1), (7, 1)] := ⟨⟨.agg #[.int .i64 0, .int .i64 0, .int .i64 0, .int .i64 0, .slice none 0 0, .int .i64 0, .int .i64 0, .slice none 0 0], by kernel_rfl, rfl⟩, ⟨_, Hl, fun w => by kernel_rfl⟩⟩
theorem FJ : Ty Tryd.prog 28 true 8 := ⟨by kernel_rfl, by kernel_rfl⟩
abbrev T2 (r : Rp Tr28) : Rp (Int × Tr25 × Int × Int × List Tr28) := (Rp.pair (Rp.int .i64) (Rp.pair AR (Rp.pair (Rp.int .i64) (Rp.pair (Rp.int .i64) (Rp.slice r)))))
theorem T5 : Kt T2 := (Kt.pair (Kt.const _) (Kt.pair (Kt.const _) (Kt.pair (Kt.const _) (Kt.pair (Kt.const _) Kt.hole))))
abbrev BD : Rp Tr28 := Rp.knot T2 Tr28.un T5
theorem PQ {w : World} {A : Nat → Prop} {cs : List Value} {a : Tr28} : BD.rep w A cs a ↔ (T2 BD).rep w A cs a.un := GO T5
abbrev M4 (a0 : Tr25) (a1 : Value) : List Value := [.int .i64 a0.un.1, .int .i64 a0.un.2.1, .int .i64 a0.un.2.2.1, a1]
abbrev BM  : List Value := [.int .i64 0, .int .i64 0, .int .i64 0, .int .i64 0, .slice none 0 0, .int .i64 0, .int .i64 0, .slice none 0 0]
def Am (p0 : Tr25) : Tr28 := Tr28.of (1, p0, 0, 0, ([] : List Tr28))
theorem Hb (Y : Nat → Prop) (w0 : World) (v1 : Value) (p0 : Tr25) (r : Tr28) (H : Am p0 = r) (s_v1 : Sl w0 Y AR v1 p0.un.2.2.2) :
    Calls Tryd.prog 103 #[.agg #[.int .i64 p0.un.1, .int .i64 p0.un.2.1, .int .i64 p0.un.2.2.1, v1]] w0 fun e w' => ∃ x : Value × Value, e = .returned (.agg #[.int .i64 r.un.1, .int .i64 r.un.2.1.un.1, .int .i64 r.un.2.1.un.2.1, .int .i64 r.un.2.1.un.2.2.1, x.1, .int .i64 r.un.2.2.1, .int .i64 r.un.2.2.2.1, x.2]) ∧ Stw ⟨Y, [], w0⟩ [] [AU (x.1) AR r.un.2.1.un.2.2.2, row (x.2) 28 BD r.un.2.2.2.2] w' := by
 refine enter Tryd.func103 Aa Tryd.ntmps103 Aa fun a F => ?_
 have W := Stw.start Y w0
 obtain ⟨v2, h1, s_v1⟩ := s_v1.ex FZ
 have h_v1 := W.nx s_v1
 unfold Am at H
 refine Ak (Ab ?_)
 refine D6 (cs := (M4 p0 v1)) F W Aa Aa Aa fun b1 a w F W => ?_
 refine Bi (cs := (BM)) F W Aa Lh Aa fun b2 a w F W => ?_
 refine Ae (Ac (Ak (Ab ?_)))
 refine ls F W Aa (Av (v := Value.agg #[.int .i64 p0.un.1, .int .i64 p0.un.2.1, .int .i64 p0.un.2.2.1, v1]) 1 F Aa Aa FW Aa).q fun a w F W => ?_
 refine ls F W Aa (B7 (v := Value.agg #[.int .i64 1, .int .i64 p0.un.1, .int .i64 p0.un.2.1, .int .i64 p0.un.2.2.1, v1, .int .i64 0, .int .i64 0, .slice none 0 0]) TR F Aa (AX Aa Aa Aa (AX Aa Aa Aa B2)) Aa).q fun a w F W => ?_
 refine AL (vs := [.int .i64 1, .int .i64 p0.un.1, .int .i64 p0.un.2.1, .int .i64 p0.un.2.2.1, v1, .int .i64 0, .int .i64 0, .slice none 0 0]) (M' := [(b2, [.int .i64 1, .int .i64 p0.un.1, .int .i64 p0.un.2.1, .int .i64 p0.un.2.2.1, v1, .int .i64 0, .int .i64 0, .slice none 0 0]), (b1, [.int .i64 p0.un.1, .int .i64 p0.un.2.1, .int .i64 p0.un.2.2.1, v1])]) 0 F W Aa Aa Aa FJ Aa Aa Aa (Ai Aa (Ai Aa (Ai Aa (Ai Aa (Ai h_v1.one (Ai Aa (Ai Aa (Ai Aa Bp)))))))) Aa fun w W => ?_
 refine Ae (Ac (Ax ?_))
 subst H
 refine AG (.inl Aa) F W Aa (A3 0 F Aa Aa FJ Aa) ?_
 have W := W.note (Sl.hide FZ h1 (W.old s_v1))
 have W := W.nilRow 28 BD
 have W := W.frontZ (i := 1) Aa Aa
 have W := W.sub (M' := []) (Z' := [AU v1 AR p0.un.2.2.2, row (Value.slice none 0 0) 28 BD ([])]) (List.nil_sublist _) (List.Sublist.refl _)
 exact ⟨((v1), (Value.slice none 0 0)), Aa, W⟩
theorem SE : type_of% Tryd.underlying23 := Tryd.underlying23
theorem T1 : Has Tryd.prog 103 := ⟨fun args w => An Tryd.func103 rfl (by decide) args w⟩
theorem NI : (Tryd.prog.info? 25).bind (·.zero) = some (.agg #[.int .i64 0, .int .i64 0, .int .i64 0, .slice none 0 0]) := by kernel_rfl
theorem Un : Has Tryd.prog 88 := ⟨fun args w => An Tryd.func88 rfl (by decide) args w⟩
theorem Rl : Et Tryd.prog 23 25 4 48 := Et.of SE (by kernel_rfl) (by kernel_rfl) (by kernel_rfl) (by decide)
theorem TH : Has Tryd.prog 33 := ⟨fun args w => An Tryd.func33 rfl (by decide) args w⟩
noncomputable def CA (p0 : (List (Int × Int × List UInt8 × Int)) × Int) : Option (Int × Int) := (BL p0).bind fun x1 => some (x1.2.2.2, 10)
theorem D3 (Y : Nat → Prop) (w0 : World) (q_p0 : Nat) (v1 : Value) (p0 : (List (Int × Int × List UInt8 × Int)) × Int) (r : (Int × Int)) (H : CA p0 = some r) (h_v1 : Sl w0 (NX []) AC v1 p0.1) (a_q_p0 : At ⟨Y, [], w0⟩ q_p0 0 [v1, .int .i64 p0.2]) :
    Calls Tryd.prog 60 #[.pointer (some ⟨q_p0, 0, none⟩)] w0 fun e w' => ∃ x : Unit, e = .panicked [{ v := .iface 89 (.agg #[.int .i64 r.1, .int .i64 r.2]), recovered := false }] ∧ Stw ⟨Y, [], w0⟩ [] [] w' := by
 refine enter Tryd.func60 Aa Tryd.ntmps60 Aa fun a F => ?_
 have W := Stw.start Y w0
 unfold CA at H
 refine Ab ?_
 refine ls F W Aa (Ah F Aa).q fun a w F W => ?_
 obtain ⟨x1, h1, H⟩ := Aq H
 refine ls F W Aa (A0 (v := Value.agg #[.int .i64 x1.1, .int .i64 x1.2.1, .string (bs x1.2.2.1), .int .i64 x1.2.2.2]) F Ut Aa (fun w W => C7 any w q_p0 (v1) p0 _ h1 (((Ay h_v1) : DZ _ _ _ _ _ _) w W).nx (At.re a_q_p0 W))) fun a w F W => ?_
 refine ls F W Aa (QV (v := Value.int .i64 x1.2.2.2) Li Aa Aa Aa T3 F Aa Aa).q fun a w F W => ?_
 refine ls F W Aa (B7 (v := Value.agg #[.int .i64 x1.2.2.2, .int .i64 10]) VG F Aa Aa Aa).q fun a w F W => ?_
 refine ls F W Aa (La Vn F Aa).q fun a w F W => ?_
 refine QP F Aa ?_
 have H := AK H
 subst H
 refine A7 F ?_
 exact ⟨(), Aa, W⟩
theorem UT : Has Tryd.prog 60 := ⟨fun args w => An Tryd.func60 rfl (by decide) args w⟩
noncomputable def AV (p0 : (List (Int × Int × List UInt8 × Int)) × Int) (p1 : List UInt8) : Option (((List (Int × Int × List UInt8 × Int)) × Int) ⊕ ((Int × Int) × ((List (Int × Int × List UInt8 × Int)) × Int))) := (AF p0 p1).bind fun x1 => (if (!x1.1) = true then (CA x1.2).bind fun x2 => some (.inr (x2, x1.2)) else some (.inl x1.2))
theorem Bl (Y : Nat → Prop) (X : List Nat) (w0 : World) (q_p0 : Nat) (v1 : Value) (p0 : (List (Int × Int × List UInt8 × Int)) × Int) (p1 : List UInt8) (r : ((List (Int × Int × List UInt8 × Int)) × Int) ⊕ ((Int × Int) × ((List (Int × Int × List UInt8 × Int)) × Int))) (H : AV p0 p1 = some r) (hL : Stw ⟨Y, X, w0⟩ [(q_p0, [v1, .int .i64 p0.2])] [row v1 98 AC p0.1] w0) :
    Calls Tryd.prog 105 #[.pointer (some ⟨q_p0, 0, none⟩), .string (bs p1)] w0 fun e w' => D9 r (fun r => ∃ x : Value, e = .returned (.tuple #[]) ∧ Stw ⟨Y, X, w0⟩ [(q_p0, [x, .int .i64 r.2])] [row (x) 98 AC r.1] w') (fun r => ∃ x : Value, e = .panicked [{ v := .iface 89 (.agg #[.int .i64 r.1.1, .int .i64 r.1.2]), recovered := false }] ∧ Stw ⟨Y, X, w0⟩ [(q_p0, [x, .int .i64 r.2.2])] [row (x) 98 AC r.2.1] w') := by
 refine enter Tryd.func105 Aa Tryd.ntmps105 Aa fun a F => ?_
 have W := hL
 unfold AV at H
 refine Ak (Ab ?_)
 iterate 2 refine ls F W Aa (Ah F Aa).q fun a w F W => ?_
 obtain ⟨x1, h1, H⟩ := Aq H
 refine A2 (Ml := [(q_p0, [v1, .int .i64 p0.2])]) (Zl := [row v1 98 AC p0.1]) (M := []) (Z := []) (β := Value) (rv := fun x => .bool x1.1) (MM := fun x => [(q_p0, [x, .int .i64 x1.2.2])]) (ZZ := fun x => [row x 98 AC x1.2.1]) F W QR Aa Aa (fun hL => A9 _ _ w q_p0 (v1) p0 p1 _ h1 hL) fun x a w F W => ?_
 obtain ⟨v2, rfl⟩ : ∃ y, y = x := ⟨x, rfl⟩
 have W : Stw ⟨Y, X, w0⟩ [(q_p0, [v2, .int .i64 x1.2.2])] [row v2 98 AC x1.2.1] w := W
 refine ls F W Aa (Hs F Aa).q fun a w F W => ?_
 refine Ae (Ac ?_)
 refine Az F Aa (fun hb => ?_) fun hb => ?_
 ·
  have H := AW hb H
  rw [hb] at F
  clear hb
  refine Ab ?_
  refine ls F W Aa (Ah F Aa).q fun a w F W => ?_
  obtain ⟨x2, h2, H⟩ := Aq H
  refine B0 (Ml := []) (Zl := []) (M := [(q_p0, [v2, .int .i64 x1.2.2])]) (Z := [row v2 98 AC x1.2.1]) (β := Unit) (pv := fun x => .iface 89 (.agg #[.int .i64 x2.1, .int .i64 x2.2])) (MM := fun x => []) (ZZ := fun x => []) F W UT Aa (fun hL => D3 _ w q_p0 (v2) x1.2 _ h2 ((BP 0 Aa) w W).nx (M7 W 0 Aa)) fun x w W => ?_
  have W : Stw ⟨Y, X, w0⟩ [(q_p0, [v2, .int .i64 x1.2.2])] [row v2 98 AC x1.2.1] w := W
  have H := AK H
  subst H
  refine A7 F ?_
  exact ⟨(v2), Aa, W⟩
 have H := AY (by rw [hb]; decide) H
 rw [hb] at F
 clear hb
 refine AA ?_
 have H := AK H
 subst H
 refine NO (.inr Aa) F Aa ?_
 exact ⟨(v2), Aa, W⟩
theorem Lr : Has Tryd.prog 105 := ⟨fun args w => An Tryd.func105 rfl (by decide) args w⟩
def BQ (p0 : Int × Int × List UInt8 × Int) : Int := (if p0.1 ≠ 1 then (-1) else (if p0.2.2.1 = ([115, 114, 99] : List UInt8) then 0 else (if p0.2.2.1 = ([100, 115, 116] : List UInt8) then 1 else (if p0.2.2.1 = ([107, 105, 110, 100] : List UInt8) then 2 else (if p0.2.2.1 = ([116, 97, 103] : List UInt8) then 3 else (if p0.2.2.1 = ([112, 111, 114, 116] : List UInt8) then 4 else (if p0.2.2.1 = ([115, 119, 105, 116, 99, 104] : List UInt8) then 5 else (-1))))))))
theorem Ls (Y : Nat → Prop) (w0 : World)  (p0 : Int × Int × List UInt8 × Int) (r : Int) (H : BQ p0 = r)  :
    Calls Tryd.prog 119 #[.agg #[.int .i64 p0.1, .int .i64 p0.2.1, .string (bs p0.2.2.1), .int .i64 p0.2.2.2]] w0 fun e w' => e = .returned (.int .i64 r) ∧ Below w0.heap.size w0 w' := by
 refine enter Tryd.func119 Aa Tryd.ntmps119 Aa fun a F => ?_
 have W := Stw.start Y w0
 unfold BQ at H
 refine Ak (Ab ?_)
 refine D6 (cs := [.int .i64 p0.1, .int .i64 p0.2.1, .string (bs p0.2.2.1), .int .i64 p0.2.2.2]) F W Aa Aa Aa fun b1 a w F W => ?_
 refine ls F W Aa (Ag F Aa).q fun a w F W => ?_
 refine Ae (Ac (Ak (Ak (Ab ?_))))
 refine ls F W Aa (Aj Li Aa Aa Aa T3 F Aa 0 Aa).q fun a w F W => ?_
 refine ls F W Aa (Av (v := Value.int .i64 p0.1) 0 F Aa Aa T3 Aa).q fun a w F W => ?_
 refine ls F W Aa (Dp F Aa Aa).q fun a w F W => ?_
 refine Ae (Ac ?_)
 refine Az F Aa (fun hb => ?_) fun hb => ?_
 ·
  have H := AW (Bw hb) H
  rw [hb] at F
  clear hb
  refine Ak (Ab ?_)
  refine ls F W Aa (Ag F Aa).q fun a w F W => ?_
  refine Ae (Ac (Ax (AO ?_)))
  subst H
  refine AG (.inl Aa) F W Aa (AD F Aa) ?_
  exact ⟨rfl, W.done⟩
 have H := AY (Bx hb) H
 rw [hb] at F
 clear hb
 refine AA (Ac (Ak (Ak (Ab ?_))))
 refine ls F W Aa (Aj Li Aa Aa Aa T9 F Aa 2 Aa).q fun a w F W => ?_
 refine ls F W Aa (Av (v := Value.string (bs p0.2.2.1)) 0 F Aa Aa T9 Aa).q fun a w F W => ?_
 refine Ae (Ac (AP (Ak (Ab ?_))))
 refine ls F W Aa (Lb (l := p0.2.2.1) (m := ([115, 114, 99] : List UInt8)) F Aa Aa).q fun a w F W => ?_
 refine ls F W Aa (Ag F Aa).q fun a w F W => ?_
 refine Ae (Ac ?_)
 refine Az F Aa (fun hb => ?_) fun hb => ?_
 ·
  have H := AW (Bw hb) H
  rw [hb] at F
  clear hb
  refine Ak (Ab ?_)
  refine ls F W Aa (Ag F Aa).q fun a w F W => ?_
  refine Ae (Ac (Ax (Bc (AO ?_))))
  subst H
  refine AG (.inl Aa) F W Aa (AD F Aa) ?_
  exact ⟨rfl, W.done⟩
 have H := AY (Bx hb) H
 rw [hb] at F
 clear hb
 refine Ak (Ab ?_)
 refine ls F W Aa (Lb (l := p0.2.2.1) (m := ([100, 115, 116] : List UInt8)) F Aa Aa).q fun a w F W => ?_
 refine ls F W Aa (Ag F Aa).q fun a w F W => ?_
 refine Ae (Ac ?_)
 refine Az F Aa (fun hb => ?_) fun hb => ?_
 ·
  have H := AW (Bw hb) H
  rw [hb] at F
  clear hb
  refine Ak (Ab ?_)
  refine ls F W Aa (Ag F Aa).q fun a w F W => ?_
  refine Ae (Ac (Ax (Bc (AO ?_))))
  subst H
  refine AG (.inl Aa) F W Aa (AD F Aa) ?_
  exact ⟨rfl, W.done⟩
 have H := AY (Bx hb) H
 rw [hb] at F
 clear hb
 refine Ak (Ab ?_)
 refine ls F W Aa (Lb (l := p0.2.2.1) (m := ([107, 105, 110, 100] : List UInt8)) F Aa Aa).q fun a w F W => ?_
 refine ls F W Aa (Ag F Aa).q fun a w F W => ?_
 refine Ae (Ac ?_)
 refine Az F Aa (fun hb => ?_) fun hb => ?_
 ·
  have H := AW (Bw hb) H
  rw [hb] at F
  clear hb
  refine Ak (Ab ?_)
  refine ls F W Aa (Ag F Aa).q fun a w F W => ?_
  refine Ae (Ac (Ax (Bc (AO ?_))))
  subst H
  refine AG (.inl Aa) F W Aa (AD F Aa) ?_
  exact ⟨rfl, W.done⟩
 have H := AY (Bx hb) H
 rw [hb] at F
 clear hb
 refine Ak (Ab ?_)
 refine ls F W Aa (Lb (l := p0.2.2.1) (m := ([116, 97, 103] : List UInt8)) F Aa Aa).q fun a w F W => ?_
 refine ls F W Aa (Ag F Aa).q fun a w F W => ?_
 refine Ae (Ac ?_)
 refine Az F Aa (fun hb => ?_) fun hb => ?_
 ·
  have H := AW (Bw hb) H
  rw [hb] at F
  clear hb
  refine Ak (Ab ?_)
  refine ls F W Aa (Ag F Aa).q fun a w F W => ?_
  refine Ae (Ac (Ax (Bc (AO ?_))))
  subst H
  refine AG (.inl Aa) F W Aa (AD F Aa) ?_
  exact ⟨rfl, W.done⟩
 have H := AY (Bx hb) H
 rw [hb] at F
 clear hb
 refine Ak (Ab ?_)
 refine ls F W Aa (Lb (l := p0.2.2.1) (m := ([112, 111, 114, 116] : List UInt8)) F Aa Aa).q fun a w F W => ?_
 refine ls F W Aa (Ag F Aa).q fun a w F W => ?_
 refine Ae (Ac ?_)
 refine Az F Aa (fun hb => ?_) fun hb => ?_
 ·
  have H := AW (Bw hb) H
  rw [hb] at F
  clear hb
  refine Ak (Ab ?_)
  refine ls F W Aa (Ag F Aa).q fun a w F W => ?_
  refine Ae (Ac (Ax (Bc (AO ?_))))
  subst H
  refine AG (.inl Aa) F W Aa (AD F Aa) ?_
  exact ⟨rfl, W.done⟩
 have H := AY (Bx hb) H
 rw [hb] at F
 clear hb
 refine Ak (Ab ?_)
 refine ls F W Aa (Lb (l := p0.2.2.1) (m := ([115, 119, 105, 116, 99, 104] : List UInt8)) F Aa Aa).q fun a w F W => ?_
 refine ls F W Aa (Ag F Aa).q fun a w F W => ?_
 refine Ae (Ac ?_)
 refine Az F Aa (fun hb => ?_) fun hb => ?_
 ·
  have H := AW (Bw hb) H
  rw [hb] at F
  clear hb
  refine Ak (Ab ?_)
  refine ls F W Aa (Ag F Aa).q fun a w F W => ?_
  refine Ae (Ac (Ax (Bc (AO ?_))))
  subst H
  refine AG (.inl Aa) F W Aa (AD F Aa) ?_
  exact ⟨rfl, W.done⟩
 have H := AY (Bx hb) H
 rw [hb] at F
 clear hb
 refine AA (Bn (Ac (Ak (Ab ?_))))
 refine ls F W Aa (Ag F Aa).q fun a w F W => ?_
 refine Ae (Ac (Ax ?_))
 subst H
 refine AG (.inl Aa) F W Aa (AD F Aa) ?_
 exact ⟨rfl, W.done⟩
theorem Va : Has Tryd.prog 119 := ⟨fun args w => An Tryd.func119 rfl (by decide) args w⟩
noncomputable def Ck (p0 : (List (Int × Int × List UInt8 × Int)) × Int) (p1 : Int) : Option ((Int × ((List (Int × Int × List UInt8 × Int)) × Int)) ⊕ ((Int × Int) × ((List (Int × Int × List UInt8 × Int)) × Int))) := (BL p0).bind fun x1 => (if (decide ((BQ x1) < 0) || decide (p1 < (BQ x1))) = true then (CA p0).bind fun x2 => some (.inr (x2, p0)) else some (.inl ((BQ x1), (p0.1, DP (p0.2 + 1)))))
theorem DL (Y : Nat → Prop) (X : List Nat) (w0 : World) (q_p0 : Nat) (v1 : Value) (p0 : (List (Int × Int × List UInt8 × Int)) × Int) (p1 : Int) (r : (Int × ((List (Int × Int × List UInt8 × Int)) × Int)) ⊕ ((Int × Int) × ((List (Int × Int × List UInt8 × Int)) × Int))) (H : Ck p0 p1 = some r) (hL : Stw ⟨Y, X, w0⟩ [(q_p0, [v1, .int .i64 p0.2])] [row v1 98 AC p0.1] w0) :
    Calls Tryd.prog 106 #[.pointer (some ⟨q_p0, 0, none⟩), .int .i64 p1] w0 fun e w' => D9 r (fun r => ∃ x : Value, e = .returned (.int .i64 r.1) ∧ Stw ⟨Y, X, w0⟩ [(q_p0, [x, .int .i64 r.2.2])] [row (x) 98 AC r.2.1] w') (fun r => ∃ x : Value, e = .panicked [{ v := .iface 89 (.agg #[.int .i64 r.1.1, .int .i64 r.1.2]), recovered := false }] ∧ Stw ⟨Y, X, w0⟩ [(q_p0, [x, .int .i64 r.2.2])] [row (x) 98 AC r.2.1] w') := by
 refine enter Tryd.func106 Aa Tryd.ntmps106 Aa fun a F => ?_
 have W := hL
 unfold Ck at H
 refine Ak (Ab ?_)
 refine ls F W Aa (Ag F Aa).q fun a w F W => ?_
 refine Ae (Ac (Ak (Ab ?_)))
 refine ls F W Aa (Ah F Aa).q fun a w F W => ?_
 obtain ⟨x1, h1, H⟩ := Aq H
 refine ls F W Aa (A0 (v := Value.agg #[.int .i64 x1.1, .int .i64 x1.2.1, .string (bs x1.2.2.1), .int .i64 x1.2.2.2]) F Ut Aa (fun w W => C7 any w q_p0 (v1) p0 _ h1 (((BP 0 Aa) : DZ _ _ _ _ _ _) w W).nx (M7 W 0 Aa))) fun a w F W => ?_
 refine ls F W Aa (A0 (v := Value.int .i64 (BQ x1)) F Va Aa (fun w W => Ls any w x1 _ Aa)) fun a w F W => ?_
 refine ls F W Aa (Ag F Aa).q fun a w F W => ?_
 refine Ae (Ac (Ak ?_))
 refine A1 (fun a w => Fr 26 [] [(0, .pointer (some ⟨q_p0, 0, none⟩)), (4, .int .i64 0), (5, .int .i64 (BQ x1)), (15, .bool (decide ((BQ x1) < 0) || decide (p1 < (BQ x1))))] a ∧ Stw ⟨Y, X, w0⟩ [(q_p0, [v1, .int .i64 p0.2])] [row v1 98 AC p0.1] w) ?_ ?_
 ·
  refine Ab ?_
  refine ls F W Aa (Ah F Aa).q fun a w F W => ?_
  refine ls F W Aa (Co F Aa Aa).q fun a w F W => ?_
  refine ls F W Aa (Ah F Aa).q fun a w F W => ?_
  rcases Bool.eq_false_or_eq_true (decide ((BQ x1) < 0)) with hb0 | hb0
  ·
   rw [hb0] at F
   iterate 3 refine Cd F Aa Aa Aa Aa Aa Aa Aa fun a F => ?_
   refine ls F W Aa (As F Aa Aa Aa).q fun a w F W => ?_
   refine Ae (Ac ?_)
   exact ⟨F.re ⟨rfl, Aa, Aa, (Dq (by try rw [hb0]; all_goals simp only [Dr])), trivial⟩, W⟩
  rw [hb0] at F
  iterate 2 refine Au F W (Ad F Aa Aa Aa Aa) Aa (Al Aa) (Ah F Aa).q fun a w F W => ?_
  refine Au F W (Ad F Aa Aa Aa Aa) Aa (Al Aa) (C2 F Aa Aa).q fun a w F W => ?_
  refine ls F W Aa (Ap F Aa Aa Aa).q fun a w F W => ?_
  refine Ae (Ac ?_)
  exact ⟨F.re ⟨rfl, Aa, Aa, (Dq (by try rw [hb0]; all_goals simp only [Dr])), trivial⟩, W⟩
 rintro a w ⟨F, W⟩
 refine Az F Aa (fun hb => ?_) fun hb => ?_
 ·
  have H := AW hb H
  rw [hb] at F
  clear hb
  refine Ab ?_
  refine ls F W Aa (Ah F Aa).q fun a w F W => ?_
  obtain ⟨x2, h2, H⟩ := Aq H
  refine B0 (Ml := []) (Zl := []) (M := [(q_p0, [v1, .int .i64 p0.2])]) (Z := [row v1 98 AC p0.1]) (β := Unit) (pv := fun x => .iface 89 (.agg #[.int .i64 x2.1, .int .i64 x2.2])) (MM := fun x => []) (ZZ := fun x => []) F W UT Aa (fun hL => D3 _ w q_p0 (v1) p0 _ h2 ((BP 0 Aa) w W).nx (M7 W 0 Aa)) fun x w W => ?_
  have W : Stw ⟨Y, X, w0⟩ [(q_p0, [v1, .int .i64 p0.2])] [row v1 98 AC p0.1] w := W
  refine BF ?_
  have H := AK H
  subst H
  refine A7 F ?_
  exact ⟨(v1), Aa, W⟩
 have H := AY (by rw [hb]; decide) H
 rw [hb] at F
 clear hb
 refine AA (Ac (Ak (Ab ?_)))
 refine ls F W Aa (Ah F Aa).q fun a w F W => ?_
 refine ls F W Aa (E4 F Aa).q fun a w F W => ?_
 refine ls F W Aa (Aj On Aa Aa Aa T3 F Aa 1 Aa).q fun a w F W => ?_
 refine ls F W Aa (Av (v := Value.int .i64 p0.2) 0 F Aa Aa T3 Aa).q fun a w F W => ?_
 refine ls F W Aa (C5 F Aa Aa Aa).q fun a w F W => ?_
 refine ls F W Aa (E4 F Aa).q fun a w F W => ?_
 refine ls F W Aa (Aj On Aa Aa Aa T3 F Aa 1 Aa).q fun a w F W => ?_
 refine AL (vs := [.int .i64 (DP (p0.2 + 1))]) (M' := [(q_p0, [v1, .int .i64 (DP (p0.2 + 1))])]) 0 F W Aa Aa Aa T3 Aa Aa Aa Aa Aa fun w W => ?_
 refine Ae (Ac (Ak (Ab ?_)))
 refine ls F W Aa (Ah F Aa).q fun a w F W => ?_
 refine ls F W Aa (Ag F Aa).q fun a w F W => ?_
 refine Ae (Ac (Ax ?_))
 have H := AK H
 subst H
 refine AG (.inl Aa) F W Aa (AD F Aa) ?_
 exact ⟨(v1), Aa, W⟩
theorem SY : Has Tryd.prog 106 := ⟨fun args w => An Tryd.func106 rfl (by decide) args w⟩
noncomputable def BE (p0 : (List (Int × Int × List UInt8 × Int)) × Int) : Option ((Int × ((List (Int × Int × List UInt8 × Int)) × Int)) ⊕ ((Int × Int) × ((List (Int × Int × List UInt8 × Int)) × Int))) := (BL p0).bind fun x1 => (if x1.1 ≠ 2 then (CA p0).bind fun x2 => some (.inr (x2, p0)) else some (.inl (x1.2.1, (p0.1, DP (p0.2 + 1)))))
theorem DE (Y : Nat → Prop) (X : List Nat) (w0 : World) (q_p0 : Nat) (v1 : Value) (p0 : (List (Int × Int × List UInt8 × Int)) × Int) (r : (Int × ((List (Int × Int × List UInt8 × Int)) × Int)) ⊕ ((Int × Int) × ((List (Int × Int × List UInt8 × Int)) × Int))) (H : BE p0 = some r) (hL : Stw ⟨Y, X, w0⟩ [(q_p0, [v1, .int .i64 p0.2])] [row v1 98 AC p0.1] w0) :
    Calls Tryd.prog 107 #[.pointer (some ⟨q_p0, 0, none⟩)] w0 fun e w' => D9 r (fun r => ∃ x : Value, e = .returned (.int .i64 r.1) ∧ Stw ⟨Y, X, w0⟩ [(q_p0, [x, .int .i64 r.2.2])] [row (x) 98 AC r.2.1] w') (fun r => ∃ x : Value, e = .panicked [{ v := .iface 89 (.agg #[.int .i64 r.1.1, .int .i64 r.1.2]), recovered := false }] ∧ Stw ⟨Y, X, w0⟩ [(q_p0, [x, .int .i64 r.2.2])] [row (x) 98 AC r.2.1] w') := by
 refine enter Tryd.func107 Aa Tryd.ntmps107 Aa fun a F => ?_
 have W := hL
 unfold BE at H
 refine Ak (Ab ?_)
 refine ls F W Aa (Ag F Aa).q fun a w F W => ?_
 refine Ae (Ac (Ak (Ab ?_)))
 refine ls F W Aa (Ah F Aa).q fun a w F W => ?_
 obtain ⟨x1, h1, H⟩ := Aq H
 refine ls F W Aa (A0 (v := Value.agg #[.int .i64 x1.1, .int .i64 x1.2.1, .string (bs x1.2.2.1), .int .i64 x1.2.2.2]) F Ut Aa (fun w W => C7 any w q_p0 (v1) p0 _ h1 (((BP 0 Aa) : DZ _ _ _ _ _ _) w W).nx (M7 W 0 Aa))) fun a w F W => ?_
 refine Bi (cs := [.int .i64 0, .int .i64 0, .string (bs ([] : List UInt8)), .int .i64 0]) F W Aa TJ Aa fun b1 a w F W => ?_
 refine AL (vs := [.int .i64 x1.1, .int .i64 x1.2.1, .string (bs x1.2.2.1), .int .i64 x1.2.2.2]) (M' := [(b1, [.int .i64 x1.1, .int .i64 x1.2.1, .string (bs x1.2.2.1), .int .i64 x1.2.2.2]), (q_p0, [v1, .int .i64 p0.2])]) 0 F W Aa Aa Aa NT Aa Aa Aa Aa Aa fun w W => ?_
 refine Ae (Ac (Ak (Ak (Ab ?_))))
 refine ls F W Aa (Aj Li Aa Aa Aa T3 F Aa 0 Aa).q fun a w F W => ?_
 refine ls F W Aa (Av (v := Value.int .i64 x1.1) 0 F Aa Aa T3 Aa).q fun a w F W => ?_
 refine ls F W Aa (Dp F Aa Aa).q fun a w F W => ?_
 refine Ae (Ac ?_)
 refine Az F Aa (fun hb => ?_) fun hb => ?_
 ·
  have H := AW (Bw hb) H
  rw [hb] at F
  clear hb
  refine Ab ?_
  refine ls F W Aa (Ah F Aa).q fun a w F W => ?_
  obtain ⟨x2, h2, H⟩ := Aq H
  refine B0 (Ml := []) (Zl := []) (M := [(b1, [.int .i64 x1.1, .int .i64 x1.2.1, .string (bs x1.2.2.1), .int .i64 x1.2.2.2]), (q_p0, [v1, .int .i64 p0.2])]) (Z := [row v1 98 AC p0.1]) (β := Unit) (pv := fun x => .iface 89 (.agg #[.int .i64 x2.1, .int .i64 x2.2])) (MM := fun x => []) (ZZ := fun x => []) F W UT Aa (fun hL => D3 _ w q_p0 (v1) p0 _ h2 ((BP 0 Aa) w W).nx (M7 W 1 Aa)) fun x w W => ?_
  have W : Stw ⟨Y, X, w0⟩ [(b1, [.int .i64 x1.1, .int .i64 x1.2.1, .string (bs x1.2.2.1), .int .i64 x1.2.2.2]), (q_p0, [v1, .int .i64 p0.2])] [row v1 98 AC p0.1] w := W
  refine BF ?_
  have H := AK H
  subst H
  refine A7 F ?_
  have W := W.frontM (i := 1) Aa Aa
  have W := W.sub (M' := [(q_p0, [v1, .int .i64 p0.2])]) (Z' := [row v1 98 AC p0.1]) (List.Sublist.cons_cons _ (List.nil_sublist _)) (List.Sublist.refl _)
  exact ⟨(v1), Aa, W⟩
 have H := AY (Bx hb) H
 rw [hb] at F
 clear hb
 refine AA (Ac (Ak (Ab ?_)))
 refine ls F W Aa (Ah F Aa).q fun a w F W => ?_
 refine ls F W Aa (E4 F Aa).q fun a w F W => ?_
 refine ls F W Aa (Aj On Aa Aa Aa T3 F Aa 1 Aa).q fun a w F W => ?_
 refine ls F W Aa (Av (v := Value.int .i64 p0.2) 1 F Aa Aa T3 Aa).q fun a w F W => ?_
 refine ls F W Aa (C5 F Aa Aa Aa).q fun a w F W => ?_
 refine ls F W Aa (E4 F Aa).q fun a w F W => ?_
 refine ls F W Aa (Aj On Aa Aa Aa T3 F Aa 1 Aa).q fun a w F W => ?_
 refine AL (vs := [.int .i64 (DP (p0.2 + 1))]) (M' := [(b1, [.int .i64 x1.1, .int .i64 x1.2.1, .string (bs x1.2.2.1), .int .i64 x1.2.2.2]), (q_p0, [v1, .int .i64 (DP (p0.2 + 1))])]) 1 F W Aa Aa Aa T3 Aa Aa Aa Aa Aa fun w W => ?_
 refine Ae (Ac (Ak (Ab ?_)))
 refine ls F W Aa (Aj Li Aa Aa Aa T3 F Aa 1 Aa).q fun a w F W => ?_
 refine ls F W Aa (Av (v := Value.int .i64 x1.2.1) 0 F Aa Aa T3 Aa).q fun a w F W => ?_
 refine ls F W Aa (Ag F Aa).q fun a w F W => ?_
 refine Ae (Ac (Ax ?_))
 have H := AK H
 subst H
 refine AG (.inl Aa) F W Aa (AD F Aa) ?_
 have W := W.frontM (i := 1) Aa Aa
 have W := W.sub (M' := [(q_p0, [v1, .int .i64 (DP (p0.2 + 1))])]) (Z' := [row v1 98 AC p0.1]) (List.Sublist.cons_cons _ (List.nil_sublist _)) (List.Sublist.refl _)
 exact ⟨(v1), Aa, W⟩
end Go.Proofs.YtlgjpoapclifbaaDoor
