/- The functions of layer 29, EF. Conditions: none. -/
import Derived.Test.YtlgjpoapclifbaaDoorRows
import Derived.Test.YtlgjpoapclifbaaDoordQT
import Derived.Test.YtlgjpoapclifbaaDoordTR
import Derived.Test.YtlgjpoapclifbaaDoordOG
import Derived.Test.YtlgjpoapclifbaaDoordOT
import Derived.Test.YtlgjpoapclifbaaDoordOD
import Derived.Test.YtlgjpoapclifbaaDoordOC
import Derived.Test.YtlgjpoapclifbaaDoordOX
namespace Go.Proofs.YtlgjpoapclifbaaDoor
open Go Go.RowKit
set_option linter.unusedVariables false
set_option linter.unusedSimpArgs false
set_option maxRecDepth 20000
theorem KM : type_of% Tryd.underlying9 := Tryd.underlying9
theorem JT : (Tryd.prog.info? 28).bind (·.zero) = some (.agg #[.int .i64 0, .int .i64 0, .int .i64 0, .int .i64 0, .slice none 0 0, .int .i64 0, .int .i64 0, .slice none 0 0]) := by kernel_rfl
theorem Z3 : (Tryd.prog.info? 3).bind (·.zero) = some (.int .i64 0) := by kernel_rfl
theorem UK : (Tryd.prog.info? 29).bind (·.zero) = some (.int .i64 0) := by kernel_rfl
noncomputable def Eb (p0 : List UInt8) : (Int × Bool) → Option ((Int × Bool) ⊕ (Int ⊕ Int))
  | (x2, x3) => (if x2 < (p0.length : Int) then HX ((ix p0 x2).bind fun x5 => (if (x5.toNat : Int) = 10 then some (.inl false) else (if (x5.toNat : Int) = 35 then some (.inl true) else (if (!x3 && (decide ((x5.toNat : Int) ≠ 32) && decide ((x5.toNat : Int) ≠ 9))) = true then some (.inr (.inr (.inr x2))) else some (.inl x3))))) fun x4 => some (.inl (CI (x2 + 1), x4)) else some (.inr (.inl x2)))
noncomputable def Dh (p0 : List UInt8) (p1 : Int) : Option Int := HX (Bo (Eb p0) (p1, false)) fun x1 => some x1
theorem Md (Y : Nat → Prop) (w0 : World)  (p0 : List UInt8) (p1 : Int) (r : Int) (H : Dh p0 p1 = some r)  :
    Calls Tryd.prog 81 #[.string (bs p0), .int .i64 p1] w0 fun e w' => e = .returned (.int .i64 r) ∧ Below w0.heap.size w0 w' := by
 refine enter Tryd.func81 Aa Tryd.ntmps81 Aa fun a F => ?_
 have W := Stw.start Y w0
 unfold Dh at H
 refine Ah (Ab ?_)
 refine ls F W Aa (Ag F Aa).q fun a w F W => ?_
 refine Ae (Ac (Ah (Ab ?_)))
 refine ls F W Aa (Ag F Aa).q fun a w F W => ?_
 refine Ae (Ac ?_)
 obtain ⟨o1, G1, K1, L1⟩ := Qb H
 refine BK (fun a w => ∃ x1 : Int, some (Sum.inl x1) = some o1 ∧ Fr 35 [] [(1, .int .i64 x1), (4, .int .i64 0)] a ∧ Stw ⟨Y, [], w0⟩ [] [] w) ?_ ?_
 ·
  have H := G1
  clear G1 K1
  refine Bb ?_
  refine Dl H (fun s a w => Fr 35 [] [(0, .string (bs p0)), (1, .int .i64 s.1), (4, .int .i64 0), (5, .bool s.2)] a ∧ Stw ⟨Y, [], w0⟩ [] [] w) ⟨F.re ⟨rfl, Aa, Aa, Aa, trivial⟩, W⟩ fun s o a w H L2 hR => ?_
  obtain ⟨x2, x3⟩ := s
  obtain ⟨F, W⟩ := hR
  have F : Fr 35 [] [(0, .string (bs p0)), (1, .int .i64 x2), (4, .int .i64 0), (5, .bool x3)] a := F
  have W : Stw ⟨Y, [], w0⟩ [] [] w := W
  rw [Eb] at H
  refine Ah (Ah (Ab ?_))
  iterate 2 refine ls F W Aa (Ai F Aa).q fun a w F W => ?_
  refine ls F W Aa (Fo (l := p0) KM Aa F Aa).q fun a w F W => ?_
  refine ls F W Aa (Fx F Aa Aa).q fun a w F W => ?_
  refine Ae (Ac ?_)
  refine AC F Aa (fun hb => ?_) fun hb => ?_
  ·
   have H := Ba (BM hb) H
   rw [hb] at F
   clear hb
   refine AM (Ac ?_)
   obtain ⟨o3, G3, K3, L3⟩ := Qb H
   refine BK (fun a w => ∃ x4 : Bool, some (Sum.inl x4) = some o3 ∧ Fr 35 [] [(0, .string (bs p0)), (1, .int .i64 x2), (4, .int .i64 0), (5, .bool x4)] a ∧ Stw ⟨Y, [], w0⟩ [] [] w) ?_ ?_
   ·
    have H := G3
    clear G3 K3
    refine Bb (Ah (Ab ?_))
    iterate 2 refine ls F W Aa (Ai F Aa).q fun a w F W => ?_
    obtain ⟨x5, h1, H⟩ := Aq H
    refine ls F W Aa (HZ (l := p0) KM F Aa Aa h1).q fun a w F W => ?_
    refine ls F W Aa (Ag F Aa).q fun a w F W => ?_
    refine Ae (Ac (Bb (Ah (Ab ?_))))
    refine ls F W Aa (Ai F Aa).q fun a w F W => ?_
    refine ls F W Aa (Bw F Aa Aa).q fun a w F W => ?_
    refine ls F W Aa (Ag F Aa).q fun a w F W => ?_
    refine Ae (Ac ?_)
    refine AC F Aa (fun hb => ?_) fun hb => ?_
    ·
     have H := Ba (BM hb) H
     rw [hb] at F
     clear hb
     refine Ab ?_
     refine ls F W Aa (Ag F Aa).q fun a w F W => ?_
     refine Ae ?_
     iterate 2 refine BI ?_
     refine Ac ?_
     exact ⟨_, H, F.re ⟨rfl, Aa, Aa, Aa, trivial⟩, W⟩
    have H := Bc (BL hb) H
    rw [hb] at F
    clear hb
    refine Ah (Ab ?_)
    refine ls F W Aa (Ai F Aa).q fun a w F W => ?_
    refine ls F W Aa (Bw F Aa Aa).q fun a w F W => ?_
    refine ls F W Aa (Ag F Aa).q fun a w F W => ?_
    refine Ae (Ac ?_)
    refine AC F Aa (fun hb => ?_) fun hb => ?_
    ·
     have H := Ba (BM hb) H
     rw [hb] at F
     clear hb
     refine Ab ?_
     refine ls F W Aa (Ag F Aa).q fun a w F W => ?_
     refine Ae ?_
     iterate 2 refine BI ?_
     refine Ac ?_
     exact ⟨_, H, F.re ⟨rfl, Aa, Aa, Aa, trivial⟩, W⟩
    have H := Bc (BL hb) H
    rw [hb] at F
    clear hb
    refine BK (fun a w => Fr 35 [] [(0, .string (bs p0)), (1, .int .i64 x2), (4, .int .i64 0), (5, .bool x3), (22, .bool (!x3 && (decide ((x5.toNat : Int) ≠ 32) && decide ((x5.toNat : Int) ≠ 9))))] a ∧ Stw ⟨Y, [], w0⟩ [] [] w) ?_ ?_
    ·
     refine Ab ?_
     refine ls F W Aa (Ai F Aa).q fun a w F W => ?_
     refine ls F W Aa (Iu F Aa).q fun a w F W => ?_
     refine ls F W Aa (Ai F Aa).q fun a w F W => ?_
     rcases Bool.eq_false_or_eq_true (!x3) with hb0 | hb0
     ·
      rw [hb0] at F
      refine Bn F W (Ak F Aa Aa Aa Aa) Aa (Ay Aa) (Ai F Aa).q fun a w F W => ?_
      refine Bn F W (Ak F Aa Aa Aa Aa) Aa (Ay Aa) (Gn F Aa Aa).q fun a w F W => ?_
      refine ls F W Aa (A2 F Aa Aa Aa).q fun a w F W => ?_
      refine ls F W Aa (Ai F Aa).q fun a w F W => ?_
      rcases Bool.eq_false_or_eq_true (decide ((x5.toNat : Int) ≠ 32)) with hb1 | hb1
      ·
       rw [hb1] at F
       refine Bn F W (Ak F Aa Aa Aa Aa) Aa (Ay Aa) (Ai F Aa).q fun a w F W => ?_
       refine Bn F W (Ak F Aa Aa Aa Aa) Aa (Ay Aa) (Gn F Aa Aa).q fun a w F W => ?_
       refine ls F W Aa (A2 F Aa Aa Aa).q fun a w F W => ?_
       refine ls F W Aa (Ag F Aa).q fun a w F W => ?_
       refine Ae (Ac ?_)
       exact ⟨F.re ⟨rfl, Aa, Aa, Aa, (JQ (by try rw [hb1]; try rw [hb0]; all_goals simp only [JV])), trivial⟩, W⟩
      rw [hb1] at F
      iterate 2 refine EX F Aa Aa Aa Aa Aa Aa Aa fun a F => ?_
      refine ls F W Aa (Ax F Aa Aa Aa).q fun a w F W => ?_
      refine ls F W Aa (Ag F Aa).q fun a w F W => ?_
      refine Ae (Ac ?_)
      exact ⟨F.re ⟨rfl, Aa, Aa, Aa, (JQ (by try rw [hb1]; try rw [hb0]; all_goals simp only [JV])), trivial⟩, W⟩
     rw [hb0] at F
     iterate 2 refine EX F Aa Aa Aa Aa Aa Aa Aa fun a F => ?_
     refine ls F W Aa (Ax F Aa Aa Aa).q fun a w F W => ?_
     refine ls F W Aa (Ai F Aa).q fun a w F W => ?_
     iterate 2 refine EX F Aa Aa Aa Aa Aa Aa Aa fun a F => ?_
     refine ls F W Aa (Ax F Aa Aa Aa).q fun a w F W => ?_
     refine ls F W Aa (Ag F Aa).q fun a w F W => ?_
     refine Ae (Ac ?_)
     exact ⟨F.re ⟨rfl, Aa, Aa, Aa, (JQ (by try rw [hb0]; all_goals simp only [JV])), trivial⟩, W⟩
    rintro a w ⟨F, W⟩
    refine AC F Aa (fun hb => ?_) fun hb => ?_
    ·
     have H := Ba hb H
     rw [hb] at F
     clear hb
     refine Ah (Ab ?_)
     refine ls F W Aa (Ai F Aa).q fun a w F W => ?_
     refine ls F W Aa (Ag F Aa).q fun a w F W => ?_
     refine Ae (Ac (Au ?_))
     iterate 2 refine Be ?_
     iterate 2 refine AV ?_
     refine Be (AV ?_)
     have H := L3 _ H
     have H := L2 _ H
     have H := L1 _ H
     have H := AR H
     subst H
     refine AO (.inl Aa) F W Aa (AD F Aa) ?_
     exact ⟨rfl, W.done⟩
    have H := Bc (by rw [hb]; decide) H
    rw [hb] at F
    clear hb
    refine AM ?_
    iterate 2 refine BI ?_
    refine Ac ?_
    exact ⟨_, H, F.re ⟨rfl, Aa, Aa, Aa, trivial⟩, W⟩
   rintro a w ⟨x4, hj, F, W⟩
   have H := K3 _ hj
   clear hj G3 K3 L3
   refine Ab ?_
   refine ls F W Aa (Ai F Aa).q fun a w F W => ?_
   refine ls F W Aa (Fe F Aa Aa Aa).q fun a w F W => ?_
   refine ls F W Aa (Ag F Aa).q fun a w F W => ?_
   refine Ae (Ac ?_)
   exact ⟨_, H, F.re ⟨rfl, Aa, Aa, Aa, trivial⟩, W⟩
  have H := Bc (BL hb) H
  rw [hb] at F
  clear hb
  refine Do ?_
  iterate 2 refine Er ?_
  refine Dk (Ac ?_)
  have H := L2 _ H
  exact ⟨_, H, F.re ⟨rfl, Aa, trivial⟩, W⟩
 rintro a w ⟨x1, hj, F, W⟩
 have H := K1 _ hj
 clear hj G1 K1 L1
 refine Ah (Ab ?_)
 refine ls F W Aa (Ai F Aa).q fun a w F W => ?_
 refine ls F W Aa (Ag F Aa).q fun a w F W => ?_
 refine Ae (Ac (Au ?_))
 have H := AR H
 subst H
 refine AO (.inl Aa) F W Aa (AD F Aa) ?_
 exact ⟨rfl, W.done⟩
theorem UH : Has Tryd.prog 81 := ⟨fun args w => Am Tryd.func81 rfl (by decide) args w⟩
theorem R1 : (Tryd.prog.info? 98).bind (·.zero) = some (.agg #[.int .i64 0, .int .i64 0, .string (bs ([] : List UInt8)), .int .i64 0]) := by kernel_rfl
def Ek (p0 : Int) : Bool := (decide (97 ≤ p0) && decide (p0 ≤ 122))
theorem Mi (Y : Nat → Prop) (w0 : World)  (p0 : Int) (r : Bool) (H : Ek p0 = r)  :
    Calls Tryd.prog 99 #[.int .u8 p0] w0 fun e w' => e = .returned (.bool r) ∧ Below w0.heap.size w0 w' := by
 refine enter Tryd.func99 Aa Tryd.ntmps99 Aa fun a F => ?_
 have W := Stw.start Y w0
 unfold Ek at H
 refine Ah (Ab ?_)
 refine ls F W Aa (Ag F Aa).q fun a w F W => ?_
 refine Ae (Ac ?_)
 refine BK (fun a w => Fr 9 [] [(2, .bool (decide (97 ≤ p0) && decide (p0 ≤ 122)))] a ∧ Stw ⟨Y, [], w0⟩ [] [] w) ?_ ?_
 ·
  refine Ab ?_
  refine ls F W Aa (Ai F Aa).q fun a w F W => ?_
  refine ls F W Aa (I9 F Aa Aa).q fun a w F W => ?_
  refine ls F W Aa (Ai F Aa).q fun a w F W => ?_
  rcases Bool.eq_false_or_eq_true (decide (97 ≤ p0)) with hb0 | hb0
  ·
   rw [hb0] at F
   refine Bn F W (Ak F Aa Aa Aa Aa) Aa (Ay Aa) (Ai F Aa).q fun a w F W => ?_
   refine Bn F W (Ak F Aa Aa Aa Aa) Aa (Ay Aa) (I9 F Aa Aa).q fun a w F W => ?_
   refine ls F W Aa (A2 F Aa Aa Aa).q fun a w F W => ?_
   refine ls F W Aa (Ag F Aa).q fun a w F W => ?_
   refine Ae (Ac ?_)
   exact ⟨F.re ⟨(JQ (by try rw [hb0]; all_goals simp only [JV])), trivial⟩, W⟩
  rw [hb0] at F
  iterate 2 refine EX F Aa Aa Aa Aa Aa Aa Aa fun a F => ?_
  refine ls F W Aa (Ax F Aa Aa Aa).q fun a w F W => ?_
  refine ls F W Aa (Ag F Aa).q fun a w F W => ?_
  refine Ae (Ac ?_)
  exact ⟨F.re ⟨(JQ (by try rw [hb0]; all_goals simp only [JV])), trivial⟩, W⟩
 rintro a w ⟨F, W⟩
 refine Au ?_
 subst H
 refine AO (.inl Aa) F W Aa (AD F Aa) ?_
 exact ⟨rfl, W.done⟩
theorem UQ : Has Tryd.prog 99 := ⟨fun args w => Am Tryd.func99 rfl (by decide) args w⟩
noncomputable def FT (p0 : List UInt8) : Int → Option (Int ⊕ Int)
  | x2 => (if x2 < (p0.length : Int) then (ix p0 x2).bind fun x4 => some (Ek (x4.toNat : Int)) else some false).bind fun x3 => (if x3 = true then some (.inl (CI (x2 + 1))) else some (.inr x2))
noncomputable def Io (p0 : List UInt8) : Option Int := (Bo (FT p0) 0).bind fun x1 => some x1
theorem P5 (Y : Nat → Prop) (w0 : World)  (p0 : List UInt8) (r : Int) (H : Io p0 = some r)  :
    Calls Tryd.prog 98 #[.string (bs p0), .func (.func 99) #[] #[]] w0 fun e w' => e = .returned (.int .i64 r) ∧ Below w0.heap.size w0 w' := by
 refine enter Tryd.func98 Aa Tryd.ntmps98 Aa fun a F => ?_
 have W := Stw.start Y w0
 unfold Io at H
 refine Ah (Ab ?_)
 refine ls F W Aa (Ag F Aa).q fun a w F W => ?_
 refine Ae (Ac (Ah (Ab ?_)))
 refine ls F W Aa (Ag F Aa).q fun a w F W => ?_
 refine Ae (Ac ?_)
 obtain ⟨o1, G1, K1⟩ := Aq H
 refine BK (fun a w => ∃ x1 : Int, some (x1) = some o1 ∧ Fr 20 [] [(4, .int .i64 0), (5, .int .i64 x1)] a ∧ Stw ⟨Y, [], w0⟩ [] [] w) ?_ ?_
 ·
  have H := G1
  clear G1 K1
  refine Bb ?_
  refine Dl H (fun s a w => Fr 20 [] [(0, .string (bs p0)), (1, .func (.func 99) #[] #[]), (4, .int .i64 0), (5, .int .i64 s)] a ∧ Stw ⟨Y, [], w0⟩ [] [] w) ⟨F.re ⟨rfl, Aa, Aa, Aa, trivial⟩, W⟩ fun s o a w H L2 hR => ?_
  obtain ⟨x2, rfl⟩ : ∃ x, x = s := ⟨s, rfl⟩
  obtain ⟨F, W⟩ := hR
  have F : Fr 20 [] [(0, .string (bs p0)), (1, .func (.func 99) #[] #[]), (4, .int .i64 0), (5, .int .i64 x2)] a := F
  have W : Stw ⟨Y, [], w0⟩ [] [] w := W
  rw [FT] at H
  refine Ah ?_
  obtain ⟨o3, G3, K3⟩ := Aq H
  refine BK (fun a w => ∃ x3 : Bool, some (x3) = some o3 ∧ Fr 20 [] [(0, .string (bs p0)), (1, .func (.func 99) #[] #[]), (4, .int .i64 0), (5, .int .i64 x2), (16, .bool x3)] a ∧ Stw ⟨Y, [], w0⟩ [] [] w) ?_ ?_
  ·
   have H := G3
   clear G3 K3
   refine Ab ?_
   iterate 2 refine ls F W Aa (Ai F Aa).q fun a w F W => ?_
   refine ls F W Aa (Fo (l := p0) KM Aa F Aa).q fun a w F W => ?_
   refine ls F W Aa (Fx F Aa Aa).q fun a w F W => ?_
   refine ls F W Aa (Ai F Aa).q fun a w F W => ?_
   rcases Bool.eq_false_or_eq_true (decide (x2 < (p0.length : Int))) with hb | hb
   ·
    have H := Ba (BM hb) H
    rw [hb] at F
    clear hb
    iterate 3 refine Bn F W (Ak F Aa Aa Aa Aa) Aa (Ay Aa) (Ai F Aa).q fun a w F W => ?_
    obtain ⟨x4, h1, H⟩ := Aq H
    refine Bn F W (Ak F Aa Aa Aa Aa) Aa (Ay Aa) (HZ (l := p0) KM F Aa Aa h1).q fun a w F W => ?_
    refine Kj (Ak F Aa Aa Aa Aa) ?_
    refine ls F W Aa (Ls (ws := [.int .u8 (x4.toNat : Int)]) (v := Value.bool (Ek (x4.toNat : Int))) F UQ Aa (fun w W => Mi any w (x4.toNat : Int) _ Aa)) fun a w F W => ?_
    refine ls F W Aa (A2 F Aa Aa Aa).q fun a w F W => ?_
    refine Ae (Ac ?_)
    exact ⟨_, H, F.re ⟨rfl, Aa, Aa, Aa, Aa, trivial⟩, W⟩
   have H := Bc (BL hb) H
   rw [hb] at F
   clear hb
   iterate 5 refine EX F Aa Aa Aa Aa Aa Aa Aa fun a F => ?_
   refine ls F W Aa (Ax F Aa Aa Aa).q fun a w F W => ?_
   refine Ae (Ac ?_)
   exact ⟨_, H, F.re ⟨rfl, Aa, Aa, Aa, Aa, trivial⟩, W⟩
  rintro a w ⟨x3, hj, F, W⟩
  have hj := AR hj
  subst hj
  have H := K3
  clear G3 K3
  refine AC F Aa (fun hb => ?_) fun hb => ?_
  ·
   have H := Ba hb H
   rw [hb] at F
   clear hb
   refine AM (Ac (Bb (Ab ?_)))
   refine ls F W Aa (Ai F Aa).q fun a w F W => ?_
   refine ls F W Aa (Fe F Aa Aa Aa).q fun a w F W => ?_
   refine ls F W Aa (Ag F Aa).q fun a w F W => ?_
   refine Ae (BI (Ac ?_))
   exact ⟨_, H, F.re ⟨rfl, Aa, Aa, Aa, trivial⟩, W⟩
  have H := Bc (by rw [hb]; decide) H
  rw [hb] at F
  clear hb
  refine Do ?_
  iterate 2 refine Er ?_
  refine Dk (Ac ?_)
  have H := L2 _ H
  exact ⟨_, H, F.re ⟨rfl, Aa, trivial⟩, W⟩
 rintro a w ⟨x1, hj, F, W⟩
 have hj := AR hj
 subst hj
 have H := K1
 clear G1 K1
 refine Ah (Ab ?_)
 refine ls F W Aa (Ai F Aa).q fun a w F W => ?_
 refine ls F W Aa (Ag F Aa).q fun a w F W => ?_
 refine Ae (Ac (Au ?_))
 have H := AR H
 subst H
 refine AO (.inl Aa) F W Aa (AD F Aa) ?_
 exact ⟨rfl, W.done⟩
theorem KW : type_of% Tryd.underlying98 := Tryd.underlying98
theorem Ux : Has Tryd.prog 98 := ⟨fun args w => Am Tryd.func98 rfl (by decide) args w⟩
theorem S7 : Bt Tryd.prog 98 [.int .i64 0, .int .i64 0, .string (bs ([] : List UInt8)), .int .i64 0] [(0, 1), (1, 1), (2, 1), (3, 1)] := ⟨⟨.agg #[.int .i64 0, .int .i64 0, .string (bs ([] : List UInt8)), .int .i64 0], by kernel_rfl, rfl⟩, ⟨_, KW, fun w => by kernel_rfl⟩⟩
theorem NA : Ty Tryd.prog 98 true 4 := ⟨by kernel_rfl, by kernel_rfl⟩
def EI (p0 : Int) : Bool := (decide (48 ≤ p0) && decide (p0 ≤ 57))
theorem MV (Y : Nat → Prop) (w0 : World)  (p0 : Int) (r : Bool) (H : EI p0 = r)  :
    Calls Tryd.prog 100 #[.int .u8 p0] w0 fun e w' => e = .returned (.bool r) ∧ Below w0.heap.size w0 w' := by
 refine enter Tryd.func100 Aa Tryd.ntmps100 Aa fun a F => ?_
 have W := Stw.start Y w0
 unfold EI at H
 refine Ah (Ab ?_)
 refine ls F W Aa (Ag F Aa).q fun a w F W => ?_
 refine Ae (Ac ?_)
 refine BK (fun a w => Fr 9 [] [(2, .bool (decide (48 ≤ p0) && decide (p0 ≤ 57)))] a ∧ Stw ⟨Y, [], w0⟩ [] [] w) ?_ ?_
 ·
  refine Ab ?_
  refine ls F W Aa (Ai F Aa).q fun a w F W => ?_
  refine ls F W Aa (I9 F Aa Aa).q fun a w F W => ?_
  refine ls F W Aa (Ai F Aa).q fun a w F W => ?_
  rcases Bool.eq_false_or_eq_true (decide (48 ≤ p0)) with hb0 | hb0
  ·
   rw [hb0] at F
   refine Bn F W (Ak F Aa Aa Aa Aa) Aa (Ay Aa) (Ai F Aa).q fun a w F W => ?_
   refine Bn F W (Ak F Aa Aa Aa Aa) Aa (Ay Aa) (I9 F Aa Aa).q fun a w F W => ?_
   refine ls F W Aa (A2 F Aa Aa Aa).q fun a w F W => ?_
   refine ls F W Aa (Ag F Aa).q fun a w F W => ?_
   refine Ae (Ac ?_)
   exact ⟨F.re ⟨(JQ (by try rw [hb0]; all_goals simp only [JV])), trivial⟩, W⟩
  rw [hb0] at F
  iterate 2 refine EX F Aa Aa Aa Aa Aa Aa Aa fun a F => ?_
  refine ls F W Aa (Ax F Aa Aa Aa).q fun a w F W => ?_
  refine ls F W Aa (Ag F Aa).q fun a w F W => ?_
  refine Ae (Ac ?_)
  exact ⟨F.re ⟨(JQ (by try rw [hb0]; all_goals simp only [JV])), trivial⟩, W⟩
 rintro a w ⟨F, W⟩
 refine Au ?_
 subst H
 refine AO (.inl Aa) F W Aa (AD F Aa) ?_
 exact ⟨rfl, W.done⟩
theorem T1 : Has Tryd.prog 100 := ⟨fun args w => Am Tryd.func100 rfl (by decide) args w⟩
noncomputable def EL (p0 : List UInt8) : Int → Option (Int ⊕ Int)
  | x2 => (if x2 < (p0.length : Int) then (ix p0 x2).bind fun x4 => some (EI (x4.toNat : Int)) else some false).bind fun x3 => (if x3 = true then some (.inl (CI (x2 + 1))) else some (.inr x2))
noncomputable def FV (p0 : List UInt8) : Option Int := (Bo (EL p0) 0).bind fun x1 => some x1
theorem NQ (Y : Nat → Prop) (w0 : World)  (p0 : List UInt8) (r : Int) (H : FV p0 = some r)  :
    Calls Tryd.prog 98 #[.string (bs p0), .func (.func 100) #[] #[]] w0 fun e w' => e = .returned (.int .i64 r) ∧ Below w0.heap.size w0 w' := by
 refine enter Tryd.func98 Aa Tryd.ntmps98 Aa fun a F => ?_
 have W := Stw.start Y w0
 unfold FV at H
 refine Ah (Ab ?_)
 refine ls F W Aa (Ag F Aa).q fun a w F W => ?_
 refine Ae (Ac (Ah (Ab ?_)))
 refine ls F W Aa (Ag F Aa).q fun a w F W => ?_
 refine Ae (Ac ?_)
 obtain ⟨o1, G1, K1⟩ := Aq H
 refine BK (fun a w => ∃ x1 : Int, some (x1) = some o1 ∧ Fr 20 [] [(4, .int .i64 0), (5, .int .i64 x1)] a ∧ Stw ⟨Y, [], w0⟩ [] [] w) ?_ ?_
 ·
  have H := G1
  clear G1 K1
  refine Bb ?_
  refine Dl H (fun s a w => Fr 20 [] [(0, .string (bs p0)), (1, .func (.func 100) #[] #[]), (4, .int .i64 0), (5, .int .i64 s)] a ∧ Stw ⟨Y, [], w0⟩ [] [] w) ⟨F.re ⟨rfl, Aa, Aa, Aa, trivial⟩, W⟩ fun s o a w H L2 hR => ?_
  obtain ⟨x2, rfl⟩ : ∃ x, x = s := ⟨s, rfl⟩
  obtain ⟨F, W⟩ := hR
  have F : Fr 20 [] [(0, .string (bs p0)), (1, .func (.func 100) #[] #[]), (4, .int .i64 0), (5, .int .i64 x2)] a := F
  have W : Stw ⟨Y, [], w0⟩ [] [] w := W
  rw [EL] at H
  refine Ah ?_
  obtain ⟨o3, G3, K3⟩ := Aq H
  refine BK (fun a w => ∃ x3 : Bool, some (x3) = some o3 ∧ Fr 20 [] [(0, .string (bs p0)), (1, .func (.func 100) #[] #[]), (4, .int .i64 0), (5, .int .i64 x2), (16, .bool x3)] a ∧ Stw ⟨Y, [], w0⟩ [] [] w) ?_ ?_
  ·
   have H := G3
   clear G3 K3
   refine Ab ?_
   iterate 2 refine ls F W Aa (Ai F Aa).q fun a w F W => ?_
   refine ls F W Aa (Fo (l := p0) KM Aa F Aa).q fun a w F W => ?_
   refine ls F W Aa (Fx F Aa Aa).q fun a w F W => ?_
   refine ls F W Aa (Ai F Aa).q fun a w F W => ?_
   rcases Bool.eq_false_or_eq_true (decide (x2 < (p0.length : Int))) with hb | hb
   ·
    have H := Ba (BM hb) H
    rw [hb] at F
    clear hb
    iterate 3 refine Bn F W (Ak F Aa Aa Aa Aa) Aa (Ay Aa) (Ai F Aa).q fun a w F W => ?_
    obtain ⟨x4, h1, H⟩ := Aq H
    refine Bn F W (Ak F Aa Aa Aa Aa) Aa (Ay Aa) (HZ (l := p0) KM F Aa Aa h1).q fun a w F W => ?_
    refine Kj (Ak F Aa Aa Aa Aa) ?_
    refine ls F W Aa (Ls (ws := [.int .u8 (x4.toNat : Int)]) (v := Value.bool (EI (x4.toNat : Int))) F T1 Aa (fun w W => MV any w (x4.toNat : Int) _ Aa)) fun a w F W => ?_
    refine ls F W Aa (A2 F Aa Aa Aa).q fun a w F W => ?_
    refine Ae (Ac ?_)
    exact ⟨_, H, F.re ⟨rfl, Aa, Aa, Aa, Aa, trivial⟩, W⟩
   have H := Bc (BL hb) H
   rw [hb] at F
   clear hb
   iterate 5 refine EX F Aa Aa Aa Aa Aa Aa Aa fun a F => ?_
   refine ls F W Aa (Ax F Aa Aa Aa).q fun a w F W => ?_
   refine Ae (Ac ?_)
   exact ⟨_, H, F.re ⟨rfl, Aa, Aa, Aa, Aa, trivial⟩, W⟩
  rintro a w ⟨x3, hj, F, W⟩
  have hj := AR hj
  subst hj
  have H := K3
  clear G3 K3
  refine AC F Aa (fun hb => ?_) fun hb => ?_
  ·
   have H := Ba hb H
   rw [hb] at F
   clear hb
   refine AM (Ac (Bb (Ab ?_)))
   refine ls F W Aa (Ai F Aa).q fun a w F W => ?_
   refine ls F W Aa (Fe F Aa Aa Aa).q fun a w F W => ?_
   refine ls F W Aa (Ag F Aa).q fun a w F W => ?_
   refine Ae (BI (Ac ?_))
   exact ⟨_, H, F.re ⟨rfl, Aa, Aa, Aa, trivial⟩, W⟩
  have H := Bc (by rw [hb]; decide) H
  rw [hb] at F
  clear hb
  refine Do ?_
  iterate 2 refine Er ?_
  refine Dk (Ac ?_)
  have H := L2 _ H
  exact ⟨_, H, F.re ⟨rfl, Aa, trivial⟩, W⟩
 rintro a w ⟨x1, hj, F, W⟩
 have hj := AR hj
 subst hj
 have H := K1
 clear G1 K1
 refine Ah (Ab ?_)
 refine ls F W Aa (Ai F Aa).q fun a w F W => ?_
 refine ls F W Aa (Ag F Aa).q fun a w F W => ?_
 refine Ae (Ac (Au ?_))
 have H := AR H
 subst H
 refine AO (.inl Aa) F W Aa (AD F Aa) ?_
 exact ⟨rfl, W.done⟩
theorem U9 : type_of% Tryd.underlying3 := Tryd.underlying3
theorem UN : type_of% Tryd.underlying5 := Tryd.underlying5
noncomputable def Ct (p0 : List UInt8) : (Int × Int) → Option ((Int × Int) ⊕ Int)
  | (x4, x5) => (if x5 < (p0.length : Int) then (ix p0 x5).bind fun x6 => some (.inl (CI ((CI (10 * x4)) + (CI (IntKind.u8.wrap ((x6.toNat : Int) - 48)))), CI (x5 + 1))) else some (.inr x4))
noncomputable def Cw (p0 : List UInt8) : Option ((Int × Int × List UInt8 × Int) × Int) := (if 3 < (p0.length : Int) then some true else (if 1 < (p0.length : Int) then (ix p0 0).bind fun x2 => some (decide ((x2.toNat : Int) = 48)) else some false)).bind fun x1 => (if x1 = true then some ((0, 0, ([] : List UInt8), 0), 0) else (Bo (Ct p0) (0, 0)).bind fun x3 => some ((2, x3, ([] : List UInt8), 0), (p0.length : Int)))
theorem NM (Y : Nat → Prop) (w0 : World)  (p0 : List UInt8) (r : (Int × Int × List UInt8 × Int) × Int) (H : Cw p0 = some r)  :
    Calls Tryd.prog 101 #[.string (bs p0)] w0 fun e w' => e = .returned (.tuple #[.agg #[.int .i64 r.1.1, .int .i64 r.1.2.1, .string (bs r.1.2.2.1), .int .i64 r.1.2.2.2], .int .i64 r.2]) ∧ Below w0.heap.size w0 w' := by
 refine enter Tryd.func101 Aa Tryd.ntmps101 Aa fun a F => ?_
 have W := Stw.start Y w0
 unfold Cw at H
 refine Ah (Ab ?_)
 refine BA (cs := [.int .i64 0, .int .i64 0, .string (bs ([] : List UInt8)), .int .i64 0]) F W Aa R1 Aa fun b1 a w F W => ?_
 refine ls F W Aa (Ag F Aa).q fun a w F W => ?_
 refine Ae (Ac (Ah ?_))
 obtain ⟨o1, G1, K1⟩ := Aq H
 refine BK (fun a w => ∃ x1 : Bool, some (x1) = some o1 ∧ Fr 38 [] [(0, .string (bs p0)), (2, .pointer (some ⟨b1, 0, none⟩)), (3, .int .i64 0), (18, .bool x1)] a ∧ Stw ⟨Y, [], w0⟩ [(b1, [.int .i64 0, .int .i64 0, .string (bs ([] : List UInt8)), .int .i64 0])] [] w) ?_ ?_
 ·
  have H := G1
  clear G1 K1
  refine Ab ?_
  refine ls F W Aa (Ai F Aa).q fun a w F W => ?_
  refine ls F W Aa (Fo (l := p0) KM Aa F Aa).q fun a w F W => ?_
  refine ls F W Aa (KQ F Aa Aa).q fun a w F W => ?_
  refine ls F W Aa (Ai F Aa).q fun a w F W => ?_
  rcases Bool.eq_false_or_eq_true (decide (3 < (p0.length : Int))) with hb | hb
  ·
   have H := Ba (BM hb) H
   rw [hb] at F
   clear hb
   iterate 4 refine EX F Aa Aa Aa Aa Aa Aa Aa fun a F => ?_
   iterate 3 refine UC F Aa Aa Aa Aa Aa Aa fun a F => ?_
   refine EX F Aa Aa Aa Aa Aa Aa Aa fun a F => ?_
   refine ls F W Aa (A2 F Aa Aa Aa).q fun a w F W => ?_
   refine Ae (Ac ?_)
   exact ⟨_, H, F.re ⟨rfl, Aa, Aa, Aa, trivial⟩, W⟩
  have H := Bc (BL hb) H
  rw [hb] at F
  clear hb
  refine Bn F W (Ak F Aa Aa Aa Aa) Aa (Ay Aa) (Ai F Aa).q fun a w F W => ?_
  refine Bn F W (Ak F Aa Aa Aa Aa) Aa (Ay Aa) (Fo (l := p0) KM Aa F Aa).q fun a w F W => ?_
  refine Bn F W (Ak F Aa Aa Aa Aa) Aa (Ay Aa) (KQ F Aa Aa).q fun a w F W => ?_
  refine Bn F W (Ak F Aa Aa Aa Aa) Aa (Ay Aa) (Ai F Aa).q fun a w F W => ?_
  rcases Bool.eq_false_or_eq_true (decide (1 < (p0.length : Int))) with hb | hb
  ·
   have H := Ba (BM hb) H
   rw [hb] at F
   clear hb
   refine Bn F W (Ak F Aa Aa Aa Aa) Aa (Ay Aa) (Ai F Aa).q fun a w F W => ?_
   obtain ⟨x2, h1, H⟩ := Aq H
   refine Bn F W (Ak F Aa Aa Aa Aa) Aa (Ay Aa) (HZ (l := p0) KM F Aa Aa h1).q fun a w F W => ?_
   refine Bn F W (Ak F Aa Aa Aa Aa) Aa (Ay Aa) (Bw F Aa Aa).q fun a w F W => ?_
   refine Bn F W (Ak F Aa Aa Aa Aa) Aa (Ay Aa) (A2 F Aa Aa Aa).q fun a w F W => ?_
   refine ls F W Aa (Ax F Aa Aa Aa).q fun a w F W => ?_
   refine Ae (Ac ?_)
   exact ⟨_, H, F.re ⟨rfl, Aa, Aa, Aa, trivial⟩, W⟩
  have H := Bc (BL hb) H
  rw [hb] at F
  clear hb
  iterate 3 refine EX F Aa Aa Aa Aa Aa Aa Aa fun a F => ?_
  refine Bn F W (Ak F Aa Aa Aa Aa) Aa (Ay Aa) (Ax F Aa Aa Aa).q fun a w F W => ?_
  refine ls F W Aa (Ax F Aa Aa Aa).q fun a w F W => ?_
  refine Ae (Ac ?_)
  exact ⟨_, H, F.re ⟨rfl, Aa, Aa, Aa, trivial⟩, W⟩
 rintro a w ⟨x1, hj, F, W⟩
 have hj := AR hj
 subst hj
 have H := K1
 clear G1 K1
 refine AC F Aa (fun hb => ?_) fun hb => ?_
 ·
  have H := Ba hb H
  rw [hb] at F
  clear hb
  refine Ah (Ab ?_)
  refine ls F W Aa (Cx (v := Value.agg #[.int .i64 0, .int .i64 0, .string (bs ([] : List UInt8)), .int .i64 0]) S7 F Aa Aa Aa).q fun a w F W => ?_
  refine AP (vs := [.int .i64 0, .int .i64 0, .string (bs ([] : List UInt8)), .int .i64 0]) (M' := [(b1, [.int .i64 0, .int .i64 0, .string (bs ([] : List UInt8)), .int .i64 0])]) 0 F W Aa Aa Aa NA Aa Aa Aa Aa Aa fun w W => ?_
  refine ls F W Aa (Ag F Aa).q fun a w F W => ?_
  refine Ae (Ac (Au (AV ?_)))
  have H := AR H
  subst H
  refine Mb (.inl Aa) F W Aa (BD 0 F Aa Aa NA Aa) (AD F Aa) ?_
  exact ⟨rfl, W.done⟩
 have H := Bc (by rw [hb]; decide) H
 rw [hb] at F
 clear hb
 refine AM (Ac (Ah (Ab ?_)))
 refine ls F W Aa (Ag F Aa).q fun a w F W => ?_
 refine Ae (Ac ?_)
 obtain ⟨o2, G2, K2⟩ := Aq H
 refine BK (fun a w => ∃ x3 : Int, some (x3) = some o2 ∧ Fr 38 [] [(0, .string (bs p0)), (2, .pointer (some ⟨b1, 0, none⟩)), (3, .int .i64 0), (4, .int .i64 x3)] a ∧ Stw ⟨Y, [], w0⟩ [(b1, [.int .i64 0, .int .i64 0, .string (bs ([] : List UInt8)), .int .i64 0])] [] w) ?_ ?_
 ·
  have H := G2
  clear G2 K2
  refine Ah (Ab ?_)
  refine ls F W Aa (Ai F Aa).q fun a w F W => ?_
  refine ls F W Aa (Fo (l := p0) KM Aa F Aa).q fun a w F W => ?_
  refine ls F W Aa (Ai F Aa).q fun a w F W => ?_
  refine Ae (Ac (Bb ?_))
  refine Dl H (fun s a w => Fr 38 [] [(0, .string (bs p0)), (2, .pointer (some ⟨b1, 0, none⟩)), (3, .int .i64 0), (4, .int .i64 s.1), (21, .int .i64 (p0.length : Int)), (22, .int .i64 s.2)] a ∧ Stw ⟨Y, [], w0⟩ [(b1, [.int .i64 0, .int .i64 0, .string (bs ([] : List UInt8)), .int .i64 0])] [] w) ⟨F.re ⟨rfl, Aa, Aa, Aa, Aa, Aa, trivial⟩, W⟩ fun s o a w H L3 hR => ?_
  obtain ⟨x4, x5⟩ := s
  obtain ⟨F, W⟩ := hR
  have F : Fr 38 [] [(0, .string (bs p0)), (2, .pointer (some ⟨b1, 0, none⟩)), (3, .int .i64 0), (4, .int .i64 x4), (21, .int .i64 (p0.length : Int)), (22, .int .i64 x5)] a := F
  have W : Stw ⟨Y, [], w0⟩ [(b1, [.int .i64 0, .int .i64 0, .string (bs ([] : List UInt8)), .int .i64 0])] [] w := W
  rw [Ct] at H
  refine Ah (Ab ?_)
  refine ls F W Aa (Fx F Aa Aa).q fun a w F W => ?_
  refine Ae (Ac (Ah ?_))
  refine AC F Aa (fun hb => ?_) fun hb => ?_
  ·
   have H := Ba (BM hb) H
   rw [hb] at F
   clear hb
   refine AM (Ac (Ah (Bb (Ah (Ab ?_)))))
   refine ls F W Aa (Ai F Aa).q fun a w F W => ?_
   refine ls F W Aa (Ag F Aa).q fun a w F W => ?_
   refine Ae (Ac (Ab ?_))
   refine ls F W Aa (Ai F Aa).q fun a w F W => ?_
   refine ls F W Aa (Sa F Aa Aa Aa).q fun a w F W => ?_
   iterate 2 refine ls F W Aa (Ai F Aa).q fun a w F W => ?_
   obtain ⟨x6, h2, H⟩ := Aq H
   refine ls F W Aa (HZ (l := p0) KM F Aa Aa h2).q fun a w F W => ?_
   refine ls F W Aa (Ly F Aa Aa Aa).q fun a w F W => ?_
   refine ls F W Aa (RM UN U9 F Aa).q fun a w F W => ?_
   refine ls F W Aa (Fe F Aa Aa Aa).q fun a w F W => ?_
   refine ls F W Aa (Ag F Aa).q fun a w F W => ?_
   refine Ae (BI (Ac (Ab ?_)))
   refine ls F W Aa (Fe F Aa Aa Aa).q fun a w F W => ?_
   refine ls F W Aa (Ai F Aa).q fun a w F W => ?_
   refine Ae (Ac ?_)
   exact ⟨_, H, F.re ⟨rfl, Aa, Aa, Aa, Aa, Aa, trivial⟩, W⟩
  have H := Bc (BL hb) H
  rw [hb] at F
  clear hb
  refine Do ?_
  iterate 2 refine Er ?_
  refine Dk (Ac ?_)
  have H := L3 _ H
  exact ⟨_, H, F.re ⟨rfl, Aa, Aa, Aa, trivial⟩, W⟩
 rintro a w ⟨x3, hj, F, W⟩
 have hj := AR hj
 subst hj
 have H := K2
 clear G2 K2
 refine Ah (Ab ?_)
 refine ls F W Aa (Ai F Aa).q fun a w F W => ?_
 refine ls F W Aa (Cx (v := Value.agg #[.int .i64 2, .int .i64 x3, .string (bs ([] : List UInt8)), .int .i64 0]) S7 F Aa Aa Aa).q fun a w F W => ?_
 refine ls F W Aa (Ai F Aa).q fun a w F W => ?_
 refine ls F W Aa (Fo (l := p0) KM Aa F Aa).q fun a w F W => ?_
 refine AP (vs := [.int .i64 2, .int .i64 x3, .string (bs ([] : List UInt8)), .int .i64 0]) (M' := [(b1, [.int .i64 2, .int .i64 x3, .string (bs ([] : List UInt8)), .int .i64 0])]) 0 F W Aa Aa Aa NA Aa Aa Aa Aa Aa fun w W => ?_
 refine ls F W Aa (Ag F Aa).q fun a w F W => ?_
 refine Ae (Ac (Au ?_))
 have H := AR H
 subst H
 refine Mb (.inl Aa) F W Aa (BD 0 F Aa Aa NA Aa) (AD F Aa) ?_
 exact ⟨rfl, W.done⟩
theorem T8 : Has Tryd.prog 101 := ⟨fun args w => Am Tryd.func101 rfl (by decide) args w⟩
noncomputable def BR (p0 : List UInt8) (p1 : List UInt8) : Option Bool := (if (p1.length : Int) ≤ (p0.length : Int) then (GP p0 0 (p1.length : Int)).bind fun x2 => some (decide (x2 = p1)) else some false).bind fun x1 => some x1
theorem FF (Y : Nat → Prop) (w0 : World)  (p0 : List UInt8) (p1 : List UInt8) (r : Bool) (H : BR p0 p1 = some r)  :
    Calls Tryd.prog 128 #[.string (bs p0), .string (bs p1)] w0 fun e w' => e = .returned (.bool r) ∧ Below w0.heap.size w0 w' := by
 refine enter Tryd.func128 Aa Tryd.ntmps128 Aa fun a F => ?_
 have W := Stw.start Y w0
 unfold BR at H
 refine Ah (Ab ?_)
 refine ls F W Aa (Ag F Aa).q fun a w F W => ?_
 refine Ae (Ac ?_)
 obtain ⟨o1, G1, K1⟩ := Aq H
 refine BK (fun a w => ∃ x1 : Bool, some (x1) = some o1 ∧ Fr 18 [] [(4, .bool x1)] a ∧ Stw ⟨Y, [], w0⟩ [] [] w) ?_ ?_
 ·
  have H := G1
  clear G1 K1
  refine Ab ?_
  refine ls F W Aa (Ai F Aa).q fun a w F W => ?_
  refine ls F W Aa (Fo (l := p0) KM Aa F Aa).q fun a w F W => ?_
  refine ls F W Aa (Ai F Aa).q fun a w F W => ?_
  refine ls F W Aa (Fo (l := p1) KM Aa F Aa).q fun a w F W => ?_
  refine ls F W Aa (KS F Aa Aa).q fun a w F W => ?_
  refine ls F W Aa (Ai F Aa).q fun a w F W => ?_
  rcases Bool.eq_false_or_eq_true (decide ((p1.length : Int) ≤ (p0.length : Int))) with hb | hb
  ·
   have H := Ba (BM hb) H
   rw [hb] at F
   clear hb
   iterate 2 refine Bn F W (Ak F Aa Aa Aa Aa) Aa (Ay Aa) (Ai F Aa).q fun a w F W => ?_
   refine Bn F W (Ak F Aa Aa Aa Aa) Aa (Ay Aa) (Fo (l := p1) KM Aa F Aa).q fun a w F W => ?_
   obtain ⟨x2, h1, H⟩ := Aq H
   refine Bn F W (Ak F Aa Aa Aa Aa) Aa (Ay Aa) (IK (l := p0) KM F Aa Aa Aa h1).q fun a w F W => ?_
   refine Bn F W (Ak F Aa Aa Aa Aa) Aa (Ay Aa) (Ai F Aa).q fun a w F W => ?_
   refine Bn F W (Ak F Aa Aa Aa Aa) Aa (Ay Aa) (KT (l := x2) (m := p1) F Aa Aa).q fun a w F W => ?_
   refine ls F W Aa (A2 F Aa Aa Aa).q fun a w F W => ?_
   refine ls F W Aa (Ag F Aa).q fun a w F W => ?_
   refine Ae (Ac ?_)
   exact ⟨_, H, F.re ⟨rfl, trivial⟩, W⟩
  have H := Bc (BL hb) H
  rw [hb] at F
  clear hb
  iterate 6 refine EX F Aa Aa Aa Aa Aa Aa Aa fun a F => ?_
  refine ls F W Aa (Ax F Aa Aa Aa).q fun a w F W => ?_
  refine ls F W Aa (Ag F Aa).q fun a w F W => ?_
  refine Ae (Ac ?_)
  exact ⟨_, H, F.re ⟨rfl, trivial⟩, W⟩
 rintro a w ⟨x1, hj, F, W⟩
 have hj := AR hj
 subst hj
 have H := K1
 clear G1 K1
 refine Au ?_
 have H := AR H
 subst H
 refine AO (.inl Aa) F W Aa (AD F Aa) ?_
 exact ⟨rfl, W.done⟩
theorem Uo : Has Tryd.prog 128 := ⟨fun args w => Am Tryd.func128 rfl (by decide) args w⟩
noncomputable def CL (p0 : List UInt8) (p1 : List UInt8) : Option Bool := (BR p0 p1).bind fun x1 => some x1
theorem Jk (Y : Nat → Prop) (w0 : World)  (p0 : List UInt8) (p1 : List UInt8) (r : Bool) (H : CL p0 p1 = some r)  :
    Calls Tryd.prog 118 #[.string (bs p0), .string (bs p1)] w0 fun e w' => e = .returned (.bool r) ∧ Below w0.heap.size w0 w' := by
 refine enter Tryd.func118 Aa Tryd.ntmps118 Aa fun a F => ?_
 have W := Stw.start Y w0
 unfold CL at H
 refine Ah (Ab ?_)
 refine ls F W Aa (Ag F Aa).q fun a w F W => ?_
 refine Ae (Ac (Ah (Ab ?_)))
 iterate 2 refine ls F W Aa (Ai F Aa).q fun a w F W => ?_
 obtain ⟨x1, h1, H⟩ := Aq H
 refine ls F W Aa (Bx (v := Value.bool x1) F Uo Aa (fun w W => FF any w p0 p1 _ h1)) fun a w F W => ?_
 refine ls F W Aa (Ag F Aa).q fun a w F W => ?_
 refine Ae (Ac (Au ?_))
 have H := AR H
 subst H
 refine AO (.inl Aa) F W Aa (AD F Aa) ?_
 exact ⟨rfl, W.done⟩
theorem Ua : Has Tryd.prog 118 := ⟨fun args w => Am Tryd.func118 rfl (by decide) args w⟩
noncomputable def Eh (p0 : List UInt8) : Option Int := (ix p0 0).bind fun x1 => (if (x1.toNat : Int) = 40 then some true else (if (x1.toNat : Int) = 41 then some true else (if (x1.toNat : Int) = 59 then some true else (if (x1.toNat : Int) = 124 then some true else some (decide ((x1.toNat : Int) = 61)))))).bind fun x2 => (if x2 = true then some 1 else (CL p0 ([58, 61] : List UInt8)).bind fun x3 => (if x3 = true then some 2 else some 0))
theorem LQ (Y : Nat → Prop) (w0 : World)  (p0 : List UInt8) (r : Int) (H : Eh p0 = some r)  :
    Calls Tryd.prog 102 #[.string (bs p0)] w0 fun e w' => e = .returned (.int .i64 r) ∧ Below w0.heap.size w0 w' := by
 refine enter Tryd.func102 Aa Tryd.ntmps102 Aa fun a F => ?_
 have W := Stw.start Y w0
 unfold Eh at H
 refine Ah (Ab ?_)
 refine ls F W Aa (Ag F Aa).q fun a w F W => ?_
 refine Ae (Ac (Ah (Ah (Ab ?_))))
 refine ls F W Aa (Ai F Aa).q fun a w F W => ?_
 obtain ⟨x1, h1, H⟩ := Aq H
 refine ls F W Aa (HZ (l := p0) KM F Aa Aa h1).q fun a w F W => ?_
 refine Ae (Ac (Bb ?_))
 obtain ⟨o1, G1, K1⟩ := Aq H
 refine BK (fun a w => ∃ x2 : Bool, some (x2) = some o1 ∧ Fr 13 [] [(0, .string (bs p0)), (2, .int .i64 0), (5, .bool x2)] a ∧ Stw ⟨Y, [], w0⟩ [] [] w) ?_ ?_
 ·
  have H := G1
  clear G1 K1
  refine Ah (Ab ?_)
  refine ls F W Aa (Bw F Aa Aa).q fun a w F W => ?_
  refine ls F W Aa (Ag F Aa).q fun a w F W => ?_
  refine Ae (Ac ?_)
  refine AC F Aa (fun hb => ?_) fun hb => ?_
  ·
   have H := Ba (BM hb) H
   rw [hb] at F
   clear hb
   refine AM (Ac ?_)
   exact ⟨_, H, F.re ⟨rfl, Aa, Aa, trivial⟩, W⟩
  have H := Bc (BL hb) H
  rw [hb] at F
  clear hb
  refine Ah (Ab ?_)
  refine ls F W Aa (Bw F Aa Aa).q fun a w F W => ?_
  refine ls F W Aa (Ag F Aa).q fun a w F W => ?_
  refine Ae (Ac ?_)
  refine AC F Aa (fun hb => ?_) fun hb => ?_
  ·
   have H := Ba (BM hb) H
   rw [hb] at F
   clear hb
   refine AM (Ac ?_)
   exact ⟨_, H, F.re ⟨rfl, Aa, Aa, trivial⟩, W⟩
  have H := Bc (BL hb) H
  rw [hb] at F
  clear hb
  refine Ah (Ab ?_)
  refine ls F W Aa (Bw F Aa Aa).q fun a w F W => ?_
  refine ls F W Aa (Ag F Aa).q fun a w F W => ?_
  refine Ae (Ac ?_)
  refine AC F Aa (fun hb => ?_) fun hb => ?_
  ·
   have H := Ba (BM hb) H
   rw [hb] at F
   clear hb
   refine AM (Ac ?_)
   exact ⟨_, H, F.re ⟨rfl, Aa, Aa, trivial⟩, W⟩
  have H := Bc (BL hb) H
  rw [hb] at F
  clear hb
  refine Ah (Ab ?_)
  refine ls F W Aa (Bw F Aa Aa).q fun a w F W => ?_
  refine ls F W Aa (Ag F Aa).q fun a w F W => ?_
  refine Ae (Ac ?_)
  refine AC F Aa (fun hb => ?_) fun hb => ?_
  ·
   have H := Ba (BM hb) H
   rw [hb] at F
   clear hb
   refine AM (Ac ?_)
   exact ⟨_, H, F.re ⟨rfl, Aa, Aa, trivial⟩, W⟩
  have H := Bc (BL hb) H
  rw [hb] at F
  clear hb
  refine Ab ?_
  refine ls F W Aa (Bw F Aa Aa).q fun a w F W => ?_
  refine ls F W Aa (Ag F Aa).q fun a w F W => ?_
  refine Ae (Ac ?_)
  exact ⟨_, H, F.re ⟨rfl, Aa, Aa, trivial⟩, W⟩
 rintro a w ⟨x2, hj, F, W⟩
 have hj := AR hj
 subst hj
 have H := K1
 clear G1 K1
 refine AC F Aa (fun hb => ?_) fun hb => ?_
 ·
  have H := Ba hb H
  rw [hb] at F
  clear hb
  refine Ah (Ab ?_)
  refine ls F W Aa (Ag F Aa).q fun a w F W => ?_
  refine Ae (Ac (Au (Be (AV ?_))))
  have H := AR H
  subst H
  refine AO (.inl Aa) F W Aa (AD F Aa) ?_
  exact ⟨rfl, W.done⟩
 have H := Bc (by rw [hb]; decide) H
 rw [hb] at F
 clear hb
 refine AM (BI (Ac (Ah (Ah (Ab ?_)))))
 refine ls F W Aa (Ai F Aa).q fun a w F W => ?_
 obtain ⟨x3, h2, H⟩ := Aq H
 refine ls F W Aa (Bx (v := Value.bool x3) F Ua Aa (fun w W => Jk any w p0 ([58, 61] : List UInt8) _ h2)) fun a w F W => ?_
 refine Ae (Ac ?_)
 refine AC F Aa (fun hb => ?_) fun hb => ?_
 ·
  have H := Ba hb H
  rw [hb] at F
  clear hb
  refine Ah (Ab ?_)
  refine ls F W Aa (Ag F Aa).q fun a w F W => ?_
  refine Ae (Ac (Au (AV ?_)))
  have H := AR H
  subst H
  refine AO (.inl Aa) F W Aa (AD F Aa) ?_
  exact ⟨rfl, W.done⟩
 have H := Bc (by rw [hb]; decide) H
 rw [hb] at F
 clear hb
 refine AM (Ac (Ah (Ab ?_)))
 refine ls F W Aa (Ag F Aa).q fun a w F W => ?_
 refine Ae (Ac (Au ?_))
 have H := AR H
 subst H
 refine AO (.inl Aa) F W Aa (AD F Aa) ?_
 exact ⟨rfl, W.done⟩
theorem T4 : Has Tryd.prog 102 := ⟨fun args w => Am Tryd.func102 rfl (by decide) args w⟩
noncomputable def Cl (p0 : List UInt8) : Option ((Int × Int × List UInt8 × Int) × Int) := (Io p0).bind fun x1 => (if 0 < x1 then (GP p0 0 x1).bind fun x2 => some ((1, 0, x2, 0), x1) else (FV p0).bind fun x3 => (if 0 < x3 then (GP p0 0 x3).bind fun x4 => (Cw x4).bind fun x5 => some (x5.1, x5.2) else (Eh p0).bind fun x6 => (if x6 = 0 then some ((0, 0, ([] : List UInt8), 0), 0) else (GP p0 0 x6).bind fun x7 => some ((3, 0, x7, 0), x6))))
theorem OJ (Y : Nat → Prop) (w0 : World)  (p0 : List UInt8) (r : (Int × Int × List UInt8 × Int) × Int) (H : Cl p0 = some r)  :
    Calls Tryd.prog 82 #[.string (bs p0)] w0 fun e w' => e = .returned (.tuple #[.agg #[.int .i64 r.1.1, .int .i64 r.1.2.1, .string (bs r.1.2.2.1), .int .i64 r.1.2.2.2], .int .i64 r.2]) ∧ Below w0.heap.size w0 w' := by
 refine enter Tryd.func82 Aa Tryd.ntmps82 Aa fun a F => ?_
 have W := Stw.start Y w0
 unfold Cl at H
 refine Ah (Ab ?_)
 refine BA (cs := [.int .i64 0, .int .i64 0, .string (bs ([] : List UInt8)), .int .i64 0]) F W Aa R1 Aa fun b1 a w F W => ?_
 refine ls F W Aa (Ag F Aa).q fun a w F W => ?_
 refine Ae (Ac (Ah (Ah (Ab ?_))))
 refine ls F W Aa (Ai F Aa).q fun a w F W => ?_
 obtain ⟨x1, h1, H⟩ := Aq H
 refine ls F W Aa (Bx (v := Value.int .i64 x1) F Ux Aa (fun w W => P5 any w p0 _ h1)) fun a w F W => ?_
 refine ls F W Aa (Ag F Aa).q fun a w F W => ?_
 refine Ae (Ac (Ah (Ab ?_)))
 refine ls F W Aa (Ai F Aa).q fun a w F W => ?_
 refine ls F W Aa (KQ F Aa Aa).q fun a w F W => ?_
 refine Ae (Ac ?_)
 refine AC F Aa (fun hb => ?_) fun hb => ?_
 ·
  have H := Ba (BM hb) H
  rw [hb] at F
  clear hb
  refine Ah (Ab ?_)
  iterate 2 refine ls F W Aa (Ai F Aa).q fun a w F W => ?_
  obtain ⟨x2, h2, H⟩ := Aq H
  refine ls F W Aa (IK (l := p0) KM F Aa Aa Aa h2).q fun a w F W => ?_
  refine ls F W Aa (Cx (v := Value.agg #[.int .i64 1, .int .i64 0, .string (bs x2), .int .i64 0]) S7 F Aa Aa Aa).q fun a w F W => ?_
  refine ls F W Aa (Ai F Aa).q fun a w F W => ?_
  refine AP (vs := [.int .i64 1, .int .i64 0, .string (bs x2), .int .i64 0]) (M' := [(b1, [.int .i64 1, .int .i64 0, .string (bs x2), .int .i64 0])]) 0 F W Aa Aa Aa NA Aa Aa Aa Aa Aa fun w W => ?_
  refine ls F W Aa (Ag F Aa).q fun a w F W => ?_
  refine Ae (Ac (Au (AV ?_)))
  have H := AR H
  subst H
  refine Mb (.inl Aa) F W Aa (BD 0 F Aa Aa NA Aa) (AD F Aa) ?_
  exact ⟨rfl, W.done⟩
 have H := Bc (BL hb) H
 rw [hb] at F
 clear hb
 refine AM (Ac (Ah (Ah (Ab ?_))))
 refine ls F W Aa (Ai F Aa).q fun a w F W => ?_
 obtain ⟨x3, h3, H⟩ := Aq H
 refine ls F W Aa (Bx (v := Value.int .i64 x3) F Ux Aa (fun w W => NQ any w p0 _ h3)) fun a w F W => ?_
 refine ls F W Aa (Ag F Aa).q fun a w F W => ?_
 refine Ae (Ac (Ah (Ab ?_)))
 refine ls F W Aa (Ai F Aa).q fun a w F W => ?_
 refine ls F W Aa (KQ F Aa Aa).q fun a w F W => ?_
 refine Ae (Ac ?_)
 refine AC F Aa (fun hb => ?_) fun hb => ?_
 ·
  have H := Ba (BM hb) H
  rw [hb] at F
  clear hb
  refine Ah (Ab ?_)
  iterate 2 refine ls F W Aa (Ai F Aa).q fun a w F W => ?_
  obtain ⟨x4, h4, H⟩ := Aq H
  refine ls F W Aa (IK (l := p0) KM F Aa Aa Aa h4).q fun a w F W => ?_
  obtain ⟨x5, h5, H⟩ := Aq H
  refine ls F W Aa (Bx (v := Value.tuple #[.agg #[.int .i64 x5.1.1, .int .i64 x5.1.2.1, .string (bs x5.1.2.2.1), .int .i64 x5.1.2.2.2], .int .i64 x5.2]) F T8 Aa (fun w W => NM any w x4 _ h5)) fun a w F W => ?_
  refine ls F W Aa (B9 (v := Value.agg #[.int .i64 x5.1.1, .int .i64 x5.1.2.1, .string (bs x5.1.2.2.1), .int .i64 x5.1.2.2.2]) F Aa Aa).q fun a w F W => ?_
  refine ls F W Aa (B9 (v := Value.int .i64 x5.2) F Aa Aa).q fun a w F W => ?_
  refine AP (vs := [.int .i64 x5.1.1, .int .i64 x5.1.2.1, .string (bs x5.1.2.2.1), .int .i64 x5.1.2.2.2]) (M' := [(b1, [.int .i64 x5.1.1, .int .i64 x5.1.2.1, .string (bs x5.1.2.2.1), .int .i64 x5.1.2.2.2])]) 0 F W Aa Aa Aa NA Aa Aa Aa Aa Aa fun w W => ?_
  refine ls F W Aa (Ag F Aa).q fun a w F W => ?_
  refine Ae (Ac (Au (AV ?_)))
  have H := AR H
  subst H
  refine Mb (.inl Aa) F W Aa (BD 0 F Aa Aa NA Aa) (AD F Aa) ?_
  exact ⟨rfl, W.done⟩
 have H := Bc (BL hb) H
 rw [hb] at F
 clear hb
 refine AM (Ac (Ah (Ab ?_)))
 refine ls F W Aa (Ai F Aa).q fun a w F W => ?_
 obtain ⟨x6, h6, H⟩ := Aq H
 refine ls F W Aa (Bx (v := Value.int .i64 x6) F T4 Aa (fun w W => LQ any w p0 _ h6)) fun a w F W => ?_
 refine ls F W Aa (Ag F Aa).q fun a w F W => ?_
 refine Ae (Ac (Ah (Ah (Ab ?_))))
 refine ls F W Aa (Ai F Aa).q fun a w F W => ?_
 refine ls F W Aa (Bw F Aa Aa).q fun a w F W => ?_
 refine Ae (Ac ?_)
 refine AC F Aa (fun hb => ?_) fun hb => ?_
 ·
  have H := Ba (BM hb) H
  rw [hb] at F
  clear hb
  refine Ah (Ab ?_)
  refine ls F W Aa (Cx (v := Value.agg #[.int .i64 0, .int .i64 0, .string (bs ([] : List UInt8)), .int .i64 0]) S7 F Aa Aa Aa).q fun a w F W => ?_
  refine AP (vs := [.int .i64 0, .int .i64 0, .string (bs ([] : List UInt8)), .int .i64 0]) (M' := [(b1, [.int .i64 0, .int .i64 0, .string (bs ([] : List UInt8)), .int .i64 0])]) 0 F W Aa Aa Aa NA Aa Aa Aa Aa Aa fun w W => ?_
  refine ls F W Aa (Ag F Aa).q fun a w F W => ?_
  refine Ae (Ac (Au (AV ?_)))
  have H := AR H
  subst H
  refine Mb (.inl Aa) F W Aa (BD 0 F Aa Aa NA Aa) (AD F Aa) ?_
  exact ⟨rfl, W.done⟩
 have H := Bc (BL hb) H
 rw [hb] at F
 clear hb
 refine AM (Ac (Ah (Ab ?_)))
 iterate 2 refine ls F W Aa (Ai F Aa).q fun a w F W => ?_
 obtain ⟨x7, h7, H⟩ := Aq H
 refine ls F W Aa (IK (l := p0) KM F Aa Aa Aa h7).q fun a w F W => ?_
 refine ls F W Aa (Cx (v := Value.agg #[.int .i64 3, .int .i64 0, .string (bs x7), .int .i64 0]) S7 F Aa Aa Aa).q fun a w F W => ?_
 refine ls F W Aa (Ai F Aa).q fun a w F W => ?_
 refine AP (vs := [.int .i64 3, .int .i64 0, .string (bs x7), .int .i64 0]) (M' := [(b1, [.int .i64 3, .int .i64 0, .string (bs x7), .int .i64 0])]) 0 F W Aa Aa Aa NA Aa Aa Aa Aa Aa fun w W => ?_
 refine ls F W Aa (Ag F Aa).q fun a w F W => ?_
 refine Ae (Ac (Au ?_))
 have H := AR H
 subst H
 refine Mb (.inl Aa) F W Aa (BD 0 F Aa Aa NA Aa) (AD F Aa) ?_
 exact ⟨rfl, W.done⟩
theorem TA : type_of% Tryd.underlying91 := Tryd.underlying91
theorem UP : Has Tryd.prog 82 := ⟨fun args w => Am Tryd.func82 rfl (by decide) args w⟩
abbrev AA : Rp (Int × Int × List UInt8 × Int) := (Rp.pair (Rp.int .i64) (Rp.pair (Rp.int .i64) (Rp.pair Rp.str (Rp.int .i64))))
theorem T3 : Ty Tryd.prog 3 false 1 := ⟨by kernel_rfl, by kernel_rfl⟩
def UV (a : Int × Int × List UInt8 × Int) : List Value := [.int .i64 a.1, .int .i64 a.2.1, .string (bs a.2.2.1), .int .i64 a.2.2.2]
theorem TV : Fl AA UV := (Fl.pair Fl.int (Fl.pair Fl.int (Fl.pair Fl.str Fl.int)))
theorem TC : Et Tryd.prog 91 98 4 40 := Et.of TA (by kernel_rfl) (by kernel_rfl) (by kernel_rfl) (by decide)
noncomputable def Ci (p0 : List UInt8) : ((List (Int × Int × List UInt8 × Int)) × Int) → Option (((List (Int × Int × List UInt8 × Int)) × Int) ⊕ ((List (Int × Int × List UInt8 × Int)) ⊕ ((List (Int × Int × List UInt8 × Int)) × Int × Int)))
  | (x3, x4) => (if x4 < (p0.length : Int) then (GP p0 x4 (p0.length : Int)).bind fun x5 => (Cl x5).bind fun x6 => (if x6.2 = 0 then some (.inr (.inr (([] : List (Int × Int × List UInt8 × Int)), x4, 10))) else (if (x3.length : Int) = 500 then some (.inr (.inr (([] : List (Int × Int × List UInt8 × Int)), x4, 6))) else (D0 x3 ([(x6.1.1, x6.1.2.1, x6.1.2.2.1, x4)] : List (Int × Int × List UInt8 × Int))).bind fun x7 => (Dh p0 (CI (x4 + x6.2))).bind fun x8 => some (.inl (x7, x8)))) else some (.inr (.inl x3)))
noncomputable def EM (p0 : List UInt8) : Option ((List (Int × Int × List UInt8 × Int)) × Int × Int) := (if 4000 < (p0.length : Int) then some (([] : List (Int × Int × List UInt8 × Int)), 0, 3) else (Dh p0 0).bind fun x1 => HX (Bo (Ci p0) ([], x1)) fun x2 => (D0 x2 ([(4, 0, ([] : List UInt8), (p0.length : Int))] : List (Int × Int × List UInt8 × Int))).bind fun x9 => some (x9, 0, 0))
theorem P8 (Y : Nat → Prop) (w0 : World)  (p0 : List UInt8) (r : (List (Int × Int × List UInt8 × Int)) × Int × Int) (H : EM p0 = some r)  :
    Calls Tryd.prog 55 #[.string (bs p0)] w0 fun e w' => ∃ x : Value, e = .returned (.tuple #[x, .int .i64 r.2.1, .int .i64 r.2.2]) ∧ Stw ⟨Y, [], w0⟩ [] [row (x) 98 AA r.1] w' := by
 refine enter Tryd.func55 Aa Tryd.ntmps55 Aa fun a F => ?_
 have W := Stw.start Y w0
 unfold EM at H
 refine Ah (Ab ?_)
 iterate 3 refine ls F W Aa (Ag F Aa).q fun a w F W => ?_
 refine Ae (Ac (Ah (Ah (Ab ?_))))
 refine ls F W Aa (Ai F Aa).q fun a w F W => ?_
 refine ls F W Aa (Fo (l := p0) KM Aa F Aa).q fun a w F W => ?_
 refine ls F W Aa (KQ F Aa Aa).q fun a w F W => ?_
 refine Ae (Ac ?_)
 refine AC F Aa (fun hb => ?_) fun hb => ?_
 ·
  have H := Ba (BM hb) H
  rw [hb] at F
  clear hb
  refine Ah (Ab ?_)
  iterate 3 refine ls F W Aa (Ag F Aa).q fun a w F W => ?_
  refine Ae (Ac (Au (AV ?_)))
  have H := AR H
  subst H
  refine Pu (.inl Aa) F W Aa (AD F Aa) (AD F Aa) (AD F Aa) ?_
  have W := W.nilRow 98 AA
  exact ⟨(Value.slice none 0 0), Aa, W⟩
 have H := Bc (BL hb) H
 rw [hb] at F
 clear hb
 refine AM (Ac (Ah (Ab ?_)))
 refine ls F W Aa (Ag F Aa).q fun a w F W => ?_
 refine Ae (Ac (Ah (Ab ?_)))
 refine ls F W Aa (Ai F Aa).q fun a w F W => ?_
 obtain ⟨x1, h1, H⟩ := Aq H
 refine ls F W Aa (Bx (v := Value.int .i64 x1) F UH Aa (fun w W => Md any w p0 0 _ h1)) fun a w F W => ?_
 refine ls F W Aa (Ag F Aa).q fun a w F W => ?_
 refine Ae (Ac ?_)
 obtain ⟨o1, G1, K1, L1⟩ := Qb H
 refine BK (fun a w => ∃ x2 : List (Int × Int × List UInt8 × Int), ∃ v1 : Value, some (Sum.inl x2) = some o1 ∧ Fr 49 [] [(0, .string (bs p0)), (2, .slice none 0 0), (3, .int .i64 0), (4, .int .i64 0), (5, v1)] a ∧ Stw ⟨Y, [], w0⟩ [] [row v1 98 AA x2] w) ?_ ?_
 ·
  have H := G1
  clear G1 K1
  refine Bb ?_
  have W := W.nilRow 98 AA
  refine Dl H (fun s a w => ∃ v2 : Value, Fr 49 [] [(0, .string (bs p0)), (2, .slice none 0 0), (3, .int .i64 0), (4, .int .i64 0), (5, v2), (6, .int .i64 s.2)] a ∧ Stw ⟨Y, [], w0⟩ [] [row v2 98 AA s.1] w) ⟨(Value.slice none 0 0), F.re ⟨rfl, Aa, Aa, Aa, Aa, Aa, trivial⟩, W⟩ fun s o a w H L2 hR => ?_
  obtain ⟨x3, x4⟩ := s
  obtain ⟨v2, F, W⟩ := hR
  have F : Fr 49 [] [(0, .string (bs p0)), (2, .slice none 0 0), (3, .int .i64 0), (4, .int .i64 0), (5, v2), (6, .int .i64 x4)] a := F
  have W : Stw ⟨Y, [], w0⟩ [] [row v2 98 AA x3] w := W
  rw [Ci] at H
  refine Ah (Ah (Ab ?_))
  iterate 2 refine ls F W Aa (Ai F Aa).q fun a w F W => ?_
  refine ls F W Aa (Fo (l := p0) KM Aa F Aa).q fun a w F W => ?_
  refine ls F W Aa (Fx F Aa Aa).q fun a w F W => ?_
  refine Ae (Ac ?_)
  refine AC F Aa (fun hb => ?_) fun hb => ?_
  ·
   have H := Ba (BM hb) H
   rw [hb] at F
   clear hb
   refine AM (Ac (Bb (Ah (Ab ?_))))
   iterate 2 refine ls F W Aa (Ai F Aa).q fun a w F W => ?_
   obtain ⟨x5, h2, H⟩ := Aq H
   refine ls F W Aa (IK (l := p0) KM F Aa Aa Aa h2).q fun a w F W => ?_
   obtain ⟨x6, h3, H⟩ := Aq H
   refine ls F W Aa (Bx (v := Value.tuple #[.agg #[.int .i64 x6.1.1, .int .i64 x6.1.2.1, .string (bs x6.1.2.2.1), .int .i64 x6.1.2.2.2], .int .i64 x6.2]) F UP Aa (fun w W => OJ any w x5 _ h3)) fun a w F W => ?_
   refine ls F W Aa (Ai F Aa).q fun a w F W => ?_
   refine ls F W Aa (B9 (v := Value.agg #[.int .i64 x6.1.1, .int .i64 x6.1.2.1, .string (bs x6.1.2.2.1), .int .i64 x6.1.2.2.2]) F Aa Aa).q fun a w F W => ?_
   refine ls F W Aa (B9 (v := Value.int .i64 x6.2) F Aa Aa).q fun a w F W => ?_
   refine BA (cs := [.int .i64 0, .int .i64 0, .string (bs ([] : List UInt8)), .int .i64 0]) F W Aa R1 Aa fun b1 a w F W => ?_
   refine AP (vs := [.int .i64 x6.1.1, .int .i64 x6.1.2.1, .string (bs x6.1.2.2.1), .int .i64 x6.1.2.2.2]) (M' := [(b1, [.int .i64 x6.1.1, .int .i64 x6.1.2.1, .string (bs x6.1.2.2.1), .int .i64 x6.1.2.2.2])]) 0 F W Aa Aa Aa NA Aa Aa Aa Aa Aa fun w W => ?_
   refine ls F W Aa (Ag F Aa).q fun a w F W => ?_
   refine Ae (Ac (Ah (Ah (Ab ?_))))
   refine ls F W Aa (Ai F Aa).q fun a w F W => ?_
   refine ls F W Aa (Bw F Aa Aa).q fun a w F W => ?_
   refine Ae (Ac ?_)
   refine AC F Aa (fun hb => ?_) fun hb => ?_
   ·
    have H := Ba (BM hb) H
    rw [hb] at F
    clear hb
    refine Ah (Ab ?_)
    refine ls F W Aa (Ai F Aa).q fun a w F W => ?_
    iterate 3 refine ls F W Aa (Ag F Aa).q fun a w F W => ?_
    refine Ae (Ac (Au (AV (Be (AV (Be (AV ?_)))))))
    have H := L2 _ H
    have H := L1 _ H
    have H := AR H
    subst H
    refine Pu (.inl Aa) F W Aa (AD F Aa) (AD F Aa) (AD F Aa) ?_
    have W := W.nilRow 98 AA
    have W := W.sub (M' := []) (Z' := [row (Value.slice none 0 0) 98 AA ([])]) (List.nil_sublist _) (List.Sublist.cons_cons _ (List.nil_sublist _))
    exact ⟨(Value.slice none 0 0), Aa, W⟩
   have H := Bc (BL hb) H
   rw [hb] at F
   clear hb
   refine AM (Ac (Ah (Ah (Ab ?_))))
   refine ls F W Aa (Ai F Aa).q fun a w F W => ?_
   refine ls F W Aa (DC (r := AA) (l := x3) TA Aa F Aa (CB 0 Aa)).q fun a w F W => ?_
   refine ls F W Aa (Bw F Aa Aa).q fun a w F W => ?_
   refine Ae (Ac ?_)
   refine AC F Aa (fun hb => ?_) fun hb => ?_
   ·
    have H := Ba (BM hb) H
    rw [hb] at F
    clear hb
    refine Ah (Ab ?_)
    refine ls F W Aa (Ai F Aa).q fun a w F W => ?_
    iterate 3 refine ls F W Aa (Ag F Aa).q fun a w F W => ?_
    refine Ae (Ac (Au (AV (Be (AV (Be (AV ?_)))))))
    have H := L2 _ H
    have H := L1 _ H
    have H := AR H
    subst H
    refine Pu (.inl Aa) F W Aa (AD F Aa) (AD F Aa) (AD F Aa) ?_
    have W := W.nilRow 98 AA
    have W := W.sub (M' := []) (Z' := [row (Value.slice none 0 0) 98 AA ([])]) (List.nil_sublist _) (List.Sublist.cons_cons _ (List.nil_sublist _))
    exact ⟨(Value.slice none 0 0), Aa, W⟩
   have H := Bc (BL hb) H
   rw [hb] at F
   clear hb
   refine AM (Ac (Ah (Ab ?_)))
   refine ls F W Aa (Ai F Aa).q fun a w F W => ?_
   refine ls F W Aa (Al KW Aa Aa Aa T3 F Aa 3 Aa).q fun a w F W => ?_
   refine AP (vs := [.int .i64 x4]) (M' := [(b1, [.int .i64 x6.1.1, .int .i64 x6.1.2.1, .string (bs x6.1.2.2.1), .int .i64 x4])]) 0 F W Aa Aa Aa T3 Aa Aa Aa Aa Aa fun w W => ?_
   refine Ae (Ac (Ah (Ab ?_)))
   refine ls F W Aa (Ai F Aa).q fun a w F W => ?_
   refine ls F W Aa (Aw (v := Value.agg #[.int .i64 x6.1.1, .int .i64 x6.1.2.1, .string (bs x6.1.2.2.1), .int .i64 x4]) 0 F Aa Aa NA Aa).q fun a w F W => ?_
   refine Hi (z := Value.agg #[.int .i64 0, .int .i64 0, .string (bs ([] : List UInt8)), .int .i64 0]) (cs := [.int .i64 x6.1.1, .int .i64 x6.1.2.1, .string (bs x6.1.2.2.1), .int .i64 x4]) AA ([(x6.1.1, x6.1.2.1, x6.1.2.2.1, x4)] : List (Int × Int × List UInt8 × Int)) F W Aa TC R1 Aa Aa Aa Aa Aa Aa (TV.repL _ _ ([(x6.1.1, x6.1.2.1, x6.1.2.2.1, x4)] : List (Int × Int × List UInt8 × Int))) fun v3 a w F W => ?_
   obtain ⟨x7, h4, H⟩ := Aq H
   refine Gd (r := AA) (i := 1) F W Aa TC Aa Aa Aa Aa (Hh W 0 Aa) h4 Aa fun v4 a w F W => ?_
   have W : Stw ⟨Y, [], w0⟩ [(b1, [.int .i64 x6.1.1, .int .i64 x6.1.2.1, .string (bs x6.1.2.2.1), .int .i64 x4])] [row v4 98 AA x7, row v3 98 AA ([(x6.1.1, x6.1.2.1, x6.1.2.2.1, x4)] : List (Int × Int × List UInt8 × Int))] w := W
   refine ls F W Aa (Ag F Aa).q fun a w F W => ?_
   refine Ae (Ac (Ab ?_))
   iterate 3 refine ls F W Aa (Ai F Aa).q fun a w F W => ?_
   refine ls F W Aa (Fe F Aa Aa Aa).q fun a w F W => ?_
   obtain ⟨x8, h5, H⟩ := Aq H
   refine ls F W Aa (Bx (v := Value.int .i64 x8) F UH Aa (fun w W => Md any w p0 (CI (x4 + x6.2)) _ h5)) fun a w F W => ?_
   refine ls F W Aa (Ag F Aa).q fun a w F W => ?_
   refine Ae (BI (Ac ?_))
   have W := W.sub (M' := []) (Z' := [row v4 98 AA x7]) (List.nil_sublist _) (List.Sublist.cons_cons _ (List.nil_sublist _))
   exact ⟨_, H, (v4), F.re ⟨rfl, Aa, Aa, Aa, Aa, Aa, trivial⟩, W⟩
  have H := Bc (BL hb) H
  rw [hb] at F
  clear hb
  refine Do ?_
  iterate 2 refine Er ?_
  refine Dk (Ac ?_)
  have H := L2 _ H
  exact ⟨_, (v2), H, F.re ⟨rfl, Aa, Aa, Aa, Aa, trivial⟩, W⟩
 rintro a w ⟨x2, v1, hj, F, W⟩
 have H := K1 _ hj
 clear hj G1 K1 L1
 refine Ah (Ab ?_)
 iterate 2 refine ls F W Aa (Ai F Aa).q fun a w F W => ?_
 refine ls F W Aa (Fo (l := p0) KM Aa F Aa).q fun a w F W => ?_
 refine ls F W Aa (Cx (v := Value.agg #[.int .i64 4, .int .i64 0, .string (bs ([] : List UInt8)), .int .i64 (p0.length : Int)]) S7 F Aa Aa Aa).q fun a w F W => ?_
 refine Hi (z := Value.agg #[.int .i64 0, .int .i64 0, .string (bs ([] : List UInt8)), .int .i64 0]) (cs := [.int .i64 4, .int .i64 0, .string (bs ([] : List UInt8)), .int .i64 (p0.length : Int)]) AA ([(4, 0, ([] : List UInt8), (p0.length : Int))] : List (Int × Int × List UInt8 × Int)) F W Aa TC R1 Aa Aa Aa Aa Aa Aa (TV.repL _ _ ([(4, 0, ([] : List UInt8), (p0.length : Int))] : List (Int × Int × List UInt8 × Int))) fun v5 a w F W => ?_
 obtain ⟨x9, h6, H⟩ := Aq H
 refine Gd (r := AA) (i := 1) F W Aa TC Aa Aa Aa Aa (Hh W 0 Aa) h6 Aa fun v6 a w F W => ?_
 have W : Stw ⟨Y, [], w0⟩ [] [row v6 98 AA x9, row v5 98 AA ([(4, 0, ([] : List UInt8), (p0.length : Int))] : List (Int × Int × List UInt8 × Int))] w := W
 iterate 3 refine ls F W Aa (Ag F Aa).q fun a w F W => ?_
 refine Ae (Ac (Au ?_))
 have H := AR H
 subst H
 refine Pu (.inl Aa) F W Aa (AD F Aa) (AD F Aa) (AD F Aa) ?_
 have W := W.sub (M' := []) (Z' := [row v6 98 AA x9]) (List.Sublist.refl _) (List.Sublist.cons_cons _ (List.nil_sublist _))
 exact ⟨(v6), Aa, W⟩
theorem SY : type_of% Tryd.underlying89 := Tryd.underlying89
theorem Nk : type_of% Tryd.underlying95 := Tryd.underlying95
theorem UU : Has Tryd.prog 55 := ⟨fun args w => Am Tryd.func55 rfl (by decide) args w⟩
theorem Uw : Bt Tryd.prog 89 [.int .i64 0, .int .i64 0] [(0, 1), (1, 1)] := ⟨⟨.agg #[.int .i64 0, .int .i64 0], by kernel_rfl, rfl⟩, ⟨_, SY, fun w => by kernel_rfl⟩⟩
theorem T2 : (Tryd.prog.underlying 89).map (fun d => match d with | .interface _ => true | _ => false) = some false := by kernel_rfl
theorem U8 : Bt Tryd.prog 95 [.slice none 0 0, .int .i64 0] [(0, 1), (1, 1)] := ⟨⟨.agg #[.slice none 0 0, .int .i64 0], by kernel_rfl, rfl⟩, ⟨_, Nk, fun w => by kernel_rfl⟩⟩
noncomputable def EJ (p0 : List UInt8) : Option (((List (Int × Int × List UInt8 × Int)) × Int) ⊕ (Int × Int)) := (EM p0).bind fun x1 => (if x1.2.2 ≠ 0 then some (.inr x1.2) else some (.inl (x1.1, 0)))
theorem JW (Y : Nat → Prop) (w0 : World)  (p0 : List UInt8) (r : ((List (Int × Int × List UInt8 × Int)) × Int) ⊕ (Int × Int)) (H : EJ p0 = some r)  :
    Calls Tryd.prog 27 #[.string (bs p0)] w0 fun e w' => D8 r (fun r => ∃ x : Nat × Value, e = .returned (.pointer (some ⟨x.1, 0, none⟩)) ∧ Stw ⟨Y, [], w0⟩ [(x.1, [x.2, .int .i64 r.2])] [row (x.2) 98 AA r.1] w') (fun r => ∃ x : Unit, e = .panicked [{ v := .iface 89 (.agg #[.int .i64 r.1, .int .i64 r.2]), recovered := false }] ∧ Stw ⟨Y, [], w0⟩ [] [] w') := by
 refine enter Tryd.func27 Aa Tryd.ntmps27 Aa fun a F => ?_
 have W := Stw.start Y w0
 unfold EJ at H
 refine Ah (Ab ?_)
 refine ls F W Aa (Ag F Aa).q fun a w F W => ?_
 refine Ae (Ac (Ah (Ab ?_)))
 refine ls F W Aa (Ai F Aa).q fun a w F W => ?_
 obtain ⟨x1, h1, H⟩ := Aq H
 refine Bp (Ml := []) (Zl := []) (M := []) (Z := []) (β := Value) (rv := fun x => .tuple #[x, .int .i64 x1.2.1, .int .i64 x1.2.2]) (MM := fun x => []) (ZZ := fun x => [row x 98 AA x1.1]) F W UU Aa Aa (fun hL => P8 _ w p0 _ h1) fun x a w F W => ?_
 obtain ⟨v1, rfl⟩ : ∃ y, y = x := ⟨x, rfl⟩
 have W : Stw ⟨Y, [], w0⟩ [] [row v1 98 AA x1.1] w := W
 refine ls F W Aa (Ai F Aa).q fun a w F W => ?_
 refine ls F W Aa (B9 (v := v1) F Aa Aa).q fun a w F W => ?_
 refine ls F W Aa (B9 (v := Value.int .i64 x1.2.1) F Aa Aa).q fun a w F W => ?_
 refine ls F W Aa (B9 (v := Value.int .i64 x1.2.2) F Aa Aa).q fun a w F W => ?_
 iterate 3 refine ls F W Aa (Ag F Aa).q fun a w F W => ?_
 refine Ae (Ac (Ah (Ah (Ab ?_))))
 refine ls F W Aa (Ai F Aa).q fun a w F W => ?_
 refine ls F W Aa (Gn F Aa Aa).q fun a w F W => ?_
 refine Ae (Ac ?_)
 refine AC F Aa (fun hb => ?_) fun hb => ?_
 ·
  have H := Ba (BM hb) H
  rw [hb] at F
  clear hb
  refine Ab ?_
  iterate 2 refine ls F W Aa (Ai F Aa).q fun a w F W => ?_
  refine ls F W Aa (Cx (v := Value.agg #[.int .i64 x1.2.1, .int .i64 x1.2.2]) Uw F Aa Aa Aa).q fun a w F W => ?_
  refine ls F W Aa (KK T2 F Aa).q fun a w F W => ?_
  refine Pr F Aa ?_
  refine BW ?_
  have H := AR H
  subst H
  refine Bi F ?_
  have W := W.sub (M' := []) (Z' := []) (List.Sublist.refl _) (List.nil_sublist _)
  exact ⟨(), Aa, W⟩
 have H := Bc (BL hb) H
 rw [hb] at F
 clear hb
 refine AM (Ac (Ah (Ab ?_)))
 refine ls F W Aa (Ai F Aa).q fun a w F W => ?_
 refine ls F W Aa (Cx (v := Value.agg #[v1, .int .i64 0]) U8 F Aa (BQ Aa (FU (W.one (k := 0) Aa)) Aa CX) Aa).q fun a w F W => ?_
 refine FH (cs := [v1, .int .i64 0]) F W Aa Aa Aa fun b1 a w F W => ?_
 refine ls F W Aa (Ag F Aa).q fun a w F W => ?_
 refine Ae (Ac (Au ?_))
 have H := AR H
 subst H
 refine AO (.inl Aa) F W Aa (AD F Aa) ?_
 exact ⟨(b1, (v1)), Aa, W⟩
theorem Uv : Has Tryd.prog 27 := ⟨fun args w => Am Tryd.func27 rfl (by decide) args w⟩
inductive Tr25 : Type where
  | mk : Int → Int → Int → (List Tr25) → Tr25
def Tr25.un : Tr25 → Int × Int × Int × List Tr25
  | .mk a0 a1 a2 a3 => (a0, a1, a2, a3)
abbrev Tr25.of (p : Int × Int × Int × List Tr25) : Tr25 := .mk p.1 p.2.1 p.2.2.1 p.2.2.2
def Tr25.cnt : Tr25 → Nat
  | .mk _ _ _ a3 => 1 + ((a3.map Tr25.cnt).sum)
inductive Tr28 : Type where
  | mk : Int → Tr25 → Int → Int → (List Tr28) → Tr28
def Tr28.un : Tr28 → Int × Tr25 × Int × Int × List Tr28
  | .mk a0 a1 a2 a3 a4 => (a0, a1, a2, a3, a4)
abbrev Tr28.of (p : Int × Tr25 × Int × Int × List Tr28) : Tr28 := .mk p.1 p.2.1 p.2.2.1 p.2.2.2.1 p.2.2.2.2
def Tr28.cnt : Tr28 → Nat
  | .mk _ a1 _ _ a4 => 1 + (a1.cnt + (a4.map Tr28.cnt).sum)
theorem MO : Tryd.prog.follows .mixedOrders = true := by kernel_rfl
theorem UE : Ty Tryd.prog 91 false 1 := ⟨by kernel_rfl, by kernel_rfl⟩
noncomputable def BV (p0 : (List (Int × Int × List UInt8 × Int)) × Int) : Option (Int × Int × List UInt8 × Int) := (ix p0.1 p0.2).bind fun x1 => some x1
theorem C5 (Y : Nat → Prop) (w0 : World) (q_p0 : Nat) (v1 : Value) (p0 : (List (Int × Int × List UInt8 × Int)) × Int) (r : (Int × Int × List UInt8 × Int)) (H : BV p0 = some r) (h_v1 : Sl w0 (NX []) AA v1 p0.1) (a_q_p0 : At ⟨Y, [], w0⟩ q_p0 0 [v1, .int .i64 p0.2]) :
    Calls Tryd.prog 59 #[.pointer (some ⟨q_p0, 0, none⟩)] w0 fun e w' => e = .returned (.agg #[.int .i64 r.1, .int .i64 r.2.1, .string (bs r.2.2.1), .int .i64 r.2.2.2]) ∧ Below w0.heap.size w0 w' := by
 refine enter Tryd.func59 Aa Tryd.ntmps59 Aa fun a F => ?_
 have W := Stw.start Y w0
 unfold BV at H
 refine Ah (Ab ?_)
 refine BA (cs := [.int .i64 0, .int .i64 0, .string (bs ([] : List UInt8)), .int .i64 0]) F W Aa R1 Aa fun b1 a w F W => ?_
 refine Ae (Ac (Ah ?_))
 refine OK 10 W MO (by kernel_rfl) ?_
 refine qs F Aa (Ai F Aa).q fun a F => ?_
 refine qs F Aa (Cq F Aa).q fun a F => ?_
 refine qs F Aa (Al Nk Aa Aa Aa UE F Aa 0 Aa).q fun a F => ?_
 refine qs F Aa (M0 (y := v1) (j := 0) F Aa (Nat.zero_add _).symm a_q_p0 UE Aa).q fun a F => ?_
 refine qs F Aa (Ai F Aa).q fun a F => ?_
 refine qs F Aa (Cq F Aa).q fun a F => ?_
 refine qs F Aa (Al Nk Aa Aa Aa T3 F Aa 1 Aa).q fun a F => ?_
 refine qs F Aa (M0 (y := Value.int .i64 p0.2) (j := 1) F Aa (Nat.zero_add _).symm a_q_p0 T3 Aa).q fun a F => ?_
 obtain ⟨x1, h1, H⟩ := Aq H
 refine qs F Aa (DS (r := AA) TC F Aa Aa (AG h_v1) h1).q fun a F => ?_
 refine qs F Aa (CG (y := Value.agg #[.int .i64 x1.1, .int .i64 x1.2.1, .string (bs x1.2.2.1), .int .i64 x1.2.2.2]) (j := 0) (i := p0.2) F Aa Aa (AG h_v1) h1 TV.to NA Aa).q fun a F => ?_
 refine CY fun w W => ?_
 refine AP (vs := [.int .i64 x1.1, .int .i64 x1.2.1, .string (bs x1.2.2.1), .int .i64 x1.2.2.2]) (M' := [(b1, [.int .i64 x1.1, .int .i64 x1.2.1, .string (bs x1.2.2.1), .int .i64 x1.2.2.2])]) 0 F W Aa Aa Aa NA Aa Aa Aa Aa Aa fun w W => ?_
 refine Ae (Ac (Au ?_))
 have H := AR H
 subst H
 refine AO (.inl Aa) F W Aa (BD 0 F Aa Aa NA Aa) ?_
 exact ⟨rfl, W.done⟩
theorem Td : Has Tryd.prog 59 := ⟨fun args w => Am Tryd.func59 rfl (by decide) args w⟩
theorem T9 : Ty Tryd.prog 9 false 1 := ⟨by kernel_rfl, by kernel_rfl⟩
noncomputable def As (p0 : (List (Int × Int × List UInt8 × Int)) × Int) (p1 : List UInt8) : Option (Bool × ((List (Int × Int × List UInt8 × Int)) × Int)) := (BV p0).bind fun x1 => (if (bif decide (x1.1 ≠ 1) then (decide (x1.1 ≠ 3) || decide (x1.2.2.1 ≠ p1)) else decide (x1.2.2.1 ≠ p1)) = true then some (false, p0) else some (true, (p0.1, CI (p0.2 + 1))))
theorem Bl (Y : Nat → Prop) (X : List Nat) (w0 : World) (q_p0 : Nat) (v1 : Value) (p0 : (List (Int × Int × List UInt8 × Int)) × Int) (p1 : List UInt8) (r : Bool × ((List (Int × Int × List UInt8 × Int)) × Int)) (H : As p0 p1 = some r) (hL : Stw ⟨Y, X, w0⟩ [(q_p0, [v1, .int .i64 p0.2])] [row v1 98 AA p0.1] w0) :
    Calls Tryd.prog 83 #[.pointer (some ⟨q_p0, 0, none⟩), .string (bs p1)] w0 fun e w' => ∃ x : Value, e = .returned (.bool r.1) ∧ Stw ⟨Y, X, w0⟩ [(q_p0, [x, .int .i64 r.2.2])] [row (x) 98 AA r.2.1] w' := by
 refine enter Tryd.func83 Aa Tryd.ntmps83 Aa fun a F => ?_
 have W := hL
 unfold As at H
 refine Ah (Ab ?_)
 refine ls F W Aa (Ag F Aa).q fun a w F W => ?_
 refine Ae (Ac (Ah (Ab ?_)))
 refine ls F W Aa (Ai F Aa).q fun a w F W => ?_
 obtain ⟨x1, h1, H⟩ := Aq H
 refine ls F W Aa (Bx (v := Value.agg #[.int .i64 x1.1, .int .i64 x1.2.1, .string (bs x1.2.2.1), .int .i64 x1.2.2.2]) F Td Aa (fun w W => C5 any w q_p0 (v1) p0 _ h1 (((CB 0 Aa) : EB _ _ _ _ _ _) w W).nx (On W 0 Aa))) fun a w F W => ?_
 refine BA (cs := [.int .i64 0, .int .i64 0, .string (bs ([] : List UInt8)), .int .i64 0]) F W Aa R1 Aa fun b1 a w F W => ?_
 refine AP (vs := [.int .i64 x1.1, .int .i64 x1.2.1, .string (bs x1.2.2.1), .int .i64 x1.2.2.2]) (M' := [(b1, [.int .i64 x1.1, .int .i64 x1.2.1, .string (bs x1.2.2.1), .int .i64 x1.2.2.2]), (q_p0, [v1, .int .i64 p0.2])]) 0 F W Aa Aa Aa NA Aa Aa Aa Aa Aa fun w W => ?_
 refine Ae (Ac (Ah ?_))
 refine BK (fun a w => Fr 29 [] [(0, .pointer (some ⟨q_p0, 0, none⟩)), (4, .bool false), (21, .bool (bif decide (x1.1 ≠ 1) then (decide (x1.1 ≠ 3) || decide (x1.2.2.1 ≠ p1)) else decide (x1.2.2.1 ≠ p1)))] a ∧ Stw ⟨Y, X, w0⟩ [(b1, [.int .i64 x1.1, .int .i64 x1.2.1, .string (bs x1.2.2.1), .int .i64 x1.2.2.2]), (q_p0, [v1, .int .i64 p0.2])] [row v1 98 AA p0.1] w) ?_ ?_
 ·
  refine Ab ?_
  refine ls F W Aa (Al KW Aa Aa Aa T3 F Aa 0 Aa).q fun a w F W => ?_
  refine ls F W Aa (Aw (v := Value.int .i64 x1.1) 0 F Aa Aa T3 Aa).q fun a w F W => ?_
  refine ls F W Aa (Gn F Aa Aa).q fun a w F W => ?_
  refine ls F W Aa (Ai F Aa).q fun a w F W => ?_
  rcases Bool.eq_false_or_eq_true (decide (x1.1 ≠ 1)) with hb0 | hb0
  ·
   rw [hb0] at F
   refine Bn F W (Ak F Aa Aa Aa Aa) Aa (Ay Aa) (Al KW Aa Aa Aa T3 F Aa 0 Aa).q fun a w F W => ?_
   refine Bn F W (Ak F Aa Aa Aa Aa) Aa (Ay Aa) (Aw (v := Value.int .i64 x1.1) 0 F Aa Aa T3 Aa).q fun a w F W => ?_
   refine Bn F W (Ak F Aa Aa Aa Aa) Aa (Ay Aa) (Gn F Aa Aa).q fun a w F W => ?_
   refine ls F W Aa (A2 F Aa Aa Aa).q fun a w F W => ?_
   refine ls F W Aa (Ai F Aa).q fun a w F W => ?_
   rcases Bool.eq_false_or_eq_true (decide (x1.1 ≠ 3)) with hb1 | hb1
   ·
    rw [hb1] at F
    iterate 4 refine EX F Aa Aa Aa Aa Aa Aa Aa fun a F => ?_
    refine ls F W Aa (A2 F Aa Aa Aa).q fun a w F W => ?_
    refine Ae (Ac ?_)
    exact ⟨F.re ⟨rfl, Aa, (JQ (by try rw [hb0]; try rw [hb1]; all_goals simp only [JV])), trivial⟩, W⟩
   rw [hb1] at F
   refine Bn F W (Ak F Aa Aa Aa Aa) Aa (Ay Aa) (Al KW Aa Aa Aa T9 F Aa 2 Aa).q fun a w F W => ?_
   refine Bn F W (Ak F Aa Aa Aa Aa) Aa (Ay Aa) (Aw (v := Value.string (bs x1.2.2.1)) 0 F Aa Aa T9 Aa).q fun a w F W => ?_
   refine Bn F W (Ak F Aa Aa Aa Aa) Aa (Ay Aa) (Ai F Aa).q fun a w F W => ?_
   refine Bn F W (Ak F Aa Aa Aa Aa) Aa (Ay Aa) (Si (l := x1.2.2.1) (m := p1) F Aa Aa).q fun a w F W => ?_
   refine ls F W Aa (Ax F Aa Aa Aa).q fun a w F W => ?_
   refine Ae (Ac ?_)
   exact ⟨F.re ⟨rfl, Aa, (JQ (by try rw [hb0]; try rw [hb1]; all_goals simp only [JV])), trivial⟩, W⟩
  rw [hb0] at F
  iterate 3 refine EX F Aa Aa Aa Aa Aa Aa Aa fun a F => ?_
  refine ls F W Aa (Ax F Aa Aa Aa).q fun a w F W => ?_
  refine ls F W Aa (Ai F Aa).q fun a w F W => ?_
  refine Bn F W (Ak F Aa Aa Aa Aa) Aa (Ay Aa) (Al KW Aa Aa Aa T9 F Aa 2 Aa).q fun a w F W => ?_
  refine Bn F W (Ak F Aa Aa Aa Aa) Aa (Ay Aa) (Aw (v := Value.string (bs x1.2.2.1)) 0 F Aa Aa T9 Aa).q fun a w F W => ?_
  refine Bn F W (Ak F Aa Aa Aa Aa) Aa (Ay Aa) (Ai F Aa).q fun a w F W => ?_
  refine Bn F W (Ak F Aa Aa Aa Aa) Aa (Ay Aa) (Si (l := x1.2.2.1) (m := p1) F Aa Aa).q fun a w F W => ?_
  refine ls F W Aa (Ax F Aa Aa Aa).q fun a w F W => ?_
  refine Ae (Ac ?_)
  exact ⟨F.re ⟨rfl, Aa, (JQ (by try rw [hb0]; all_goals simp only [JV])), trivial⟩, W⟩
 rintro a w ⟨F, W⟩
 refine AC F Aa (fun hb => ?_) fun hb => ?_
 ·
  have H := Ba hb H
  rw [hb] at F
  clear hb
  refine Ah (Ab ?_)
  refine ls F W Aa (Ag F Aa).q fun a w F W => ?_
  refine Ae (Ac (Au (AV ?_)))
  have H := AR H
  subst H
  refine AO (.inl Aa) F W Aa (AD F Aa) ?_
  have W := W.frontM (i := 1) Aa Aa
  have W := W.sub (M' := [(q_p0, [v1, .int .i64 p0.2])]) (Z' := [row v1 98 AA p0.1]) (List.Sublist.cons_cons _ (List.nil_sublist _)) (List.Sublist.refl _)
  exact ⟨(v1), Aa, W⟩
 have H := Bc (by rw [hb]; decide) H
 rw [hb] at F
 clear hb
 refine AM (Ac (Ah (Ab ?_)))
 refine ls F W Aa (Ai F Aa).q fun a w F W => ?_
 refine ls F W Aa (Cq F Aa).q fun a w F W => ?_
 refine ls F W Aa (Al Nk Aa Aa Aa T3 F Aa 1 Aa).q fun a w F W => ?_
 refine ls F W Aa (Aw (v := Value.int .i64 p0.2) 1 F Aa Aa T3 Aa).q fun a w F W => ?_
 refine ls F W Aa (Fe F Aa Aa Aa).q fun a w F W => ?_
 refine ls F W Aa (Cq F Aa).q fun a w F W => ?_
 refine ls F W Aa (Al Nk Aa Aa Aa T3 F Aa 1 Aa).q fun a w F W => ?_
 refine AP (vs := [.int .i64 (CI (p0.2 + 1))]) (M' := [(b1, [.int .i64 x1.1, .int .i64 x1.2.1, .string (bs x1.2.2.1), .int .i64 x1.2.2.2]), (q_p0, [v1, .int .i64 (CI (p0.2 + 1))])]) 1 F W Aa Aa Aa T3 Aa Aa Aa Aa Aa fun w W => ?_
 refine Ae (Ac (Ah (Ab ?_)))
 refine ls F W Aa (Ag F Aa).q fun a w F W => ?_
 refine Ae (Ac (Au ?_))
 have H := AR H
 subst H
 refine AO (.inl Aa) F W Aa (AD F Aa) ?_
 have W := W.frontM (i := 1) Aa Aa
 have W := W.sub (M' := [(q_p0, [v1, .int .i64 (CI (p0.2 + 1))])]) (Z' := [row v1 98 AA p0.1]) (List.Sublist.cons_cons _ (List.nil_sublist _)) (List.Sublist.refl _)
 exact ⟨(v1), Aa, W⟩
theorem ET : type_of% Tryd.underlying25 := Tryd.underlying25
theorem Dm : type_of% Tryd.underlying28 := Tryd.underlying28
theorem PH : Has Tryd.prog 83 := ⟨fun args w => Am Tryd.func83 rfl (by decide) args w⟩
theorem Ry : Bt Tryd.prog 25 [.int .i64 0, .int .i64 0, .int .i64 0, .slice none 0 0] [(0, 1), (1, 1), (2, 1), (3, 1)] := ⟨⟨.agg #[.int .i64 0, .int .i64 0, .int .i64 0, .slice none 0 0], by kernel_rfl, rfl⟩, ⟨_, ET, fun w => by kernel_rfl⟩⟩
abbrev SD (r : Rp Tr25) : Rp (Int × Int × Int × List Tr25) := (Rp.pair (Rp.int .i64) (Rp.pair (Rp.int .i64) (Rp.pair (Rp.int .i64) (Rp.slice r))))
theorem RZ : Kt SD := (Kt.pair (Kt.const _) (Kt.pair (Kt.const _) (Kt.pair (Kt.const _) Kt.hole)))
abbrev A6 : Rp Tr25 := Rp.knot SD Tr25.un RZ
theorem Mh {w : World} {A : Nat → Prop} {cs : List Value} {a : Tr25} : A6.rep w A cs a ↔ (SD A6).rep w A cs a.un := Ka RZ
abbrev MJ : Rp (Int × Int × Int × (Value × List Tr25)) := (Rp.pair (Rp.int .i64) (Rp.pair (Rp.int .i64) (Rp.pair (Rp.int .i64) (Rp.vsl A6))))
abbrev Ul (p : Int × Int × Int × (Value × List Tr25)) : Tr25 := (Tr25.of (p.1, p.2.1, p.2.2.1, p.2.2.2.2))
theorem CF : Ex A6 MJ Ul := (Ex.knot RZ (of := Tr25.of) (fun _ => rfl) (fun x => by cases x; rfl) (Ex.pair Ex.rfl' (Ex.pair Ex.rfl' (Ex.pair Ex.rfl' Ex.sliceF))))
theorem ER : Ty Tryd.prog 25 true 4 := ⟨by kernel_rfl, by kernel_rfl⟩
theorem S6 : Bt Tryd.prog 28 [.int .i64 0, .int .i64 0, .int .i64 0, .int .i64 0, .slice none 0 0, .int .i64 0, .int .i64 0, .slice none 0 0] [(0, 1), (1, 4), (5, 1), (6, 1), (7, 1)] := ⟨⟨.agg #[.int .i64 0, .int .i64 0, .int .i64 0, .int .i64 0, .slice none 0 0, .int .i64 0, .int .i64 0, .slice none 0 0], by kernel_rfl, rfl⟩, ⟨_, Dm, fun w => by kernel_rfl⟩⟩
theorem D1 : Ty Tryd.prog 28 true 8 := ⟨by kernel_rfl, by kernel_rfl⟩
abbrev Sy (r : Rp Tr28) : Rp (Int × Tr25 × Int × Int × List Tr28) := (Rp.pair (Rp.int .i64) (Rp.pair A6 (Rp.pair (Rp.int .i64) (Rp.pair (Rp.int .i64) (Rp.slice r)))))
theorem SR : Kt Sy := (Kt.pair (Kt.const _) (Kt.pair (Kt.const _) (Kt.pair (Kt.const _) (Kt.pair (Kt.const _) Kt.hole))))
abbrev BJ : Rp Tr28 := Rp.knot Sy Tr28.un SR
theorem PP {w : World} {A : Nat → Prop} {cs : List Value} {a : Tr28} : BJ.rep w A cs a ↔ (Sy BJ).rep w A cs a.un := Ka SR
abbrev IY (a0 : Tr25) (a1 : Value) : List Value := [.int .i64 a0.un.1, .int .i64 a0.un.2.1, .int .i64 a0.un.2.2.1, a1]
abbrev BU  : List Value := [.int .i64 0, .int .i64 0, .int .i64 0, .int .i64 0, .slice none 0 0, .int .i64 0, .int .i64 0, .slice none 0 0]
def Aj (p0 : Tr25) : Tr28 := Tr28.of (1, p0, 0, 0, ([] : List Tr28))
theorem GM (Y : Nat → Prop) (w0 : World) (v1 : Value) (p0 : Tr25) (r : Tr28) (H : Aj p0 = r) (s_v1 : Sl w0 Y A6 v1 p0.un.2.2.2) :
    Calls Tryd.prog 103 #[.agg #[.int .i64 p0.un.1, .int .i64 p0.un.2.1, .int .i64 p0.un.2.2.1, v1]] w0 fun e w' => ∃ x : Value × Value, e = .returned (.agg #[.int .i64 r.un.1, .int .i64 r.un.2.1.un.1, .int .i64 r.un.2.1.un.2.1, .int .i64 r.un.2.1.un.2.2.1, x.1, .int .i64 r.un.2.2.1, .int .i64 r.un.2.2.2.1, x.2]) ∧ Stw ⟨Y, [], w0⟩ [] [A4 (x.1) A6 r.un.2.1.un.2.2.2, row (x.2) 28 BJ r.un.2.2.2.2] w' := by
 refine enter Tryd.func103 Aa Tryd.ntmps103 Aa fun a F => ?_
 have W := Stw.start Y w0
 obtain ⟨v2, h1, s_v1⟩ := s_v1.ex CF
 have h_v1 := W.nx s_v1
 unfold Aj at H
 refine Ah (Ab ?_)
 refine FH (cs := (IY p0 v1)) F W Aa Aa Aa fun b1 a w F W => ?_
 refine BA (cs := (BU)) F W Aa JT Aa fun b2 a w F W => ?_
 refine Ae (Ac (Ah (Ab ?_)))
 refine ls F W Aa (Aw (v := Value.agg #[.int .i64 p0.un.1, .int .i64 p0.un.2.1, .int .i64 p0.un.2.2.1, v1]) 1 F Aa Aa ER Aa).q fun a w F W => ?_
 refine ls F W Aa (Cx (v := Value.agg #[.int .i64 1, .int .i64 p0.un.1, .int .i64 p0.un.2.1, .int .i64 p0.un.2.2.1, v1, .int .i64 0, .int .i64 0, .slice none 0 0]) S6 F Aa (BQ Aa Aa Aa (BQ Aa Aa Aa CX)) Aa).q fun a w F W => ?_
 refine AP (vs := [.int .i64 1, .int .i64 p0.un.1, .int .i64 p0.un.2.1, .int .i64 p0.un.2.2.1, v1, .int .i64 0, .int .i64 0, .slice none 0 0]) (M' := [(b2, [.int .i64 1, .int .i64 p0.un.1, .int .i64 p0.un.2.1, .int .i64 p0.un.2.2.1, v1, .int .i64 0, .int .i64 0, .slice none 0 0]), (b1, [.int .i64 p0.un.1, .int .i64 p0.un.2.1, .int .i64 p0.un.2.2.1, v1])]) 0 F W Aa Aa Aa D1 Aa Aa Aa (Af Aa (Af Aa (Af Aa (Af Aa (Af h_v1.one (Af Aa (Af Aa (Af Aa BC)))))))) Aa fun w W => ?_
 refine Ae (Ac (Au ?_))
 subst H
 refine AO (.inl Aa) F W Aa (BD 0 F Aa Aa D1 Aa) ?_
 have W := W.note (Sl.hide CF h1 (W.old s_v1))
 have W := W.nilRow 28 BJ
 have W := W.frontZ (i := 1) Aa Aa
 have W := W.sub (M' := []) (Z' := [A4 v1 A6 p0.un.2.2.2, row (Value.slice none 0 0) 28 BJ ([])]) (List.nil_sublist _) (List.Sublist.refl _)
 exact ⟨((v1), (Value.slice none 0 0)), Aa, W⟩
theorem J7 : type_of% Tryd.underlying23 := Tryd.underlying23
theorem SS : Has Tryd.prog 103 := ⟨fun args w => Am Tryd.func103 rfl (by decide) args w⟩
theorem Ny : (Tryd.prog.info? 25).bind (·.zero) = some (.agg #[.int .i64 0, .int .i64 0, .int .i64 0, .slice none 0 0]) := by kernel_rfl
theorem S4 : Has Tryd.prog 88 := ⟨fun args w => Am Tryd.func88 rfl (by decide) args w⟩
theorem Pi : Et Tryd.prog 23 25 4 48 := Et.of J7 (by kernel_rfl) (by kernel_rfl) (by kernel_rfl) (by decide)
theorem S8 : Has Tryd.prog 33 := ⟨fun args w => Am Tryd.func33 rfl (by decide) args w⟩
noncomputable def B2 (p0 : (List (Int × Int × List UInt8 × Int)) × Int) : Option (Int × Int) := (BV p0).bind fun x1 => some (x1.2.2.2, 10)
theorem D3 (Y : Nat → Prop) (w0 : World) (q_p0 : Nat) (v1 : Value) (p0 : (List (Int × Int × List UInt8 × Int)) × Int) (r : (Int × Int)) (H : B2 p0 = some r) (h_v1 : Sl w0 (NX []) AA v1 p0.1) (a_q_p0 : At ⟨Y, [], w0⟩ q_p0 0 [v1, .int .i64 p0.2]) :
    Calls Tryd.prog 60 #[.pointer (some ⟨q_p0, 0, none⟩)] w0 fun e w' => ∃ x : Unit, e = .panicked [{ v := .iface 89 (.agg #[.int .i64 r.1, .int .i64 r.2]), recovered := false }] ∧ Stw ⟨Y, [], w0⟩ [] [] w' := by
 refine enter Tryd.func60 Aa Tryd.ntmps60 Aa fun a F => ?_
 have W := Stw.start Y w0
 unfold B2 at H
 refine Ab ?_
 refine ls F W Aa (Ai F Aa).q fun a w F W => ?_
 obtain ⟨x1, h1, H⟩ := Aq H
 refine ls F W Aa (Bx (v := Value.agg #[.int .i64 x1.1, .int .i64 x1.2.1, .string (bs x1.2.2.1), .int .i64 x1.2.2.2]) F Td Aa (fun w W => C5 any w q_p0 (v1) p0 _ h1 (((AG h_v1) : EB _ _ _ _ _ _) w W).nx (At.re a_q_p0 W))) fun a w F W => ?_
 refine ls F W Aa (Pk (v := Value.int .i64 x1.2.2.2) KW Aa Aa Aa T3 F Aa Aa).q fun a w F W => ?_
 refine ls F W Aa (Cx (v := Value.agg #[.int .i64 x1.2.2.2, .int .i64 10]) Uw F Aa Aa Aa).q fun a w F W => ?_
 refine ls F W Aa (KK T2 F Aa).q fun a w F W => ?_
 refine Pr F Aa ?_
 have H := AR H
 subst H
 refine Bi F ?_
 exact ⟨(), Aa, W⟩
theorem TQ : Has Tryd.prog 60 := ⟨fun args w => Am Tryd.func60 rfl (by decide) args w⟩
noncomputable def Ao (p0 : (List (Int × Int × List UInt8 × Int)) × Int) (p1 : List UInt8) : Option (((List (Int × Int × List UInt8 × Int)) × Int) ⊕ ((Int × Int) × ((List (Int × Int × List UInt8 × Int)) × Int))) := (As p0 p1).bind fun x1 => (if (!x1.1) = true then (B2 x1.2).bind fun x2 => some (.inr (x2, x1.2)) else some (.inl x1.2))
theorem BB (Y : Nat → Prop) (X : List Nat) (w0 : World) (q_p0 : Nat) (v1 : Value) (p0 : (List (Int × Int × List UInt8 × Int)) × Int) (p1 : List UInt8) (r : ((List (Int × Int × List UInt8 × Int)) × Int) ⊕ ((Int × Int) × ((List (Int × Int × List UInt8 × Int)) × Int))) (H : Ao p0 p1 = some r) (hL : Stw ⟨Y, X, w0⟩ [(q_p0, [v1, .int .i64 p0.2])] [row v1 98 AA p0.1] w0) :
    Calls Tryd.prog 105 #[.pointer (some ⟨q_p0, 0, none⟩), .string (bs p1)] w0 fun e w' => D8 r (fun r => ∃ x : Value, e = .returned (.tuple #[]) ∧ Stw ⟨Y, X, w0⟩ [(q_p0, [x, .int .i64 r.2])] [row (x) 98 AA r.1] w') (fun r => ∃ x : Value, e = .panicked [{ v := .iface 89 (.agg #[.int .i64 r.1.1, .int .i64 r.1.2]), recovered := false }] ∧ Stw ⟨Y, X, w0⟩ [(q_p0, [x, .int .i64 r.2.2])] [row (x) 98 AA r.2.1] w') := by
 refine enter Tryd.func105 Aa Tryd.ntmps105 Aa fun a F => ?_
 have W := hL
 unfold Ao at H
 refine Ah (Ab ?_)
 iterate 2 refine ls F W Aa (Ai F Aa).q fun a w F W => ?_
 obtain ⟨x1, h1, H⟩ := Aq H
 refine Bp (Ml := [(q_p0, [v1, .int .i64 p0.2])]) (Zl := [row v1 98 AA p0.1]) (M := []) (Z := []) (β := Value) (rv := fun x => .bool x1.1) (MM := fun x => [(q_p0, [x, .int .i64 x1.2.2])]) (ZZ := fun x => [row x 98 AA x1.2.1]) F W PH Aa Aa (fun hL => Bl _ _ w q_p0 (v1) p0 p1 _ h1 hL) fun x a w F W => ?_
 obtain ⟨v2, rfl⟩ : ∃ y, y = x := ⟨x, rfl⟩
 have W : Stw ⟨Y, X, w0⟩ [(q_p0, [v2, .int .i64 x1.2.2])] [row v2 98 AA x1.2.1] w := W
 refine ls F W Aa (Iu F Aa).q fun a w F W => ?_
 refine Ae (Ac ?_)
 refine AC F Aa (fun hb => ?_) fun hb => ?_
 ·
  have H := Ba hb H
  rw [hb] at F
  clear hb
  refine Ab ?_
  refine ls F W Aa (Ai F Aa).q fun a w F W => ?_
  obtain ⟨x2, h2, H⟩ := Aq H
  refine Cj (Ml := []) (Zl := []) (M := [(q_p0, [v2, .int .i64 x1.2.2])]) (Z := [row v2 98 AA x1.2.1]) (β := Unit) (pv := fun x => .iface 89 (.agg #[.int .i64 x2.1, .int .i64 x2.2])) (MM := fun x => []) (ZZ := fun x => []) F W TQ Aa (fun hL => D3 _ w q_p0 (v2) x1.2 _ h2 ((CB 0 Aa) w W).nx (On W 0 Aa)) fun x w W => ?_
  have W : Stw ⟨Y, X, w0⟩ [(q_p0, [v2, .int .i64 x1.2.2])] [row v2 98 AA x1.2.1] w := W
  have H := AR H
  subst H
  refine Bi F ?_
  exact ⟨(v2), Aa, W⟩
 have H := Bc (by rw [hb]; decide) H
 rw [hb] at F
 clear hb
 refine AM ?_
 have H := AR H
 subst H
 refine PB (.inr Aa) F Aa ?_
 exact ⟨(v2), Aa, W⟩
theorem Lh : Has Tryd.prog 105 := ⟨fun args w => Am Tryd.func105 rfl (by decide) args w⟩
def A3 (p0 : Int × Int × List UInt8 × Int) : Int := (if p0.1 ≠ 1 then (-1) else (if p0.2.2.1 = ([115, 114, 99] : List UInt8) then 0 else (if p0.2.2.1 = ([100, 115, 116] : List UInt8) then 1 else (if p0.2.2.1 = ([107, 105, 110, 100] : List UInt8) then 2 else (if p0.2.2.1 = ([116, 97, 103] : List UInt8) then 3 else (if p0.2.2.1 = ([112, 111, 114, 116] : List UInt8) then 4 else (if p0.2.2.1 = ([115, 119, 105, 116, 99, 104] : List UInt8) then 5 else (-1))))))))
theorem K8 (Y : Nat → Prop) (w0 : World)  (p0 : Int × Int × List UInt8 × Int) (r : Int) (H : A3 p0 = r)  :
    Calls Tryd.prog 119 #[.agg #[.int .i64 p0.1, .int .i64 p0.2.1, .string (bs p0.2.2.1), .int .i64 p0.2.2.2]] w0 fun e w' => e = .returned (.int .i64 r) ∧ Below w0.heap.size w0 w' := by
 refine enter Tryd.func119 Aa Tryd.ntmps119 Aa fun a F => ?_
 have W := Stw.start Y w0
 unfold A3 at H
 refine Ah (Ab ?_)
 refine FH (cs := [.int .i64 p0.1, .int .i64 p0.2.1, .string (bs p0.2.2.1), .int .i64 p0.2.2.2]) F W Aa Aa Aa fun b1 a w F W => ?_
 refine ls F W Aa (Ag F Aa).q fun a w F W => ?_
 refine Ae (Ac (Ah (Ah (Ab ?_))))
 refine ls F W Aa (Al KW Aa Aa Aa T3 F Aa 0 Aa).q fun a w F W => ?_
 refine ls F W Aa (Aw (v := Value.int .i64 p0.1) 0 F Aa Aa T3 Aa).q fun a w F W => ?_
 refine ls F W Aa (Gn F Aa Aa).q fun a w F W => ?_
 refine Ae (Ac ?_)
 refine AC F Aa (fun hb => ?_) fun hb => ?_
 ·
  have H := Ba (BM hb) H
  rw [hb] at F
  clear hb
  refine Ah (Ab ?_)
  refine ls F W Aa (Ag F Aa).q fun a w F W => ?_
  refine Ae (Ac (Au (AV ?_)))
  subst H
  refine AO (.inl Aa) F W Aa (AD F Aa) ?_
  exact ⟨rfl, W.done⟩
 have H := Bc (BL hb) H
 rw [hb] at F
 clear hb
 refine AM (Ac (Ah (Ah (Ab ?_))))
 refine ls F W Aa (Al KW Aa Aa Aa T9 F Aa 2 Aa).q fun a w F W => ?_
 refine ls F W Aa (Aw (v := Value.string (bs p0.2.2.1)) 0 F Aa Aa T9 Aa).q fun a w F W => ?_
 refine Ae (Ac (Bb (Ah (Ab ?_))))
 refine ls F W Aa (KT (l := p0.2.2.1) (m := ([115, 114, 99] : List UInt8)) F Aa Aa).q fun a w F W => ?_
 refine ls F W Aa (Ag F Aa).q fun a w F W => ?_
 refine Ae (Ac ?_)
 refine AC F Aa (fun hb => ?_) fun hb => ?_
 ·
  have H := Ba (BM hb) H
  rw [hb] at F
  clear hb
  refine Ah (Ab ?_)
  refine ls F W Aa (Ag F Aa).q fun a w F W => ?_
  refine Ae (Ac (Au (Be (AV ?_))))
  subst H
  refine AO (.inl Aa) F W Aa (AD F Aa) ?_
  exact ⟨rfl, W.done⟩
 have H := Bc (BL hb) H
 rw [hb] at F
 clear hb
 refine Ah (Ab ?_)
 refine ls F W Aa (KT (l := p0.2.2.1) (m := ([100, 115, 116] : List UInt8)) F Aa Aa).q fun a w F W => ?_
 refine ls F W Aa (Ag F Aa).q fun a w F W => ?_
 refine Ae (Ac ?_)
 refine AC F Aa (fun hb => ?_) fun hb => ?_
 ·
  have H := Ba (BM hb) H
  rw [hb] at F
  clear hb
  refine Ah (Ab ?_)
  refine ls F W Aa (Ag F Aa).q fun a w F W => ?_
  refine Ae (Ac (Au (Be (AV ?_))))
  subst H
  refine AO (.inl Aa) F W Aa (AD F Aa) ?_
  exact ⟨rfl, W.done⟩
 have H := Bc (BL hb) H
 rw [hb] at F
 clear hb
 refine Ah (Ab ?_)
 refine ls F W Aa (KT (l := p0.2.2.1) (m := ([107, 105, 110, 100] : List UInt8)) F Aa Aa).q fun a w F W => ?_
 refine ls F W Aa (Ag F Aa).q fun a w F W => ?_
 refine Ae (Ac ?_)
 refine AC F Aa (fun hb => ?_) fun hb => ?_
 ·
  have H := Ba (BM hb) H
  rw [hb] at F
  clear hb
  refine Ah (Ab ?_)
  refine ls F W Aa (Ag F Aa).q fun a w F W => ?_
  refine Ae (Ac (Au (Be (AV ?_))))
  subst H
  refine AO (.inl Aa) F W Aa (AD F Aa) ?_
  exact ⟨rfl, W.done⟩
 have H := Bc (BL hb) H
 rw [hb] at F
 clear hb
 refine Ah (Ab ?_)
 refine ls F W Aa (KT (l := p0.2.2.1) (m := ([116, 97, 103] : List UInt8)) F Aa Aa).q fun a w F W => ?_
 refine ls F W Aa (Ag F Aa).q fun a w F W => ?_
 refine Ae (Ac ?_)
 refine AC F Aa (fun hb => ?_) fun hb => ?_
 ·
  have H := Ba (BM hb) H
  rw [hb] at F
  clear hb
  refine Ah (Ab ?_)
  refine ls F W Aa (Ag F Aa).q fun a w F W => ?_
  refine Ae (Ac (Au (Be (AV ?_))))
  subst H
  refine AO (.inl Aa) F W Aa (AD F Aa) ?_
  exact ⟨rfl, W.done⟩
 have H := Bc (BL hb) H
 rw [hb] at F
 clear hb
 refine Ah (Ab ?_)
 refine ls F W Aa (KT (l := p0.2.2.1) (m := ([112, 111, 114, 116] : List UInt8)) F Aa Aa).q fun a w F W => ?_
 refine ls F W Aa (Ag F Aa).q fun a w F W => ?_
 refine Ae (Ac ?_)
 refine AC F Aa (fun hb => ?_) fun hb => ?_
 ·
  have H := Ba (BM hb) H
  rw [hb] at F
  clear hb
  refine Ah (Ab ?_)
  refine ls F W Aa (Ag F Aa).q fun a w F W => ?_
  refine Ae (Ac (Au (Be (AV ?_))))
  subst H
  refine AO (.inl Aa) F W Aa (AD F Aa) ?_
  exact ⟨rfl, W.done⟩
 have H := Bc (BL hb) H
 rw [hb] at F
 clear hb
 refine Ah (Ab ?_)
 refine ls F W Aa (KT (l := p0.2.2.1) (m := ([115, 119, 105, 116, 99, 104] : List UInt8)) F Aa Aa).q fun a w F W => ?_
 refine ls F W Aa (Ag F Aa).q fun a w F W => ?_
 refine Ae (Ac ?_)
 refine AC F Aa (fun hb => ?_) fun hb => ?_
 ·
  have H := Ba (BM hb) H
  rw [hb] at F
  clear hb
  refine Ah (Ab ?_)
  refine ls F W Aa (Ag F Aa).q fun a w F W => ?_
  refine Ae (Ac (Au (Be (AV ?_))))
  subst H
  refine AO (.inl Aa) F W Aa (AD F Aa) ?_
  exact ⟨rfl, W.done⟩
 have H := Bc (BL hb) H
 rw [hb] at F
 clear hb
 refine AM (BI (Ac (Ah (Ab ?_))))
 refine ls F W Aa (Ag F Aa).q fun a w F W => ?_
 refine Ae (Ac (Au ?_))
 subst H
 refine AO (.inl Aa) F W Aa (AD F Aa) ?_
 exact ⟨rfl, W.done⟩
theorem Uk : Has Tryd.prog 119 := ⟨fun args w => Am Tryd.func119 rfl (by decide) args w⟩
noncomputable def BE (p0 : (List (Int × Int × List UInt8 × Int)) × Int) (p1 : Int) : Option ((Int × ((List (Int × Int × List UInt8 × Int)) × Int)) ⊕ ((Int × Int) × ((List (Int × Int × List UInt8 × Int)) × Int))) := (BV p0).bind fun x1 => (if (decide ((A3 x1) < 0) || decide (p1 < (A3 x1))) = true then (B2 p0).bind fun x2 => some (.inr (x2, p0)) else some (.inl ((A3 x1), (p0.1, CI (p0.2 + 1)))))
theorem DO (Y : Nat → Prop) (X : List Nat) (w0 : World) (q_p0 : Nat) (v1 : Value) (p0 : (List (Int × Int × List UInt8 × Int)) × Int) (p1 : Int) (r : (Int × ((List (Int × Int × List UInt8 × Int)) × Int)) ⊕ ((Int × Int) × ((List (Int × Int × List UInt8 × Int)) × Int))) (H : BE p0 p1 = some r) (hL : Stw ⟨Y, X, w0⟩ [(q_p0, [v1, .int .i64 p0.2])] [row v1 98 AA p0.1] w0) :
    Calls Tryd.prog 106 #[.pointer (some ⟨q_p0, 0, none⟩), .int .i64 p1] w0 fun e w' => D8 r (fun r => ∃ x : Value, e = .returned (.int .i64 r.1) ∧ Stw ⟨Y, X, w0⟩ [(q_p0, [x, .int .i64 r.2.2])] [row (x) 98 AA r.2.1] w') (fun r => ∃ x : Value, e = .panicked [{ v := .iface 89 (.agg #[.int .i64 r.1.1, .int .i64 r.1.2]), recovered := false }] ∧ Stw ⟨Y, X, w0⟩ [(q_p0, [x, .int .i64 r.2.2])] [row (x) 98 AA r.2.1] w') := by
 refine enter Tryd.func106 Aa Tryd.ntmps106 Aa fun a F => ?_
 have W := hL
 unfold BE at H
 refine Ah (Ab ?_)
 refine ls F W Aa (Ag F Aa).q fun a w F W => ?_
 refine Ae (Ac (Ah (Ab ?_)))
 refine ls F W Aa (Ai F Aa).q fun a w F W => ?_
 obtain ⟨x1, h1, H⟩ := Aq H
 refine ls F W Aa (Bx (v := Value.agg #[.int .i64 x1.1, .int .i64 x1.2.1, .string (bs x1.2.2.1), .int .i64 x1.2.2.2]) F Td Aa (fun w W => C5 any w q_p0 (v1) p0 _ h1 (((CB 0 Aa) : EB _ _ _ _ _ _) w W).nx (On W 0 Aa))) fun a w F W => ?_
 refine ls F W Aa (Bx (v := Value.int .i64 (A3 x1)) F Uk Aa (fun w W => K8 any w x1 _ Aa)) fun a w F W => ?_
 refine ls F W Aa (Ag F Aa).q fun a w F W => ?_
 refine Ae (Ac (Ah ?_))
 refine BK (fun a w => Fr 26 [] [(0, .pointer (some ⟨q_p0, 0, none⟩)), (4, .int .i64 0), (5, .int .i64 (A3 x1)), (15, .bool (decide ((A3 x1) < 0) || decide (p1 < (A3 x1))))] a ∧ Stw ⟨Y, X, w0⟩ [(q_p0, [v1, .int .i64 p0.2])] [row v1 98 AA p0.1] w) ?_ ?_
 ·
  refine Ab ?_
  refine ls F W Aa (Ai F Aa).q fun a w F W => ?_
  refine ls F W Aa (Fx F Aa Aa).q fun a w F W => ?_
  refine ls F W Aa (Ai F Aa).q fun a w F W => ?_
  rcases Bool.eq_false_or_eq_true (decide ((A3 x1) < 0)) with hb0 | hb0
  ·
   rw [hb0] at F
   iterate 3 refine EX F Aa Aa Aa Aa Aa Aa Aa fun a F => ?_
   refine ls F W Aa (A2 F Aa Aa Aa).q fun a w F W => ?_
   refine Ae (Ac ?_)
   exact ⟨F.re ⟨rfl, Aa, Aa, (JQ (by try rw [hb0]; all_goals simp only [JV])), trivial⟩, W⟩
  rw [hb0] at F
  iterate 2 refine Bn F W (Ak F Aa Aa Aa Aa) Aa (Ay Aa) (Ai F Aa).q fun a w F W => ?_
  refine Bn F W (Ak F Aa Aa Aa Aa) Aa (Ay Aa) (KQ F Aa Aa).q fun a w F W => ?_
  refine ls F W Aa (Ax F Aa Aa Aa).q fun a w F W => ?_
  refine Ae (Ac ?_)
  exact ⟨F.re ⟨rfl, Aa, Aa, (JQ (by try rw [hb0]; all_goals simp only [JV])), trivial⟩, W⟩
 rintro a w ⟨F, W⟩
 refine AC F Aa (fun hb => ?_) fun hb => ?_
 ·
  have H := Ba hb H
  rw [hb] at F
  clear hb
  refine Ab ?_
  refine ls F W Aa (Ai F Aa).q fun a w F W => ?_
  obtain ⟨x2, h2, H⟩ := Aq H
  refine Cj (Ml := []) (Zl := []) (M := [(q_p0, [v1, .int .i64 p0.2])]) (Z := [row v1 98 AA p0.1]) (β := Unit) (pv := fun x => .iface 89 (.agg #[.int .i64 x2.1, .int .i64 x2.2])) (MM := fun x => []) (ZZ := fun x => []) F W TQ Aa (fun hL => D3 _ w q_p0 (v1) p0 _ h2 ((CB 0 Aa) w W).nx (On W 0 Aa)) fun x w W => ?_
  have W : Stw ⟨Y, X, w0⟩ [(q_p0, [v1, .int .i64 p0.2])] [row v1 98 AA p0.1] w := W
  refine BW ?_
  have H := AR H
  subst H
  refine Bi F ?_
  exact ⟨(v1), Aa, W⟩
 have H := Bc (by rw [hb]; decide) H
 rw [hb] at F
 clear hb
 refine AM (Ac (Ah (Ab ?_)))
 refine ls F W Aa (Ai F Aa).q fun a w F W => ?_
 refine ls F W Aa (Cq F Aa).q fun a w F W => ?_
 refine ls F W Aa (Al Nk Aa Aa Aa T3 F Aa 1 Aa).q fun a w F W => ?_
 refine ls F W Aa (Aw (v := Value.int .i64 p0.2) 0 F Aa Aa T3 Aa).q fun a w F W => ?_
 refine ls F W Aa (Fe F Aa Aa Aa).q fun a w F W => ?_
 refine ls F W Aa (Cq F Aa).q fun a w F W => ?_
 refine ls F W Aa (Al Nk Aa Aa Aa T3 F Aa 1 Aa).q fun a w F W => ?_
 refine AP (vs := [.int .i64 (CI (p0.2 + 1))]) (M' := [(q_p0, [v1, .int .i64 (CI (p0.2 + 1))])]) 0 F W Aa Aa Aa T3 Aa Aa Aa Aa Aa fun w W => ?_
 refine Ae (Ac (Ah (Ab ?_)))
 refine ls F W Aa (Ai F Aa).q fun a w F W => ?_
 refine ls F W Aa (Ag F Aa).q fun a w F W => ?_
 refine Ae (Ac (Au ?_))
 have H := AR H
 subst H
 refine AO (.inl Aa) F W Aa (AD F Aa) ?_
 exact ⟨(v1), Aa, W⟩
theorem Rr : Has Tryd.prog 106 := ⟨fun args w => Am Tryd.func106 rfl (by decide) args w⟩
noncomputable def AQ (p0 : (List (Int × Int × List UInt8 × Int)) × Int) : Option ((Int × ((List (Int × Int × List UInt8 × Int)) × Int)) ⊕ ((Int × Int) × ((List (Int × Int × List UInt8 × Int)) × Int))) := (BV p0).bind fun x1 => (if x1.1 ≠ 2 then (B2 p0).bind fun x2 => some (.inr (x2, p0)) else some (.inl (x1.2.1, (p0.1, CI (p0.2 + 1)))))
theorem Dz (Y : Nat → Prop) (X : List Nat) (w0 : World) (q_p0 : Nat) (v1 : Value) (p0 : (List (Int × Int × List UInt8 × Int)) × Int) (r : (Int × ((List (Int × Int × List UInt8 × Int)) × Int)) ⊕ ((Int × Int) × ((List (Int × Int × List UInt8 × Int)) × Int))) (H : AQ p0 = some r) (hL : Stw ⟨Y, X, w0⟩ [(q_p0, [v1, .int .i64 p0.2])] [row v1 98 AA p0.1] w0) :
    Calls Tryd.prog 107 #[.pointer (some ⟨q_p0, 0, none⟩)] w0 fun e w' => D8 r (fun r => ∃ x : Value, e = .returned (.int .i64 r.1) ∧ Stw ⟨Y, X, w0⟩ [(q_p0, [x, .int .i64 r.2.2])] [row (x) 98 AA r.2.1] w') (fun r => ∃ x : Value, e = .panicked [{ v := .iface 89 (.agg #[.int .i64 r.1.1, .int .i64 r.1.2]), recovered := false }] ∧ Stw ⟨Y, X, w0⟩ [(q_p0, [x, .int .i64 r.2.2])] [row (x) 98 AA r.2.1] w') := by
 refine enter Tryd.func107 Aa Tryd.ntmps107 Aa fun a F => ?_
 have W := hL
 unfold AQ at H
 refine Ah (Ab ?_)
 refine ls F W Aa (Ag F Aa).q fun a w F W => ?_
 refine Ae (Ac (Ah (Ab ?_)))
 refine ls F W Aa (Ai F Aa).q fun a w F W => ?_
 obtain ⟨x1, h1, H⟩ := Aq H
 refine ls F W Aa (Bx (v := Value.agg #[.int .i64 x1.1, .int .i64 x1.2.1, .string (bs x1.2.2.1), .int .i64 x1.2.2.2]) F Td Aa (fun w W => C5 any w q_p0 (v1) p0 _ h1 (((CB 0 Aa) : EB _ _ _ _ _ _) w W).nx (On W 0 Aa))) fun a w F W => ?_
 refine BA (cs := [.int .i64 0, .int .i64 0, .string (bs ([] : List UInt8)), .int .i64 0]) F W Aa R1 Aa fun b1 a w F W => ?_
 refine AP (vs := [.int .i64 x1.1, .int .i64 x1.2.1, .string (bs x1.2.2.1), .int .i64 x1.2.2.2]) (M' := [(b1, [.int .i64 x1.1, .int .i64 x1.2.1, .string (bs x1.2.2.1), .int .i64 x1.2.2.2]), (q_p0, [v1, .int .i64 p0.2])]) 0 F W Aa Aa Aa NA Aa Aa Aa Aa Aa fun w W => ?_
 refine Ae (Ac (Ah (Ah (Ab ?_))))
 refine ls F W Aa (Al KW Aa Aa Aa T3 F Aa 0 Aa).q fun a w F W => ?_
 refine ls F W Aa (Aw (v := Value.int .i64 x1.1) 0 F Aa Aa T3 Aa).q fun a w F W => ?_
 refine ls F W Aa (Gn F Aa Aa).q fun a w F W => ?_
 refine Ae (Ac ?_)
 refine AC F Aa (fun hb => ?_) fun hb => ?_
 ·
  have H := Ba (BM hb) H
  rw [hb] at F
  clear hb
  refine Ab ?_
  refine ls F W Aa (Ai F Aa).q fun a w F W => ?_
  obtain ⟨x2, h2, H⟩ := Aq H
  refine Cj (Ml := []) (Zl := []) (M := [(b1, [.int .i64 x1.1, .int .i64 x1.2.1, .string (bs x1.2.2.1), .int .i64 x1.2.2.2]), (q_p0, [v1, .int .i64 p0.2])]) (Z := [row v1 98 AA p0.1]) (β := Unit) (pv := fun x => .iface 89 (.agg #[.int .i64 x2.1, .int .i64 x2.2])) (MM := fun x => []) (ZZ := fun x => []) F W TQ Aa (fun hL => D3 _ w q_p0 (v1) p0 _ h2 ((CB 0 Aa) w W).nx (On W 1 Aa)) fun x w W => ?_
  have W : Stw ⟨Y, X, w0⟩ [(b1, [.int .i64 x1.1, .int .i64 x1.2.1, .string (bs x1.2.2.1), .int .i64 x1.2.2.2]), (q_p0, [v1, .int .i64 p0.2])] [row v1 98 AA p0.1] w := W
  refine BW ?_
  have H := AR H
  subst H
  refine Bi F ?_
  have W := W.frontM (i := 1) Aa Aa
  have W := W.sub (M' := [(q_p0, [v1, .int .i64 p0.2])]) (Z' := [row v1 98 AA p0.1]) (List.Sublist.cons_cons _ (List.nil_sublist _)) (List.Sublist.refl _)
  exact ⟨(v1), Aa, W⟩
 have H := Bc (BL hb) H
 rw [hb] at F
 clear hb
 refine AM (Ac (Ah (Ab ?_)))
 refine ls F W Aa (Ai F Aa).q fun a w F W => ?_
 refine ls F W Aa (Cq F Aa).q fun a w F W => ?_
 refine ls F W Aa (Al Nk Aa Aa Aa T3 F Aa 1 Aa).q fun a w F W => ?_
 refine ls F W Aa (Aw (v := Value.int .i64 p0.2) 1 F Aa Aa T3 Aa).q fun a w F W => ?_
 refine ls F W Aa (Fe F Aa Aa Aa).q fun a w F W => ?_
 refine ls F W Aa (Cq F Aa).q fun a w F W => ?_
 refine ls F W Aa (Al Nk Aa Aa Aa T3 F Aa 1 Aa).q fun a w F W => ?_
 refine AP (vs := [.int .i64 (CI (p0.2 + 1))]) (M' := [(b1, [.int .i64 x1.1, .int .i64 x1.2.1, .string (bs x1.2.2.1), .int .i64 x1.2.2.2]), (q_p0, [v1, .int .i64 (CI (p0.2 + 1))])]) 1 F W Aa Aa Aa T3 Aa Aa Aa Aa Aa fun w W => ?_
 refine Ae (Ac (Ah (Ab ?_)))
 refine ls F W Aa (Al KW Aa Aa Aa T3 F Aa 1 Aa).q fun a w F W => ?_
 refine ls F W Aa (Aw (v := Value.int .i64 x1.2.1) 0 F Aa Aa T3 Aa).q fun a w F W => ?_
 refine ls F W Aa (Ag F Aa).q fun a w F W => ?_
 refine Ae (Ac (Au ?_))
 have H := AR H
 subst H
 refine AO (.inl Aa) F W Aa (AD F Aa) ?_
 have W := W.frontM (i := 1) Aa Aa
 have W := W.sub (M' := [(q_p0, [v1, .int .i64 (CI (p0.2 + 1))])]) (Z' := [row v1 98 AA p0.1]) (List.Sublist.cons_cons _ (List.nil_sublist _)) (List.Sublist.refl _)
 exact ⟨(v1), Aa, W⟩
end Go.Proofs.YtlgjpoapclifbaaDoor
