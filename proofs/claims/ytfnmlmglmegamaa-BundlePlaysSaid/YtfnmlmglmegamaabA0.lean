/- The functions of layer 12, FK. Conditions: none. -/
import Derived.Test.YtfnmlmglmegamaaRows
import Derived.Test.YtfnmlmglmegamaabOT
import Derived.Test.YtfnmlmglmegamaabQT
import Derived.Test.YtfnmlmglmegamaabOD
import Derived.Test.YtfnmlmglmegamaabPB
import Derived.Test.YtfnmlmglmegamaabXC
import Derived.Test.YtfnmlmglmegamaabOY
import Derived.Test.YtfnmlmglmegamaabOC
import Derived.Test.YtfnmlmglmegamaabVC
import Derived.Test.YtfnmlmglmegamaabXC
import Derived.Test.YtfnmlmglmegamaabOX
namespace Go.Proofs.Ytfnmlmglmegamaa
open Go Go.RowKit
set_option linter.unusedVariables false
set_option linter.unusedSimpArgs false
set_option maxRecDepth 20000
def SX : Tt := ([(31, [(0, false, 1), (1, false, 1), (2, false, 1)]), (34, [(0, false, 1), (1, true, 4), (5, true, 4)]), (37, [(0, false, 1), (1, true, 9), (10, false, 1)]), (39, [(0, false, 1), (1, true, 11), (12, false, 1)]), (41, [(0, false, 1), (1, false, 1), (2, true, 13)]), (68, [(0, false, 1), (1, true, 13)]), (71, [(0, false, 1), (1, true, 224)]), (76, [(0, false, 1), (1, true, 13)]), (88, [(0, false, 1), (1, false, 1), (2, false, 1)])], [(3, false, 1), (4, false, 1), (29, false, 1), (32, true, 4), (34, true, 9), (35, false, 1), (37, true, 11), (39, true, 13), (88, true, 3)])
theorem tk : TtOk Try.prog SX := ⟨by kernel_rfl, by kernel_rfl⟩
theorem E7 : type_of% Try.underlying23 := Try.underlying23
theorem R4 : type_of% Try.underlying32 := Try.underlying32
abbrev RN : Rp (Int × Int × Int × Int) := (Rp.pair (Rp.int .i64) (Rp.pair (Rp.int .i64) (Rp.pair (Rp.int .i64) (Rp.int .i64))))
abbrev RO : Rp (Int × (Int × Int × Int × Int) × (Int × Int × Int × Int)) := (Rp.pair (Rp.int .i64) (Rp.pair RN RN))
abbrev Bk : Rp (Int × Int × Int) := (Rp.pair (Rp.int .i64) (Rp.pair (Rp.int .i64) (Rp.int .i64)))
abbrev AK : Rp (Int × (Int × (Int × Int × Int × Int) × (Int × Int × Int × Int)) × (List (Int × Int × Int))) := (Rp.pair (Rp.int .i64) (Rp.pair RO (Rp.slice Bk)))
abbrev EQ : Rp (Int × (Int × (Int × (Int × Int × Int × Int) × (Int × Int × Int × Int)) × (List (Int × Int × Int))) × Bool) := (Rp.pair (Rp.int .i64) (Rp.pair AK Rp.bool))
abbrev RI : Rp (Int × Int × (Int × (Int × (Int × (Int × Int × Int × Int) × (Int × Int × Int × Int)) × (List (Int × Int × Int))) × Bool)) := (Rp.pair (Rp.int .i64) (Rp.pair (Rp.int .i64) EQ))
abbrev C4 : Rp (Int × (Int × (Int × Int × Int × Int) × (Int × Int × Int × Int)) × (Value × List (Int × Int × Int))) := (Rp.pair (Rp.int .i64) (Rp.pair RO (Rp.vsl Bk)))
abbrev Ic : Rp (Int × (Int × (Int × (Int × Int × Int × Int) × (Int × Int × Int × Int)) × (Value × List (Int × Int × Int))) × Bool) := (Rp.pair (Rp.int .i64) (Rp.pair C4 Rp.bool))
abbrev JL : Rp (Int × Int × (Int × (Int × (Int × (Int × Int × Int × Int) × (Int × Int × Int × Int)) × (Value × List (Int × Int × Int))) × Bool)) := (Rp.pair (Rp.int .i64) (Rp.pair (Rp.int .i64) Ic))
abbrev Sb (p : Int × Int × (Int × (Int × (Int × (Int × Int × Int × Int) × (Int × Int × Int × Int)) × (Value × List (Int × Int × Int))) × Bool)) : Int × Int × (Int × (Int × (Int × (Int × Int × Int × Int) × (Int × Int × Int × Int)) × (List (Int × Int × Int))) × Bool) := (p.1, p.2.1, (p.2.2.1, (p.2.2.2.1.1, p.2.2.2.1.2.1, p.2.2.2.1.2.2.2), p.2.2.2.2))
theorem Rc : Ex RI JL Sb := (Ex.pair Ex.rfl' (Ex.pair Ex.rfl' (Ex.pair Ex.rfl' (Ex.pair (Ex.pair Ex.rfl' (Ex.pair Ex.rfl' Ex.sliceF)) Ex.rfl'))))
abbrev R5 (p : Int × (Int × (Int × Int × Int × Int) × (Int × Int × Int × Int)) × (Value × List (Int × Int × Int))) : Int × (Int × (Int × Int × Int × Int) × (Int × Int × Int × Int)) × (List (Int × Int × Int)) := (p.1, p.2.1, p.2.2.2)
theorem A4 : Ex AK C4 R5 := (Ex.pair Ex.rfl' (Ex.pair Ex.rfl' Ex.sliceF))
def S6 (a : Int × Int × Int × Int) : List Value := [.int .i64 a.1, .int .i64 a.2.1, .int .i64 a.2.2.1, .int .i64 a.2.2.2]
theorem SM : Fl RN S6 := (Fl.pair Fl.int (Fl.pair Fl.int (Fl.pair Fl.int Fl.int)))
def S3 (a : Int × (Int × Int × Int × Int) × (Int × Int × Int × Int)) : List Value := [.int .i64 a.1, .int .i64 a.2.1.1, .int .i64 a.2.1.2.1, .int .i64 a.2.1.2.2.1, .int .i64 a.2.1.2.2.2, .int .i64 a.2.2.1, .int .i64 a.2.2.2.1, .int .i64 a.2.2.2.2.1, .int .i64 a.2.2.2.2.2]
theorem RC : Fl RO S3 := (Fl.pair Fl.int (Fl.pair SM SM))
abbrev Cy (a : Int × (Int × (Int × Int × Int × Int) × (Int × Int × Int × Int)) × (Value × List (Int × Int × Int))) : List Value := [.int .i64 a.1, .int .i64 a.2.1.1, .int .i64 a.2.1.2.1.1, .int .i64 a.2.1.2.1.2.1, .int .i64 a.2.1.2.1.2.2.1, .int .i64 a.2.1.2.1.2.2.2, .int .i64 a.2.1.2.2.1, .int .i64 a.2.1.2.2.2.1, .int .i64 a.2.1.2.2.2.2.1, .int .i64 a.2.1.2.2.2.2.2, a.2.2.1]
theorem EG : C3 C4 Cy := (C3.pair Fl.int.to (C3.pair RC.to C3.vsl))
theorem EL : Et Try.prog 23 37 11 104 := Et.of E7 (by kernel_rfl) (by kernel_rfl) (by kernel_rfl) (by decide)
theorem EM : Ty Try.prog 37 true 11 := ⟨by kernel_rfl, by kernel_rfl⟩
theorem T3 : Ty Try.prog 3 false 1 := ⟨by kernel_rfl, by kernel_rfl⟩
theorem H2 : Ty Try.prog 34 true 9 := ⟨by kernel_rfl, by kernel_rfl⟩
theorem MO : Try.prog.follows .mixedOrders = true := by kernel_rfl
theorem Hk : Ty Try.prog 32 true 4 := ⟨by kernel_rfl, by kernel_rfl⟩
theorem DA : Ar Try.prog 32 4 3 1 := ⟨R4, by kernel_rfl⟩
def BN (p0 : Int) : Int := (if p0 = 2 then 15 else (if (decide (p0 = 0) || (decide (p0 = 1) || decide (p0 = 3))) = true then 255 else 0))
theorem In (Y : Nat → Prop) (w0 : World)  (p0 : Int) (r : Int) (H : BN p0 = r)  :
    Calls Try.prog 54 #[.int .i64 p0] w0 fun e w' => e = .returned (.int .i64 r) ∧ Below w0.heap.size w0 w' := by
 refine enter Try.func54 Aa Try.ntmps54 Aa fun a F => ?_
 have W := Stw.start Y w0
 unfold BN at H
 refine vc tk 12 F W fun a w F W => ?_
 refine Bi F Aa H (fun F H => ?_) fun F H => ?_
 ·
  refine vc tk 5 F W fun a w F W => ?_
  refine Al (Aq ?_)
  subst H
  refine Aw (.inl Aa) F W Aa (Ai F Aa) ?_
  exact ⟨rfl, W.done⟩
 refine D6 tk 3 F W fun a w F W => ?_
 refine Au (fun a w => Fr 15 [] [(2, .int .i64 0), (14, .bool (decide (p0 = 0) || (decide (p0 = 1) || decide (p0 = 3))))] a ∧ Stw ⟨Y, [], w0⟩ [] [] w) ?_ ?_
 ·
  refine vc tk 4 F W fun a w F W => ?_
  rcases Bool.eq_false_or_eq_true (decide (p0 = 0)) with hb0 | hb0
  ·
   rw [hb0] at F
   refine vl tk 8 F W fun a w F W => ?_
   refine Ad ?_
   exact ⟨F.re ⟨rfl, (Ev (by try rw [hb0]; all_goals simp only [Es])), trivial⟩, W⟩
  rw [hb0] at F
  refine vl tk 4 F W fun a w F W => ?_
  rcases Bool.eq_false_or_eq_true (decide (p0 = 1)) with hb1 | hb1
  ·
   rw [hb1] at F
   refine vl tk 4 F W fun a w F W => ?_
   refine Ad ?_
   exact ⟨F.re ⟨rfl, (Ev (by try rw [hb0]; try rw [hb1]; all_goals simp only [Es])), trivial⟩, W⟩
  rw [hb1] at F
  refine vl tk 4 F W fun a w F W => ?_
  refine Ad ?_
  exact ⟨F.re ⟨rfl, (Ev (by try rw [hb0]; try rw [hb1]; all_goals simp only [Es])), trivial⟩, W⟩
 rintro a w ⟨F, W⟩
 refine BE F Aa H (fun F H => ?_) fun F H => ?_
 ·
  refine vc tk 5 F W fun a w F W => ?_
  refine Al (Aq ?_)
  subst H
  refine Aw (.inl Aa) F W Aa (Ai F Aa) ?_
  exact ⟨rfl, W.done⟩
 refine D6 tk 7 F W fun a w F W => ?_
 refine Al ?_
 subst H
 refine Aw (.inl Aa) F W Aa (Ai F Aa) ?_
 exact ⟨rfl, W.done⟩
theorem Sk : Has Try.prog 54 := BV Try.func54
noncomputable def FI (p1 : Int) : (Int × Int) → Option ((Int × Int) ⊕ Int)
  | (x2, x3) => (if x3 < p1 then some (.inl (Cc (Int.tdiv x2 2), Cc (x3 + 1))) else some (.inr x2))
noncomputable def C2 (p0 : Int) (p1 : Int) : Option Int := (AX (FI p1) (p0, 0)).bind fun x1 => some (Int.tmod x1 2)
theorem CU (Y : Nat → Prop) (w0 : World)  (p0 : Int) (p1 : Int) (r : Int) (H : C2 p0 p1 = some r)  :
    Calls Try.prog 55 #[.int .i64 p0, .int .i64 p1] w0 fun e w' => e = .returned (.int .i64 r) ∧ Below w0.heap.size w0 w' := by
 refine enter Try.func55 Aa Try.ntmps55 Aa fun a F => ?_
 have W := Stw.start Y w0
 unfold C2 at H
 refine vc tk 5 F W fun a w F W => ?_
 obtain ⟨o1, G1, K1⟩ := Af H
 refine Au (fun a w => ∃ x1 : Int, some (x1) = some o1 ∧ Fr 15 [] [(0, .int .i64 x1), (4, .int .i64 0)] a ∧ Stw ⟨Y, [], w0⟩ [] [] w) ?_ ?_
 ·
  have H := G1
  clear G1 K1
  refine vc tk 6 F W fun a w F W => ?_
  refine BA H (fun s a w => Fr 15 [] [(0, .int .i64 s.1), (1, .int .i64 p1), (4, .int .i64 0), (5, .int .i64 s.2)] a ∧ Stw ⟨Y, [], w0⟩ [] [] w) ⟨F.ra Aa, W⟩ fun s o a w H L2 hR => ?_
  obtain ⟨x2, x3⟩ := s
  obtain ⟨F, W⟩ := hR
  have F : Fr 15 [] [(0, .int .i64 x2), (1, .int .i64 p1), (4, .int .i64 0), (5, .int .i64 x3)] a := F
  have W : Stw ⟨Y, [], w0⟩ [] [] w := W
  rw [FI] at H
  refine vc tk 8 F W fun a w F W => ?_
  refine Bi F Aa H (fun F H => ?_) fun F H => ?_
  ·
   refine D6 tk 6 F W fun a w F W => ?_
   refine ls F W Aa (RD F Aa Aa (by decide) Aa).q fun a w F W => ?_
   refine vl tk 2 F W fun a w F W => ?_
   refine AF ?_
   refine vn tk 5 F W fun a w F W => ?_
   refine Ad ?_
   exact ⟨_, H, F.ra Aa, W⟩
  refine Bm ?_
  iterate 2 refine BU ?_
  refine Bp (Ad ?_)
  have H := L2 _ H
  exact ⟨_, H, F.ra Aa, W⟩
 rintro a w ⟨x1, hj, F, W⟩
 have hj := Av hj
 subst hj
 have H := K1
 clear G1 K1
 refine vc tk 3 F W fun a w F W => ?_
 refine ls F W Aa (Rx F Aa Aa (by decide) Aa).q fun a w F W => ?_
 refine BJ tk 3 F W fun a w F W => ?_
 refine Al ?_
 have H := Av H
 subst H
 refine Aw (.inl Aa) F W Aa (Ai F Aa) ?_
 exact ⟨rfl, W.done⟩
theorem Eb : type_of% Try.underlying34 := Try.underlying34
theorem Nc : Has Try.prog 55 := BV Try.func55
abbrev EH (a0 : Int × (Int × Int × Int × Int) × (Int × Int × Int × Int)) : List Value := [.int .i64 a0.1, .int .i64 a0.2.1.1, .int .i64 a0.2.1.2.1, .int .i64 a0.2.1.2.2.1, .int .i64 a0.2.1.2.2.2, .int .i64 a0.2.2.1, .int .i64 a0.2.2.2.1, .int .i64 a0.2.2.2.2.1, .int .i64 a0.2.2.2.2.2]
abbrev Ii (a0 : Nat) (a1 : Int × (Int × Int × Int × Int) × (Int × Int × Int × Int)) : List (Nat × List Value) := [(a0, [.int .i64 a1.1, .int .i64 a1.2.1.1, .int .i64 a1.2.1.2.1, .int .i64 a1.2.1.2.2.1, .int .i64 a1.2.1.2.2.2, .int .i64 a1.2.2.1, .int .i64 a1.2.2.2.1, .int .i64 a1.2.2.2.2.1, .int .i64 a1.2.2.2.2.2])]
noncomputable def Fm (p0 : Int × (Int × Int × Int × Int) × (Int × Int × Int × Int)) (x1 : Int) : Int → Option (Int ⊕ (Unit ⊕ (Int ⊕ (Unit ⊕ Bool))))
  | x7 => (if x7 < 8 then (ix ([p0.2.1.1, p0.2.1.2.1, p0.2.1.2.2.1, p0.2.1.2.2.2] : List Int) x1).bind fun x8 => (C2 x8 x7).bind fun x9 => (ix ([p0.2.2.1, p0.2.2.2.1, p0.2.2.2.2.1, p0.2.2.2.2.2] : List Int) x1).bind fun x10 => (C2 x10 x7).bind fun x11 => (if x11 < x9 then some (.inr (.inr (.inr (.inr false)))) else some (.inl (Cc (x7 + 1)))) else some (.inr (.inl ())))
noncomputable def Fk (p0 : Int × (Int × Int × Int × Int) × (Int × Int × Int × Int)) : Int → Option (Int ⊕ (Unit ⊕ Bool))
  | x1 => (if x1 < 4 then FR (((ix ([p0.2.2.1, p0.2.2.2.1, p0.2.2.2.2.1, p0.2.2.2.2.2] : List Int) x1).bind fun x3 => (if x3 < 0 then some true else (ix ([p0.2.2.1, p0.2.2.2.1, p0.2.2.2.2.1, p0.2.2.2.2.2] : List Int) x1).bind fun x4 => (if (BN x1) < x4 then some true else (ix ([p0.2.1.1, p0.2.1.2.1, p0.2.1.2.2.1, p0.2.1.2.2.2] : List Int) x1).bind fun x5 => (if x5 < 0 then some true else (ix ([p0.2.1.1, p0.2.1.2.1, p0.2.1.2.2.1, p0.2.1.2.2.2] : List Int) x1).bind fun x6 => some (decide ((BN x1) < x6)))))).bind fun x2 => (if x2 = true then some (.inr (.inr (.inr false))) else AX (Fm p0 x1) 0)) fun _ => some (.inl (Cc (x1 + 1))) else some (.inr (.inl ())))
noncomputable def Gg (p0 : Int × (Int × Int × Int × Int) × (Int × Int × Int × Int)) : Option Bool := (if (decide (p0.1 < (-1)) || decide (7 < p0.1)) = true then some false else FR (AX (Fk p0) 0) fun _ => some true)
theorem KW (Y : Nat → Prop) (w0 : World)  (p0 : Int × (Int × Int × Int × Int) × (Int × Int × Int × Int)) (r : Bool) (H : Gg p0 = some r)  :
    Calls Try.prog 38 #[.agg #[.int .i64 p0.1, .int .i64 p0.2.1.1, .int .i64 p0.2.1.2.1, .int .i64 p0.2.1.2.2.1, .int .i64 p0.2.1.2.2.2, .int .i64 p0.2.2.1, .int .i64 p0.2.2.2.1, .int .i64 p0.2.2.2.2.1, .int .i64 p0.2.2.2.2.2]] w0 fun e w' => e = .returned (.bool r) ∧ Below w0.heap.size w0 w' := by
 refine enter Try.func38 Aa Try.ntmps38 Aa fun a F => ?_
 have W := Stw.start Y w0
 unfold Gg at H
 refine vc tk 2 F W fun a w F W => ?_
 refine BR (cs := (EH p0)) F W Aa Aa Aa fun b1 a w F W => ?_
 refine BJ tk 4 F W fun a w F W => ?_
 refine Au (fun a w => Fr 64 [] [(1, .pointer (some ⟨b1, 0, none⟩)), (2, .bool false), (12, .bool (decide (p0.1 < (-1)) || decide (7 < p0.1)))] a ∧ Stw ⟨Y, [], w0⟩ (Ii b1 p0) [] w) ?_ ?_
 ·
  refine Fq tk 5 [0] F W (ai fun a w F W => ?_)
  rcases Bool.eq_false_or_eq_true (decide (p0.1 < (-1))) with hb0 | hb0
  ·
   rw [hb0] at F
   refine vl tk 5 F W fun a w F W => ?_
   refine Ad ?_
   exact ⟨F.re ⟨rfl, Aa, (Ev (by try rw [hb0]; all_goals simp only [Es])), trivial⟩, W⟩
  rw [hb0] at F
  refine Fu tk 5 [0] F W (ai fun a w F W => ?_)
  refine Ad ?_
  exact ⟨F.re ⟨rfl, Aa, (Ev (by try rw [hb0]; all_goals simp only [Es])), trivial⟩, W⟩
 rintro a w ⟨F, W⟩
 refine BE F Aa H (fun F H => ?_) fun F H => ?_
 ·
  refine vc tk 5 F W fun a w F W => ?_
  refine Al (Aq ?_)
  have H := Av H
  subst H
  refine Aw (.inl Aa) F W Aa (Ai F Aa) ?_
  exact ⟨rfl, W.done⟩
 refine AC (Ad ?_)
 obtain ⟨o1, G1, K1, L1⟩ := H1 H
 refine Au (fun a w => some (Sum.inl ()) = some o1 ∧ Fr 64 [] [(2, .bool false)] a ∧ Stw ⟨Y, [], w0⟩ (Ii b1 p0) [] w) ?_ ?_
 ·
  have H := G1
  clear G1 K1
  refine vc tk 6 F W fun a w F W => ?_
  refine BA H (fun s a w => Fr 64 [] [(1, .pointer (some ⟨b1, 0, none⟩)), (2, .bool false), (3, .int .i64 s)] a ∧ Stw ⟨Y, [], w0⟩ (Ii b1 p0) [] w) ⟨F.ra Aa, W⟩ fun s o a w H L2 hR => ?_
  obtain ⟨x1, rfl⟩ : ∃ x, x = s := ⟨s, rfl⟩
  obtain ⟨F, W⟩ := hR
  have F : Fr 64 [] [(1, .pointer (some ⟨b1, 0, none⟩)), (2, .bool false), (3, .int .i64 x1)] a := F
  have W : Stw ⟨Y, [], w0⟩ (Ii b1 p0) [] w := W
  rw [Fk] at H
  refine vc tk 7 F W fun a w F W => ?_
  refine Bi F Aa H (fun F H => ?_) fun F H => ?_
  ·
   refine AC (Ad ?_)
   obtain ⟨o3, G3, K3, L3⟩ := H1 H
   refine Au (fun a w => some (Sum.inl ()) = some o3 ∧ Fr 64 [] [(1, .pointer (some ⟨b1, 0, none⟩)), (2, .bool false), (3, .int .i64 x1)] a ∧ Stw ⟨Y, [], w0⟩ (Ii b1 p0) [] w) ?_ ?_
   ·
    have H := G3
    clear G3 K3
    refine vc tk 2 F W fun a w F W => ?_
    obtain ⟨o4, G4, K4⟩ := Af H
    refine Au (fun a w => ∃ x2 : Bool, some (x2) = some o4 ∧ Fr 64 [] [(1, .pointer (some ⟨b1, 0, none⟩)), (2, .bool false), (3, .int .i64 x1), (46, .bool x2)] a ∧ Stw ⟨Y, [], w0⟩ (Ii b1 p0) [] w) ?_ ?_
    ·
     have H := G4
     clear G4 K4
     refine Ck W MO (by kernel_rfl) ?_
     refine qs F Aa (Am F Aa).q fun a F => ?_
     refine qs F Aa (Aj Eb Aa Aa Aa Hk F Aa 5 Aa).q fun a F => ?_
     obtain ⟨x3, h1, H⟩ := Af H
     refine qs F Aa (A7 (5 + (x1).toNat * 1) DA F Aa Aa Aa h1 Aa).q fun a F => ?_
     refine qs F Aa (Bn (v := Value.int .i64 x3) 0 F Aa Aa T3 (B1 (base := 5) (m := 4) (l := [p0.2.2.1, p0.2.2.2.1, p0.2.2.2.2.1, p0.2.2.2.2.2]) (enc := Value.int .i64) Aa h1)).q fun a F => ?_
     refine qs F Aa (JV F Aa Aa).q fun a F => ?_
     refine qs F Aa (Am F Aa).q fun a F => ?_
     rcases Bool.eq_false_or_eq_true (decide (x3 < 0)) with hb | hb
     ·
      have H := B4 (Cn hb) H
      rw [hb] at F
      clear hb
      iterate 7 refine AP F (AB F Aa Aa Aa Aa Aa) Aa Aa fun a F => ?_
      refine qs F Aa (BH F Aa Aa Aa).q fun a F => ?_
      refine qs F Aa (Am F Aa).q fun a F => ?_
      iterate 5 refine AP F (AB F Aa Aa Aa Aa Aa) Aa Aa fun a F => ?_
      refine qs F Aa (BH F Aa Aa Aa).q fun a F => ?_
      refine qs F Aa (Am F Aa).q fun a F => ?_
      iterate 7 refine AP F (AB F Aa Aa Aa Aa Aa) Aa Aa fun a F => ?_
      refine qs F Aa (BH F Aa Aa Aa).q fun a F => ?_
      refine AJ fun w W => ?_
      refine Ad ?_
      exact ⟨_, H, F.ra Aa, W⟩
     have H := B5 (Cp hb) H
     rw [hb] at F
     clear hb
     refine A2 F (Ae F Aa Aa Aa Aa) Aa (As Aa) (Am F Aa).q fun a F => ?_
     refine A2 F (Ae F Aa Aa Aa Aa) Aa (As Aa) (Aj Eb Aa Aa Aa Hk F Aa 5 Aa).q fun a F => ?_
     obtain ⟨x4, h2, H⟩ := Af H
     refine A2 F (Ae F Aa Aa Aa Aa) Aa (As Aa) (A7 (5 + (x1).toNat * 1) DA F Aa Aa Aa h2 Aa).q fun a F => ?_
     refine A2 F (Ae F Aa Aa Aa Aa) Aa (As Aa) (Bn (v := Value.int .i64 x4) 0 F Aa Aa T3 (B1 (base := 5) (m := 4) (l := [p0.2.2.1, p0.2.2.2.1, p0.2.2.2.2.1, p0.2.2.2.2.2]) (enc := Value.int .i64) Aa h2)).q fun a F => ?_
     refine A2 F (Ae F Aa Aa Aa Aa) Aa (As Aa) (Am F Aa).q fun a F => ?_
     refine A2 F (Ae F Aa Aa Aa Aa) Aa (As Aa) (AM (v := Value.int .i64 (BN x1)) F Sk Aa (fun w W => In any w x1 _ Aa)) fun a F => ?_
     refine A2 F (Ae F Aa Aa Aa Aa) Aa (As Aa) (Mo F Aa Aa).q fun a F => ?_
     refine qs F Aa (AO F Aa Aa Aa).q fun a F => ?_
     refine qs F Aa (Am F Aa).q fun a F => ?_
     rcases Bool.eq_false_or_eq_true (decide ((BN x1) < x4)) with hb | hb
     ·
      have H := B4 (Cn hb) H
      rw [hb] at F
      clear hb
      iterate 5 refine AP F (AB F Aa Aa Aa Aa Aa) Aa Aa fun a F => ?_
      refine qs F Aa (BH F Aa Aa Aa).q fun a F => ?_
      refine qs F Aa (Am F Aa).q fun a F => ?_
      iterate 7 refine AP F (AB F Aa Aa Aa Aa Aa) Aa Aa fun a F => ?_
      refine qs F Aa (BH F Aa Aa Aa).q fun a F => ?_
      refine AJ fun w W => ?_
      refine Ad ?_
      exact ⟨_, H, F.ra Aa, W⟩
     have H := B5 (Cp hb) H
     rw [hb] at F
     clear hb
     refine A2 F (Ae F Aa Aa Aa Aa) Aa (As Aa) (Am F Aa).q fun a F => ?_
     refine A2 F (Ae F Aa Aa Aa Aa) Aa (As Aa) (Aj Eb Aa Aa Aa Hk F Aa 1 Aa).q fun a F => ?_
     obtain ⟨x5, h3, H⟩ := Af H
     refine A2 F (Ae F Aa Aa Aa Aa) Aa (As Aa) (A7 (1 + (x1).toNat * 1) DA F Aa Aa Aa h3 Aa).q fun a F => ?_
     refine A2 F (Ae F Aa Aa Aa Aa) Aa (As Aa) (Bn (v := Value.int .i64 x5) 0 F Aa Aa T3 (B1 (base := 1) (m := 4) (l := [p0.2.1.1, p0.2.1.2.1, p0.2.1.2.2.1, p0.2.1.2.2.2]) (enc := Value.int .i64) Aa h3)).q fun a F => ?_
     refine A2 F (Ae F Aa Aa Aa Aa) Aa (As Aa) (JV F Aa Aa).q fun a F => ?_
     refine qs F Aa (AO F Aa Aa Aa).q fun a F => ?_
     refine qs F Aa (Am F Aa).q fun a F => ?_
     rcases Bool.eq_false_or_eq_true (decide (x5 < 0)) with hb | hb
     ·
      have H := B4 (Cn hb) H
      rw [hb] at F
      clear hb
      iterate 7 refine AP F (AB F Aa Aa Aa Aa Aa) Aa Aa fun a F => ?_
      refine qs F Aa (BH F Aa Aa Aa).q fun a F => ?_
      refine AJ fun w W => ?_
      refine Ad ?_
      exact ⟨_, H, F.ra Aa, W⟩
     have H := B5 (Cp hb) H
     rw [hb] at F
     clear hb
     refine A2 F (Ae F Aa Aa Aa Aa) Aa (As Aa) (Am F Aa).q fun a F => ?_
     refine A2 F (Ae F Aa Aa Aa Aa) Aa (As Aa) (Aj Eb Aa Aa Aa Hk F Aa 1 Aa).q fun a F => ?_
     obtain ⟨x6, h4, H⟩ := Af H
     refine A2 F (Ae F Aa Aa Aa Aa) Aa (As Aa) (A7 (1 + (x1).toNat * 1) DA F Aa Aa Aa h4 Aa).q fun a F => ?_
     refine A2 F (Ae F Aa Aa Aa Aa) Aa (As Aa) (Bn (v := Value.int .i64 x6) 0 F Aa Aa T3 (B1 (base := 1) (m := 4) (l := [p0.2.1.1, p0.2.1.2.1, p0.2.1.2.2.1, p0.2.1.2.2.2]) (enc := Value.int .i64) Aa h4)).q fun a F => ?_
     refine A2 F (Ae F Aa Aa Aa Aa) Aa (As Aa) (Am F Aa).q fun a F => ?_
     refine A2 F (Ae F Aa Aa Aa Aa) Aa (As Aa) (AM (v := Value.int .i64 (BN x1)) F Sk Aa (fun w W => In any w x1 _ Aa)) fun a F => ?_
     refine A2 F (Ae F Aa Aa Aa Aa) Aa (As Aa) (Mo F Aa Aa).q fun a F => ?_
     refine qs F Aa (AO F Aa Aa Aa).q fun a F => ?_
     refine AJ fun w W => ?_
     refine Ad ?_
     exact ⟨_, H, F.ra Aa, W⟩
    rintro a w ⟨x2, hj, F, W⟩
    have hj := Av hj
    subst hj
    have H := K4
    clear G4 K4
    refine BE F Aa H (fun F H => ?_) fun F H => ?_
    ·
     refine vc tk 5 F W fun a w F W => ?_
     refine Al (Aq (Az ?_))
     iterate 2 refine Aq ?_
     refine Az (Aq ?_)
     have H := L3 _ H
     have H := L2 _ H
     have H := L1 _ H
     have H := Av H
     subst H
     refine Aw (.inl Aa) F W Aa (Ai F Aa) ?_
     exact ⟨rfl, W.done⟩
    refine D6 tk 8 F W fun a w F W => ?_
    refine BA H (fun s a w => Fr 64 [] [(1, .pointer (some ⟨b1, 0, none⟩)), (2, .bool false), (3, .int .i64 x1), (4, .int .i64 s)] a ∧ Stw ⟨Y, [], w0⟩ (Ii b1 p0) [] w) ⟨F.ra Aa, W⟩ fun s o a w H L5 hR => ?_
    obtain ⟨x7, rfl⟩ : ∃ x, x = s := ⟨s, rfl⟩
    obtain ⟨F, W⟩ := hR
    have F : Fr 64 [] [(1, .pointer (some ⟨b1, 0, none⟩)), (2, .bool false), (3, .int .i64 x1), (4, .int .i64 x7)] a := F
    have W : Stw ⟨Y, [], w0⟩ (Ii b1 p0) [] w := W
    rw [Fm] at H
    refine vc tk 7 F W fun a w F W => ?_
    refine Bi F Aa H (fun F H => ?_) fun F H => ?_
    ·
     refine D6 tk 5 F W fun a w F W => ?_
     refine Ck W MO (by kernel_rfl) ?_
     refine qs F Aa (Am F Aa).q fun a F => ?_
     refine qs F Aa (Aj Eb Aa Aa Aa Hk F Aa 1 Aa).q fun a F => ?_
     obtain ⟨x8, h5, H⟩ := Af H
     refine qs F Aa (A7 (1 + (x1).toNat * 1) DA F Aa Aa Aa h5 Aa).q fun a F => ?_
     refine qs F Aa (Bn (v := Value.int .i64 x8) 0 F Aa Aa T3 (B1 (base := 1) (m := 4) (l := [p0.2.1.1, p0.2.1.2.1, p0.2.1.2.2.1, p0.2.1.2.2.2]) (enc := Value.int .i64) Aa h5)).q fun a F => ?_
     refine qs F Aa (Am F Aa).q fun a F => ?_
     obtain ⟨x9, h6, H⟩ := Af H
     refine qs F Aa (AM (v := Value.int .i64 x9) F Nc Aa (fun w W => CU any w x8 x7 _ h6)) fun a F => ?_
     refine qs F Aa (Am F Aa).q fun a F => ?_
     refine qs F Aa (Aj Eb Aa Aa Aa Hk F Aa 5 Aa).q fun a F => ?_
     obtain ⟨x10, h7, H⟩ := Af H
     refine qs F Aa (A7 (5 + (x1).toNat * 1) DA F Aa Aa Aa h7 Aa).q fun a F => ?_
     refine qs F Aa (Bn (v := Value.int .i64 x10) 0 F Aa Aa T3 (B1 (base := 5) (m := 4) (l := [p0.2.2.1, p0.2.2.2.1, p0.2.2.2.2.1, p0.2.2.2.2.2]) (enc := Value.int .i64) Aa h7)).q fun a F => ?_
     refine qs F Aa (Am F Aa).q fun a F => ?_
     obtain ⟨x11, h8, H⟩ := Af H
     refine qs F Aa (AM (v := Value.int .i64 x11) F Nc Aa (fun w W => CU any w x10 x7 _ h8)) fun a F => ?_
     refine qs F Aa (Mo F Aa Aa).q fun a F => ?_
     refine AJ fun w W => ?_
     refine Ad ?_
     refine Bi F Aa H (fun F H => ?_) fun F H => ?_
     ·
      refine vc tk 5 F W fun a w F W => ?_
      refine Al (Az ?_)
      iterate 2 refine Aq ?_
      iterate 2 refine Az ?_
      iterate 2 refine Aq ?_
      refine Az (Aq ?_)
      have H := L5 _ H
      have H := L3 _ H
      have H := L2 _ H
      have H := L1 _ H
      have H := Av H
      subst H
      refine Aw (.inl Aa) F W Aa (Ai F Aa) ?_
      exact ⟨rfl, W.done⟩
     refine AC (AF ?_)
     refine vn tk 5 F W fun a w F W => ?_
     refine Ad ?_
     exact ⟨_, H, F.ra Aa, W⟩
    refine Bm ?_
    iterate 2 refine BU ?_
    refine Bp (AF (Ad ?_))
    have H := L5 _ H
    exact ⟨H, F.ra Aa, W⟩
   rintro a w ⟨hj, F, W⟩
   have H := K3 _ hj
   clear hj G3 K3 L3
   refine vc tk 5 F W fun a w F W => ?_
   refine Ad ?_
   exact ⟨_, H, F.ra Aa, W⟩
  refine Bm ?_
  iterate 2 refine BU ?_
  refine Bp (Ad ?_)
  have H := L2 _ H
  exact ⟨H, F.ra Aa, W⟩
 rintro a w ⟨hj, F, W⟩
 have H := K1 _ hj
 clear hj G1 K1 L1
 refine vc tk 5 F W fun a w F W => ?_
 refine Al ?_
 have H := Av H
 subst H
 refine Aw (.inl Aa) F W Aa (Ai F Aa) ?_
 exact ⟨rfl, W.done⟩
theorem Io : type_of% Try.underlying35 := Try.underlying35
theorem IH : type_of% Try.underlying88 := Try.underlying88
theorem SU : Has Try.prog 38 := BV Try.func38
theorem Nt : Ty Try.prog 35 false 1 := ⟨by kernel_rfl, by kernel_rfl⟩
theorem PQ : Et Try.prog 35 88 3 24 := Et.of Io (by kernel_rfl) (by kernel_rfl) (by kernel_rfl) (by decide)
def TD (a : Int × Int × Int) : List Value := [.int .i64 a.1, .int .i64 a.2.1, .int .i64 a.2.2]
theorem Qa : Fl Bk TD := (Fl.pair Fl.int (Fl.pair Fl.int Fl.int))
theorem Qt : Ty Try.prog 88 true 3 := ⟨by kernel_rfl, by kernel_rfl⟩
abbrev Nu (a0 : Nat) (a1 : Int × Int × Int) : List (Nat × List Value) := [(a0, [.int .i64 a1.1, .int .i64 a1.2.1, .int .i64 a1.2.2])]
def GX (p0 : Int × Int × Int) (p1 : Int) : Bool := (if p0.1 = 1 then (decide (0 ≤ p0.2.1) && (decide (p0.2.1 ≤ 3) && (decide (0 ≤ p0.2.2) && decide (p0.2.2 ≤ (BN p0.2.1))))) else (if p0.1 = 3 then (decide (p0.2.1 = 0) && decide (p0.2.2 = 0)) else (decide (p0.1 = 2) && (decide (p0.2.1 = 0) && (decide (0 ≤ p0.2.2) && decide (p0.2.2 < p1))))))
theorem Nm (Y : Nat → Prop) (w0 : World)  (p0 : Int × Int × Int) (p1 : Int) (r : Bool) (H : GX p0 p1 = r)  :
    Calls Try.prog 56 #[.agg #[.int .i64 p0.1, .int .i64 p0.2.1, .int .i64 p0.2.2], .int .i64 p1] w0 fun e w' => e = .returned (.bool r) ∧ Below w0.heap.size w0 w' := by
 refine enter Try.func56 Aa Try.ntmps56 Aa fun a F => ?_
 have W := Stw.start Y w0
 unfold GX at H
 refine vc tk 2 F W fun a w F W => ?_
 refine BR (cs := [.int .i64 p0.1, .int .i64 p0.2.1, .int .i64 p0.2.2]) F W Aa Aa Aa fun b1 a w F W => ?_
 refine Eo tk 11 [0] F W (ai fun a w F W => ?_)
 refine Bi F Aa H (fun F H => ?_) fun F H => ?_
 ·
  refine Au (fun a w => Fr 59 [] [(1, .int .i64 p1), (2, .pointer (some ⟨b1, 0, none⟩)), (4, .bool (decide (0 ≤ p0.2.1) && (decide (p0.2.1 ≤ 3) && (decide (0 ≤ p0.2.2) && decide (p0.2.2 ≤ (BN p0.2.1))))))] a ∧ Stw ⟨Y, [], w0⟩ (Nu b1 p0) [] w) ?_ ?_
  ·
   refine Ck W MO (by kernel_rfl) ?_
   refine qs F Aa (Aj IH Aa Aa Aa T3 F Aa 1 Aa).q fun a F => ?_
   refine qs F Aa (Bn (v := Value.int .i64 p0.2.1) 0 F Aa Aa T3 Aa).q fun a F => ?_
   refine qs F Aa (KY F Aa Aa).q fun a F => ?_
   refine qs F Aa (Am F Aa).q fun a F => ?_
   rcases Bool.eq_false_or_eq_true (decide (0 ≤ p0.2.1)) with hb0 | hb0
   ·
    rw [hb0] at F
    refine A2 F (Ae F Aa Aa Aa Aa) Aa (As Aa) (Aj IH Aa Aa Aa T3 F Aa 1 Aa).q fun a F => ?_
    refine A2 F (Ae F Aa Aa Aa Aa) Aa (As Aa) (Bn (v := Value.int .i64 p0.2.1) 0 F Aa Aa T3 Aa).q fun a F => ?_
    refine A2 F (Ae F Aa Aa Aa Aa) Aa (As Aa) (Mn F Aa Aa).q fun a F => ?_
    refine qs F Aa (BH F Aa Aa Aa).q fun a F => ?_
    refine qs F Aa (Am F Aa).q fun a F => ?_
    rcases Bool.eq_false_or_eq_true (decide (p0.2.1 ≤ 3)) with hb1 | hb1
    ·
     rw [hb1] at F
     refine A2 F (Ae F Aa Aa Aa Aa) Aa (As Aa) (Aj IH Aa Aa Aa T3 F Aa 2 Aa).q fun a F => ?_
     refine A2 F (Ae F Aa Aa Aa Aa) Aa (As Aa) (Bn (v := Value.int .i64 p0.2.2) 0 F Aa Aa T3 Aa).q fun a F => ?_
     refine A2 F (Ae F Aa Aa Aa Aa) Aa (As Aa) (KY F Aa Aa).q fun a F => ?_
     refine qs F Aa (BH F Aa Aa Aa).q fun a F => ?_
     refine qs F Aa (Am F Aa).q fun a F => ?_
     rcases Bool.eq_false_or_eq_true (decide (0 ≤ p0.2.2)) with hb2 | hb2
     ·
      rw [hb2] at F
      refine A2 F (Ae F Aa Aa Aa Aa) Aa (As Aa) (Aj IH Aa Aa Aa T3 F Aa 2 Aa).q fun a F => ?_
      refine A2 F (Ae F Aa Aa Aa Aa) Aa (As Aa) (Bn (v := Value.int .i64 p0.2.2) 0 F Aa Aa T3 Aa).q fun a F => ?_
      refine A2 F (Ae F Aa Aa Aa Aa) Aa (As Aa) (Aj IH Aa Aa Aa T3 F Aa 1 Aa).q fun a F => ?_
      refine A2 F (Ae F Aa Aa Aa Aa) Aa (As Aa) (Bn (v := Value.int .i64 p0.2.1) 0 F Aa Aa T3 Aa).q fun a F => ?_
      refine A2 F (Ae F Aa Aa Aa Aa) Aa (As Aa) (AM (v := Value.int .i64 (BN p0.2.1)) F Sk Aa (fun w W => In any w p0.2.1 _ Aa)) fun a F => ?_
      refine A2 F (Ae F Aa Aa Aa Aa) Aa (As Aa) (Mn F Aa Aa).q fun a F => ?_
      refine qs F Aa (BH F Aa Aa Aa).q fun a F => ?_
      refine qs F Aa (BI F Aa).q fun a F => ?_
      refine AJ fun w W => ?_
      refine Ad ?_
      exact ⟨F.re ⟨rfl, Aa, (Ev (by try rw [hb0]; try rw [hb1]; try rw [hb2]; all_goals simp only [Es])), trivial⟩, W⟩
     rw [hb2] at F
     iterate 6 refine AP F (AB F Aa Aa Aa Aa Aa) Aa Aa fun a F => ?_
     refine qs F Aa (AO F Aa Aa Aa).q fun a F => ?_
     refine qs F Aa (BI F Aa).q fun a F => ?_
     refine AJ fun w W => ?_
     refine Ad ?_
     exact ⟨F.re ⟨rfl, Aa, (Ev (by try rw [hb0]; try rw [hb1]; try rw [hb2]; all_goals simp only [Es])), trivial⟩, W⟩
    rw [hb1] at F
    iterate 3 refine AP F (AB F Aa Aa Aa Aa Aa) Aa Aa fun a F => ?_
    refine qs F Aa (AO F Aa Aa Aa).q fun a F => ?_
    refine qs F Aa (Am F Aa).q fun a F => ?_
    iterate 6 refine AP F (AB F Aa Aa Aa Aa Aa) Aa Aa fun a F => ?_
    refine qs F Aa (AO F Aa Aa Aa).q fun a F => ?_
    refine qs F Aa (BI F Aa).q fun a F => ?_
    refine AJ fun w W => ?_
    refine Ad ?_
    exact ⟨F.re ⟨rfl, Aa, (Ev (by try rw [hb0]; try rw [hb1]; all_goals simp only [Es])), trivial⟩, W⟩
   rw [hb0] at F
   iterate 3 refine AP F (AB F Aa Aa Aa Aa Aa) Aa Aa fun a F => ?_
   refine qs F Aa (AO F Aa Aa Aa).q fun a F => ?_
   refine qs F Aa (Am F Aa).q fun a F => ?_
   iterate 3 refine AP F (AB F Aa Aa Aa Aa Aa) Aa Aa fun a F => ?_
   refine qs F Aa (AO F Aa Aa Aa).q fun a F => ?_
   refine qs F Aa (Am F Aa).q fun a F => ?_
   iterate 6 refine AP F (AB F Aa Aa Aa Aa Aa) Aa Aa fun a F => ?_
   refine qs F Aa (AO F Aa Aa Aa).q fun a F => ?_
   refine qs F Aa (BI F Aa).q fun a F => ?_
   refine AJ fun w W => ?_
   refine Ad ?_
   exact ⟨F.re ⟨rfl, Aa, (Ev (by try rw [hb0]; all_goals simp only [Es])), trivial⟩, W⟩
  rintro a w ⟨F, W⟩
  refine Al (Aq ?_)
  subst H
  refine Aw (.inl Aa) F W Aa (Ai F Aa) ?_
  exact ⟨rfl, W.done⟩
 refine KR tk 10 [0] F W (ai fun a w F W => ?_)
 refine Bi F Aa H (fun F H => ?_) fun F H => ?_
 ·
  refine Au (fun a w => Fr 59 [] [(1, .int .i64 p1), (2, .pointer (some ⟨b1, 0, none⟩)), (4, .bool (decide (p0.2.1 = 0) && decide (p0.2.2 = 0)))] a ∧ Stw ⟨Y, [], w0⟩ (Nu b1 p0) [] w) ?_ ?_
  ·
   refine Fq tk 5 [0] F W (ai fun a w F W => ?_)
   rcases Bool.eq_false_or_eq_true (decide (p0.2.1 = 0)) with hb0 | hb0
   ·
    rw [hb0] at F
    refine Fu tk 6 [0] F W (ai fun a w F W => ?_)
    refine Ad ?_
    exact ⟨F.re ⟨rfl, Aa, (Ev (by try rw [hb0]; all_goals simp only [Es])), trivial⟩, W⟩
   rw [hb0] at F
   refine vl tk 6 F W fun a w F W => ?_
   refine Ad ?_
   exact ⟨F.re ⟨rfl, Aa, (Ev (by try rw [hb0]; all_goals simp only [Es])), trivial⟩, W⟩
  rintro a w ⟨F, W⟩
  refine Al (Aq ?_)
  subst H
  refine Aw (.inl Aa) F W Aa (Ai F Aa) ?_
  exact ⟨rfl, W.done⟩
 refine D6 tk 2 F W fun a w F W => ?_
 refine Au (fun a w => Fr 59 [] [(4, .bool (decide (p0.1 = 2) && (decide (p0.2.1 = 0) && (decide (0 ≤ p0.2.2) && decide (p0.2.2 < p1)))))] a ∧ Stw ⟨Y, [], w0⟩ (Nu b1 p0) [] w) ?_ ?_
 ·
  refine Fq tk 5 [0] F W (ai fun a w F W => ?_)
  rcases Bool.eq_false_or_eq_true (decide (p0.1 = 2)) with hb0 | hb0
  ·
   rw [hb0] at F
   refine Fu tk 5 [0] F W (ai fun a w F W => ?_)
   rcases Bool.eq_false_or_eq_true (decide (p0.2.1 = 0)) with hb1 | hb1
   ·
    rw [hb1] at F
    refine Fu tk 5 [0] F W (ai fun a w F W => ?_)
    rcases Bool.eq_false_or_eq_true (decide (0 ≤ p0.2.2)) with hb2 | hb2
    ·
     rw [hb2] at F
     refine Fu tk 7 [0] F W (ai fun a w F W => ?_)
     refine Ad ?_
     exact ⟨F.re ⟨(Ev (by try rw [hb1]; try rw [hb2]; try rw [hb0]; all_goals simp only [Es])), trivial⟩, W⟩
    rw [hb2] at F
    refine vl tk 7 F W fun a w F W => ?_
    refine Ad ?_
    exact ⟨F.re ⟨(Ev (by try rw [hb1]; try rw [hb2]; try rw [hb0]; all_goals simp only [Es])), trivial⟩, W⟩
   rw [hb1] at F
   refine vl tk 12 F W fun a w F W => ?_
   refine Ad ?_
   exact ⟨F.re ⟨(Ev (by try rw [hb1]; try rw [hb0]; all_goals simp only [Es])), trivial⟩, W⟩
  rw [hb0] at F
  refine vl tk 17 F W fun a w F W => ?_
  refine Ad ?_
  exact ⟨F.re ⟨(Ev (by try rw [hb0]; all_goals simp only [Es])), trivial⟩, W⟩
 rintro a w ⟨F, W⟩
 refine Al ?_
 subst H
 refine Aw (.inl Aa) F W Aa (Ai F Aa) ?_
 exact ⟨rfl, W.done⟩
theorem TL : Has Try.prog 56 := BV Try.func56
noncomputable def Fs (p0 : List (Int × Int × Int)) (p1 : Int) : Int → Option (Int ⊕ (Unit ⊕ Bool))
  | x1 => (if x1 < (p0.length : Int) then (ix p0 x1).bind fun x2 => (if (!(GX x2 p1)) = true then some (.inr (.inr false)) else some (.inl (Cc (x1 + 1)))) else some (.inr (.inl ())))
noncomputable def F6 (p0 : List (Int × Int × Int)) (p1 : Int) : Option Bool := FR (AX (Fs p0 p1) 0) fun _ => some (decide ((p0.length : Int) ≤ 16))
theorem Ln (Y : Nat → Prop) (w0 : World) (v1 : Value) (p0 : List (Int × Int × Int)) (p1 : Int) (r : Bool) (H : F6 p0 p1 = some r) (h_v1 : Sl w0 (NX []) Bk v1 p0) :
    Calls Try.prog 39 #[v1, .int .i64 p1] w0 fun e w' => e = .returned (.bool r) ∧ Below w0.heap.size w0 w' := by
 refine enter Try.func39 Aa Try.ntmps39 Aa fun a F => ?_
 have W := Stw.start Y w0
 unfold F6 at H
 refine vc tk 5 F W fun a w F W => ?_
 obtain ⟨o1, G1, K1, L1⟩ := H1 H
 refine Au (fun a w => some (Sum.inl ()) = some o1 ∧ Fr 22 [] [(0, v1), (4, .bool false)] a ∧ Stw ⟨Y, [], w0⟩ [] [] w) ?_ ?_
 ·
  have H := G1
  clear G1 K1
  refine vc tk 6 F W fun a w F W => ?_
  refine BA H (fun s a w => Fr 22 [] [(0, v1), (1, .int .i64 p1), (4, .bool false), (5, .int .i64 s)] a ∧ Stw ⟨Y, [], w0⟩ [] [] w) ⟨F.ra Aa, W⟩ fun s o a w H L2 hR => ?_
  obtain ⟨x1, rfl⟩ : ∃ x, x = s := ⟨s, rfl⟩
  obtain ⟨F, W⟩ := hR
  have F : Fr 22 [] [(0, v1), (1, .int .i64 p1), (4, .bool false), (5, .int .i64 x1)] a := F
  have W : Stw ⟨Y, [], w0⟩ [] [] w := W
  rw [Fs] at H
  refine vc tk 5 F W fun a w F W => ?_
  refine ls F W Aa (B7 (r := Bk) (l := p0) Io Aa F Aa (An h_v1)).q fun a w F W => ?_
  refine BJ tk 3 F W fun a w F W => ?_
  refine Bi F Aa H (fun F H => ?_) fun F H => ?_
  ·
   refine D6 tk 8 F W fun a w F W => ?_
   obtain ⟨x2, h1, H⟩ := Af H
   refine ls F W Aa (AR (r := Bk) PQ F Aa Aa (An h_v1) h1).q fun a w F W => ?_
   refine ls F W Aa (AD (y := Value.agg #[.int .i64 x2.1, .int .i64 x2.2.1, .int .i64 x2.2.2]) (j := 0) (i := x1) F Aa Aa (An h_v1) h1 Qa.to Qt Aa).q fun a w F W => ?_
   refine ls F W Aa (Am F Aa).q fun a w F W => ?_
   refine ls F W Aa (AM (v := Value.bool (GX x2 p1)) F TL Aa (fun w W => Nm any w x2 p1 _ Aa)) fun a w F W => ?_
   refine BJ tk 3 F W fun a w F W => ?_
   refine BE F Aa H (fun F H => ?_) fun F H => ?_
   ·
    refine vc tk 5 F W fun a w F W => ?_
    refine Al (Az ?_)
    iterate 2 refine Aq ?_
    refine Az (Aq ?_)
    have H := L2 _ H
    have H := L1 _ H
    have H := Av H
    subst H
    refine Aw (.inl Aa) F W Aa (Ai F Aa) ?_
    exact ⟨rfl, W.done⟩
   refine AC (AF ?_)
   refine vn tk 5 F W fun a w F W => ?_
   refine Ad ?_
   exact ⟨_, H, F.ra Aa, W⟩
  refine Bm ?_
  iterate 2 refine BU ?_
  refine Bp (Ad ?_)
  have H := L2 _ H
  exact ⟨H, F.ra Aa, W⟩
 rintro a w ⟨hj, F, W⟩
 have H := K1 _ hj
 clear hj G1 K1 L1
 refine vc tk 3 F W fun a w F W => ?_
 refine ls F W Aa (B7 (r := Bk) (l := p0) Io Aa F Aa (An h_v1)).q fun a w F W => ?_
 refine BJ tk 4 F W fun a w F W => ?_
 refine Al ?_
 have H := Av H
 subst H
 refine Aw (.inl Aa) F W Aa (Ai F Aa) ?_
 exact ⟨rfl, W.done⟩
theorem Ij : type_of% Try.underlying37 := Try.underlying37
theorem SZ : Has Try.prog 39 := BV Try.func39
abbrev DZ (a0 : Int × (Int × (Int × Int × Int × Int) × (Int × Int × Int × Int)) × (List (Int × Int × Int))) (a1 : Value) : List Value := [.int .i64 a0.1, .int .i64 a0.2.1.1, .int .i64 a0.2.1.2.1.1, .int .i64 a0.2.1.2.1.2.1, .int .i64 a0.2.1.2.1.2.2.1, .int .i64 a0.2.1.2.1.2.2.2, .int .i64 a0.2.1.2.2.1, .int .i64 a0.2.1.2.2.2.1, .int .i64 a0.2.1.2.2.2.2.1, .int .i64 a0.2.1.2.2.2.2.2, a1]
abbrev Fd (a0 : Nat) (a1 : Int × (Int × (Int × Int × Int × Int) × (Int × Int × Int × Int)) × (List (Int × Int × Int))) (a2 : Value) : List (Nat × List Value) := [(a0, [.int .i64 a1.1, .int .i64 a1.2.1.1, .int .i64 a1.2.1.2.1.1, .int .i64 a1.2.1.2.1.2.1, .int .i64 a1.2.1.2.1.2.2.1, .int .i64 a1.2.1.2.1.2.2.2, .int .i64 a1.2.1.2.2.1, .int .i64 a1.2.1.2.2.2.1, .int .i64 a1.2.1.2.2.2.2.1, .int .i64 a1.2.1.2.2.2.2.2, a2])]
noncomputable def DW (p0 : Int × (Int × (Int × Int × Int × Int) × (Int × Int × Int × Int)) × (List (Int × Int × Int))) (p1 : Int) : Option Bool := (if 0 ≤ p0.1 then (if p0.1 ≤ 65535 then (Gg p0.2.1).bind fun x2 => (if x2 = true then (F6 p0.2.2 p1).bind fun x3 => some x3 else some false) else some false) else some false).bind fun x1 => some x1
theorem Iz (Y : Nat → Prop) (w0 : World) (v1 : Value) (p0 : Int × (Int × (Int × Int × Int × Int) × (Int × Int × Int × Int)) × (List (Int × Int × Int))) (p1 : Int) (r : Bool) (H : DW p0 p1 = some r) (h_v1 : Sl w0 (NX []) Bk v1 p0.2.2) :
    Calls Try.prog 23 #[.agg #[.int .i64 p0.1, .int .i64 p0.2.1.1, .int .i64 p0.2.1.2.1.1, .int .i64 p0.2.1.2.1.2.1, .int .i64 p0.2.1.2.1.2.2.1, .int .i64 p0.2.1.2.1.2.2.2, .int .i64 p0.2.1.2.2.1, .int .i64 p0.2.1.2.2.2.1, .int .i64 p0.2.1.2.2.2.2.1, .int .i64 p0.2.1.2.2.2.2.2, v1], .int .i64 p1] w0 fun e w' => e = .returned (.bool r) ∧ Below w0.heap.size w0 w' := by
 refine enter Try.func23 Aa Try.ntmps23 Aa fun a F => ?_
 have W := Stw.start Y w0
 unfold DW at H
 refine vc tk 2 F W fun a w F W => ?_
 refine BR (cs := (DZ p0 v1)) F W Aa Aa Aa fun b1 a w F W => ?_
 refine vl tk 2 F W fun a w F W => ?_
 refine Ad ?_
 obtain ⟨o1, G1, K1⟩ := Af H
 refine Au (fun a w => ∃ x1 : Bool, some (x1) = some o1 ∧ Fr 24 [] [(4, .bool x1)] a ∧ Stw ⟨Y, [], w0⟩ (Fd b1 p0 v1) [] w) ?_ ?_
 ·
  have H := G1
  clear G1 K1
  refine Fq tk 5 [0] F W (ai fun a w F W => ?_)
  rcases Bool.eq_false_or_eq_true (decide (0 ≤ p0.1)) with hb | hb
  ·
   have H := B4 (Cn hb) H
   rw [hb] at F
   clear hb
   refine Fu tk 5 [0] F W (ai fun a w F W => ?_)
   rcases Bool.eq_false_or_eq_true (decide (p0.1 ≤ 65535)) with hb | hb
   ·
    have H := B4 (Cn hb) H
    rw [hb] at F
    clear hb
    refine Fu tk 2 [0] F W (ai fun a w F W => ?_)
    refine F2 (Ae F Aa Aa Aa Aa) ?_
    obtain ⟨x2, h1, H⟩ := Af H
    refine ls F W Aa (AM (v := Value.bool x2) F SU Aa (fun w W => KW any w p0.2.1 _ h1)) fun a w F W => ?_
    refine vl tk 2 F W fun a w F W => ?_
    rcases Bool.eq_false_or_eq_true x2 with hb | hb
    ·
     have H := B4 hb H
     rw [hb] at F
     clear hb
     refine Fu tk 3 [0] F W (ai fun a w F W => ?_)
     refine F2 (Ae F Aa Aa Aa Aa) ?_
     obtain ⟨x3, h2, H⟩ := Af H
     refine ls F W Aa (AM (v := Value.bool x3) F SZ Aa (fun w W => Ln any w (v1) p0.2.2 p1 _ h2 (Dc (An h_v1) W))) fun a w F W => ?_
     refine vl tk 3 F W fun a w F W => ?_
     refine Ad ?_
     exact ⟨_, H, F.ra Aa, W⟩
    have H := B5 (by rw [hb]; decide) H
    rw [hb] at F
    clear hb
    refine vl tk 7 F W fun a w F W => ?_
    refine Ad ?_
    exact ⟨_, H, F.ra Aa, W⟩
   have H := B5 (Cp hb) H
   rw [hb] at F
   clear hb
   refine vl tk 12 F W fun a w F W => ?_
   refine Ad ?_
   exact ⟨_, H, F.ra Aa, W⟩
  have H := B5 (Cp hb) H
  rw [hb] at F
  clear hb
  refine vl tk 17 F W fun a w F W => ?_
  refine Ad ?_
  exact ⟨_, H, F.ra Aa, W⟩
 rintro a w ⟨x1, hj, F, W⟩
 have hj := Av hj
 subst hj
 have H := K1
 clear G1 K1
 refine Al ?_
 have H := Av H
 subst H
 refine Aw (.inl Aa) F W Aa (Ai F Aa) ?_
 exact ⟨rfl, W.done⟩
theorem Q3 : type_of% Try.underlying3 := Try.underlying3
theorem SD : Has Try.prog 23 := BV Try.func23
theorem RL (d : Nat) (x0 x1 x2 x3 y0 y1 y2 y3 : Int) (w : World) : (Op.equalIn (d + 2) 32 (.agg #[.int .i64 x0, .int .i64 x1, .int .i64 x2, .int .i64 x3]) (.agg #[.int .i64 y0, .int .i64 y1, .int .i64 y2, .int .i64 y3])).run Try.prog w = .ok (decide (x0 = y0 ∧ x1 = y1 ∧ x2 = y2 ∧ x3 = y3)) w :=
  (QO (d := d) (k := .i64) DA Q3 T3 [x0, x1, x2, x3] [y0, y1, y2, y3] rfl rfl w).trans (by congr 1; exact decide_eq_decide.2 (by simp))
theorem Sa (dd : Nat) (x0 : Int) (x1 : Int) (x2 : Int) (x3 : Int) (x4 : Int) (x5 : Int) (x6 : Int) (x7 : Int) (x8 : Int) (y0 : Int) (y1 : Int) (y2 : Int) (y3 : Int) (y4 : Int) (y5 : Int) (y6 : Int) (y7 : Int) (y8 : Int) (w : World) : (Op.equalIn (dd + 3) 34 (.agg #[.int .i64 x0, .int .i64 x1, .int .i64 x2, .int .i64 x3, .int .i64 x4, .int .i64 x5, .int .i64 x6, .int .i64 x7, .int .i64 x8]) (.agg #[.int .i64 y0, .int .i64 y1, .int .i64 y2, .int .i64 y3, .int .i64 y4, .int .i64 y5, .int .i64 y6, .int .i64 y7, .int .i64 y8])).run Try.prog w = .ok (decide (x0 = y0 ∧ x1 = y1 ∧ x2 = y2 ∧ x3 = y3 ∧ x4 = y4 ∧ x5 = y5 ∧ x6 = y6 ∧ x7 = y7 ∧ x8 = y8)) w :=
  Kc (d := dd + 2) (rs := [decide (x0 = y0), decide (x1 = y1 ∧ x2 = y2 ∧ x3 = y3 ∧ x4 = y4), decide (x5 = y5 ∧ x6 = y6 ∧ x7 = y7 ∧ x8 = y8)]) Eb (by kernel_rfl) ⟨rfl, IR (d := dd + 1) rfl rfl Q3 T3 rfl rfl, rfl, Mv (d := dd + 2) (sz := 4) (xs' := [.int .i64 x1, .int .i64 x2, .int .i64 x3, .int .i64 x4]) (ys' := [.int .i64 y1, .int .i64 y2, .int .i64 y3, .int .i64 y4]) rfl rfl Hk rfl rfl (fun w => RL (dd + 0) x1 x2 x3 x4 y1 y2 y3 y4 w), rfl, Mv (d := dd + 2) (sz := 4) (xs' := [.int .i64 x5, .int .i64 x6, .int .i64 x7, .int .i64 x8]) (ys' := [.int .i64 y5, .int .i64 y6, .int .i64 y7, .int .i64 y8]) rfl rfl Hk rfl rfl (fun w => RL (dd + 0) x5 x6 x7 x8 y5 y6 y7 y8 w), trivial⟩ (by rw [Bool.eq_iff_iff]; simp [and_assoc]) w
theorem Q4 : Try.prog.eqGuardType Try.prog.depth 34 = false := by kernel_rfl
theorem QX (x0 : Int) (x1 : Int) (x2 : Int) (x3 : Int) (x4 : Int) (x5 : Int) (x6 : Int) (x7 : Int) (x8 : Int) (y0 : Int) (y1 : Int) (y2 : Int) (y3 : Int) (y4 : Int) (y5 : Int) (y6 : Int) (y7 : Int) (y8 : Int) (w : World) : (Op.equalIn 10000 34 (.agg #[.int .i64 x0, .int .i64 x1, .int .i64 x2, .int .i64 x3, .int .i64 x4, .int .i64 x5, .int .i64 x6, .int .i64 x7, .int .i64 x8]) (.agg #[.int .i64 y0, .int .i64 y1, .int .i64 y2, .int .i64 y3, .int .i64 y4, .int .i64 y5, .int .i64 y6, .int .i64 y7, .int .i64 y8])).run Try.prog w = .ok (decide (x0 = y0 ∧ x1 = y1 ∧ x2 = y2 ∧ x3 = y3 ∧ x4 = y4 ∧ x5 = y5 ∧ x6 = y6 ∧ x7 = y7 ∧ x8 = y8)) w := Sa 9997 x0 x1 x2 x3 x4 x5 x6 x7 x8 y0 y1 y2 y3 y4 y5 y6 y7 y8 w
abbrev OD (a0 : Nat) (a1 : Int × (Int × (Int × Int × Int × Int) × (Int × Int × Int × Int)) × (List (Int × Int × Int))) (a2 : Value) (a3 : Nat) (a4 : Int × (Int × (Int × Int × Int × Int) × (Int × Int × Int × Int)) × (List (Int × Int × Int))) (a5 : Value) : List (Nat × List Value) := [(a0, [.int .i64 a1.1, .int .i64 a1.2.1.1, .int .i64 a1.2.1.2.1.1, .int .i64 a1.2.1.2.1.2.1, .int .i64 a1.2.1.2.1.2.2.1, .int .i64 a1.2.1.2.1.2.2.2, .int .i64 a1.2.1.2.2.1, .int .i64 a1.2.1.2.2.2.1, .int .i64 a1.2.1.2.2.2.2.1, .int .i64 a1.2.1.2.2.2.2.2, a2]), (a3, [.int .i64 a4.1, .int .i64 a4.2.1.1, .int .i64 a4.2.1.2.1.1, .int .i64 a4.2.1.2.1.2.1, .int .i64 a4.2.1.2.1.2.2.1, .int .i64 a4.2.1.2.1.2.2.2, .int .i64 a4.2.1.2.2.1, .int .i64 a4.2.1.2.2.2.1, .int .i64 a4.2.1.2.2.2.2.1, .int .i64 a4.2.1.2.2.2.2.2, a5])]
def FP (p0 : Int × (Int × (Int × Int × Int × Int) × (Int × Int × Int × Int)) × (List (Int × Int × Int))) (p1 : Int × (Int × (Int × Int × Int × Int) × (Int × Int × Int × Int)) × (List (Int × Int × Int))) : Bool := (decide (p0.1 = p1.1) && decide (p0.2.1.1 = p1.2.1.1 ∧ p0.2.1.2.1.1 = p1.2.1.2.1.1 ∧ p0.2.1.2.1.2.1 = p1.2.1.2.1.2.1 ∧ p0.2.1.2.1.2.2.1 = p1.2.1.2.1.2.2.1 ∧ p0.2.1.2.1.2.2.2 = p1.2.1.2.1.2.2.2 ∧ p0.2.1.2.2.1 = p1.2.1.2.2.1 ∧ p0.2.1.2.2.2.1 = p1.2.1.2.2.2.1 ∧ p0.2.1.2.2.2.2.1 = p1.2.1.2.2.2.2.1 ∧ p0.2.1.2.2.2.2.2 = p1.2.1.2.2.2.2.2))
theorem J7 (Y : Nat → Prop) (w0 : World) (v1 : Value) (v2 : Value) (p0 : Int × (Int × (Int × Int × Int × Int) × (Int × Int × Int × Int)) × (List (Int × Int × Int))) (p1 : Int × (Int × (Int × Int × Int × Int) × (Int × Int × Int × Int)) × (List (Int × Int × Int))) (r : Bool) (H : FP p0 p1 = r) (h_v1 : Sl w0 (NX []) Bk v1 p0.2.2) (h_v2 : Sl w0 (NX []) Bk v2 p1.2.2) :
    Calls Try.prog 24 #[.agg #[.int .i64 p0.1, .int .i64 p0.2.1.1, .int .i64 p0.2.1.2.1.1, .int .i64 p0.2.1.2.1.2.1, .int .i64 p0.2.1.2.1.2.2.1, .int .i64 p0.2.1.2.1.2.2.2, .int .i64 p0.2.1.2.2.1, .int .i64 p0.2.1.2.2.2.1, .int .i64 p0.2.1.2.2.2.2.1, .int .i64 p0.2.1.2.2.2.2.2, v1], .agg #[.int .i64 p1.1, .int .i64 p1.2.1.1, .int .i64 p1.2.1.2.1.1, .int .i64 p1.2.1.2.1.2.1, .int .i64 p1.2.1.2.1.2.2.1, .int .i64 p1.2.1.2.1.2.2.2, .int .i64 p1.2.1.2.2.1, .int .i64 p1.2.1.2.2.2.1, .int .i64 p1.2.1.2.2.2.2.1, .int .i64 p1.2.1.2.2.2.2.2, v2]] w0 fun e w' => e = .returned (.bool r) ∧ Below w0.heap.size w0 w' := by
 refine enter Try.func24 Aa Try.ntmps24 Aa fun a F => ?_
 have W := Stw.start Y w0
 unfold FP at H
 refine vc tk 2 F W fun a w F W => ?_
 refine BR (cs := (DZ p0 v1)) F W Aa Aa Aa fun b1 a w F W => ?_
 refine BR (cs := (DZ p1 v2)) F W Aa Aa Aa fun b2 a w F W => ?_
 refine BJ tk 3 F W fun a w F W => ?_
 refine Au (fun a w => Fr 17 [] [(4, .bool (decide (p0.1 = p1.1) && decide (p0.2.1.1 = p1.2.1.1 ∧ p0.2.1.2.1.1 = p1.2.1.2.1.1 ∧ p0.2.1.2.1.2.1 = p1.2.1.2.1.2.1 ∧ p0.2.1.2.1.2.2.1 = p1.2.1.2.1.2.2.1 ∧ p0.2.1.2.1.2.2.2 = p1.2.1.2.1.2.2.2 ∧ p0.2.1.2.2.1 = p1.2.1.2.2.1 ∧ p0.2.1.2.2.2.1 = p1.2.1.2.2.2.1 ∧ p0.2.1.2.2.2.2.1 = p1.2.1.2.2.2.2.1 ∧ p0.2.1.2.2.2.2.2 = p1.2.1.2.2.2.2.2)))] a ∧ Stw ⟨Y, [], w0⟩ (OD b2 p1 v2 b1 p0 v1) [] w) ?_ ?_
 ·
  refine Fq tk 7 [1, 0] F W (ai (ai fun a w F W => ?_))
  rcases Bool.eq_false_or_eq_true (decide (p0.1 = p1.1)) with hb0 | hb0
  ·
   rw [hb0] at F
   refine Fu tk 4 [1, 0] F W (ai (ai fun a w F W => ?_))
   refine FE F W (Ae F Aa Aa Aa Aa) Aa (As Aa) (KU (t := decide (p0.2.1.1 = p1.2.1.1 ∧ p0.2.1.2.1.1 = p1.2.1.2.1.1 ∧ p0.2.1.2.1.2.1 = p1.2.1.2.1.2.1 ∧ p0.2.1.2.1.2.2.1 = p1.2.1.2.1.2.2.1 ∧ p0.2.1.2.1.2.2.2 = p1.2.1.2.1.2.2.2 ∧ p0.2.1.2.2.1 = p1.2.1.2.2.1 ∧ p0.2.1.2.2.2.1 = p1.2.1.2.2.2.1 ∧ p0.2.1.2.2.2.2.1 = p1.2.1.2.2.2.2.1 ∧ p0.2.1.2.2.2.2.2 = p1.2.1.2.2.2.2.2)) Q4 (QX _ _ _ _ _ _ _ _ _ _ _ _ _ _ _ _ _ _) F Aa Aa).q fun a w F W => ?_
   refine vl tk 3 F W fun a w F W => ?_
   refine Ad ?_
   exact ⟨F.re ⟨(Ev (by try rw [hb0]; all_goals simp only [Es])), trivial⟩, W⟩
  rw [hb0] at F
  refine vl tk 8 F W fun a w F W => ?_
  refine Ad ?_
  exact ⟨F.re ⟨(Ev (by try rw [hb0]; all_goals simp only [Es])), trivial⟩, W⟩
 rintro a w ⟨F, W⟩
 refine Al ?_
 subst H
 refine Aw (.inl Aa) F W Aa (Ai F Aa) ?_
 exact ⟨rfl, W.done⟩
theorem Sy : Has Try.prog 24 := BV Try.func24
noncomputable def El (p0 : List (Int × (Int × (Int × Int × Int × Int) × (Int × Int × Int × Int)) × (List (Int × Int × Int)))) (x1 : Int) : Int → Option (Int ⊕ (Unit ⊕ (Int ⊕ (Unit ⊕ Bool))))
  | x4 => (if x4 < x1 then ((ix p0 x4).bind fun x6 => (ix p0 x1).bind fun x7 => (if x6.1 < x7.1 then some true else (ix p0 x4).bind fun x8 => (ix p0 x1).bind fun x9 => some (FP x8 x9))).bind fun x5 => (if x5 = true then some (.inr (.inr (.inr (.inr false)))) else some (.inl (Cc (x4 + 1)))) else some (.inr (.inl ())))
noncomputable def EE (p0 : List (Int × (Int × (Int × Int × Int × Int) × (Int × Int × Int × Int)) × (List (Int × Int × Int)))) (p1 : Int) : Int → Option (Int ⊕ (Unit ⊕ Bool))
  | x1 => (if x1 < (p0.length : Int) then FR ((ix p0 x1).bind fun x2 => (DW x2 p1).bind fun x3 => (if (!x3) = true then some (.inr (.inr (.inr false))) else AX (El p0 x1) 0)) fun _ => some (.inl (Cc (x1 + 1))) else some (.inr (.inl ())))
noncomputable def Gj (p0 : List (Int × (Int × (Int × Int × Int × Int) × (Int × Int × Int × Int)) × (List (Int × Int × Int)))) (p1 : Int) (p2 : Int) : Option Bool := FR (AX (EE p0 p1) 0) fun _ => some (decide ((p0.length : Int) ≤ p2))
theorem LA (Y : Nat → Prop) (w0 : World) (v1 : Value) (p0 : List (Int × (Int × (Int × Int × Int × Int) × (Int × Int × Int × Int)) × (List (Int × Int × Int)))) (p1 : Int) (p2 : Int) (r : Bool) (H : Gj p0 p1 p2 = some r) (h_v1 : Sl w0 (NX []) AK v1 p0) :
    Calls Try.prog 5 #[v1, .int .i64 p1, .int .i64 p2] w0 fun e w' => e = .returned (.bool r) ∧ Below w0.heap.size w0 w' := by
 refine enter Try.func5 Aa Try.ntmps5 Aa fun a F => ?_
 have W := Stw.start Y w0
 obtain ⟨v2, h1, h_v1⟩ := h_v1.ex A4
 unfold Gj at H
 refine vc tk 5 F W fun a w F W => ?_
 obtain ⟨o1, G1, K1, L1⟩ := H1 H
 refine Au (fun a w => some (Sum.inl ()) = some o1 ∧ Fr 53 [] [(0, v1), (2, .int .i64 p2), (6, .bool false)] a ∧ Stw ⟨Y, [], w0⟩ [] [] w) ?_ ?_
 ·
  have H := G1
  clear G1 K1
  refine vc tk 6 F W fun a w F W => ?_
  refine BA H (fun s a w => Fr 53 [] [(0, v1), (1, .int .i64 p1), (2, .int .i64 p2), (6, .bool false), (7, .int .i64 s)] a ∧ Stw ⟨Y, [], w0⟩ [] [] w) ⟨F.ra Aa, W⟩ fun s o a w H L2 hR => ?_
  obtain ⟨x1, rfl⟩ : ∃ x, x = s := ⟨s, rfl⟩
  obtain ⟨F, W⟩ := hR
  have F : Fr 53 [] [(0, v1), (1, .int .i64 p1), (2, .int .i64 p2), (6, .bool false), (7, .int .i64 x1)] a := F
  have W : Stw ⟨Y, [], w0⟩ [] [] w := W
  rw [EE] at H
  refine vc tk 5 F W fun a w F W => ?_
  refine ls F W Aa (B7 (r := AK) (l := p0) E7 Aa F Aa (Bq A4 h1 (An h_v1))).q fun a w F W => ?_
  refine BJ tk 3 F W fun a w F W => ?_
  refine Bi F Aa H (fun F H => ?_) fun F H => ?_
  ·
   refine AC (Ad ?_)
   obtain ⟨o3, G3, K3, L3⟩ := H1 H
   refine Au (fun a w => some (Sum.inl ()) = some o3 ∧ Fr 53 [] [(0, v1), (1, .int .i64 p1), (2, .int .i64 p2), (6, .bool false), (7, .int .i64 x1)] a ∧ Stw ⟨Y, [], w0⟩ [] [] w) ?_ ?_
   ·
    have H := G3
    clear G3 K3
    refine vc tk 6 F W fun a w F W => ?_
    obtain ⟨x2, h2, H⟩ := Af H
    obtain ⟨v3, h3, h4⟩ := BX h1 h2
    have h5 : Cy v3 = [.int .i64 x2.1, .int .i64 x2.2.1.1, .int .i64 x2.2.1.2.1.1, .int .i64 x2.2.1.2.1.2.1, .int .i64 x2.2.1.2.1.2.2.1, .int .i64 x2.2.1.2.1.2.2.2, .int .i64 x2.2.1.2.2.1, .int .i64 x2.2.1.2.2.2.1, .int .i64 x2.2.1.2.2.2.2.1, .int .i64 x2.2.1.2.2.2.2.2, (v3.2.2.1)] := congrArg (fun q : Int × (Int × (Int × Int × Int × Int) × (Int × Int × Int × Int)) × (List (Int × Int × Int)) => ([.int .i64 q.1, .int .i64 q.2.1.1, .int .i64 q.2.1.2.1.1, .int .i64 q.2.1.2.1.2.1, .int .i64 q.2.1.2.1.2.2.1, .int .i64 q.2.1.2.1.2.2.2, .int .i64 q.2.1.2.2.1, .int .i64 q.2.1.2.2.2.1, .int .i64 q.2.1.2.2.2.2.1, .int .i64 q.2.1.2.2.2.2.2, (v3.2.2.1)] : List Value)) h4
    refine ls F W Aa (AR (r := C4) EL F Aa Aa (An h_v1) h3).q fun a w F W => ?_
    refine ls F W Aa (AD (y := Value.agg #[.int .i64 x2.1, .int .i64 x2.2.1.1, .int .i64 x2.2.1.2.1.1, .int .i64 x2.2.1.2.1.2.1, .int .i64 x2.2.1.2.1.2.2.1, .int .i64 x2.2.1.2.1.2.2.2, .int .i64 x2.2.1.2.2.1, .int .i64 x2.2.1.2.2.2.1, .int .i64 x2.2.1.2.2.2.2.1, .int .i64 x2.2.1.2.2.2.2.2, (v3.2.2.1)]) (j := 0) (i := x1) (enc := Cy) F Aa Aa (An h_v1) h3 EG EM (by rw [h5]; rfl)).q fun a w F W => ?_
    refine ls F W Aa (Am F Aa).q fun a w F W => ?_
    obtain ⟨x3, h6, H⟩ := Af H
    refine ls F W Aa (AM (v := Value.bool x3) F SD Aa (fun w W => Iz any w ((v3.2.2.1)) x2 p1 _ h6 (Dc (Db (An h_v1) h3 (Ay.snd (Ay.snd Ay.here)) (congrArg (fun q : Int × (Int × (Int × Int × Int × Int) × (Int × Int × Int × Int)) × (List (Int × Int × Int)) => q.2.2) h4)) W))) fun a w F W => ?_
    refine BJ tk 3 F W fun a w F W => ?_
    refine BE F Aa H (fun F H => ?_) fun F H => ?_
    ·
     refine vc tk 5 F W fun a w F W => ?_
     refine Al (Aq (Az ?_))
     iterate 2 refine Aq ?_
     refine Az (Aq ?_)
     have H := L3 _ H
     have H := L2 _ H
     have H := L1 _ H
     have H := Av H
     subst H
     refine Aw (.inl Aa) F W Aa (Ai F Aa) ?_
     exact ⟨rfl, W.done⟩
    refine D6 tk 8 F W fun a w F W => ?_
    refine BA H (fun s a w => Fr 53 [] [(0, v1), (1, .int .i64 p1), (2, .int .i64 p2), (6, .bool false), (7, .int .i64 x1), (8, .int .i64 s)] a ∧ Stw ⟨Y, [], w0⟩ [] [] w) ⟨F.ra Aa, W⟩ fun s o a w H L4 hR => ?_
    obtain ⟨x4, rfl⟩ : ∃ x, x = s := ⟨s, rfl⟩
    obtain ⟨F, W⟩ := hR
    have F : Fr 53 [] [(0, v1), (1, .int .i64 p1), (2, .int .i64 p2), (6, .bool false), (7, .int .i64 x1), (8, .int .i64 x4)] a := F
    have W : Stw ⟨Y, [], w0⟩ [] [] w := W
    rw [El] at H
    refine vc tk 8 F W fun a w F W => ?_
    refine Bi F Aa H (fun F H => ?_) fun F H => ?_
    ·
     refine D6 tk 4 F W fun a w F W => ?_
     obtain ⟨o5, G5, K5⟩ := Af H
     refine Au (fun a w => ∃ x5 : Bool, some (x5) = some o5 ∧ Fr 53 [] [(0, v1), (1, .int .i64 p1), (2, .int .i64 p2), (6, .bool false), (7, .int .i64 x1), (8, .int .i64 x4), (48, .bool x5)] a ∧ Stw ⟨Y, [], w0⟩ [] [] w) ?_ ?_
     ·
      have H := G5
      clear G5 K5
      refine Ck W MO (by kernel_rfl) ?_
      iterate 2 refine qs F Aa (Am F Aa).q fun a F => ?_
      obtain ⟨x6, h7, H⟩ := Af H
      obtain ⟨v4, h8, h9⟩ := BX h1 h7
      have h10 : Cy v4 = [.int .i64 x6.1, .int .i64 x6.2.1.1, .int .i64 x6.2.1.2.1.1, .int .i64 x6.2.1.2.1.2.1, .int .i64 x6.2.1.2.1.2.2.1, .int .i64 x6.2.1.2.1.2.2.2, .int .i64 x6.2.1.2.2.1, .int .i64 x6.2.1.2.2.2.1, .int .i64 x6.2.1.2.2.2.2.1, .int .i64 x6.2.1.2.2.2.2.2, (v4.2.2.1)] := congrArg (fun q : Int × (Int × (Int × Int × Int × Int) × (Int × Int × Int × Int)) × (List (Int × Int × Int)) => ([.int .i64 q.1, .int .i64 q.2.1.1, .int .i64 q.2.1.2.1.1, .int .i64 q.2.1.2.1.2.1, .int .i64 q.2.1.2.1.2.2.1, .int .i64 q.2.1.2.1.2.2.2, .int .i64 q.2.1.2.2.1, .int .i64 q.2.1.2.2.2.1, .int .i64 q.2.1.2.2.2.2.1, .int .i64 q.2.1.2.2.2.2.2, (v4.2.2.1)] : List Value)) h9
      refine qs F Aa (AR (r := C4) EL F Aa Aa (An h_v1) h8).q fun a F => ?_
      refine qs F Aa (Aj Ij Aa Aa Aa T3 F Aa (Ei v1 + (x4).toNat * 11) Aa).q fun a F => ?_
      refine qs F Aa (AD (y := Value.int .i64 x6.1) (j := 0) (i := x4) (enc := Cy) F Aa Aa (An h_v1) h8 EG T3 (by rw [h10]; rfl)).q fun a F => ?_
      iterate 2 refine qs F Aa (Am F Aa).q fun a F => ?_
      obtain ⟨x7, h11, H⟩ := Af H
      obtain ⟨v5, h12, h13⟩ := BX h1 h11
      have h14 : Cy v5 = [.int .i64 x7.1, .int .i64 x7.2.1.1, .int .i64 x7.2.1.2.1.1, .int .i64 x7.2.1.2.1.2.1, .int .i64 x7.2.1.2.1.2.2.1, .int .i64 x7.2.1.2.1.2.2.2, .int .i64 x7.2.1.2.2.1, .int .i64 x7.2.1.2.2.2.1, .int .i64 x7.2.1.2.2.2.2.1, .int .i64 x7.2.1.2.2.2.2.2, (v5.2.2.1)] := congrArg (fun q : Int × (Int × (Int × Int × Int × Int) × (Int × Int × Int × Int)) × (List (Int × Int × Int)) => ([.int .i64 q.1, .int .i64 q.2.1.1, .int .i64 q.2.1.2.1.1, .int .i64 q.2.1.2.1.2.1, .int .i64 q.2.1.2.1.2.2.1, .int .i64 q.2.1.2.1.2.2.2, .int .i64 q.2.1.2.2.1, .int .i64 q.2.1.2.2.2.1, .int .i64 q.2.1.2.2.2.2.1, .int .i64 q.2.1.2.2.2.2.2, (v5.2.2.1)] : List Value)) h13
      refine qs F Aa (AR (r := C4) EL F Aa Aa (An h_v1) h12).q fun a F => ?_
      refine qs F Aa (Aj Ij Aa Aa Aa T3 F Aa (Ei v1 + (x1).toNat * 11) Aa).q fun a F => ?_
      refine qs F Aa (AD (y := Value.int .i64 x7.1) (j := 0) (i := x1) (enc := Cy) F Aa Aa (An h_v1) h12 EG T3 (by rw [h14]; rfl)).q fun a F => ?_
      refine qs F Aa (JV F Aa Aa).q fun a F => ?_
      refine qs F Aa (Am F Aa).q fun a F => ?_
      rcases Bool.eq_false_or_eq_true (decide (x6.1 < x7.1)) with hb | hb
      ·
       have H := B4 (Cn hb) H
       rw [hb] at F
       clear hb
       iterate 9 refine AP F (AB F Aa Aa Aa Aa Aa) Aa Aa fun a F => ?_
       refine qs F Aa (BH F Aa Aa Aa).q fun a F => ?_
       refine AJ fun w W => ?_
       refine Ad ?_
       exact ⟨_, H, F.ra Aa, W⟩
      have H := B5 (Cp hb) H
      rw [hb] at F
      clear hb
      iterate 2 refine A2 F (Ae F Aa Aa Aa Aa) Aa (As Aa) (Am F Aa).q fun a F => ?_
      obtain ⟨x8, h15, H⟩ := Af H
      obtain ⟨v6, h16, h17⟩ := BX h1 h15
      have h18 : Cy v6 = [.int .i64 x8.1, .int .i64 x8.2.1.1, .int .i64 x8.2.1.2.1.1, .int .i64 x8.2.1.2.1.2.1, .int .i64 x8.2.1.2.1.2.2.1, .int .i64 x8.2.1.2.1.2.2.2, .int .i64 x8.2.1.2.2.1, .int .i64 x8.2.1.2.2.2.1, .int .i64 x8.2.1.2.2.2.2.1, .int .i64 x8.2.1.2.2.2.2.2, (v6.2.2.1)] := congrArg (fun q : Int × (Int × (Int × Int × Int × Int) × (Int × Int × Int × Int)) × (List (Int × Int × Int)) => ([.int .i64 q.1, .int .i64 q.2.1.1, .int .i64 q.2.1.2.1.1, .int .i64 q.2.1.2.1.2.1, .int .i64 q.2.1.2.1.2.2.1, .int .i64 q.2.1.2.1.2.2.2, .int .i64 q.2.1.2.2.1, .int .i64 q.2.1.2.2.2.1, .int .i64 q.2.1.2.2.2.2.1, .int .i64 q.2.1.2.2.2.2.2, (v6.2.2.1)] : List Value)) h17
      refine A2 F (Ae F Aa Aa Aa Aa) Aa (As Aa) (AR (r := C4) EL F Aa Aa (An h_v1) h16).q fun a F => ?_
      refine A2 F (Ae F Aa Aa Aa Aa) Aa (As Aa) (AD (y := Value.agg #[.int .i64 x8.1, .int .i64 x8.2.1.1, .int .i64 x8.2.1.2.1.1, .int .i64 x8.2.1.2.1.2.1, .int .i64 x8.2.1.2.1.2.2.1, .int .i64 x8.2.1.2.1.2.2.2, .int .i64 x8.2.1.2.2.1, .int .i64 x8.2.1.2.2.2.1, .int .i64 x8.2.1.2.2.2.2.1, .int .i64 x8.2.1.2.2.2.2.2, (v6.2.2.1)]) (j := 0) (i := x4) (enc := Cy) F Aa Aa (An h_v1) h16 EG EM (by rw [h18]; rfl)).q fun a F => ?_
      iterate 2 refine A2 F (Ae F Aa Aa Aa Aa) Aa (As Aa) (Am F Aa).q fun a F => ?_
      obtain ⟨x9, h19, H⟩ := Af H
      obtain ⟨v7, h20, h21⟩ := BX h1 h19
      have h22 : Cy v7 = [.int .i64 x9.1, .int .i64 x9.2.1.1, .int .i64 x9.2.1.2.1.1, .int .i64 x9.2.1.2.1.2.1, .int .i64 x9.2.1.2.1.2.2.1, .int .i64 x9.2.1.2.1.2.2.2, .int .i64 x9.2.1.2.2.1, .int .i64 x9.2.1.2.2.2.1, .int .i64 x9.2.1.2.2.2.2.1, .int .i64 x9.2.1.2.2.2.2.2, (v7.2.2.1)] := congrArg (fun q : Int × (Int × (Int × Int × Int × Int) × (Int × Int × Int × Int)) × (List (Int × Int × Int)) => ([.int .i64 q.1, .int .i64 q.2.1.1, .int .i64 q.2.1.2.1.1, .int .i64 q.2.1.2.1.2.1, .int .i64 q.2.1.2.1.2.2.1, .int .i64 q.2.1.2.1.2.2.2, .int .i64 q.2.1.2.2.1, .int .i64 q.2.1.2.2.2.1, .int .i64 q.2.1.2.2.2.2.1, .int .i64 q.2.1.2.2.2.2.2, (v7.2.2.1)] : List Value)) h21
      refine A2 F (Ae F Aa Aa Aa Aa) Aa (As Aa) (AR (r := C4) EL F Aa Aa (An h_v1) h20).q fun a F => ?_
      refine A2 F (Ae F Aa Aa Aa Aa) Aa (As Aa) (AD (y := Value.agg #[.int .i64 x9.1, .int .i64 x9.2.1.1, .int .i64 x9.2.1.2.1.1, .int .i64 x9.2.1.2.1.2.1, .int .i64 x9.2.1.2.1.2.2.1, .int .i64 x9.2.1.2.1.2.2.2, .int .i64 x9.2.1.2.2.1, .int .i64 x9.2.1.2.2.2.1, .int .i64 x9.2.1.2.2.2.2.1, .int .i64 x9.2.1.2.2.2.2.2, (v7.2.2.1)]) (j := 0) (i := x1) (enc := Cy) F Aa Aa (An h_v1) h20 EG EM (by rw [h22]; rfl)).q fun a F => ?_
      refine A2 F (Ae F Aa Aa Aa Aa) Aa (As Aa) (AM (v := Value.bool (FP x8 x9)) F Sy Aa (fun w W => J7 any w ((v6.2.2.1)) ((v7.2.2.1)) x8 x9 _ Aa (Dc (Db (An h_v1) h16 (Ay.snd (Ay.snd Ay.here)) (congrArg (fun q : Int × (Int × (Int × Int × Int × Int) × (Int × Int × Int × Int)) × (List (Int × Int × Int)) => q.2.2) h17)) W) (Dc (Db (An h_v1) h20 (Ay.snd (Ay.snd Ay.here)) (congrArg (fun q : Int × (Int × (Int × Int × Int × Int) × (Int × Int × Int × Int)) × (List (Int × Int × Int)) => q.2.2) h21)) W))) fun a F => ?_
      refine qs F Aa (AO F Aa Aa Aa).q fun a F => ?_
      refine AJ fun w W => ?_
      refine Ad ?_
      exact ⟨_, H, F.ra Aa, W⟩
     rintro a w ⟨x5, hj, F, W⟩
     have hj := Av hj
     subst hj
     have H := K5
     clear G5 K5
     refine BE F Aa H (fun F H => ?_) fun F H => ?_
     ·
      refine vc tk 5 F W fun a w F W => ?_
      refine Al (Az ?_)
      iterate 2 refine Aq ?_
      iterate 2 refine Az ?_
      iterate 2 refine Aq ?_
      refine Az (Aq ?_)
      have H := L4 _ H
      have H := L3 _ H
      have H := L2 _ H
      have H := L1 _ H
      have H := Av H
      subst H
      refine Aw (.inl Aa) F W Aa (Ai F Aa) ?_
      exact ⟨rfl, W.done⟩
     refine AC (AF ?_)
     refine vn tk 5 F W fun a w F W => ?_
     refine Ad ?_
     exact ⟨_, H, F.ra Aa, W⟩
    refine Bm ?_
    iterate 2 refine BU ?_
    refine Bp (AF (Ad ?_))
    have H := L4 _ H
    exact ⟨H, F.ra Aa, W⟩
   rintro a w ⟨hj, F, W⟩
   have H := K3 _ hj
   clear hj G3 K3 L3
   refine vc tk 5 F W fun a w F W => ?_
   refine Ad ?_
   exact ⟨_, H, F.ra Aa, W⟩
  refine Bm ?_
  iterate 2 refine BU ?_
  refine Bp (Ad ?_)
  have H := L2 _ H
  exact ⟨H, F.ra Aa, W⟩
 rintro a w ⟨hj, F, W⟩
 have H := K1 _ hj
 clear hj G1 K1 L1
 refine vc tk 3 F W fun a w F W => ?_
 refine ls F W Aa (B7 (r := AK) (l := p0) E7 Aa F Aa (Bq A4 h1 (An h_v1))).q fun a w F W => ?_
 refine BJ tk 5 F W fun a w F W => ?_
 refine Al ?_
 have H := Av H
 subst H
 refine Aw (.inl Aa) F W Aa (Ai F Aa) ?_
 exact ⟨rfl, W.done⟩
theorem KS : type_of% Try.underlying71 := Try.underlying71
theorem H5 : Has Try.prog 5 := BV Try.func5
theorem Sx : Bt Try.prog 71 [.int .i64 0, .bool false, .int .i64 0, .int .i64 0, .int .i64 0, .int .i64 0, .int .i64 0, .int .i64 0, .int .i64 0, .int .i64 0, .int .i64 0, .int .i64 0, .int .i64 0, .slice none 0 0, .bool false, .bool false, .int .i64 0, .int .i64 0, .int .i64 0, .int .i64 0, .int .i64 0, .int .i64 0, .int .i64 0, .int .i64 0, .int .i64 0, .int .i64 0, .int .i64 0, .slice none 0 0, .bool false, .bool false, .int .i64 0, .int .i64 0, .int .i64 0, .int .i64 0, .int .i64 0, .int .i64 0, .int .i64 0, .int .i64 0, .int .i64 0, .int .i64 0, .int .i64 0, .slice none 0 0, .bool false, .bool false, .int .i64 0, .int .i64 0, .int .i64 0, .int .i64 0, .int .i64 0, .int .i64 0, .int .i64 0, .int .i64 0, .int .i64 0, .int .i64 0, .int .i64 0, .slice none 0 0, .bool false, .bool false, .int .i64 0, .int .i64 0, .int .i64 0, .int .i64 0, .int .i64 0, .int .i64 0, .int .i64 0, .int .i64 0, .int .i64 0, .int .i64 0, .int .i64 0, .slice none 0 0, .bool false, .bool false, .int .i64 0, .int .i64 0, .int .i64 0, .int .i64 0, .int .i64 0, .int .i64 0, .int .i64 0, .int .i64 0, .int .i64 0, .int .i64 0, .int .i64 0, .slice none 0 0, .bool false, .bool false, .int .i64 0, .int .i64 0, .int .i64 0, .int .i64 0, .int .i64 0, .int .i64 0, .int .i64 0, .int .i64 0, .int .i64 0, .int .i64 0, .int .i64 0, .slice none 0 0, .bool false, .bool false, .int .i64 0, .int .i64 0, .int .i64 0, .int .i64 0, .int .i64 0, .int .i64 0, .int .i64 0, .int .i64 0, .int .i64 0, .int .i64 0, .int .i64 0, .slice none 0 0, .bool false, .bool false, .int .i64 0, .int .i64 0, .int .i64 0, .int .i64 0, .int .i64 0, .int .i64 0, .int .i64 0, .int .i64 0, .int .i64 0, .int .i64 0, .int .i64 0, .slice none 0 0, .bool false, .bool false, .int .i64 0, .int .i64 0, .int .i64 0, .int .i64 0, .int .i64 0, .int .i64 0, .int .i64 0, .int .i64 0, .int .i64 0, .int .i64 0, .int .i64 0, .slice none 0 0, .bool false, .bool false, .int .i64 0, .int .i64 0, .int .i64 0, .int .i64 0, .int .i64 0, .int .i64 0, .int .i64 0, .int .i64 0, .int .i64 0, .int .i64 0, .int .i64 0, .slice none 0 0, .bool false, .bool false, .int .i64 0, .int .i64 0, .int .i64 0, .int .i64 0, .int .i64 0, .int .i64 0, .int .i64 0, .int .i64 0, .int .i64 0, .int .i64 0, .int .i64 0, .slice none 0 0, .bool false, .bool false, .int .i64 0, .int .i64 0, .int .i64 0, .int .i64 0, .int .i64 0, .int .i64 0, .int .i64 0, .int .i64 0, .int .i64 0, .int .i64 0, .int .i64 0, .slice none 0 0, .bool false, .bool false, .int .i64 0, .int .i64 0, .int .i64 0, .int .i64 0, .int .i64 0, .int .i64 0, .int .i64 0, .int .i64 0, .int .i64 0, .int .i64 0, .int .i64 0, .slice none 0 0, .bool false, .bool false, .int .i64 0, .int .i64 0, .int .i64 0, .int .i64 0, .int .i64 0, .int .i64 0, .int .i64 0, .int .i64 0, .int .i64 0, .int .i64 0, .int .i64 0, .slice none 0 0, .bool false, .bool false, .int .i64 0, .int .i64 0, .int .i64 0, .int .i64 0, .int .i64 0, .int .i64 0, .int .i64 0, .int .i64 0, .int .i64 0, .int .i64 0, .int .i64 0, .slice none 0 0, .bool false] [(0, 1), (1, 224)] := ⟨⟨.agg #[.int .i64 0, .bool false, .int .i64 0, .int .i64 0, .int .i64 0, .int .i64 0, .int .i64 0, .int .i64 0, .int .i64 0, .int .i64 0, .int .i64 0, .int .i64 0, .int .i64 0, .slice none 0 0, .bool false, .bool false, .int .i64 0, .int .i64 0, .int .i64 0, .int .i64 0, .int .i64 0, .int .i64 0, .int .i64 0, .int .i64 0, .int .i64 0, .int .i64 0, .int .i64 0, .slice none 0 0, .bool false, .bool false, .int .i64 0, .int .i64 0, .int .i64 0, .int .i64 0, .int .i64 0, .int .i64 0, .int .i64 0, .int .i64 0, .int .i64 0, .int .i64 0, .int .i64 0, .slice none 0 0, .bool false, .bool false, .int .i64 0, .int .i64 0, .int .i64 0, .int .i64 0, .int .i64 0, .int .i64 0, .int .i64 0, .int .i64 0, .int .i64 0, .int .i64 0, .int .i64 0, .slice none 0 0, .bool false, .bool false, .int .i64 0, .int .i64 0, .int .i64 0, .int .i64 0, .int .i64 0, .int .i64 0, .int .i64 0, .int .i64 0, .int .i64 0, .int .i64 0, .int .i64 0, .slice none 0 0, .bool false, .bool false, .int .i64 0, .int .i64 0, .int .i64 0, .int .i64 0, .int .i64 0, .int .i64 0, .int .i64 0, .int .i64 0, .int .i64 0, .int .i64 0, .int .i64 0, .slice none 0 0, .bool false, .bool false, .int .i64 0, .int .i64 0, .int .i64 0, .int .i64 0, .int .i64 0, .int .i64 0, .int .i64 0, .int .i64 0, .int .i64 0, .int .i64 0, .int .i64 0, .slice none 0 0, .bool false, .bool false, .int .i64 0, .int .i64 0, .int .i64 0, .int .i64 0, .int .i64 0, .int .i64 0, .int .i64 0, .int .i64 0, .int .i64 0, .int .i64 0, .int .i64 0, .slice none 0 0, .bool false, .bool false, .int .i64 0, .int .i64 0, .int .i64 0, .int .i64 0, .int .i64 0, .int .i64 0, .int .i64 0, .int .i64 0, .int .i64 0, .int .i64 0, .int .i64 0, .slice none 0 0, .bool false, .bool false, .int .i64 0, .int .i64 0, .int .i64 0, .int .i64 0, .int .i64 0, .int .i64 0, .int .i64 0, .int .i64 0, .int .i64 0, .int .i64 0, .int .i64 0, .slice none 0 0, .bool false, .bool false, .int .i64 0, .int .i64 0, .int .i64 0, .int .i64 0, .int .i64 0, .int .i64 0, .int .i64 0, .int .i64 0, .int .i64 0, .int .i64 0, .int .i64 0, .slice none 0 0, .bool false, .bool false, .int .i64 0, .int .i64 0, .int .i64 0, .int .i64 0, .int .i64 0, .int .i64 0, .int .i64 0, .int .i64 0, .int .i64 0, .int .i64 0, .int .i64 0, .slice none 0 0, .bool false, .bool false, .int .i64 0, .int .i64 0, .int .i64 0, .int .i64 0, .int .i64 0, .int .i64 0, .int .i64 0, .int .i64 0, .int .i64 0, .int .i64 0, .int .i64 0, .slice none 0 0, .bool false, .bool false, .int .i64 0, .int .i64 0, .int .i64 0, .int .i64 0, .int .i64 0, .int .i64 0, .int .i64 0, .int .i64 0, .int .i64 0, .int .i64 0, .int .i64 0, .slice none 0 0, .bool false, .bool false, .int .i64 0, .int .i64 0, .int .i64 0, .int .i64 0, .int .i64 0, .int .i64 0, .int .i64 0, .int .i64 0, .int .i64 0, .int .i64 0, .int .i64 0, .slice none 0 0, .bool false, .bool false, .int .i64 0, .int .i64 0, .int .i64 0, .int .i64 0, .int .i64 0, .int .i64 0, .int .i64 0, .int .i64 0, .int .i64 0, .int .i64 0, .int .i64 0, .slice none 0 0, .bool false], by kernel_rfl, rfl⟩, ⟨_, KS, fun w => by kernel_rfl⟩⟩
abbrev BO : Rp (Bool × (Int × (Int × (Int × (Int × Int × Int × Int) × (Int × Int × Int × Int)) × (List (Int × Int × Int))) × Bool)) := (Rp.pair Rp.bool EQ)
theorem RW (w : World) (A : Nat → Prop) : BO.rep w A [.bool false, .int .i64 0, .int .i64 0, .int .i64 0, .int .i64 0, .int .i64 0, .int .i64 0, .int .i64 0, .int .i64 0, .int .i64 0, .int .i64 0, .int .i64 0, .slice none 0 0, .bool false] ((false, (0, (0, (0, (0, 0, 0, 0), (0, 0, 0, 0)), []), false)) : Bool × (Int × (Int × (Int × (Int × Int × Int × Int) × (Int × Int × Int × Int)) × (List (Int × Int × Int))) × Bool)) := ⟨[Value.bool false], [Value.int .i64 0, Value.int .i64 0, Value.int .i64 0, Value.int .i64 0, Value.int .i64 0, Value.int .i64 0, Value.int .i64 0, Value.int .i64 0, Value.int .i64 0, Value.int .i64 0, Value.int .i64 0, Value.slice none 0 0, Value.bool false], rfl, rfl, ⟨[Value.int .i64 0], [Value.int .i64 0, Value.int .i64 0, Value.int .i64 0, Value.int .i64 0, Value.int .i64 0, Value.int .i64 0, Value.int .i64 0, Value.int .i64 0, Value.int .i64 0, Value.int .i64 0, Value.slice none 0 0, Value.bool false], rfl, rfl, ⟨[Value.int .i64 0, Value.int .i64 0, Value.int .i64 0, Value.int .i64 0, Value.int .i64 0, Value.int .i64 0, Value.int .i64 0, Value.int .i64 0, Value.int .i64 0, Value.int .i64 0, Value.slice none 0 0], [Value.bool false], rfl, ⟨[Value.int .i64 0], [Value.int .i64 0, Value.int .i64 0, Value.int .i64 0, Value.int .i64 0, Value.int .i64 0, Value.int .i64 0, Value.int .i64 0, Value.int .i64 0, Value.int .i64 0, Value.slice none 0 0], rfl, rfl, ⟨[Value.int .i64 0, Value.int .i64 0, Value.int .i64 0, Value.int .i64 0, Value.int .i64 0, Value.int .i64 0, Value.int .i64 0, Value.int .i64 0, Value.int .i64 0], [Value.slice none 0 0], rfl, ⟨[Value.int .i64 0], [Value.int .i64 0, Value.int .i64 0, Value.int .i64 0, Value.int .i64 0, Value.int .i64 0, Value.int .i64 0, Value.int .i64 0, Value.int .i64 0], rfl, rfl, ⟨[Value.int .i64 0, Value.int .i64 0, Value.int .i64 0, Value.int .i64 0], [Value.int .i64 0, Value.int .i64 0, Value.int .i64 0, Value.int .i64 0], rfl, ⟨[Value.int .i64 0], [Value.int .i64 0, Value.int .i64 0, Value.int .i64 0], rfl, rfl, ⟨[Value.int .i64 0], [Value.int .i64 0, Value.int .i64 0], rfl, rfl, ⟨[Value.int .i64 0], [Value.int .i64 0], rfl, rfl, rfl⟩⟩⟩, ⟨[Value.int .i64 0], [Value.int .i64 0, Value.int .i64 0, Value.int .i64 0], rfl, rfl, ⟨[Value.int .i64 0], [Value.int .i64 0, Value.int .i64 0], rfl, rfl, ⟨[Value.int .i64 0], [Value.int .i64 0], rfl, rfl, rfl⟩⟩⟩⟩⟩, ⟨_, rfl, Sl.nil⟩⟩⟩, rfl⟩⟩⟩
theorem Ry : ∀ (n : Nat) (w : World) (A : Nat → Prop), Bx BO w A (Gp (fun _ => [.bool false, .int .i64 0, .int .i64 0, .int .i64 0, .int .i64 0, .int .i64 0, .int .i64 0, .int .i64 0, .int .i64 0, .int .i64 0, .int .i64 0, .int .i64 0, .slice none 0 0, .bool false]) (List.replicate n ())) (List.replicate n ((false, (0, (0, (0, (0, 0, 0, 0), (0, 0, 0, 0)), []), false)) : Bool × (Int × (Int × (Int × (Int × Int × Int × Int) × (Int × Int × Int × Int)) × (List (Int × Int × Int))) × Bool)))
  | 0, _, _ => rfl
  | n + 1, w, A => ⟨_, _, rfl, RW w A, Ry n w A⟩
theorem Sf : Gp (fun _ => ([.bool false, .int .i64 0, .int .i64 0, .int .i64 0, .int .i64 0, .int .i64 0, .int .i64 0, .int .i64 0, .int .i64 0, .int .i64 0, .int .i64 0, .int .i64 0, .slice none 0 0, .bool false] : List Value)) (List.replicate 16 ()) = [.bool false, .int .i64 0, .int .i64 0, .int .i64 0, .int .i64 0, .int .i64 0, .int .i64 0, .int .i64 0, .int .i64 0, .int .i64 0, .int .i64 0, .int .i64 0, .slice none 0 0, .bool false, .bool false, .int .i64 0, .int .i64 0, .int .i64 0, .int .i64 0, .int .i64 0, .int .i64 0, .int .i64 0, .int .i64 0, .int .i64 0, .int .i64 0, .int .i64 0, .slice none 0 0, .bool false, .bool false, .int .i64 0, .int .i64 0, .int .i64 0, .int .i64 0, .int .i64 0, .int .i64 0, .int .i64 0, .int .i64 0, .int .i64 0, .int .i64 0, .int .i64 0, .slice none 0 0, .bool false, .bool false, .int .i64 0, .int .i64 0, .int .i64 0, .int .i64 0, .int .i64 0, .int .i64 0, .int .i64 0, .int .i64 0, .int .i64 0, .int .i64 0, .int .i64 0, .slice none 0 0, .bool false, .bool false, .int .i64 0, .int .i64 0, .int .i64 0, .int .i64 0, .int .i64 0, .int .i64 0, .int .i64 0, .int .i64 0, .int .i64 0, .int .i64 0, .int .i64 0, .slice none 0 0, .bool false, .bool false, .int .i64 0, .int .i64 0, .int .i64 0, .int .i64 0, .int .i64 0, .int .i64 0, .int .i64 0, .int .i64 0, .int .i64 0, .int .i64 0, .int .i64 0, .slice none 0 0, .bool false, .bool false, .int .i64 0, .int .i64 0, .int .i64 0, .int .i64 0, .int .i64 0, .int .i64 0, .int .i64 0, .int .i64 0, .int .i64 0, .int .i64 0, .int .i64 0, .slice none 0 0, .bool false, .bool false, .int .i64 0, .int .i64 0, .int .i64 0, .int .i64 0, .int .i64 0, .int .i64 0, .int .i64 0, .int .i64 0, .int .i64 0, .int .i64 0, .int .i64 0, .slice none 0 0, .bool false, .bool false, .int .i64 0, .int .i64 0, .int .i64 0, .int .i64 0, .int .i64 0, .int .i64 0, .int .i64 0, .int .i64 0, .int .i64 0, .int .i64 0, .int .i64 0, .slice none 0 0, .bool false, .bool false, .int .i64 0, .int .i64 0, .int .i64 0, .int .i64 0, .int .i64 0, .int .i64 0, .int .i64 0, .int .i64 0, .int .i64 0, .int .i64 0, .int .i64 0, .slice none 0 0, .bool false, .bool false, .int .i64 0, .int .i64 0, .int .i64 0, .int .i64 0, .int .i64 0, .int .i64 0, .int .i64 0, .int .i64 0, .int .i64 0, .int .i64 0, .int .i64 0, .slice none 0 0, .bool false, .bool false, .int .i64 0, .int .i64 0, .int .i64 0, .int .i64 0, .int .i64 0, .int .i64 0, .int .i64 0, .int .i64 0, .int .i64 0, .int .i64 0, .int .i64 0, .slice none 0 0, .bool false, .bool false, .int .i64 0, .int .i64 0, .int .i64 0, .int .i64 0, .int .i64 0, .int .i64 0, .int .i64 0, .int .i64 0, .int .i64 0, .int .i64 0, .int .i64 0, .slice none 0 0, .bool false, .bool false, .int .i64 0, .int .i64 0, .int .i64 0, .int .i64 0, .int .i64 0, .int .i64 0, .int .i64 0, .int .i64 0, .int .i64 0, .int .i64 0, .int .i64 0, .slice none 0 0, .bool false, .bool false, .int .i64 0, .int .i64 0, .int .i64 0, .int .i64 0, .int .i64 0, .int .i64 0, .int .i64 0, .int .i64 0, .int .i64 0, .int .i64 0, .int .i64 0, .slice none 0 0, .bool false, .bool false, .int .i64 0, .int .i64 0, .int .i64 0, .int .i64 0, .int .i64 0, .int .i64 0, .int .i64 0, .int .i64 0, .int .i64 0, .int .i64 0, .int .i64 0, .slice none 0 0, .bool false] := by kernel_rfl
theorem Rs (w : World) (A : Nat → Prop) : Bx BO w A [.bool false, .int .i64 0, .int .i64 0, .int .i64 0, .int .i64 0, .int .i64 0, .int .i64 0, .int .i64 0, .int .i64 0, .int .i64 0, .int .i64 0, .int .i64 0, .slice none 0 0, .bool false, .bool false, .int .i64 0, .int .i64 0, .int .i64 0, .int .i64 0, .int .i64 0, .int .i64 0, .int .i64 0, .int .i64 0, .int .i64 0, .int .i64 0, .int .i64 0, .slice none 0 0, .bool false, .bool false, .int .i64 0, .int .i64 0, .int .i64 0, .int .i64 0, .int .i64 0, .int .i64 0, .int .i64 0, .int .i64 0, .int .i64 0, .int .i64 0, .int .i64 0, .slice none 0 0, .bool false, .bool false, .int .i64 0, .int .i64 0, .int .i64 0, .int .i64 0, .int .i64 0, .int .i64 0, .int .i64 0, .int .i64 0, .int .i64 0, .int .i64 0, .int .i64 0, .slice none 0 0, .bool false, .bool false, .int .i64 0, .int .i64 0, .int .i64 0, .int .i64 0, .int .i64 0, .int .i64 0, .int .i64 0, .int .i64 0, .int .i64 0, .int .i64 0, .int .i64 0, .slice none 0 0, .bool false, .bool false, .int .i64 0, .int .i64 0, .int .i64 0, .int .i64 0, .int .i64 0, .int .i64 0, .int .i64 0, .int .i64 0, .int .i64 0, .int .i64 0, .int .i64 0, .slice none 0 0, .bool false, .bool false, .int .i64 0, .int .i64 0, .int .i64 0, .int .i64 0, .int .i64 0, .int .i64 0, .int .i64 0, .int .i64 0, .int .i64 0, .int .i64 0, .int .i64 0, .slice none 0 0, .bool false, .bool false, .int .i64 0, .int .i64 0, .int .i64 0, .int .i64 0, .int .i64 0, .int .i64 0, .int .i64 0, .int .i64 0, .int .i64 0, .int .i64 0, .int .i64 0, .slice none 0 0, .bool false, .bool false, .int .i64 0, .int .i64 0, .int .i64 0, .int .i64 0, .int .i64 0, .int .i64 0, .int .i64 0, .int .i64 0, .int .i64 0, .int .i64 0, .int .i64 0, .slice none 0 0, .bool false, .bool false, .int .i64 0, .int .i64 0, .int .i64 0, .int .i64 0, .int .i64 0, .int .i64 0, .int .i64 0, .int .i64 0, .int .i64 0, .int .i64 0, .int .i64 0, .slice none 0 0, .bool false, .bool false, .int .i64 0, .int .i64 0, .int .i64 0, .int .i64 0, .int .i64 0, .int .i64 0, .int .i64 0, .int .i64 0, .int .i64 0, .int .i64 0, .int .i64 0, .slice none 0 0, .bool false, .bool false, .int .i64 0, .int .i64 0, .int .i64 0, .int .i64 0, .int .i64 0, .int .i64 0, .int .i64 0, .int .i64 0, .int .i64 0, .int .i64 0, .int .i64 0, .slice none 0 0, .bool false, .bool false, .int .i64 0, .int .i64 0, .int .i64 0, .int .i64 0, .int .i64 0, .int .i64 0, .int .i64 0, .int .i64 0, .int .i64 0, .int .i64 0, .int .i64 0, .slice none 0 0, .bool false, .bool false, .int .i64 0, .int .i64 0, .int .i64 0, .int .i64 0, .int .i64 0, .int .i64 0, .int .i64 0, .int .i64 0, .int .i64 0, .int .i64 0, .int .i64 0, .slice none 0 0, .bool false, .bool false, .int .i64 0, .int .i64 0, .int .i64 0, .int .i64 0, .int .i64 0, .int .i64 0, .int .i64 0, .int .i64 0, .int .i64 0, .int .i64 0, .int .i64 0, .slice none 0 0, .bool false, .bool false, .int .i64 0, .int .i64 0, .int .i64 0, .int .i64 0, .int .i64 0, .int .i64 0, .int .i64 0, .int .i64 0, .int .i64 0, .int .i64 0, .int .i64 0, .slice none 0 0, .bool false] (List.replicate 16 ((false, (0, (0, (0, (0, 0, 0, 0), (0, 0, 0, 0)), []), false)) : Bool × (Int × (Int × (Int × (Int × Int × Int × Int) × (Int × Int × Int × Int)) × (List (Int × Int × Int))) × Bool))) := Sf ▸ Ry 16 w A
def Ci  : (Int × List (Bool × (Int × (Int × (Int × (Int × Int × Int × Int) × (Int × Int × Int × Int)) × (List (Int × Int × Int))) × Bool))) := (0, (List.replicate 16 ((false, (0, (0, (0, (0, 0, 0, 0), (0, 0, 0, 0)), []), false)) : Bool × (Int × (Int × (Int × (Int × Int × Int × Int) × (Int × Int × Int × Int)) × (List (Int × Int × Int))) × Bool))))
theorem HT (Y : Nat → Prop) (w0 : World)   (r : (Int × List (Bool × (Int × (Int × (Int × (Int × Int × Int × Int) × (Int × Int × Int × Int)) × (List (Int × Int × Int))) × Bool)))) (H : Ci  = r)  :
    Calls Try.prog 7 #[] w0 fun e w' => ∃ x : Nat, e = .returned (.pointer (some ⟨x, 0, none⟩)) ∧ Stw ⟨Y, [], w0⟩ [] [Bw x BO 16 r] w' := by
 refine enter Try.func7 Aa Try.ntmps7 Aa fun a F => ?_
 have W := Stw.start Y w0
 unfold Ci at H
 refine vc tk 7 F W fun a w F W => ?_
 refine ls F W Aa (Dr (v := Value.agg #[.int .i64 0, .bool false, .int .i64 0, .int .i64 0, .int .i64 0, .int .i64 0, .int .i64 0, .int .i64 0, .int .i64 0, .int .i64 0, .int .i64 0, .int .i64 0, .int .i64 0, .slice none 0 0, .bool false, .bool false, .int .i64 0, .int .i64 0, .int .i64 0, .int .i64 0, .int .i64 0, .int .i64 0, .int .i64 0, .int .i64 0, .int .i64 0, .int .i64 0, .int .i64 0, .slice none 0 0, .bool false, .bool false, .int .i64 0, .int .i64 0, .int .i64 0, .int .i64 0, .int .i64 0, .int .i64 0, .int .i64 0, .int .i64 0, .int .i64 0, .int .i64 0, .int .i64 0, .slice none 0 0, .bool false, .bool false, .int .i64 0, .int .i64 0, .int .i64 0, .int .i64 0, .int .i64 0, .int .i64 0, .int .i64 0, .int .i64 0, .int .i64 0, .int .i64 0, .int .i64 0, .slice none 0 0, .bool false, .bool false, .int .i64 0, .int .i64 0, .int .i64 0, .int .i64 0, .int .i64 0, .int .i64 0, .int .i64 0, .int .i64 0, .int .i64 0, .int .i64 0, .int .i64 0, .slice none 0 0, .bool false, .bool false, .int .i64 0, .int .i64 0, .int .i64 0, .int .i64 0, .int .i64 0, .int .i64 0, .int .i64 0, .int .i64 0, .int .i64 0, .int .i64 0, .int .i64 0, .slice none 0 0, .bool false, .bool false, .int .i64 0, .int .i64 0, .int .i64 0, .int .i64 0, .int .i64 0, .int .i64 0, .int .i64 0, .int .i64 0, .int .i64 0, .int .i64 0, .int .i64 0, .slice none 0 0, .bool false, .bool false, .int .i64 0, .int .i64 0, .int .i64 0, .int .i64 0, .int .i64 0, .int .i64 0, .int .i64 0, .int .i64 0, .int .i64 0, .int .i64 0, .int .i64 0, .slice none 0 0, .bool false, .bool false, .int .i64 0, .int .i64 0, .int .i64 0, .int .i64 0, .int .i64 0, .int .i64 0, .int .i64 0, .int .i64 0, .int .i64 0, .int .i64 0, .int .i64 0, .slice none 0 0, .bool false, .bool false, .int .i64 0, .int .i64 0, .int .i64 0, .int .i64 0, .int .i64 0, .int .i64 0, .int .i64 0, .int .i64 0, .int .i64 0, .int .i64 0, .int .i64 0, .slice none 0 0, .bool false, .bool false, .int .i64 0, .int .i64 0, .int .i64 0, .int .i64 0, .int .i64 0, .int .i64 0, .int .i64 0, .int .i64 0, .int .i64 0, .int .i64 0, .int .i64 0, .slice none 0 0, .bool false, .bool false, .int .i64 0, .int .i64 0, .int .i64 0, .int .i64 0, .int .i64 0, .int .i64 0, .int .i64 0, .int .i64 0, .int .i64 0, .int .i64 0, .int .i64 0, .slice none 0 0, .bool false, .bool false, .int .i64 0, .int .i64 0, .int .i64 0, .int .i64 0, .int .i64 0, .int .i64 0, .int .i64 0, .int .i64 0, .int .i64 0, .int .i64 0, .int .i64 0, .slice none 0 0, .bool false, .bool false, .int .i64 0, .int .i64 0, .int .i64 0, .int .i64 0, .int .i64 0, .int .i64 0, .int .i64 0, .int .i64 0, .int .i64 0, .int .i64 0, .int .i64 0, .slice none 0 0, .bool false, .bool false, .int .i64 0, .int .i64 0, .int .i64 0, .int .i64 0, .int .i64 0, .int .i64 0, .int .i64 0, .int .i64 0, .int .i64 0, .int .i64 0, .int .i64 0, .slice none 0 0, .bool false, .bool false, .int .i64 0, .int .i64 0, .int .i64 0, .int .i64 0, .int .i64 0, .int .i64 0, .int .i64 0, .int .i64 0, .int .i64 0, .int .i64 0, .int .i64 0, .slice none 0 0, .bool false]) Sx F Aa Aa Aa).q fun a w F W => ?_
 refine BR (cs := [.int .i64 0, .bool false, .int .i64 0, .int .i64 0, .int .i64 0, .int .i64 0, .int .i64 0, .int .i64 0, .int .i64 0, .int .i64 0, .int .i64 0, .int .i64 0, .int .i64 0, .slice none 0 0, .bool false, .bool false, .int .i64 0, .int .i64 0, .int .i64 0, .int .i64 0, .int .i64 0, .int .i64 0, .int .i64 0, .int .i64 0, .int .i64 0, .int .i64 0, .int .i64 0, .slice none 0 0, .bool false, .bool false, .int .i64 0, .int .i64 0, .int .i64 0, .int .i64 0, .int .i64 0, .int .i64 0, .int .i64 0, .int .i64 0, .int .i64 0, .int .i64 0, .int .i64 0, .slice none 0 0, .bool false, .bool false, .int .i64 0, .int .i64 0, .int .i64 0, .int .i64 0, .int .i64 0, .int .i64 0, .int .i64 0, .int .i64 0, .int .i64 0, .int .i64 0, .int .i64 0, .slice none 0 0, .bool false, .bool false, .int .i64 0, .int .i64 0, .int .i64 0, .int .i64 0, .int .i64 0, .int .i64 0, .int .i64 0, .int .i64 0, .int .i64 0, .int .i64 0, .int .i64 0, .slice none 0 0, .bool false, .bool false, .int .i64 0, .int .i64 0, .int .i64 0, .int .i64 0, .int .i64 0, .int .i64 0, .int .i64 0, .int .i64 0, .int .i64 0, .int .i64 0, .int .i64 0, .slice none 0 0, .bool false, .bool false, .int .i64 0, .int .i64 0, .int .i64 0, .int .i64 0, .int .i64 0, .int .i64 0, .int .i64 0, .int .i64 0, .int .i64 0, .int .i64 0, .int .i64 0, .slice none 0 0, .bool false, .bool false, .int .i64 0, .int .i64 0, .int .i64 0, .int .i64 0, .int .i64 0, .int .i64 0, .int .i64 0, .int .i64 0, .int .i64 0, .int .i64 0, .int .i64 0, .slice none 0 0, .bool false, .bool false, .int .i64 0, .int .i64 0, .int .i64 0, .int .i64 0, .int .i64 0, .int .i64 0, .int .i64 0, .int .i64 0, .int .i64 0, .int .i64 0, .int .i64 0, .slice none 0 0, .bool false, .bool false, .int .i64 0, .int .i64 0, .int .i64 0, .int .i64 0, .int .i64 0, .int .i64 0, .int .i64 0, .int .i64 0, .int .i64 0, .int .i64 0, .int .i64 0, .slice none 0 0, .bool false, .bool false, .int .i64 0, .int .i64 0, .int .i64 0, .int .i64 0, .int .i64 0, .int .i64 0, .int .i64 0, .int .i64 0, .int .i64 0, .int .i64 0, .int .i64 0, .slice none 0 0, .bool false, .bool false, .int .i64 0, .int .i64 0, .int .i64 0, .int .i64 0, .int .i64 0, .int .i64 0, .int .i64 0, .int .i64 0, .int .i64 0, .int .i64 0, .int .i64 0, .slice none 0 0, .bool false, .bool false, .int .i64 0, .int .i64 0, .int .i64 0, .int .i64 0, .int .i64 0, .int .i64 0, .int .i64 0, .int .i64 0, .int .i64 0, .int .i64 0, .int .i64 0, .slice none 0 0, .bool false, .bool false, .int .i64 0, .int .i64 0, .int .i64 0, .int .i64 0, .int .i64 0, .int .i64 0, .int .i64 0, .int .i64 0, .int .i64 0, .int .i64 0, .int .i64 0, .slice none 0 0, .bool false, .bool false, .int .i64 0, .int .i64 0, .int .i64 0, .int .i64 0, .int .i64 0, .int .i64 0, .int .i64 0, .int .i64 0, .int .i64 0, .int .i64 0, .int .i64 0, .slice none 0 0, .bool false, .bool false, .int .i64 0, .int .i64 0, .int .i64 0, .int .i64 0, .int .i64 0, .int .i64 0, .int .i64 0, .int .i64 0, .int .i64 0, .int .i64 0, .int .i64 0, .slice none 0 0, .bool false]) F W Aa Aa Aa fun b1 a w F W => ?_
 have W := W.toP (r := BO) (m := 16) (l := (List.replicate 16 ((false, (0, (0, (0, (0, 0, 0, 0), (0, 0, 0, 0)), []), false)) : Bool × (Int × (Int × (Int × (Int × Int × Int × Int) × (Int × Int × Int × Int)) × (List (Int × Int × Int))) × Bool)))) Aa Aa Rs
 have W : Stw ⟨Y, [], w0⟩ [] [Bw b1 BO 16 (0, (List.replicate 16 ((false, (0, (0, (0, (0, 0, 0, 0), (0, 0, 0, 0)), []), false)) : Bool × (Int × (Int × (Int × (Int × Int × Int × Int) × (Int × Int × Int × Int)) × (List (Int × Int × Int))) × Bool))))] w := W
 refine BJ tk 3 F W fun a w F W => ?_
 refine Al ?_
 subst H
 refine Aw (.inl Aa) F W Aa (Ai F Aa) ?_
 exact ⟨b1, Aa, W⟩
theorem H7 : Has Try.prog 7 := BV Try.func7
theorem Kz : (Try.prog.info? 37).bind (·.zero) = some (.agg #[.int .i64 0, .int .i64 0, .int .i64 0, .int .i64 0, .int .i64 0, .int .i64 0, .int .i64 0, .int .i64 0, .int .i64 0, .int .i64 0, .slice none 0 0]) := by kernel_rfl
theorem Py : (Try.prog.info? 34).bind (·.zero) = some (.agg #[.int .i64 0, .int .i64 0, .int .i64 0, .int .i64 0, .int .i64 0, .int .i64 0, .int .i64 0, .int .i64 0, .int .i64 0]) := by kernel_rfl
theorem Rh : Bt Try.prog 34 [.int .i64 0, .int .i64 0, .int .i64 0, .int .i64 0, .int .i64 0, .int .i64 0, .int .i64 0, .int .i64 0, .int .i64 0] [(0, 1), (1, 4), (5, 4)] := ⟨⟨.agg #[.int .i64 0, .int .i64 0, .int .i64 0, .int .i64 0, .int .i64 0, .int .i64 0, .int .i64 0, .int .i64 0, .int .i64 0], by kernel_rfl, rfl⟩, ⟨_, Eb, fun w => by kernel_rfl⟩⟩
abbrev D7  : List Value := [.int .i64 0, .int .i64 0, .int .i64 0, .int .i64 0, .int .i64 0, .int .i64 0, .int .i64 0, .int .i64 0, .int .i64 0]
def Ah  : (Int × (Int × Int × Int × Int) × (Int × Int × Int × Int)) := ((-1), (0, 0, 0, 0), (0, 0, 0, 0))
theorem Lf (Y : Nat → Prop) (w0 : World)   (r : (Int × (Int × Int × Int × Int) × (Int × Int × Int × Int))) (H : Ah  = r)  :
    Calls Try.prog 57 #[] w0 fun e w' => e = .returned (.agg #[.int .i64 r.1, .int .i64 r.2.1.1, .int .i64 r.2.1.2.1, .int .i64 r.2.1.2.2.1, .int .i64 r.2.1.2.2.2, .int .i64 r.2.2.1, .int .i64 r.2.2.2.1, .int .i64 r.2.2.2.2.1, .int .i64 r.2.2.2.2.2]) ∧ Below w0.heap.size w0 w' := by
 refine enter Try.func57 Aa Try.ntmps57 Aa fun a F => ?_
 have W := Stw.start Y w0
 unfold Ah at H
 refine vc tk 2 F W fun a w F W => ?_
 refine Ca (cs := (D7)) F W Aa Py Aa fun b1 a w F W => ?_
 refine BJ tk 4 F W fun a w F W => ?_
 refine ls F W Aa (Dr (v := Value.agg #[.int .i64 (-1), .int .i64 0, .int .i64 0, .int .i64 0, .int .i64 0, .int .i64 0, .int .i64 0, .int .i64 0, .int .i64 0]) Rh F Aa Aa Aa).q fun a w F W => ?_
 refine Dh 0 F W Aa Aa Aa H2 Aa Aa Aa fun w W => ?_
 refine BJ tk 2 F W fun a w F W => ?_
 refine Al ?_
 subst H
 refine Aw (.inl Aa) F W Aa (Dp 0 F Aa Aa H2 Aa) ?_
 exact ⟨rfl, W.done⟩
theorem S2 : Has Try.prog 57 := BV Try.func57
noncomputable def DG (p0 : Int) : Option Int := (if p0 = 0 then some true else (if p0 = 1 then some true else some (decide (p0 = 3)))).bind fun x1 => (if x1 = true then some 8 else (if p0 = 2 then some 4 else some 0))
theorem JJ (Y : Nat → Prop) (w0 : World)  (p0 : Int) (r : Int) (H : DG p0 = some r)  :
    Calls Try.prog 74 #[.int .i64 p0] w0 fun e w' => e = .returned (.int .i64 r) ∧ Below w0.heap.size w0 w' := by
 refine enter Try.func74 Aa Try.ntmps74 Aa fun a F => ?_
 have W := Stw.start Y w0
 unfold DG at H
 refine vc tk 12 F W fun a w F W => ?_
 obtain ⟨o1, G1, K1⟩ := Af H
 refine Au (fun a w => ∃ x1 : Bool, some (x1) = some o1 ∧ Fr 10 [] [(2, .int .i64 0), (3, .int .i64 p0), (4, .bool x1)] a ∧ Stw ⟨Y, [], w0⟩ [] [] w) ?_ ?_
 ·
  have H := G1
  clear G1 K1
  refine vc tk 6 F W fun a w F W => ?_
  refine CL F Aa (fun hb => ?_) fun hb => ?_
  ·
   have H := B4 (Cn hb) H
   rw [hb] at F
   clear hb
   refine AC (Ad ?_)
   exact ⟨_, H, F.ra Aa, W⟩
  have H := B5 (Cp hb) H
  rw [hb] at F
  clear hb
  refine vc tk 6 F W fun a w F W => ?_
  refine CL F Aa (fun hb => ?_) fun hb => ?_
  ·
   have H := B4 (Cn hb) H
   rw [hb] at F
   clear hb
   refine AC (Ad ?_)
   exact ⟨_, H, F.ra Aa, W⟩
  have H := B5 (Cp hb) H
  rw [hb] at F
  clear hb
  refine vc tk 4 F W fun a w F W => ?_
  refine Ad ?_
  exact ⟨_, H, F.ra Aa, W⟩
 rintro a w ⟨x1, hj, F, W⟩
 have hj := Av hj
 subst hj
 have H := K1
 clear G1 K1
 refine BE F Aa H (fun F H => ?_) fun F H => ?_
 ·
  refine vc tk 5 F W fun a w F W => ?_
  refine Al (Az (Aq ?_))
  have H := Av H
  subst H
  refine Aw (.inl Aa) F W Aa (Ai F Aa) ?_
  exact ⟨rfl, W.done⟩
 refine vc tk 6 F W fun a w F W => ?_
 refine CL F Aa (fun hb => ?_) fun hb => ?_
 ·
  have H := B4 (Cn hb) H
  rw [hb] at F
  clear hb
  refine vc tk 5 F W fun a w F W => ?_
  refine Al (Az (Aq ?_))
  have H := Av H
  subst H
  refine Aw (.inl Aa) F W Aa (Ai F Aa) ?_
  exact ⟨rfl, W.done⟩
 have H := B5 (Cp hb) H
 rw [hb] at F
 clear hb
 refine AC (AF ?_)
 refine vn tk 5 F W fun a w F W => ?_
 refine Al ?_
 have H := Av H
 subst H
 refine Aw (.inl Aa) F W Aa (Ai F Aa) ?_
 exact ⟨rfl, W.done⟩
theorem TP : Has Try.prog 74 := BV Try.func74
noncomputable def C7 (p0 : Int) : Option Int := (DG p0).bind fun x1 => (RT (PR .i64 1 x1) x1).bind fun x2 => some (Cc (x2 - 1))
theorem Fj (Y : Nat → Prop) (w0 : World)  (p0 : Int) (r : Int) (H : C7 p0 = some r)  :
    Calls Try.prog 58 #[.int .i64 p0] w0 fun e w' => e = .returned (.int .i64 r) ∧ Below w0.heap.size w0 w' := by
 refine enter Try.func58 Aa Try.ntmps58 Aa fun a F => ?_
 have W := Stw.start Y w0
 unfold C7 at H
 refine vc tk 8 F W fun a w F W => ?_
 obtain ⟨x1, h1, H⟩ := Af H
 refine ls F W Aa (AM (v := Value.int .i64 x1) F TP Aa (fun w W => JJ any w p0 _ h1)) fun a w F W => ?_
 obtain ⟨x2, h2, H⟩ := Af H
 refine ls F W Aa (RB (Lt h2).2 (RF F Aa Aa (Lt h2).1)).q fun a w F W => ?_
 refine BJ tk 4 F W fun a w F W => ?_
 refine Al ?_
 have H := Av H
 subst H
 refine Aw (.inl Aa) F W Aa (Ai F Aa) ?_
 exact ⟨rfl, W.done⟩
theorem RS : Has Try.prog 58 := BV Try.func58
abbrev Ri  : List Value := [.int .i64 Ah.1, .int .i64 Ah.2.1.1, .int .i64 Ah.2.1.2.1, .int .i64 Ah.2.1.2.2.1, .int .i64 Ah.2.1.2.2.2, .int .i64 Ah.2.2.1, .int .i64 Ah.2.2.2.1, .int .i64 Ah.2.2.2.2.1, .int .i64 Ah.2.2.2.2.2]
abbrev Q8 (a0 : Nat) (a1 : Nat) : List (Nat × List Value) := [(a0, [.int .i64 Ah.1, .int .i64 Ah.2.1.1, .int .i64 Ah.2.1.2.1, .int .i64 Ah.2.1.2.2.1, .int .i64 Ah.2.1.2.2.2, .int .i64 Ah.2.2.1, .int .i64 Ah.2.2.2.1, .int .i64 Ah.2.2.2.2.1, .int .i64 Ah.2.2.2.2.2]), (a1, [.int .i64 0, .int .i64 0, .int .i64 0, .int .i64 0, .int .i64 0, .int .i64 0, .int .i64 0, .int .i64 0, .int .i64 0])]
noncomputable def GR (p0 : Int) (p1 : Int) : Option (Int × (Int × Int × Int × Int) × (Int × Int × Int × Int)) := (if p0 < 0 then some true else (if 4 ≤ p0 then some true else (if p1 < 0 then some true else (C7 p0).bind fun x2 => some (decide (x2 < p1))))).bind fun x1 => (if x1 = true then some Ah else (ix ([Ah.2.1.1, Ah.2.1.2.1, Ah.2.1.2.2.1, Ah.2.1.2.2.2] : List Int) p0).bind fun x3 => (C7 p0).bind fun x4 => (ix ([Ah.2.2.1, Ah.2.2.2.1, Ah.2.2.2.2.1, Ah.2.2.2.2.2] : List Int) p0).bind fun x5 => some (Ah.1, ((if p0 = 0 then p1 else Ah.2.1.1), (if p0 = 1 then p1 else Ah.2.1.2.1), (if p0 = 2 then p1 else Ah.2.1.2.2.1), (if p0 = 3 then p1 else Ah.2.1.2.2.2)), ((if p0 = 0 then x4 else Ah.2.2.1), (if p0 = 1 then x4 else Ah.2.2.2.1), (if p0 = 2 then x4 else Ah.2.2.2.2.1), (if p0 = 3 then x4 else Ah.2.2.2.2.2))))
theorem LK (Y : Nat → Prop) (w0 : World)  (p0 : Int) (p1 : Int) (r : (Int × (Int × Int × Int × Int) × (Int × Int × Int × Int))) (H : GR p0 p1 = some r)  :
    Calls Try.prog 40 #[.int .i64 p0, .int .i64 p1] w0 fun e w' => e = .returned (.agg #[.int .i64 r.1, .int .i64 r.2.1.1, .int .i64 r.2.1.2.1, .int .i64 r.2.1.2.2.1, .int .i64 r.2.1.2.2.2, .int .i64 r.2.2.1, .int .i64 r.2.2.2.1, .int .i64 r.2.2.2.2.1, .int .i64 r.2.2.2.2.2]) ∧ Below w0.heap.size w0 w' := by
 refine enter Try.func40 Aa Try.ntmps40 Aa fun a F => ?_
 have W := Stw.start Y w0
 unfold GR at H
 refine vc tk 2 F W fun a w F W => ?_
 refine Ca (cs := (D7)) F W Aa Py Aa fun b1 a w F W => ?_
 refine BJ tk 4 F W fun a w F W => ?_
 refine ls F W Aa (AM (v := Value.agg #[.int .i64 Ah.1, .int .i64 Ah.2.1.1, .int .i64 Ah.2.1.2.1, .int .i64 Ah.2.1.2.2.1, .int .i64 Ah.2.1.2.2.2, .int .i64 Ah.2.2.1, .int .i64 Ah.2.2.2.1, .int .i64 Ah.2.2.2.2.1, .int .i64 Ah.2.2.2.2.2]) F S2 Aa (fun w W => Lf any w _ Aa)) fun a w F W => ?_
 refine Ca (cs := (D7)) F W Aa Py Aa fun b2 a w F W => ?_
 refine Dh 0 F W Aa Aa Aa H2 Aa Aa Aa fun w W => ?_
 refine BJ tk 3 F W fun a w F W => ?_
 obtain ⟨o1, G1, K1⟩ := Af H
 refine Au (fun a w => ∃ x1 : Bool, some (x1) = some o1 ∧ Fr 34 [] [(0, .int .i64 p0), (1, .int .i64 p1), (4, .pointer (some ⟨b1, 0, none⟩)), (5, .pointer (some ⟨b2, 0, none⟩)), (22, .bool x1)] a ∧ Stw ⟨Y, [], w0⟩ (Q8 b2 b1) [] w) ?_ ?_
 ·
  have H := G1
  clear G1 K1
  refine vc tk 4 F W fun a w F W => ?_
  rcases Bool.eq_false_or_eq_true (decide (p0 < 0)) with hb | hb
  ·
   have H := B4 (Cn hb) H
   rw [hb] at F
   clear hb
   refine vl tk 14 F W fun a w F W => ?_
   refine Ad ?_
   have W := W.frontM (i := 1) Aa Aa
   have W := W.frontM (i := 1) Aa Aa
   exact ⟨_, H, F.ra Aa, W⟩
  have H := B5 (Cp hb) H
  rw [hb] at F
  clear hb
  refine vl tk 4 F W fun a w F W => ?_
  rcases Bool.eq_false_or_eq_true (decide (4 ≤ p0)) with hb | hb
  ·
   have H := B4 (Cn hb) H
   rw [hb] at F
   clear hb
   refine vl tk 10 F W fun a w F W => ?_
   refine Ad ?_
   have W := W.frontM (i := 1) Aa Aa
   have W := W.frontM (i := 1) Aa Aa
   exact ⟨_, H, F.ra Aa, W⟩
  have H := B5 (Cp hb) H
  rw [hb] at F
  clear hb
  refine vl tk 4 F W fun a w F W => ?_
  rcases Bool.eq_false_or_eq_true (decide (p1 < 0)) with hb | hb
  ·
   have H := B4 (Cn hb) H
   rw [hb] at F
   clear hb
   refine vl tk 6 F W fun a w F W => ?_
   refine Ad ?_
   have W := W.frontM (i := 1) Aa Aa
   have W := W.frontM (i := 1) Aa Aa
   exact ⟨_, H, F.ra Aa, W⟩
  have H := B5 (Cp hb) H
  rw [hb] at F
  clear hb
  refine vl tk 2 F W fun a w F W => ?_
  refine F2 (Ae F Aa Aa Aa Aa) ?_
  obtain ⟨x2, h1, H⟩ := Af H
  refine ls F W Aa (AM (v := Value.int .i64 x2) F RS Aa (fun w W => Fj any w p0 _ h1)) fun a w F W => ?_
  refine vl tk 3 F W fun a w F W => ?_
  refine Ad ?_
  have W := W.frontM (i := 1) Aa Aa
  have W := W.frontM (i := 1) Aa Aa
  exact ⟨_, H, F.ra Aa, W⟩
 rintro a w ⟨x1, hj, F, W⟩
 have hj := Av hj
 subst hj
 have H := K1
 clear G1 K1
 refine BE F Aa H (fun F H => ?_) fun F H => ?_
 ·
  refine Fq tk 3 [0] F W (ai fun a w F W => ?_)
  refine Dh 1 F W Aa Aa Aa H2 Aa Aa Aa fun w W => ?_
  refine BJ tk 2 F W fun a w F W => ?_
  refine Al (Aq ?_)
  have H := Av H
  subst H
  refine Aw (.inl Aa) F W Aa (Dp 1 F Aa Aa H2 Aa) ?_
  exact ⟨rfl, W.done⟩
 refine D6 tk 3 F W fun a w F W => ?_
 refine DN [(true, 0), (true, 1), (true, 2), (true, 3), (true, 5), (true, 6), (true, 8), (false, 4), (false, 7), (true, 9), (false, 10)] (CN ⟨Y, [], w0⟩ [] []) (fun ch a d v w h => by cases d <;> exact h) MO (by kernel_rfl) W (fun w W => ⟨_, _, W, Ap, Ap⟩) fun w W => ?_
 iterate 4 refine BQ (R := []) F Aa Aa (yC fun M Z hN hZ => Am F Aa) Aa Aa fun a F => ?_
 refine BQ (R := []) F Aa Aa (yC fun M Z hN hZ => Aj Eb Aa Aa Aa Hk F Aa 1 Aa) Aa Aa fun a F => ?_
 obtain ⟨x3, h2, H⟩ := Af H
 refine BQ (R := []) F Aa Aa (yC fun M Z hN hZ => A7 (1 + (p0).toNat * 1) DA F Aa Aa Aa h2 Aa) Aa Aa fun a F => ?_
 refine BQ (R := []) F Aa Aa (yC fun M Z hN hZ => Aj Eb Aa Aa Aa Hk F Aa 5 Aa) Aa Aa fun a F => ?_
 refine CT Aa ?_
 obtain ⟨x4, h3, H⟩ := Af H
 refine ls F W Aa (AM (v := Value.int .i64 x4) F RS Aa (fun w W => Fj any w p0 _ h3)) fun a w F W => ?_
 refine A0 (N2 := []) (NZ2 := []) (N3 := []) (NZ3 := []) W Aa Aa Ap Ap ?_
 refine CT Aa ?_
 refine Ef (o := 1) (m := 4) (i := p0) (l := ([Ah.2.1.1, Ah.2.1.2.1, Ah.2.1.2.2.1, Ah.2.1.2.2.2] : List Int)) (x := x3) (cs := (Ri)) (cs' := [.int .i64 Ah.1, .int .i64 (if p0 = 0 then p1 else Ah.2.1.1), .int .i64 (if p0 = 1 then p1 else Ah.2.1.2.1), .int .i64 (if p0 = 2 then p1 else Ah.2.1.2.2.1), .int .i64 (if p0 = 3 then p1 else Ah.2.1.2.2.2), .int .i64 Ah.2.2.1, .int .i64 Ah.2.2.2.1, .int .i64 Ah.2.2.2.2.1, .int .i64 Ah.2.2.2.2.2]) 0 F W Aa Aa Aa T3 Aa Aa Aa Aa h2 (by intro k hk hn; rw [hk]; match k, hn with | 0, _ => rfl | 1, _ => rfl | 2, _ => rfl | 3, _ => rfl | (z + 4), h => exact absurd h (by omega)) fun w W => ?_
 have W : Stw ⟨Y, [], w0⟩ [(b2, [.int .i64 Ah.1, .int .i64 (if p0 = 0 then p1 else Ah.2.1.1), .int .i64 (if p0 = 1 then p1 else Ah.2.1.2.1), .int .i64 (if p0 = 2 then p1 else Ah.2.1.2.2.1), .int .i64 (if p0 = 3 then p1 else Ah.2.1.2.2.2), .int .i64 Ah.2.2.1, .int .i64 Ah.2.2.2.1, .int .i64 Ah.2.2.2.2.1, .int .i64 Ah.2.2.2.2.2]), (b1, (D7))] [] w := W
 refine A0 (N2 := []) (NZ2 := []) (N3 := []) (NZ3 := []) W Aa Aa Ap Ap ?_
 obtain ⟨x5, h4, H⟩ := Af H
 refine BQ (R := []) F Aa Aa (yC fun M Z hN hZ => A7 (5 + (p0).toNat * 1) DA F Aa Aa Aa h4 Aa) Aa Aa fun a F => ?_
 refine CT Aa ?_
 refine Ef (o := 5) (m := 4) (i := p0) (l := ([Ah.2.2.1, Ah.2.2.2.1, Ah.2.2.2.2.1, Ah.2.2.2.2.2] : List Int)) (x := x5) (cs := [.int .i64 Ah.1, .int .i64 (if p0 = 0 then p1 else Ah.2.1.1), .int .i64 (if p0 = 1 then p1 else Ah.2.1.2.1), .int .i64 (if p0 = 2 then p1 else Ah.2.1.2.2.1), .int .i64 (if p0 = 3 then p1 else Ah.2.1.2.2.2), .int .i64 Ah.2.2.1, .int .i64 Ah.2.2.2.1, .int .i64 Ah.2.2.2.2.1, .int .i64 Ah.2.2.2.2.2]) (cs' := [.int .i64 Ah.1, .int .i64 (if p0 = 0 then p1 else Ah.2.1.1), .int .i64 (if p0 = 1 then p1 else Ah.2.1.2.1), .int .i64 (if p0 = 2 then p1 else Ah.2.1.2.2.1), .int .i64 (if p0 = 3 then p1 else Ah.2.1.2.2.2), .int .i64 (if p0 = 0 then x4 else Ah.2.2.1), .int .i64 (if p0 = 1 then x4 else Ah.2.2.2.1), .int .i64 (if p0 = 2 then x4 else Ah.2.2.2.2.1), .int .i64 (if p0 = 3 then x4 else Ah.2.2.2.2.2)]) 0 F W Aa Aa Aa T3 Aa Aa Aa Aa h4 (by intro k hk hn; rw [hk]; match k, hn with | 0, _ => rfl | 1, _ => rfl | 2, _ => rfl | 3, _ => rfl | (z + 4), h => exact absurd h (by omega)) fun w W => ?_
 have W : Stw ⟨Y, [], w0⟩ [(b2, [.int .i64 Ah.1, .int .i64 (if p0 = 0 then p1 else Ah.2.1.1), .int .i64 (if p0 = 1 then p1 else Ah.2.1.2.1), .int .i64 (if p0 = 2 then p1 else Ah.2.1.2.2.1), .int .i64 (if p0 = 3 then p1 else Ah.2.1.2.2.2), .int .i64 (if p0 = 0 then x4 else Ah.2.2.1), .int .i64 (if p0 = 1 then x4 else Ah.2.2.2.1), .int .i64 (if p0 = 2 then x4 else Ah.2.2.2.2.1), .int .i64 (if p0 = 3 then x4 else Ah.2.2.2.2.2)]), (b1, (D7))] [] w := W
 refine A0 (N2 := []) (NZ2 := []) (N3 := []) (NZ3 := []) W Aa Aa Ap Ap ?_
 refine ET ?_
 refine Sq tk 3 [0] F W (ai fun a w F W => ?_)
 refine Dh 1 F W Aa Aa Aa H2 Aa Aa Aa fun w W => ?_
 refine BJ tk 2 F W fun a w F W => ?_
 refine Al ?_
 have H := Av H
 subst H
 refine Aw (.inl Aa) F W Aa (Dp 1 F Aa Aa H2 Aa) ?_
 exact ⟨rfl, W.done⟩
theorem TO : Has Try.prog 40 := BV Try.func40
theorem Tn : Bt Try.prog 88 [.int .i64 0, .int .i64 0, .int .i64 0] [(0, 1), (1, 1), (2, 1)] := ⟨⟨.agg #[.int .i64 0, .int .i64 0, .int .i64 0], by kernel_rfl, rfl⟩, ⟨_, IH, fun w => by kernel_rfl⟩⟩
theorem R2 : (Try.prog.info? 88).bind (·.zero) = some (.agg #[.int .i64 0, .int .i64 0, .int .i64 0]) := by kernel_rfl
theorem Ts : Bt Try.prog 37 [.int .i64 0, .int .i64 0, .int .i64 0, .int .i64 0, .int .i64 0, .int .i64 0, .int .i64 0, .int .i64 0, .int .i64 0, .int .i64 0, .slice none 0 0] [(0, 1), (1, 9), (10, 1)] := ⟨⟨.agg #[.int .i64 0, .int .i64 0, .int .i64 0, .int .i64 0, .int .i64 0, .int .i64 0, .int .i64 0, .int .i64 0, .int .i64 0, .int .i64 0, .slice none 0 0], by kernel_rfl, rfl⟩, ⟨_, Ij, fun w => by kernel_rfl⟩⟩
abbrev Iu  : List Value := [.int .i64 0, .int .i64 0, .int .i64 0, .int .i64 0, .int .i64 0, .int .i64 0, .int .i64 0, .int .i64 0, .int .i64 0, .int .i64 0, .slice none 0 0]
noncomputable def ER (p0 : Int) (p1 : Int) (p2 : Int) (p3 : Int) : Option (Int × (Int × (Int × Int × Int × Int) × (Int × Int × Int × Int)) × (List (Int × Int × Int))) := (GR p0 p1).bind fun x1 => some (p2, x1, ([(2, 0, p3)] : List (Int × Int × Int)))
theorem HC (Y : Nat → Prop) (w0 : World)  (p0 : Int) (p1 : Int) (p2 : Int) (p3 : Int) (r : (Int × (Int × (Int × Int × Int × Int) × (Int × Int × Int × Int)) × (List (Int × Int × Int)))) (H : ER p0 p1 p2 p3 = some r)  :
    Calls Try.prog 25 #[.int .i64 p0, .int .i64 p1, .int .i64 p2, .int .i64 p3] w0 fun e w' => ∃ x : Value, e = .returned (.agg #[.int .i64 r.1, .int .i64 r.2.1.1, .int .i64 r.2.1.2.1.1, .int .i64 r.2.1.2.1.2.1, .int .i64 r.2.1.2.1.2.2.1, .int .i64 r.2.1.2.1.2.2.2, .int .i64 r.2.1.2.2.1, .int .i64 r.2.1.2.2.2.1, .int .i64 r.2.1.2.2.2.2.1, .int .i64 r.2.1.2.2.2.2.2, x]) ∧ Stw ⟨Y, [], w0⟩ [] [row (x) 88 Bk r.2.2] w' := by
 refine enter Try.func25 Aa Try.ntmps25 Aa fun a F => ?_
 have W := Stw.start Y w0
 unfold ER at H
 refine vc tk 2 F W fun a w F W => ?_
 refine Ca (cs := (Iu)) F W Aa Kz Aa fun b1 a w F W => ?_
 refine BJ tk 7 F W fun a w F W => ?_
 obtain ⟨x1, h1, H⟩ := Af H
 refine ls F W Aa (AM (v := Value.agg #[.int .i64 x1.1, .int .i64 x1.2.1.1, .int .i64 x1.2.1.2.1, .int .i64 x1.2.1.2.2.1, .int .i64 x1.2.1.2.2.2, .int .i64 x1.2.2.1, .int .i64 x1.2.2.2.1, .int .i64 x1.2.2.2.2.1, .int .i64 x1.2.2.2.2.2]) F TO Aa (fun w W => LK any w p0 p1 _ h1)) fun a w F W => ?_
 refine ls F W Aa (Am F Aa).q fun a w F W => ?_
 refine ls F W Aa (Dr (v := Value.agg #[.int .i64 2, .int .i64 0, .int .i64 p3]) Tn F Aa Aa Aa).q fun a w F W => ?_
 refine GJ (z := Value.agg #[.int .i64 0, .int .i64 0, .int .i64 0]) (cs := [.int .i64 2, .int .i64 0, .int .i64 p3]) Bk ([(2, 0, p3)] : List (Int × Int × Int)) F W Aa PQ R2 Aa Aa Aa Aa Aa Aa (Qa.repL _ _ ([(2, 0, p3)] : List (Int × Int × Int))) fun v1 a w F W => ?_
 refine ls F W Aa (Dr (v := Value.agg #[.int .i64 p2, .int .i64 x1.1, .int .i64 x1.2.1.1, .int .i64 x1.2.1.2.1, .int .i64 x1.2.1.2.2.1, .int .i64 x1.2.1.2.2.2, .int .i64 x1.2.2.1, .int .i64 x1.2.2.2.1, .int .i64 x1.2.2.2.2.1, .int .i64 x1.2.2.2.2.2, v1]) Ts F Aa (B2 Aa Aa Aa (B2 Aa Aa Aa (B2 Aa (Hc (W.one (k := 0) Aa)) Aa C1))) Aa).q fun a w F W => ?_
 refine Dh 0 F W Aa Aa Aa EM Aa Aa (Ac Aa (Ac Aa (Ac Aa (Ac Aa (Ac Aa (Ac Aa (Ac Aa (Ac Aa (Ac Aa (Ac Aa (Ac (W.one (k := 0) Aa) Cr))))))))))) fun w W => ?_
 refine BJ tk 2 F W fun a w F W => ?_
 refine Al ?_
 have H := Av H
 subst H
 refine Aw (.inl Aa) F W Aa (Dp 0 F Aa Aa EM Aa) ?_
 have W := W.sub (M' := []) (Z' := [row v1 88 Bk ([(2, 0, p3)] : List (Int × Int × Int))]) (List.nil_sublist _) (List.Sublist.refl _)
 exact ⟨(v1), Aa, W⟩
theorem Ru : type_of% Try.underlying26 := Try.underlying26
theorem Jp : type_of% Try.underlying39 := Try.underlying39
theorem SH : Has Try.prog 25 := BV Try.func25
theorem So : Bt Try.prog 39 [.int .i64 0, .int .i64 0, .int .i64 0, .int .i64 0, .int .i64 0, .int .i64 0, .int .i64 0, .int .i64 0, .int .i64 0, .int .i64 0, .int .i64 0, .slice none 0 0, .bool false] [(0, 1), (1, 11), (12, 1)] := ⟨⟨.agg #[.int .i64 0, .int .i64 0, .int .i64 0, .int .i64 0, .int .i64 0, .int .i64 0, .int .i64 0, .int .i64 0, .int .i64 0, .int .i64 0, .int .i64 0, .slice none 0 0, .bool false], by kernel_rfl, rfl⟩, ⟨_, Jp, fun w => by kernel_rfl⟩⟩
theorem Pn : (Try.prog.info? 39).bind (·.zero) = some (.agg #[.int .i64 0, .int .i64 0, .int .i64 0, .int .i64 0, .int .i64 0, .int .i64 0, .int .i64 0, .int .i64 0, .int .i64 0, .int .i64 0, .int .i64 0, .slice none 0 0, .bool false]) := by kernel_rfl
theorem Hd : Ty Try.prog 39 true 13 := ⟨by kernel_rfl, by kernel_rfl⟩
def Ao (p0 : Int × List (Bool × (Int × (Int × (Int × (Int × Int × Int × Int) × (Int × Int × Int × Int)) × (List (Int × Int × Int))) × Bool))) : Int := p0.1
theorem BM (Y : Nat → Prop) (X : List Nat) (w0 : World) (q_p0 : Nat) (p0 : Int × List (Bool × (Int × (Int × (Int × (Int × Int × Int × Int) × (Int × Int × Int × Int)) × (List (Int × Int × Int))) × Bool))) (r : Int) (H : Ao p0 = r) (hL : Stw ⟨Y, X, w0⟩ [] [Bw q_p0 BO 16 p0] w0) :
    Calls Try.prog 18 #[.pointer (some ⟨q_p0, 0, none⟩)] w0 fun e w' => ∃ x : Unit, e = .returned (.int .i64 r) ∧ Stw ⟨Y, X, w0⟩ [] [Bw q_p0 BO 16 p0] w' := by
 refine enter Try.func18 Aa Try.ntmps18 Aa fun a F => ?_
 have W := hL
 unfold Ao at H
 refine vc tk 9 F W fun a w F W => ?_
 refine ls F W Aa (Jb Ru F Aa Aa).q fun a w F W => ?_
 refine BJ tk 4 F W fun a w F W => ?_
 refine vn tk 3 F W fun a w F W => ?_
 refine ls F W Aa (AW F Aa).q fun a w F W => ?_
 refine ls F W Aa (Aj KS Aa Aa Aa T3 F Aa 0 Aa).q fun a w F W => ?_
 refine ls F W Aa (NB 0 F Aa Aa T3).q fun a w F W => ?_
 refine BJ tk 3 F W fun a w F W => ?_
 refine Al ?_
 subst H
 refine Aw (.inl Aa) F W Aa (Ai F Aa) ?_
 exact ⟨(), Aa, W⟩
theorem R7 : type_of% Try.underlying69 := Try.underlying69
theorem P9 : Has Try.prog 18 := BV Try.func18
abbrev LL : Rp (Bool × (Int × (Int × (Int × (Int × Int × Int × Int) × (Int × Int × Int × Int)) × (Value × List (Int × Int × Int))) × Bool)) := (Rp.pair Rp.bool Ic)
abbrev Sd (p : Bool × (Int × (Int × (Int × (Int × Int × Int × Int) × (Int × Int × Int × Int)) × (Value × List (Int × Int × Int))) × Bool)) : Bool × (Int × (Int × (Int × (Int × Int × Int × Int) × (Int × Int × Int × Int)) × (List (Int × Int × Int))) × Bool) := (p.1, (p.2.1, (p.2.2.1.1, p.2.2.1.2.1, p.2.2.1.2.2.2), p.2.2.2))
theorem Dz : Ex BO LL Sd := (Ex.pair Ex.rfl' (Ex.pair Ex.rfl' (Ex.pair (Ex.pair Ex.rfl' (Ex.pair Ex.rfl' Ex.sliceF)) Ex.rfl')))
theorem Q5 : Ty Try.prog 69 true 224 := ⟨by kernel_rfl, by kernel_rfl⟩
abbrev GS (a : Bool × (Int × (Int × (Int × (Int × Int × Int × Int) × (Int × Int × Int × Int)) × (Value × List (Int × Int × Int))) × Bool)) : List Value := [.bool a.1, .int .i64 a.2.1, .int .i64 a.2.2.1.1, .int .i64 a.2.2.1.2.1.1, .int .i64 a.2.2.1.2.1.2.1.1, .int .i64 a.2.2.1.2.1.2.1.2.1, .int .i64 a.2.2.1.2.1.2.1.2.2.1, .int .i64 a.2.2.1.2.1.2.1.2.2.2, .int .i64 a.2.2.1.2.1.2.2.1, .int .i64 a.2.2.1.2.1.2.2.2.1, .int .i64 a.2.2.1.2.1.2.2.2.2.1, .int .i64 a.2.2.1.2.1.2.2.2.2.2, a.2.2.1.2.2.1, .bool a.2.2.2]
theorem L9 : C3 LL GS := (C3.pair Fl.bool.to (C3.pair Fl.int.to (C3.pair (C3.pair Fl.int.to (C3.pair RC.to C3.vsl)) Fl.bool.to)))
theorem M8 : Ar Try.prog 69 16 68 14 := ⟨R7, by kernel_rfl⟩
theorem T4 : Ty Try.prog 4 false 1 := ⟨by kernel_rfl, by kernel_rfl⟩
noncomputable def A8 (p0 : List (Int × Int × Int)) : Option (List (Int × Int × Int)) := (JQ ([] : List (Int × Int × Int)) p0).bind fun x1 => some x1
theorem Di (Y : Nat → Prop) (w0 : World) (v1 : Value) (p0 : List (Int × Int × Int)) (r : (List (Int × Int × Int))) (H : A8 p0 = some r) (s_v1 : Sl w0 Y Bk v1 p0) :
    Calls Try.prog 41 #[v1] w0 fun e w' => ∃ x : Value, e = .returned (x) ∧ Stw ⟨Y, [], w0⟩ [] [row (x) 88 Bk r] w' := by
 refine enter Try.func41 Aa Try.ntmps41 Aa fun a F => ?_
 have W := Stw.start Y w0
 have h_v1 := W.nx s_v1
 unfold A8 at H
 refine vc tk 9 F W fun a w F W => ?_
 refine ls F W Aa (On (r := Bk) Io F Aa (An h_v1)).q fun a w F W => ?_
 refine Er (Ad ?_)
 rcases Nq (An h_v1) W with ⟨hb, hl⟩ | hb
 ·
  rw [hl] at H
  change some ([] : List (Int × Int × Int)) = _ at H
  rw [hb] at F
  refine vc tk 6 F W fun a w F W => ?_
  refine Al (Aq ?_)
  have H := Av H
  subst H
  refine Aw (.inl Aa) F W Aa (Ai F Aa) ?_
  have W := W.nilRow 88 Bk
  exact ⟨(Value.slice none 0 0), Aa, W⟩
 rw [hb] at F
 refine D6 tk 5 F W fun a w F W => ?_
 refine GJ (z := Value.agg #[.int .i64 0, .int .i64 0, .int .i64 0]) (cs := []) Bk ([] : List (Int × Int × Int)) F W Aa PQ R2 Aa Aa Aa Aa Aa Aa (Qa.repL _ _ ([] : List (Int × Int × Int))) fun v2 a w F W => ?_
 refine ls F W Aa (Am F Aa).q fun a w F W => ?_
 obtain ⟨x1, h1, H⟩ := Af H
 refine Ez (r := Bk) (i := 0) F W Aa PQ Aa Aa Aa Aa (Gr W s_v1) h1 Aa fun v3 a w F W => ?_
 have W : Stw ⟨Y, [], w0⟩ [] [row v3 88 Bk x1] w := W
 refine BJ tk 3 F W fun a w F W => ?_
 refine Al ?_
 have H := Av H
 subst H
 refine Aw (.inl Aa) F W Aa (Ai F Aa) ?_
 exact ⟨(v3), Aa, W⟩
end Go.Proofs.Ytfnmlmglmegamaa
