/- The functions of layer 12, EV. Conditions: none. -/
import Derived.Test.YtfnmlmglmegamaacA5
namespace Go.Proofs.Ytfnmlmglmegamaa
open Go Go.RowKit
set_option linter.unusedVariables false
set_option linter.unusedSimpArgs false
set_option maxRecDepth 20000
noncomputable def Fq (p0 : Int × (Int × Int × Int × Int) × (Int × Int × Int × Int)) (p1 : Int × (Int × Int × Int × Int) × (Int × Int × Int × Int)) (x1 : Int) : Int → Option (Int ⊕ (Unit ⊕ (Int ⊕ (Unit ⊕ Bool))))
  | x2 => (if x2 < 8 then ((ix ([p1.2.2.1, p1.2.2.2.1, p1.2.2.2.2.1, p1.2.2.2.2.2] : List Int) x1).bind fun x4 => (CH x4 x2).bind fun x5 => (if x5 = 1 then (ix ([p0.2.2.1, p0.2.2.2.1, p0.2.2.2.2.1, p0.2.2.2.2.2] : List Int) x1).bind fun x6 => (CH x6 x2).bind fun x7 => (if x7 = 0 then some true else (ix ([p0.2.1.1, p0.2.1.2.1, p0.2.1.2.2.1, p0.2.1.2.2.2] : List Int) x1).bind fun x8 => (CH x8 x2).bind fun x9 => (ix ([p1.2.1.1, p1.2.1.2.1, p1.2.1.2.2.1, p1.2.1.2.2.2] : List Int) x1).bind fun x10 => (CH x10 x2).bind fun x11 => some (decide (x9 ≠ x11))) else some false)).bind fun x3 => (if x3 = true then some (.inr (.inr (.inr (.inr false)))) else some (.inl (Cs (x2 + 1)))) else some (.inr (.inl ())))
noncomputable def Fm (p0 : Int × (Int × Int × Int × Int) × (Int × Int × Int × Int)) (p1 : Int × (Int × Int × Int × Int) × (Int × Int × Int × Int)) : Int → Option (Int ⊕ (Unit ⊕ Bool))
  | x1 => (if x1 < 4 then Fu (AJ (Fq p0 p1 x1) 0) fun _ => some (.inl (Cs (x1 + 1))) else some (.inr (.inl ())))
noncomputable def GJ (p0 : Int × (Int × Int × Int × Int) × (Int × Int × Int × Int)) (p1 : Int × (Int × Int × Int × Int) × (Int × Int × Int × Int)) : Option Bool := (if (decide (p1.1 ≠ (-1)) && decide (p0.1 ≠ p1.1)) = true then some false else Fu (AJ (Fm p0 p1) 0) fun _ => some true)
def Dk (p0 : Int × (Int × (Int × Int × Int × Int) × (Int × Int × Int × Int)) × (List (Int × Int × Int))) (p1 : List (Int × Int × Int)) : (Int × (Int × (Int × Int × Int × Int) × (Int × Int × Int × Int)) × (List (Int × Int × Int))) := (p0.1, p0.2.1, p1)
noncomputable def CB (p0 : List (Int × (Int × (Int × Int × Int × Int) × (Int × Int × Int × Int)) × (List (Int × Int × Int)))) (p1 : Int × (Int × (Int × (Int × Int × Int × Int) × (Int × Int × Int × Int)) × (List (Int × Int × Int))) × Bool) (p3 : Bool) : (Bool × (List (Int × (Int × (Int × Int × Int × Int) × (Int × Int × Int × Int)) × (List (Int × Int × Int)))) × Int × Int) → Option ((Bool × (List (Int × (Int × (Int × Int × Int × Int) × (Int × Int × Int × Int)) × (List (Int × Int × Int)))) × Int × Int) ⊕ ((List (Int × (Int × (Int × Int × Int × Int) × (Int × Int × Int × Int)) × (List (Int × Int × Int)))) × Int))
  | (x3, x4, x5, x6) => (if x6 < (p0.length : Int) then ((ix p0 x6).bind fun x10 => (GJ x10.2.1 p1.2.1.2.1).bind fun x11 => (if x3 = true then (ix p0 x6).bind fun x14 => some (true, (FU x14 p1.2.1)) else some (false, x11)).bind fun (x12, x13) => (if (!x13) = true then (ix p0 x6).bind fun x15 => (Jb x4 ([x15] : List (Int × (Int × (Int × Int × Int × Int) × (Int × Int × Int × Int)) × (List (Int × Int × Int))))).bind fun x16 => some (x12, x16, x5) else (if (!p3) = true then (ix p0 x6).bind fun x17 => (Jb x4 ([((Dk x17 p1.2.1.2.2).1, ((Dk x17 p1.2.1.2.2).2.1.1, ((Dk x17 p1.2.1.2.2).2.1.2.1.1, (Dk x17 p1.2.1.2.2).2.1.2.1.2.1, (Dk x17 p1.2.1.2.2).2.1.2.1.2.2.1, (Dk x17 p1.2.1.2.2).2.1.2.1.2.2.2), ((Dk x17 p1.2.1.2.2).2.1.2.2.1, (Dk x17 p1.2.1.2.2).2.1.2.2.2.1, (Dk x17 p1.2.1.2.2).2.1.2.2.2.2.1, (Dk x17 p1.2.1.2.2).2.1.2.2.2.2.2)), (Dk x17 p1.2.1.2.2).2.2)] : List (Int × (Int × (Int × Int × Int × Int) × (Int × Int × Int × Int)) × (List (Int × Int × Int))))).bind fun x18 => some (x12, x18, Cs (x5 + 1)) else some (x12, x4, Cs (x5 + 1))))).bind fun (x7, x8, x9) => some (.inl (x7, x8, x9, Cs (x6 + 1))) else some (.inr (x4, x5)))
noncomputable def Eo (p0 : List (Int × (Int × (Int × Int × Int × Int) × (Int × Int × Int × Int)) × (List (Int × Int × Int)))) (p1 : Int × (Int × (Int × (Int × Int × Int × Int) × (Int × Int × Int × Int)) × (List (Int × Int × Int))) × Bool) (p2 : Bool) (p3 : Bool) : Option ((List (Int × (Int × (Int × Int × Int × Int) × (Int × Int × Int × Int)) × (List (Int × Int × Int)))) × Int) := (AJ (CB p0 p1 p3) (p2, [], 0, 0)).bind fun (x1, x2) => some (x1, x2)
noncomputable def C5 (p0 : List (Int × (Int × (Int × Int × Int × Int) × (Int × Int × Int × Int)) × (List (Int × Int × Int)))) (p1 : Int × (Int × (Int × Int × Int × Int) × (Int × Int × Int × Int)) × (List (Int × Int × Int))) : ((List (Int × (Int × (Int × Int × Int × Int) × (Int × Int × Int × Int)) × (List (Int × Int × Int)))) × Bool × Int) → Option (((List (Int × (Int × (Int × Int × Int × Int) × (Int × Int × Int × Int)) × (List (Int × Int × Int)))) × Bool × Int) ⊕ ((List (Int × (Int × (Int × Int × Int × Int) × (Int × Int × Int × Int)) × (List (Int × Int × Int)))) × Bool))
  | (x3, x4, x5) => (if x5 < (p0.length : Int) then ((if (!x4) = true then (ix p0 x5).bind fun x9 => some (decide (x9.1 < p1.1)) else some false).bind fun x8 => (if x8 = true then (Jb x3 ([p1] : List (Int × (Int × (Int × Int × Int × Int) × (Int × Int × Int × Int)) × (List (Int × Int × Int))))).bind fun x10 => some (x10, true) else some (x3, x4))).bind fun (x6, x7) => (ix p0 x5).bind fun x11 => (Jb x6 ([x11] : List (Int × (Int × (Int × Int × Int × Int) × (Int × Int × Int × Int)) × (List (Int × Int × Int))))).bind fun x12 => some (.inl (x12, x7, Cs (x5 + 1))) else some (.inr (x3, x4)))
noncomputable def Hv (p0 : List (Int × (Int × (Int × Int × Int × Int) × (Int × Int × Int × Int)) × (List (Int × Int × Int)))) (p1 : Int × (Int × (Int × Int × Int × Int) × (Int × Int × Int × Int)) × (List (Int × Int × Int))) : Option (List (Int × (Int × (Int × Int × Int × Int) × (Int × Int × Int × Int)) × (List (Int × Int × Int)))) := (AJ (C5 p0 p1) ([], false, 0)).bind fun (x1, x2) => (if (!x2) = true then (Jb x1 ([p1] : List (Int × (Int × (Int × Int × Int × Int) × (Int × Int × Int × Int)) × (List (Int × Int × Int))))).bind fun x14 => some x14 else some x1).bind fun x13 => some x13
noncomputable def D7 (p0 : List (Int × (Int × (Int × Int × Int × Int) × (Int × Int × Int × Int)) × (List (Int × Int × Int)))) (p1 : Int × (Int × (Int × (Int × Int × Int × Int) × (Int × Int × Int × Int)) × (List (Int × Int × Int))) × Bool) : Int → Option (Int ⊕ (Unit ⊕ ((List (Int × (Int × (Int × Int × Int × Int) × (Int × Int × Int × Int)) × (List (Int × Int × Int)))) × Int)))
  | x1 => (if (p1.2.2 && decide (x1 < (p0.length : Int))) = true then (ix p0 x1).bind fun x2 => (FM x2 p1.2.1).bind fun x3 => (if x3 = true then some (.inr (.inr (p0, 14))) else some (.inl (Cs (x1 + 1)))) else some (.inr (.inl ())))
noncomputable def JL (p0 : List (Int × (Int × (Int × Int × Int × Int) × (Int × Int × Int × Int)) × (List (Int × Int × Int)))) (p1 : Int × (Int × (Int × (Int × Int × Int × Int) × (Int × Int × Int × Int)) × (List (Int × Int × Int))) × Bool) (p2 : Int) : Option ((List (Int × (Int × (Int × Int × Int × Int) × (Int × Int × Int × Int)) × (List (Int × Int × Int)))) × Int) := Fu (AJ (D7 p0 p1) 0) fun _ => (Eo p0 p1 true false).bind fun x4 => (if 0 < x4.2 then some (x4.1, 0) else (if p2 ≤ (p0.length : Int) then some (p0, 6) else (Hv p0 p1.2.1).bind fun x5 => some (x5, 0)))
noncomputable def Hu (p0 : List (Int × (Int × (Int × Int × Int × Int) × (Int × Int × Int × Int)) × (List (Int × Int × Int)))) (p1 : Int × (Int × (Int × (Int × Int × Int × Int) × (Int × Int × Int × Int)) × (List (Int × Int × Int))) × Bool) (p2 : Int) (p3 : Int) : Option ((List (Int × (Int × (Int × Int × Int × Int) × (Int × Int × Int × Int)) × (List (Int × Int × Int)))) × Int) := (if p1.1 < 1 then some true else (if 5 < p1.1 then some true else (Dt p1.2.1 p2).bind fun x2 => some (!x2))).bind fun x1 => (if x1 = true then some (p0, 2) else (if p1.1 = 1 then (JL p0 p1 p3).bind fun x3 => some (x3.1, x3.2) else (Eo p0 p1 (decide (p1.1 = 3) || decide (p1.1 = 5)) (decide (4 ≤ p1.1))).bind fun x4 => (if ((decide (p1.1 = 3) || decide (p1.1 = 5)) && decide (x4.2 = 0)) = true then some (p0, 7) else some (x4.1, 0))))
noncomputable def E5 (p0 : List (Int × (Int × (Int × Int × Int × Int) × (Int × Int × Int × Int)) × (List (Int × Int × Int)))) (p1 : List (Int × (Int × (Int × (Int × Int × Int × Int) × (Int × Int × Int × Int)) × (List (Int × Int × Int))) × Bool)) (p2 : Int) (p3 : Int) : ((List (Int × (Int × (Int × Int × Int × Int) × (Int × Int × Int × Int)) × (List (Int × Int × Int)))) × Int) → Option (((List (Int × (Int × (Int × Int × Int × Int) × (Int × Int × Int × Int)) × (List (Int × Int × Int)))) × Int) ⊕ ((List (Int × (Int × (Int × Int × Int × Int) × (Int × Int × Int × Int)) × (List (Int × Int × Int)))) ⊕ ((List (Int × (Int × (Int × Int × Int × Int) × (Int × Int × Int × Int)) × (List (Int × Int × Int)))) × Int × Int)))
  | (x2, x3) => (if x3 < (p1.length : Int) then (ix p1 x3).bind fun x4 => (Hu x2 x4 p2 p3).bind fun x5 => (if x5.2 ≠ 0 then some (.inr (.inr (p0, x3, x5.2))) else some (.inl (x5.1, Cs (x3 + 1)))) else some (.inr (.inl x2)))
noncomputable def Ij (p0 : List (Int × (Int × (Int × Int × Int × Int) × (Int × Int × Int × Int)) × (List (Int × Int × Int)))) (p1 : List (Int × (Int × (Int × (Int × Int × Int × Int) × (Int × Int × Int × Int)) × (List (Int × Int × Int))) × Bool)) (p2 : Int) (p3 : Int) : Option ((List (Int × (Int × (Int × Int × Int × Int) × (Int × Int × Int × Int)) × (List (Int × Int × Int)))) × Int × Int) := Fu (AJ (E5 p0 p1 p2 p3) (p0, 0)) fun x1 => some (x1, (-1), 0)
theorem R4 : Ty Try.prog 71 true 225 := ⟨by kernel_rfl, by kernel_rfl⟩
def BU (p0 : Int × List (Bool × (Int × (Int × (Int × (Int × Int × Int × Int) × (Int × Int × Int × Int)) × (List (Int × Int × Int))) × Bool))) : (Int × List (Bool × (Int × (Int × (Int × (Int × Int × Int × Int) × (Int × Int × Int × Int)) × (List (Int × Int × Int))) × Bool))) := (2, (List.replicate 16 ((false, (0, (0, (0, (0, 0, 0, 0), (0, 0, 0, 0)), []), false)) : Bool × (Int × (Int × (Int × (Int × Int × Int × Int) × (Int × Int × Int × Int)) × (List (Int × Int × Int))) × Bool))))
theorem FE (Y : Nat → Prop) (X : List Nat) (w0 : World) (q_p0 : Nat) (p0 : Int × List (Bool × (Int × (Int × (Int × (Int × Int × Int × Int) × (Int × Int × Int × Int)) × (List (Int × Int × Int))) × Bool))) (r : (Int × List (Bool × (Int × (Int × (Int × (Int × Int × Int × Int) × (Int × Int × Int × Int)) × (List (Int × Int × Int))) × Bool)))) (H : BU p0 = r) (hL : Stw ⟨Y, X, w0⟩ [] [Be q_p0 Bn 16 p0] w0) :
    Calls Try.prog 17 #[.pointer (some ⟨q_p0, 0, none⟩)] w0 fun e w' => ∃ x : Unit, e = .returned (.tuple #[]) ∧ Stw ⟨Y, X, w0⟩ [] [Be q_p0 Bn 16 r] w' := by
 refine enter Try.func17 Aa Try.ntmps17 Aa fun a W => ?_
 have F := hL
 unfold BU at H
 refine vc tk 3 W F fun a w W F => ?_
 refine ls W F Aa (Ii PZ W Aa Aa).q fun a w W F => ?_
 refine BV tk 5 W F fun a w W F => ?_
 refine ls W F Aa (Eg (v := Value.agg #[.int .i64 2, .bool false, .int .i64 0, .int .i64 0, .int .i64 0, .int .i64 0, .int .i64 0, .int .i64 0, .int .i64 0, .int .i64 0, .int .i64 0, .int .i64 0, .int .i64 0, .slice none 0 0, .bool false, .bool false, .int .i64 0, .int .i64 0, .int .i64 0, .int .i64 0, .int .i64 0, .int .i64 0, .int .i64 0, .int .i64 0, .int .i64 0, .int .i64 0, .int .i64 0, .slice none 0 0, .bool false, .bool false, .int .i64 0, .int .i64 0, .int .i64 0, .int .i64 0, .int .i64 0, .int .i64 0, .int .i64 0, .int .i64 0, .int .i64 0, .int .i64 0, .int .i64 0, .slice none 0 0, .bool false, .bool false, .int .i64 0, .int .i64 0, .int .i64 0, .int .i64 0, .int .i64 0, .int .i64 0, .int .i64 0, .int .i64 0, .int .i64 0, .int .i64 0, .int .i64 0, .slice none 0 0, .bool false, .bool false, .int .i64 0, .int .i64 0, .int .i64 0, .int .i64 0, .int .i64 0, .int .i64 0, .int .i64 0, .int .i64 0, .int .i64 0, .int .i64 0, .int .i64 0, .slice none 0 0, .bool false, .bool false, .int .i64 0, .int .i64 0, .int .i64 0, .int .i64 0, .int .i64 0, .int .i64 0, .int .i64 0, .int .i64 0, .int .i64 0, .int .i64 0, .int .i64 0, .slice none 0 0, .bool false, .bool false, .int .i64 0, .int .i64 0, .int .i64 0, .int .i64 0, .int .i64 0, .int .i64 0, .int .i64 0, .int .i64 0, .int .i64 0, .int .i64 0, .int .i64 0, .slice none 0 0, .bool false, .bool false, .int .i64 0, .int .i64 0, .int .i64 0, .int .i64 0, .int .i64 0, .int .i64 0, .int .i64 0, .int .i64 0, .int .i64 0, .int .i64 0, .int .i64 0, .slice none 0 0, .bool false, .bool false, .int .i64 0, .int .i64 0, .int .i64 0, .int .i64 0, .int .i64 0, .int .i64 0, .int .i64 0, .int .i64 0, .int .i64 0, .int .i64 0, .int .i64 0, .slice none 0 0, .bool false, .bool false, .int .i64 0, .int .i64 0, .int .i64 0, .int .i64 0, .int .i64 0, .int .i64 0, .int .i64 0, .int .i64 0, .int .i64 0, .int .i64 0, .int .i64 0, .slice none 0 0, .bool false, .bool false, .int .i64 0, .int .i64 0, .int .i64 0, .int .i64 0, .int .i64 0, .int .i64 0, .int .i64 0, .int .i64 0, .int .i64 0, .int .i64 0, .int .i64 0, .slice none 0 0, .bool false, .bool false, .int .i64 0, .int .i64 0, .int .i64 0, .int .i64 0, .int .i64 0, .int .i64 0, .int .i64 0, .int .i64 0, .int .i64 0, .int .i64 0, .int .i64 0, .slice none 0 0, .bool false, .bool false, .int .i64 0, .int .i64 0, .int .i64 0, .int .i64 0, .int .i64 0, .int .i64 0, .int .i64 0, .int .i64 0, .int .i64 0, .int .i64 0, .int .i64 0, .slice none 0 0, .bool false, .bool false, .int .i64 0, .int .i64 0, .int .i64 0, .int .i64 0, .int .i64 0, .int .i64 0, .int .i64 0, .int .i64 0, .int .i64 0, .int .i64 0, .int .i64 0, .slice none 0 0, .bool false, .bool false, .int .i64 0, .int .i64 0, .int .i64 0, .int .i64 0, .int .i64 0, .int .i64 0, .int .i64 0, .int .i64 0, .int .i64 0, .int .i64 0, .int .i64 0, .slice none 0 0, .bool false, .bool false, .int .i64 0, .int .i64 0, .int .i64 0, .int .i64 0, .int .i64 0, .int .i64 0, .int .i64 0, .int .i64 0, .int .i64 0, .int .i64 0, .int .i64 0, .slice none 0 0, .bool false]) Ra W Aa Aa Aa).q fun a w W F => ?_
 refine ls W F Aa (C6 W Aa).q fun a w W F => ?_
 refine KO (k := 0) (x := 2) W F Aa Aa Aa Aa R4 Aa Aa Aa Aa PY fun w F => ?_
 have F : Stw ⟨Y, X, w0⟩ [] [Be q_p0 Bn 16 (2, (List.replicate 16 ((false, (0, (0, (0, (0, 0, 0, 0), (0, 0, 0, 0)), []), false)) : Bool × (Int × (Int × (Int × (Int × Int × Int × Int) × (Int × Int × Int × Int)) × (List (Int × Int × Int))) × Bool))))] w := F
 refine Ft ?_
 subst H
 refine Qa (.inr Aa) W Aa ?_
 exact ⟨(), Aa, F⟩
theorem RX : Has Try.prog 17 := B3 Try.func17
noncomputable def B2 (p0 : Int × List (Bool × (Int × (Int × (Int × (Int × Int × Int × Int) × (Int × Int × Int × Int)) × (List (Int × Int × Int))) × Bool))) (p1 : List (Int × (Int × (Int × Int × Int × Int) × (Int × Int × Int × Int)) × (List (Int × Int × Int)))) (p2 : Int) (p3 : Int) : Option ((List (Int × (Int × (Int × Int × Int × Int) × (Int × Int × Int × Int)) × (List (Int × Int × Int)))) × Int × (Int × List (Bool × (Int × (Int × (Int × (Int × Int × Int × Int) × (Int × Int × Int × Int)) × (List (Int × Int × Int))) × Bool)))) := (Cj p0 p1 p2 p3).bind fun x1 => (if x1.2 = 0 then some (BU p0) else some p0).bind fun x2 => some (x1.1, x1.2, x2)
theorem DY (Y : Nat → Prop) (X : List Nat) (w0 : World) (q_p0 : Nat) (v1 : Value) (p0 : Int × List (Bool × (Int × (Int × (Int × (Int × Int × Int × Int) × (Int × Int × Int × Int)) × (List (Int × Int × Int))) × Bool))) (p1 : List (Int × (Int × (Int × Int × Int × Int) × (Int × Int × Int × Int)) × (List (Int × Int × Int)))) (p2 : Int) (p3 : Int) (r : (List (Int × (Int × (Int × Int × Int × Int) × (Int × Int × Int × Int)) × (List (Int × Int × Int)))) × Int × (Int × List (Bool × (Int × (Int × (Int × (Int × Int × Int × Int) × (Int × Int × Int × Int)) × (List (Int × Int × Int))) × Bool)))) (H : B2 p0 p1 p2 p3 = some r) (s_v1 : Sl w0 Y A5 v1 p1) (hL : Stw ⟨Y, X, w0⟩ [] [Be q_p0 Bn 16 p0] w0) :
    Calls Try.prog 14 #[.pointer (some ⟨q_p0, 0, none⟩), v1, .int .i64 p2, .int .i64 p3] w0 fun e w' => ∃ x : Value, e = .returned (.tuple #[x, .int .i64 r.2.1]) ∧ Stw ⟨Y, X, w0⟩ [] [Be q_p0 Bn 16 r.2.2, BD (x) A5 r.1] w' := by
 refine enter Try.func14 Aa Try.ntmps14 Aa fun a W => ?_
 have F := hL
 obtain ⟨v2, h1, s_v1⟩ := s_v1.ex BH
 have h_v1 := F.nx s_v1
 unfold B2 at H
 refine vc tk 12 W F fun a w W F => ?_
 obtain ⟨x1, h2, H⟩ := Ah H
 refine AB (Ml := []) (Zl := [Be q_p0 Bn 16 p0]) (β := Value) (rv := fun x => .tuple #[x, .int .i64 x1.2]) (MM := fun x => []) (ZZ := fun x => [Be q_p0 Bn 16 p0, BD x A5 x1.1]) W F RV Aa Aa (fun hL => FV _ _ w q_p0 (v1) p0 p1 p2 p3 _ h2 (Sl.hide BH h1 (F.old s_v1)) hL) fun x a w W F => ?_
 obtain ⟨v3, rfl⟩ : ∃ y, y = x := ⟨x, rfl⟩
 have F : Stw ⟨Y, X, w0⟩ [] [Be q_p0 Bn 16 p0, BD v3 A5 x1.1] w := F
 refine ls W F Aa (Am W Aa).q fun a w W F => ?_
 refine ls W F Aa (BE (v := v3) W Aa Aa).q fun a w W F => ?_
 refine ls W F Aa (BE (v := Value.int .i64 x1.2) W Aa Aa).q fun a w W F => ?_
 refine vl tk 3 W F fun a w W F => ?_
 refine Ad ?_
 obtain ⟨o1, G1, K1⟩ := Ah H
 refine AC (fun a w => ∃ x2 : Int × List (Bool × (Int × (Int × (Int × (Int × Int × Int × Int) × (Int × Int × Int × Int)) × (List (Int × Int × Int))) × Bool)), some (x2) = some o1 ∧ Fr 26 [] [(8, .slice none 0 0), (9, .int .i64 0), (10, v3), (11, .int .i64 x1.2)] a ∧ Stw ⟨Y, X, w0⟩ [] [BD v3 A5 x1.1, Be q_p0 Bn 16 x2] w) ?_ ?_
 ·
  have H := G1
  clear G1 K1
  refine vc tk 6 W F fun a w W F => ?_
  refine Br W Aa H (fun W H => ?_) fun W H => ?_
  ·
   refine vc tk 2 W F fun a w W F => ?_
   refine AB (Ml := []) (Zl := [Be q_p0 Bn 16 p0]) (β := Unit) (rv := fun x => .tuple #[]) (MM := fun x => []) (ZZ := fun x => [Be q_p0 Bn 16 (BU p0)]) W F RX Aa Aa (fun hL => FE _ _ w q_p0 p0 _ Aa hL) fun x a w W F => ?_
   have F : Stw ⟨Y, X, w0⟩ [] [Be q_p0 Bn 16 (BU p0), BD v3 A5 x1.1] w := F
   refine Ft (Ad ?_)
   have F := F.frontZ (i := 1) Aa Aa
   exact ⟨_, H, W.ra Aa, F⟩
  refine AH (Ad ?_)
  have F := F.frontZ (i := 1) Aa Aa
  exact ⟨_, H, W.ra Aa, F⟩
 rintro a w ⟨x2, hj, W, F⟩
 have hj := Aw hj
 subst hj
 have H := K1
 clear G1 K1
 refine vc tk 8 W F fun a w W F => ?_
 refine Al ?_
 have H := Aw H
 subst H
 refine DN (.inl Aa) W F Aa (Ak W Aa) (Ak W Aa) ?_
 have F := F.frontZ (i := 1) Aa Aa
 exact ⟨(v3), Aa, F⟩
end Go.Proofs.Ytfnmlmglmegamaa
