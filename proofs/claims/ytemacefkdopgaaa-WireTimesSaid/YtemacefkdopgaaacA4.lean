/- The functions of layer 35, EJ. Conditions: none. -/
import Derived.Test.YtemacefkdopgaaacA3
namespace Go.Proofs.Ytemacefkdopgaaa
open Go Go.RowKit
set_option linter.unusedVariables false
set_option linter.unusedSimpArgs false
set_option maxRecDepth 20000
theorem LZ : Has Try.prog 15 := ⟨fun args w => An Try.func15 rfl (by decide) args w⟩
noncomputable def Dz (p0 : (Int × (List (Int × Int × Int × Int × Int × Int)) × (List (Int × Int))) × (List (Int × Int × Int × (Int × Int × Int × Int) × Int × Int))) : (Int × Int) → Option ((Int × Int) ⊕ Int)
  | (x3, x4) => (if x4 < (p0.2.length : Int) then ((ix p0.2 x4).bind fun x6 => (if x6.2.2.2.2.2 < x3 then (ix p0.2 x4).bind fun x7 => some x7.2.2.2.2.2 else some x3)).bind fun x5 => some (.inl (x5, Ay (x4 + 1))) else some (.inr x3))
noncomputable def CC (p0 : (Int × (List (Int × Int × Int × Int × Int × Int)) × (List (Int × Int))) × (List (Int × Int × Int × (Int × Int × Int × Int) × Int × Int))) : Option Int := (if (p0.2.length : Int) = 0 then some (-1) else (ix p0.2 0).bind fun x1 => (AM (Dz p0) (x1.2.2.2.2.2, 0)).bind fun x2 => some x2)
noncomputable def C0 (x10 : List (Int × Int × Int × (Int × Int × Int × Int) × Int × Int)) (x13 : Int) : (Int × Int) → Option ((Int × Int) ⊕ Int)
  | (x15, x16) => (if 0 ≤ x16 then ((ix x10 x16).bind fun x18 => (if x18.2.2.2.2.2 = x13 then some x16 else some x15)).bind fun x17 => some (.inl (x17, Ay (x16 - 1))) else some (.inr x15))
noncomputable def Cd (p1 : Int) : ((List (Int × Int × Int × (Int × Int × Int × Int) × Int × Int)) × Int × (List (Int × Int × Int × Int × Int × Int)) × (List (Int × Int)) × (List (Int × Int × Int × (Int × Int × Int × Int) × Int × Int))) → Option (((List (Int × Int × Int × (Int × Int × Int × Int) × Int × Int)) × Int × (List (Int × Int × Int × Int × Int × Int)) × (List (Int × Int)) × (List (Int × Int × Int × (Int × Int × Int × Int) × Int × Int))) ⊕ ((List (Int × Int × Int × (Int × Int × Int × Int) × Int × Int)) × Int × (List (Int × Int × Int × Int × Int × Int)) × (List (Int × Int)) × (List (Int × Int × Int × (Int × Int × Int × Int) × Int × Int))))
  | (x6, x7, x8, x9, x10) => (if 0 < (x10.length : Int) then (CC ((x7, x8, x9), x10)).bind fun x12 => some (decide (x12 ≤ p1)) else some false).bind fun x11 => (if x11 = true then (CC ((x7, x8, x9), x10)).bind fun x13 => (AM (C0 x10 x13) ((-1), Ay ((x10.length : Int) - 1))).bind fun x14 => (ix x10 x14).bind fun x19 => (app x6 ([x19] : List (Int × Int × Int × (Int × Int × Int × Int) × Int × Int))).bind fun x20 => (Cv ((x7, x8, x9), x10) x14).bind fun x21 => some (.inl (x20, x21.1.1, x21.1.2.1, x21.1.2.2, x21.2)) else some (.inr (x6, x7, x8, x9, x10)))
noncomputable def Fd (p0 : (Int × (List (Int × Int × Int × Int × Int × Int)) × (List (Int × Int))) × (List (Int × Int × Int × (Int × Int × Int × Int) × Int × Int))) (p1 : Int) : Option ((List (Int × Int × Int × (Int × Int × Int × Int) × Int × Int)) × ((Int × (List (Int × Int × Int × Int × Int × Int)) × (List (Int × Int))) × (List (Int × Int × Int × (Int × Int × Int × Int) × Int × Int)))) := (AM (Cd p1) ([], p0.1.1, p0.1.2.1, p0.1.2.2, p0.2)).bind fun (x1, x2, x3, x4, x5) => some (x1, ((x2, x3, x4), x5))
theorem GR : type_of% Try.underlying38 := Try.underlying38
end Go.Proofs.Ytemacefkdopgaaa
