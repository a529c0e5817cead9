/- The functions of layer 42, EK. Conditions: none. -/
import Derived.Test.YtflaelbmglmmcaacA5
namespace Go.Proofs.Ytflaelbmglmmcaa
open Go Go.RowKit
set_option linter.unusedVariables false
set_option linter.unusedSimpArgs false
set_option maxRecDepth 20000
noncomputable def Cn (p0 : Int × (List (Int × Int × Int × Int × Int × Int)) × (List (Int × Int))) (p1 : List (List Int)) (p2 : Int) (p3 : Int) : (List Int × Int) → Option ((List Int × Int) ⊕ (Unit ⊕ (List Int × Int)))
  | (x3, x4) => (if x4 < p0.1 then (DX p0 p1 p2 p3 x4).bind fun x5 => (if x5.1 = (-1) then some (.inr (.inr (([] : List Int), 13))) else (Fo x3 ([x5.1] : List Int)).bind fun x6 => (if x5.2 = true then some (.inr (.inr (x6, 0))) else some (.inl (x6, DC (x4 + 1))))) else some (.inr (.inl ())))
noncomputable def EO (p0 : Int × (List (Int × Int × Int × Int × Int × Int)) × (List (Int × Int))) (p1 : List (List Int)) (p2 : Int) (p3 : Int) : Option (List Int × Int) := ((Hh p0 p1).bind fun x2 => (if (!x2) = true then some true else (if p2 < 0 then some true else (if (p1.length : Int) ≤ p2 then some true else (if p3 < 0 then some true else some (decide ((p0.2.2.length : Int) ≤ p3))))))).bind fun x1 => (if x1 = true then some (([] : List Int), 2) else DQ (AF (Cn p0 p1 p2 p3) ([], 0)) fun _ => (DX p0 p1 p2 p3 p0.1).bind fun x7 => (if x7.1 = (-1) then some (([] : List Int), 13) else some (([] : List Int), 12)))
noncomputable def C1 (p3 : Int × Int × Int × Int × List Int × Int × Int × Int) (x3 : List Int × Int) : Int → Option (Int ⊕ (Unit ⊕ Bool))
  | x4 => (if x4 < (p3.2.2.2.2.1.length : Int) then (ix x3.1 x4).bind fun x5 => (ix p3.2.2.2.2.1 x4).bind fun x6 => (if x5 ≠ x6 then some (.inr (.inr false)) else some (.inl (DC (x4 + 1)))) else some (.inr (.inl ())))
noncomputable def Ia (p0 : Int × (List (Int × Int × Int × Int × Int × Int)) × (List (Int × Int))) (p1 : List (List (List Int))) (p2 : Int) (p3 : Int × Int × Int × Int × List Int × Int × Int × Int) : Option Bool := (if (p3.2.2.2.2.1.length : Int) = 0 then some true else (if (decide (p2 < 0) || decide ((p1.length : Int) ≤ p2)) = true then some false else (ix p1 p2).bind fun x1 => (ix p3.2.2.2.2.1 0).bind fun x2 => (EO p0 x1 x2 p3.2.2.1).bind fun x3 => (if (decide (x3.2 ≠ 0) || (decide ((x3.1.length : Int) < (p3.2.2.2.2.1.length : Int)) || (decide (p3.2.2.2.2.2.1 ≠ 0) && decide ((x3.1.length : Int) ≠ (p3.2.2.2.2.1.length : Int))))) = true then some false else DQ (AF (C1 p3 x3) 0) fun _ => some true)))
end Go.Proofs.Ytflaelbmglmmcaa
