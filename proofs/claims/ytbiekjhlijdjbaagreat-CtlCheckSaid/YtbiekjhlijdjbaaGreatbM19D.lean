/- Layer 19: what the document says of ways. Conditions: none. -/
import Derived.Test.YtbiekjhlijdjbaaGreatbLP
import Derived.Test.YtbiekjhlijdjbaaGreatbA6
set_option linter.unusedVariables false
set_option linter.unusedSimpArgs false
open Go Go.RowKit
namespace Go.Proofs.YtbiekjhlijdjbaaGreat
noncomputable def Cj (p0 : Int × (List (Int × Int × Int × Int × Int × Int)) × (List (Int × Int))) (p1 : Int) (p2 : Int) : Int → Option (Int ⊕ (Unit ⊕ (Int × Int × Int × Bool)))
  | x1 => (if x1 < (p0.2.1.length : Int) then (ix p0.2.1 x1).bind fun x2 => (if p1 = x2.1 ∧ p2 = x2.2.1 then some (.inr (.inr (x2.2.2.1,x2.2.2.2.1,x1,true))) else (if p1 = x2.2.2.1 ∧ p2 = x2.2.2.2.1 then some (.inr (.inr (x2.1,x2.2.1,x1,true))) else some (.inl (w64 (x1 + 1))))) else some (.inr (.inl ())))
noncomputable def HR (p0 : Int × (List (Int × Int × Int × Int × Int × Int)) × (List (Int × Int))) (p1 : Int) (p2 : Int) : Option (Int × Int × Int × Bool) := GU (Am (Cj p0 p1 p2) 0) fun _ => some (0,0,0,false)
end Go.Proofs.YtbiekjhlijdjbaaGreat
