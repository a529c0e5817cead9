/- A region in many orders: what is still is taken first; of steps that turn the world, and are ready side by side, any may go first. Conditions: none. -/
import Derived.Test.YtfnmlmglmegamaacOT
import Derived.Scope
namespace Go.Proofs.Ytfnmlmglmegamaa
set_option linter.unusedVariables false
set_option linter.unusedSimpArgs false
open Go Go.RowKit
variable {rl : Option Nat}
inductive PT where
  | done : PT
  | st (k : Nat) (t : PT) : PT
  | alt (k : Nat) (t : PT) (m : PT) : PT
  | stop : PT
section
variable {P : Program} {ops : Array Oper} {md : Region.Mode} {C : Array Bool → World → Prop} {Q' : Exit → Act → World → Prop}
theorem FH {place : Nat → Option (Nat × Nat)} {zs : List Value} : GD place zs [] = some zs := rfl
theorem CU {place : Nat → Option (Nat × Nat)} {zs cs vs : List Value} {i off sz : Nat} {v : Value} {rest : List (Nat × Value)} (hp : place i = some (off, sz)) (hv : v.cells.toList = vs) (hs : (Nat.beq vs.length sz && Nat.ble (off + vs.length) zs.length) = true)
    (h : GD place (E3 zs off vs) rest = some cs) : GD place zs ((i, v) :: rest) = some cs := by
  simp only [Bool.and_eq_true] at hs
  have h1 := Nat.eq_of_beq_eq_true hs.1
  have h2 := Nat.le_of_ble_eq_true hs.2
  subst hv
  simp only [GD, hp]
  rw [if_pos ⟨h1, h2⟩]; exact h
theorem Ct : ([] : List Value).all (·.oneCell') = true := rfl
theorem Ac {v : Value} {l : List Value} (h : v.oneCell' = true) (h2 : l.all (·.oneCell') = true) : (v :: l).all (·.oneCell') = true := by simp [h, h2]
end
section
variable {P : Program} {B : Bs} {M : Cp} {Z : List It} {n : Nat} {ds : List Deferred} {F : List (Nat × Value)} {a : Act} {w : World} {ops : Array Oper} {Q : Exit → Act → World → Prop} {C : Array Bool → World → Prop} {t m : PT} {o : Oper} {L : Array Bool} {R : List Nat}
variable {N N2 N3 : List (Option Nat × Nat × List Value)} {NZ NZ2 NZ3 : List (Option Nat × It)}
end
end Go.Proofs.Ytfnmlmglmegamaa
