/- A region in many orders as a graph: a statement for each set of steps done. Conditions: none. -/
import Derived.Test.YtpckgggmgijiiaaGreatDoorcQT
namespace Go.Proofs.YtpckgggmgijiiaaGreatDoor
set_option linter.unusedVariables false
open Go Go.RowKit
section
variable {P : Program} {B : Bs} {M : Dh} {Z : List It} {ops : Array Oper} {Q : Exit → Act → World → Prop} {C : Array Bool → World → Prop} {t : PT} {L : Array Bool} {a : Act} {w : World}
variable {N : List (Option Nat × Nat × List Value)} {NZ : List (Option Nat × It)}
theorem AE (hW : Stw B M Z w) (h1 : ∀ p ∈ N, LS L p.1 = false → p.2 ∈ M) (h2 : ∀ z ∈ NZ, LS L z.1 = false → z.2 ∈ Z) (h : N5 P ops Q (CN B N NZ) t L a w) :
    wpList P ops (QP Q fun a' w' => ∃ C' : Array Bool → World → Prop, (∀ L w, C' L w → CN B N NZ L w) ∧ C' L w' ∧ N5 P ops Q C' t L a' w') [] a w := DJ (N2 := []) (NZ2 := []) hW (List.append_nil _) (List.append_nil _) h1 h2 h
theorem ZA (h : ∀ W : PT → Array Bool → Act → World → Prop, (∀ t L a w, N5 P ops Q C t L a w → W t L a w) → (∀ t L a w, W t L a w → N5 P ops Q C t L a w) → W t L a w) : N5 P ops Q C t L a w := h (N5 P ops Q C) (fun _ _ _ _ h => h) (fun _ _ _ _ h => h)
end
end Go.Proofs.YtpckgggmgijiiaaGreatDoor
