/- Plain mathematics: loops, ranges, bytes. Conditions: none. -/
import Derived.Test.YtpmhmemmniiomaaDoorcOR
namespace Go.Proofs.YtpmhmemmniiomaaDoor
set_option linter.unusedVariables false
set_option linter.unusedSimpArgs false
open Go Go.RowKit
theorem CD {x : Int} (h : -9223372036854775808 ≤ x ∧ x ≤ 9223372036854775807) : DS x = x := IntWalk.i64_in x h
theorem Ct {α : Type} {l : List α} {k : Nat} {x : α} (h : l[k]? = some x) : ix l (k : Int) = some x := by
  unfold ix; rw [if_pos (by omega)]; simpa using h
theorem AX {α : Type} {l m : List α} (h : l.length + m.length ≤ 1000000000) : CL l m = some (l ++ m) := by unfold CL; rw [if_pos h]
theorem GQ {α : Type} {l : List α} {lo hi : Int} (h : 0 ≤ lo ∧ lo ≤ hi ∧ hi ≤ l.length) : CC l lo hi = some ((l.take hi.toNat).drop lo.toNat) := by unfold CC; rw [if_pos h]
def be : Nat → Int → List UInt8
  | 0, _ => []
  | w + 1, n => be w (n / 256) ++ [UInt8.ofNat (n % 256).toNat]
theorem EY {α : Type} {Q : List α → Prop} (h0 : Q []) (hs : ∀ l a, Q l → Q (l ++ [a])) : ∀ l, Q l := by
  have key : ∀ n (l : List α), l.length = n → Q l := by
    intro n
    induction n with
    | zero => intro l hl; rw [List.eq_nil_of_length_eq_zero hl]; exact h0
    | succ n ih =>
      intro l hl
      have hne : l ≠ [] := by intro h; rw [h] at hl; simp at hl
      rw [← List.dropLast_concat_getLast hne]
      exact hs _ _ (ih _ (by simp [hl]))
  exact fun l => key _ l rfl
def val (l : List UInt8) : Int := l.foldl (fun n b => n * 256 + (b.toNat : Int)) 0
end Go.Proofs.YtpmhmemmniiomaaDoor
