/- Layer 29: the two parsers: tokens, parts. Conditions: none. -/
import Derived.Test.YtlgjpoapclifbaaDoorcM29L
namespace Go.Proofs.YtlgjpoapclifbaaDoor
set_option linter.unusedVariables false
set_option linter.unusedSimpArgs false
open Go Go.RowKit
abbrev Ps : Type := List Hj × Int
abbrev Pn : Type := (Int × Int) × Ps
def W6 : List (List UInt8) := [[115, 114, 99], [100, 115, 116], [107, 105, 110, 100], [116, 97, 103], [112, 111, 114, 116], [115, 119, 105, 116, 99, 104]]
structure Tks (l : List Hj) : Prop where
  len : l.length ≤ 1000
  nxt : ∀ i (h : i < l.length), l[i].1 ≠ 4 → i + 1 < l.length
  sgn : ∀ i (h : i < l.length), l[i].1 = 3 → ∀ w ∈ W6, l[i].2.2.1 ≠ w
def Tf (t : Hj) (s : List UInt8) : Bool := decide ((t.1 = 1 ∨ t.1 = 3) ∧ t.2.2.1 = s)
theorem RI {l : List Hj} (hl : Tks l) {i : Nat} (h : i < l.length) : DP ((i : Int) + 1) = ((i + 1 : Nat) : Int) := by have := hl.len; rw [BN (by omega)]; rfl
theorem L9 {l : List Hj} {i : Nat} (h : i < l.length) : BL (l, (i : Int)) = some l[i] := by
  unfold BL
  rw [show ix (l, (i : Int)).1 (l, (i : Int)).2 = some l[i] from C0 (List.getElem?_eq_getElem h)]; rfl
theorem TO (t : Hj) (s : List UInt8) : (bif decide (t.1 ≠ 1) then (decide (t.1 ≠ 3) || decide (t.2.2.1 ≠ s)) else decide (t.2.2.1 ≠ s)) = !Tf t s := by
  unfold Tf
  by_cases c1 : t.1 = 1
  · by_cases c2 : t.2.2.1 = s <;> simp [c1, c2]
  · by_cases c3 : t.1 = 3
    · by_cases c2 : t.2.2.1 = s <;> simp [c3, c2]
    · simp [c1, c3]
theorem PG {l : List Hj} (hl : Tks l) {i : Nat} (h : i < l.length) {s : List UInt8} (c : Tf l[i] s = true) : AF (l, (i : Int)) s = some (true, (l, ((i + 1 : Nat) : Int))) := by
  unfold AF
  rw [L9 h, Option.bind_some, TO, c, if_neg (by decide), RI hl h]
theorem Py {l : List Hj} {i : Nat} (h : i < l.length) {s : List UInt8} (c : ¬ Tf l[i] s = true) : AF (l, (i : Int)) s = some (false, (l, (i : Int))) := by
  unfold AF
  have c' : Tf l[i] s = false := by simpa using c
  rw [L9 h, Option.bind_some, TO, c', if_pos (by decide)]
theorem SD {l : List Hj} (hl : Tks l) {i : Nat} (h : i < l.length) {s : List UInt8} (c : Tf l[i] s = true) : AV (l, (i : Int)) s = some (.inl (l, ((i + 1 : Nat) : Int))) := by
  unfold AV; rw [PG hl h c]; rfl
theorem RQ {l : List Hj} (hl : Tks l) {i : Nat} (h : i < l.length) (c : l[i].1 = 2) : BE (l, (i : Int)) = some (.inl (l[i].2.1, (l, ((i + 1 : Nat) : Int)))) := by
  unfold BE
  rw [L9 h, Option.bind_some, if_neg (fun q => q c), RI hl h]
end Go.Proofs.YtlgjpoapclifbaaDoor
