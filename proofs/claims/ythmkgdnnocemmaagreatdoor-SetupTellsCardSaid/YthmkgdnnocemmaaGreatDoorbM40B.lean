/- Layer 40: whole texts. Conditions: none. -/
import Derived.Test.YthmkgdnnocemmaaGreatDoorbM40
namespace Go.Proofs.YthmkgdnnocemmaaGreatDoor
set_option linter.unusedVariables false
set_option linter.unusedSimpArgs false
open Go Go.RowKit
abbrev Lk : Type := Int × Int × Int × Int × Int × Int
abbrev Js : Type := (Int × List Lk × List (Int × Int)) × List (List Int) × List Int × Int × Int × Int × Int × Int × Int
abbrev DX : Js := ((0, [], []), [], [], 0, 0, 0, 0, 0, 0)
abbrev R9 : Type := Js × Int × Int
abbrev PS (A : Type) : Type := List UInt8 × Int × List A
def GV (x : Lk) : List Int := [x.1, x.2.1, x.2.2.1, x.2.2.2.1, x.2.2.2.2.1, x.2.2.2.2.2]
def GX (x : Int × Int) : List Int := [x.1, x.2]
abbrev Iv (n : Int) (s : List UInt8) : Prop := 0 < n ∧ n + (s.length : Int) ≤ 100000
theorem GE (w : List UInt8) (ns : List Int) : 1 ≤ (BR w ns).length := by simp
theorem KJ (w : List UInt8) (ns : List Int) : 1 ≤ (Fo w ns).length := by simp
theorem Iv.next {n : Int} {u rest : List UInt8} (h : Iv n (u ++ rest)) (h1 : 1 ≤ u.length) : BD (n + 1) = n + 1 ∧ Iv (n + 1) rest := by
  unfold Iv at *
  rw [List.length_append] at h
  exact ⟨Bx (by omega), by omega, by omega⟩
theorem RD {α : Type} : ∀ {l : List α}, l.length = 6 → ∃ a b c d e f, l = [a, b, c, d, e, f]
  | [a, b, c, d, e, f], _ => ⟨a, b, c, d, e, f, rfl⟩
theorem Sd {α : Type} : ∀ {l : List α}, l.length = 2 → ∃ a b, l = [a, b]
  | [a, b], _ => ⟨a, b, rfl⟩
abbrev DE : List UInt8 := [108, 105, 110, 107]
abbrev DD : List UInt8 := [104, 111, 115, 116]
abbrev DO : List UInt8 := [119, 101, 105, 103, 104, 116, 115]
def TT (c : Js) : List UInt8 :=
  BR [115, 119, 105, 116, 99, 104, 101, 115] [c.1.1] ++ ((c.1.2.1.map fun x => BR DE (GV x)).flatten ++ ((c.1.2.2.map fun x => BR DD (GX x)).flatten ++ ((c.2.1.map (Fo DO)).flatten ++ (BR [115, 116, 97, 114, 116, 115] c.2.2.1 ++ (BR [114, 97, 116, 101] [c.2.2.2.1] ++ (BR [114, 111, 111, 109] [c.2.2.2.2.1] ++ (BR [119, 105, 100, 101] [c.2.2.2.2.2.1] ++ (BR [108, 101, 97, 100] [c.2.2.2.2.2.2.1] ++ (BR [109, 97, 114, 103, 105, 110] [c.2.2.2.2.2.2.2.1] ++ BR [114, 101, 116, 114, 121] [c.2.2.2.2.2.2.2.2])))))))))
structure OkC (c : Js) : Prop where
  sw : Bd c.1.1
  li : ∀ x ∈ c.1.2.1, ∀ v ∈ GV x, Bd v
  ho : ∀ x ∈ c.1.2.2, ∀ v ∈ GX x, Bd v
  we : ∀ x ∈ c.2.1, ∀ v ∈ x, Bh v
  st : ∀ v ∈ c.2.2.1, Bd v
  ra : Bd c.2.2.2.1
  ro : Bd c.2.2.2.2.1
  wi : Bd c.2.2.2.2.2.1
  le : Bd c.2.2.2.2.2.2.1
  ma : Bd c.2.2.2.2.2.2.2.1
  re : Bd c.2.2.2.2.2.2.2.2
end Go.Proofs.YthmkgdnnocemmaaGreatDoor
