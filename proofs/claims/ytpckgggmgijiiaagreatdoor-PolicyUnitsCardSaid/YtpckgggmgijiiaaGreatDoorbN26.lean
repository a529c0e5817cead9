/- Layer 27: trees, what a condition says. Conditions: none. -/
import Derived.Test.YtpckgggmgijiiaaGreatDoorbLP
import Derived.Test.YtpckgggmgijiiaaGreatDoorbEV
namespace Go.Proofs.YtpckgggmgijiiaaGreatDoor
set_option linter.unusedVariables false
set_option linter.unusedSimpArgs false
open Go Go.RowKit
abbrev PK := Int × Int × Int × Int
theorem Uh {t x : Tr24} (h : x ∈ t.un.2.2.2) : SizeOf.sizeOf x < SizeOf.sizeOf t := by
  cases t with
  | mk k f v l =>
    have h' : x ∈ l := h
    have := List.sizeOf_lt_of_mem h'
    simp only [Tr24.mk.sizeOf_spec]; omega
theorem TP {t x : Tr34} (h : x ∈ t.un.2.2.2) : SizeOf.sizeOf x < SizeOf.sizeOf t := by
  cases t with
  | mk k f v l =>
    have h' : x ∈ l := h
    have := List.sizeOf_lt_of_mem h'
    simp only [Tr34.mk.sizeOf_spec]; omega
theorem TN (t : Tr34) : t.cnt = 1 + (t.un.2.2.2.map Tr34.cnt).sum := by cases t; rw [Tr34.cnt]; rfl
theorem RH {α : Type} {g : α → Nat} : ∀ {l : List α} {x : α}, x ∈ l → g x ≤ (l.map g).sum
  | y :: l, x, h => by
    rw [List.map_cons, List.sum_cons]
    rcases List.mem_cons.1 h with e | h
    · rw [e]; omega
    · have := RH (g := g) h; omega
theorem Px {α : Type} {g : α → Nat} (hg : ∀ x, 1 ≤ g x) : ∀ l : List α, l.length ≤ (l.map g).sum
  | [] => Nat.zero_le _
  | y :: l => by
    have := hg y
    have := Px hg l
    rw [List.map_cons, List.sum_cons, List.length_cons]; omega
theorem YG {t x : Tr34} (h : x ∈ t.un.2.2.2) : x.cnt ≤ t.cnt := by rw [TN t]; have := RH (g := Tr34.cnt) h; omega
theorem Y3 (t : Tr34) : t.un.2.2.2.length + 1 ≤ t.cnt := by rw [TN t]; have := Px (g := Tr34.cnt) (fun x => by rw [TN x]; omega) t.un.2.2.2; omega
def mi : Tr24 → Tr34
  | .mk k f v l => .mk k f v (l.map mi)
theorem Qm (t : Tr24) : (mi t).un = (t.un.1, t.un.2.1, t.un.2.2.1, t.un.2.2.2.map mi) := by cases t; rw [mi]; rfl
theorem UH (t : Tr24) : mi t = Tr34.of (t.un.1, t.un.2.1, t.un.2.2.1, t.un.2.2.2.map mi) := by cases t; rw [mi]; rfl
def gt (a : Int × Int × PK) (f : Int) : Int := if f = 0 then a.2.2.1 else if f = 1 then a.2.2.2.1 else if f = 2 then a.2.2.2.2.1 else if f = 3 then a.2.2.2.2.2 else if f = 4 then a.2.1 else if f = 5 then a.1 else -1
theorem Xj {p : PK} {f : Int} (h : 0 ≤ f ∧ f < 4) (s q : Int) : ix [p.1, p.2.1, p.2.2.1, p.2.2.2] f = some (gt (s, q, p) f) := by
  have : f = 0 ∨ f = 1 ∨ f = 2 ∨ f = 3 := by omega
  rcases this with rfl | rfl | rfl | rfl <;> rfl
theorem VJ (f s q : Int) (p : PK) : HI f s q p = some (gt (s, q, p) f) := by
  unfold HI
  by_cases c4 : f = 4
  · subst c4; rfl
  · rw [if_neg c4]
    by_cases c5 : f = 5
    · subst c5; rfl
    · rw [if_neg c5]
      by_cases c : 0 ≤ f ∧ f ≤ 5
      · have h4 : 0 ≤ f ∧ f < 4 := by omega
        rw [if_pos (by unfold C7; simp; exact c)]
        unfold GU
        rw [if_neg (by unfold CD; simp; omega), Xj h4 s q]; rfl
      · rw [if_neg (by unfold C7; simp; omega)]
        unfold gt
        rw [if_neg (by omega), if_neg (by omega), if_neg (by omega), if_neg (by omega), if_neg (by omega), if_neg (by omega)]
def Vz (a : Int × Int × PK) (k f v : Int) (bs : List Bool) : Bool :=
  if k = 1 then true else if k = 3 then decide ((0 ≤ f ∧ f ≤ 5) ∧ gt a f = v) else if k = 4 then (match bs with | [] => false | b :: _ => !b) else if k = 5 then bs.all id else if k = 6 then bs.any id else false
def P9 (a : Int × Int × PK) : Tr34 → Bool
  | .mk k f v l => Vz a k f v (l.map (P9 a))
theorem Rc (a : Int × Int × PK) (t : Tr34) : P9 a t = Vz a t.un.1 t.un.2.1 t.un.2.2.1 (t.un.2.2.2.map (P9 a)) := by cases t; rw [P9]; rfl
theorem RX {α : Type} (l : List α) (q : α → Bool) (step : Int → Option (Int ⊕ (Unit ⊕ Int)))
    (hs : ∀ k (hk : k < l.length), step (k : Int) = if q l[k] = true then some (.inr (.inr (k : Int))) else some (.inl ((k + 1 : Nat) : Int)))
    (he : step (l.length : Int) = some (.inr (.inl ()))) : ∃ i : Int, Ko (AW step 0) (fun _ => some (-1)) = some i ∧ decide (0 ≤ i) = l.any q := by
  have key : ∀ (d k : Nat), k + d = l.length → (∀ x ∈ l.take k, q x = false) → ∃ i : Int, Ko (AW step (k : Int)) (fun _ => some (-1)) = some i ∧ decide (0 ≤ i) = l.any q := by
    intro d
    induction d with
    | zero =>
      intro k hk hn
      rw [List.take_of_length_le (by omega)] at hn
      refine ⟨-1, by rw [show (k : Int) = (l.length : Int) by omega, A9 he]; rfl, ?_⟩
      rw [decide_eq_false (by omega)]
      exact (List.any_eq_false.2 fun x hx => by rw [hn x hx]; simp).symm
    | succ d ih =>
      intro k hk hn
      have hkl : k < l.length := by omega
      have hst := hs k hkl
      by_cases c : q l[k] = true
      · rw [if_pos c] at hst
        refine ⟨(k : Int), by rw [A9 hst]; rfl, ?_⟩
        rw [decide_eq_true (by omega)]
        exact (List.any_eq_true.2 ⟨_, List.getElem_mem hkl, c⟩).symm
      · rw [if_neg c] at hst
        rw [BV hst]
        refine ih (k + 1) (by omega) fun x hx => ?_
        rw [List.take_succ_eq_append_getElem hkl] at hx
        rcases List.mem_append.1 hx with h | h
        · exact hn x h
        · rw [List.mem_singleton.1 h]; simpa using c
  exact key l.length 0 (by omega) (by simp)
end Go.Proofs.YtpckgggmgijiiaaGreatDoor
