/- Layer 40: the lists and the end lines. Conditions: none. -/
import Derived.Test.YthmkgdnnocemmaaGreatDoorbM40U
namespace Go.Proofs.YthmkgdnnocemmaaGreatDoor
set_option linter.unusedVariables false
set_option linter.unusedSimpArgs false
open Go Go.RowKit
noncomputable def Rt (x : List UInt8) : Option Lk := match My DE 6 x with | some [a, b, c, d, e, f] => some (a, b, c, d, e, f) | _ => none
noncomputable def RA (x : List UInt8) : Option (Int × Int) := match My DD 2 x with | some [a, b] => some (a, b) | _ => none
theorem SO (x2 : Int × (List UInt8 × Int)) (t : List UInt8) (n : Int) (xs : List Lk) (h : (10 : UInt8) ∉ t) (hl : t.length ≤ 100000) : Cb x2 (t, n, xs) = some (.inr (.inr (DX, n, 10))) := by
  unfold Cb
  simp only [Ab, BV]
  rw [show AF (t, n) _ = _ from J0 h hl n DE]; rfl
theorem SM (x2 : Int × (List UInt8 × Int)) (x6 : List Lk) (t : List UInt8) (n : Int) (xs : List (Int × Int)) (h : (10 : UInt8) ∉ t) (hl : t.length ≤ 100000) : CS x2 x6 (t, n, xs) = some (.inr (.inr (DX, n, 10))) := by
  unfold CS
  simp only [Ab, BV]
  rw [show AF (t, n) _ = _ from J0 h hl n DD]; rfl
theorem SA (x2 : Int × (List UInt8 × Int)) (x6 : List Lk) (x25 : List (Int × Int)) (t : List UInt8) (n : Int) (xs : List (List Int)) (h : (10 : UInt8) ∉ t) (hl : t.length ≤ 100000) : CM x2 x6 x25 (t, n, xs) = some (.inr (.inr (DX, n, 10))) := by
  unfold CM
  simp only [Ab, BV]
  rw [show AF (t, n) _ = _ from J0 h hl n DO]; rfl
theorem SL (x2 : Int × (List UInt8 × Int)) (x rest : List UInt8) (n : Int) (xs : List Lk) (h : (10 : UInt8) ∉ x) (hl : (x ++ 10 :: rest).length ≤ 100000) (hx : xs.length ≤ 100000) :
    Cb x2 (x ++ 10 :: rest, n, xs) = if hd x = DE then nx (Rt x) rest n xs else some (.inr (.inl (x ++ 10 :: rest, n, xs))) := by
  unfold Cb
  simp only [Ab, BV]
  rw [show AF (x ++ 10 :: rest, n) _ = _ from JJ h hl n DE, Option.bind_some]
  by_cases c : hd x = DE
  · rw [decide_eq_true c, if_pos c]
    simp only [Cq, if_true]
    rw [show AG (x ++ 10 :: rest, n) _ 6 = _ from Gz h hl n DE 6]
    unfold Rt
    cases hr : My DE 6 x with
    | none => rfl
    | some ns =>
      obtain ⟨a, b, c, d, e, f, rfl⟩ := RD (l := ns) (by have := (HE hr).2; omega)
      show (Dg xs [(a, b, c, d, e, f)]).bind _ = _
      rw [Bo (by simp; omega)]; rfl
  · rw [decide_eq_false c, if_neg c]; rfl
theorem SC (x2 : Int × (List UInt8 × Int)) (x6 : List Lk) (x rest : List UInt8) (n : Int) (xs : List (Int × Int)) (h : (10 : UInt8) ∉ x) (hl : (x ++ 10 :: rest).length ≤ 100000) (hx : xs.length ≤ 100000) :
    CS x2 x6 (x ++ 10 :: rest, n, xs) = if hd x = DD then nx (RA x) rest n xs else some (.inr (.inl (x ++ 10 :: rest, n, xs))) := by
  unfold CS
  simp only [Ab, BV]
  rw [show AF (x ++ 10 :: rest, n) _ = _ from JJ h hl n DD, Option.bind_some]
  by_cases c : hd x = DD
  · rw [decide_eq_true c, if_pos c]
    simp only [Cq, if_true]
    rw [show AG (x ++ 10 :: rest, n) _ 2 = _ from Gz h hl n DD 2]
    unfold RA
    cases hr : My DD 2 x with
    | none => rfl
    | some ns =>
      obtain ⟨a, b, rfl⟩ := Sd (l := ns) (by have := (HE hr).2; omega)
      show (Dg xs [(a, b)]).bind _ = _
      rw [Bo (by simp; omega)]; rfl
  · rw [decide_eq_false c, if_neg c]; rfl
theorem Sx (x2 : Int × (List UInt8 × Int)) (x6 : List Lk) (x25 : List (Int × Int)) (x rest : List UInt8) (n : Int) (xs : List (List Int)) (h : (10 : UInt8) ∉ x) (hl : (x ++ 10 :: rest).length ≤ 100000) (hx : xs.length ≤ 100000) :
    CM x2 x6 x25 (x ++ 10 :: rest, n, xs) = if hd x = DO then nx (Ok DO x) rest n xs else some (.inr (.inl (x ++ 10 :: rest, n, xs))) := by
  unfold CM
  simp only [Ab, BV]
  rw [show AF (x ++ 10 :: rest, n) _ = _ from JJ h hl n DO, Option.bind_some]
  by_cases c : hd x = DO
  · rw [decide_eq_true c, if_pos c]
    simp only [Cq, if_true]
    rw [show Ch (x ++ 10 :: rest, n) _ = _ from Re h hl n DO]
    cases hr : Ok DO x with
    | none => rfl
    | some ns =>
      show (Dg xs [ns]).bind _ = _
      rw [Bo (by simp; omega)]; rfl
  · rw [decide_eq_false c, if_neg c]; rfl
section
variable {L : List (List UInt8)} (hL : Ls L) (c0 : Js)
include hL
theorem F7 {a : Nat} (h : a + 1 = L.length) (w : List UInt8) : Ba L (a : Int) w = some false := by
  rw [Pd (by have := hL.n; omega) (fun x hx => by have := (hL.ok x hx).2; omega) a w]
  cases L[a]? with
  | none => rfl
  | some x => simp only; rw [decide_eq_false (by omega), Bool.false_and]
theorem Hs {a : Nat} (h : a < L.length) (h2 : a + 1 < L.length) (w : List UInt8) : Ba L (a : Int) w = some (decide (hd L[a] = w)) := by
  rw [Pd (by have := hL.n; omega) (fun x hx => by have := (hL.ok x hx).2; omega) a w, List.getElem?_eq_getElem h]
  simp only
  rw [decide_eq_true h2, Bool.true_and]
theorem S1 (a : Nat) (xs : List Lk) (h : a + 1 = L.length) : Cp L c0 ((a : Int), xs) = some (.inr (.inl ((a : Int), xs))) := by
  rw [Cp, show Ba L (a : Int) _ = _ from F7 hL h DE]; rfl
theorem Si (x2 : List Lk) (a : Nat) (xs : List (Int × Int)) (h : a + 1 = L.length) : C1 L c0 x2 ((a : Int), xs) = some (.inr (.inl ((a : Int), xs))) := by
  rw [C1, show Ba L (a : Int) _ = _ from F7 hL h DD]; rfl
theorem Q7 (x2 : List Lk) (x16 : List (Int × Int)) (a : Nat) (xs : List (List Int)) (h : a + 1 = L.length) : CZ L c0 x2 x16 ((a : Int), xs) = some (.inr (.inl ((a : Int), xs))) := by
  rw [CZ, show Ba L (a : Int) _ = _ from F7 hL h DO]; rfl
theorem SZ (a : Nat) (h : a < L.length) (xs : List Lk) (h2 : a + 1 < L.length) (hx : xs.length ≤ 100000) : (hd L[a] = DE → (∀ y, Rt L[a] = some y → Cp L c0 ((a : Int), xs) = some (.inl (((a + 1 : Nat) : Int), xs ++ [y]))) ∧ (Rt L[a] = none → ∃ cc, Cp L c0 ((a : Int), xs) = some (.inr (.inr (cc, (a : Int), false))))) ∧ (¬ hd L[a] = DE → Cp L c0 ((a : Int), xs) = some (.inr (.inl ((a : Int), xs)))) := by
  have hw := Hs hL h h2 DE
  have hn := hL.n
  refine ⟨fun c => ?_, fun c => by rw [Cp, show Ba L (a : Int) _ = _ from hw, decide_eq_false c]; rfl⟩
  rw [decide_eq_true c] at hw
  obtain ⟨ns, b, g1, g2⟩ := IB (x := L[a]) (w := DE) (c := 6) (by have := (hL.ok _ (List.getElem_mem h)).2; omega) (by decide)
  have g2 := g2 c
  rw [Cp, show Ba L (a : Int) _ = _ from hw, Option.bind_some, if_pos rfl, AQ (List.getElem?_eq_getElem h), Option.bind_some, g1, Option.bind_some]
  unfold Rt
  cases b with
  | false =>
    rw [if_neg (by decide)] at g2
    rw [g2]
    exact ⟨fun y hy => (by cases hy), fun _ => ⟨_, by rw [if_pos (show (!false) = true from rfl)]⟩⟩
  | true =>
    rw [if_pos rfl] at g2
    rw [g2]
    obtain ⟨p, q, r, s, t, u, rfl⟩ := RD (l := ns) (by have := (HE g2).2; omega)
    refine ⟨fun y hy => ?_, fun hy => (by cases hy)⟩
    cases hy
    rw [if_neg (show ¬ (!true) = true from by decide)]
    show (Dg xs [(p, q, r, s, t, u)]).bind _ = _
    rw [Bo (by simp; omega), Option.bind_some, Bx (by omega), show (a : Int) + 1 = ((a + 1 : Nat) : Int) from by omega]
theorem SH (x2 : List Lk) (a : Nat) (h : a < L.length) (xs : List (Int × Int)) (h2 : a + 1 < L.length) (hx : xs.length ≤ 100000) : (hd L[a] = DD → (∀ y, RA L[a] = some y → C1 L c0 x2 ((a : Int), xs) = some (.inl (((a + 1 : Nat) : Int), xs ++ [y]))) ∧ (RA L[a] = none → ∃ cc, C1 L c0 x2 ((a : Int), xs) = some (.inr (.inr (cc, (a : Int), false))))) ∧ (¬ hd L[a] = DD → C1 L c0 x2 ((a : Int), xs) = some (.inr (.inl ((a : Int), xs)))) := by
  have hw := Hs hL h h2 DD
  have hn := hL.n
  refine ⟨fun c => ?_, fun c => by rw [C1, show Ba L (a : Int) _ = _ from hw, decide_eq_false c]; rfl⟩
  rw [decide_eq_true c] at hw
  obtain ⟨ns, b, g1, g2⟩ := IB (x := L[a]) (w := DD) (c := 2) (by have := (hL.ok _ (List.getElem_mem h)).2; omega) (by decide)
  have g2 := g2 c
  rw [C1, show Ba L (a : Int) _ = _ from hw, Option.bind_some, if_pos rfl, AQ (List.getElem?_eq_getElem h), Option.bind_some, g1, Option.bind_some]
  unfold RA
  cases b with
  | false =>
    rw [if_neg (by decide)] at g2
    rw [g2]
    exact ⟨fun y hy => (by cases hy), fun _ => ⟨_, by rw [if_pos (show (!false) = true from rfl)]⟩⟩
  | true =>
    rw [if_pos rfl] at g2
    rw [g2]
    obtain ⟨p, q, rfl⟩ := Sd (l := ns) (by have := (HE g2).2; omega)
    refine ⟨fun y hy => ?_, fun hy => (by cases hy)⟩
    cases hy
    rw [if_neg (show ¬ (!true) = true from by decide)]
    show (Dg xs [(p, q)]).bind _ = _
    rw [Bo (by simp; omega), Option.bind_some, Bx (by omega), show (a : Int) + 1 = ((a + 1 : Nat) : Int) from by omega]
theorem SX (x2 : List Lk) (x16 : List (Int × Int)) (a : Nat) (h : a < L.length) (xs : List (List Int)) (h2 : a + 1 < L.length) (hx : xs.length ≤ 100000) : (hd L[a] = DO → (∀ y, Ok DO L[a] = some y → CZ L c0 x2 x16 ((a : Int), xs) = some (.inl (((a + 1 : Nat) : Int), xs ++ [y]))) ∧ (Ok DO L[a] = none → ∃ cc, CZ L c0 x2 x16 ((a : Int), xs) = some (.inr (.inr (cc, (a : Int), false))))) ∧ (¬ hd L[a] = DO → CZ L c0 x2 x16 ((a : Int), xs) = some (.inr (.inl ((a : Int), xs)))) := by
  have hw := Hs hL h h2 DO
  have hn := hL.n
  refine ⟨fun c => ?_, fun c => by rw [CZ, show Ba L (a : Int) _ = _ from hw, decide_eq_false c]; rfl⟩
  rw [decide_eq_true c] at hw
  obtain ⟨ns, b, g1, g2⟩ := PP (x := L[a]) (w := DO) (by have := (hL.ok _ (List.getElem_mem h)).2; omega)
  have g2 := g2 c
  rw [CZ, show Ba L (a : Int) _ = _ from hw, Option.bind_some, if_pos rfl, AQ (List.getElem?_eq_getElem h), Option.bind_some, g1, Option.bind_some]
  cases b with
  | false =>
    rw [if_neg (by decide)] at g2
    rw [g2]
    exact ⟨fun y hy => (by cases hy), fun _ => ⟨_, by rw [if_pos (show (!false) = true from rfl)]⟩⟩
  | true =>
    rw [if_pos rfl] at g2
    rw [g2]
    refine ⟨fun y hy => ?_, fun hy => (by cases hy)⟩
    cases hy
    rw [if_neg (show ¬ (!true) = true from by decide), Bo (by simp; omega), Option.bind_some, Bx (by omega), show (a : Int) + 1 = ((a + 1 : Nat) : Int) from by omega]
end
theorem LK {L : List (List UInt8)} (hL : Ls L) (a : Nat) (h : a < L.length) (w : List UInt8) :
    (∃ v, a + 1 < L.length ∧ hd L[a] = w ∧ Ba L (a : Int) w = some true ∧ Dn L[a] 1 = some ([v], true) ∧ Aq (jn (L.drop a), ((a + 1 : Nat) : Int)) w = some (.inl (v, jn (L.drop (a + 1)), ((a + 1 + 1 : Nat) : Int)))) ∨
    ((Ba L (a : Int) w = some false ∨ (Ba L (a : Int) w = some true ∧ ∃ l, Dn L[a] 1 = some (l, false))) ∧ ∃ t, Aq (jn (L.drop a), ((a + 1 : Nat) : Int)) w = some (.inr (((a + 1 : Nat) : Int), t))) := by
  have hxa := hL.ok _ (List.getElem_mem h)
  have hn := hL.n
  rcases HY h with ⟨e1, e2⟩ | ⟨e1, e2⟩
  · right
    rw [e2]
    exact ⟨.inl (F7 hL e1 w), _, Pz hxa.1 (by omega) _ w⟩
  · have hs := hL.s a
    rw [e2] at hs ⊢
    have hw := Hs hL h e1 w
    by_cases c : hd L[a] = w
    · rw [decide_eq_true c] at hw
      obtain ⟨ns, b, g1, g2⟩ := IB (x := L[a]) (w := w) (c := 1) (by omega) (by decide)
      have g2 := g2 c
      rcases PF hxa.1 hs ((a + 1 : Nat) : Int) w with ⟨v, k1, k2⟩ | ⟨k1, k2⟩
      · left
        cases b with
        | false => rw [if_neg (by decide), k1] at g2; cases g2
        | true =>
          rw [if_pos rfl, k1] at g2
          obtain rfl := Option.some.inj g2
          refine ⟨v, e1, c, hw, g1, ?_⟩
          rw [k2, Bx (by omega), show ((a + 1 : Nat) : Int) + 1 = ((a + 1 + 1 : Nat) : Int) from by omega]
      · right
        cases b with
        | true => rw [if_pos rfl, k1] at g2; cases g2
        | false => exact ⟨.inr ⟨hw, ns, g1⟩, _, k2⟩
    · right
      rw [decide_eq_false c] at hw
      refine ⟨.inl hw, (L[a] ++ 10 :: jn (L.drop (a + 1)), ((a + 1 : Nat) : Int)), ?_⟩
      have := Gz hxa.1 hs ((a + 1 : Nat) : Int) w 1
      rw [Oo c] at this
      unfold Aq
      rw [this]; rfl
theorem FU {L : List (List UInt8)} (hL : Ls L) (a i : Nat) (xs : List Int) (hi : i < 6) (hx : xs.length ≤ 100) (w : List UInt8) (hw : GC (i : Int) = some w) (h : a + 1 < L.length) :
    (∃ v, a + 1 + 1 < L.length ∧ A2 L ((a : Int), xs, (i : Int)) = some (.inl (((a + 1 : Nat) : Int), xs ++ [v], ((i + 1 : Nat) : Int))) ∧ Aq (jn (L.drop (a + 1)), ((a + 1 + 1 : Nat) : Int)) w = some (.inl (v, jn (L.drop (a + 1 + 1)), ((a + 1 + 1 + 1 : Nat) : Int)))) ∨
    (A2 L ((a : Int), xs, (i : Int)) = some (.inr (.inr (DX, ((a + 1 + 1 : Nat) : Int), 10))) ∧ ∃ t, Aq (jn (L.drop (a + 1)), ((a + 1 + 1 : Nat) : Int)) w = some (.inr (((a + 1 + 1 : Nat) : Int), t))) := by
  have hn := hL.n
  have ew : BD ((a : Int) + 1) = ((a + 1 : Nat) : Int) := by rw [Bx (by omega)]; omega
  have ew2 : BD (((a + 1 : Nat) : Int) + 1) = ((a + 1 + 1 : Nat) : Int) := by rw [Bx (by omega)]; omega
  have hst : ∀ (Z : _), A2 L ((a : Int), xs, (i : Int)) = Z ↔ A2 L ((a : Int), xs, (i : Int)) = Z := fun _ => Iff.rfl
  rcases LK hL (a + 1) h w with ⟨v, h1, h2, h3, h4, h5⟩ | ⟨h1, t, h2⟩
  · left
    refine ⟨v, h1, ?_, h5⟩
    rw [A2, if_pos (by omega), hw, Option.bind_some, ew, h3, Option.bind_some, if_neg (by decide), AQ (List.getElem?_eq_getElem h), Option.bind_some, h4, Option.bind_some, if_neg (show ¬ (!true) = true from by decide), show ix [v] 0 = some v from AQ (k := 0) rfl, Option.bind_some, Bo (by simp; omega), Option.bind_some, Bx (x := (i : Int) + 1) (by omega), show (i : Int) + 1 = ((i + 1 : Nat) : Int) from by omega]
  · right
    refine ⟨?_, t, h2⟩
    rcases h1 with h1 | ⟨h1, l, h3⟩
    · rw [A2, if_pos (by omega), hw, Option.bind_some, ew, h1, Option.bind_some, if_pos (show (!false) = true from rfl), ew2]
    · rw [A2, if_pos (by omega), hw, Option.bind_some, ew, h1, Option.bind_some, if_neg (by decide), AQ (List.getElem?_eq_getElem h), Option.bind_some, h3, Option.bind_some, if_pos (show (!false) = true from rfl), ew2]
theorem Rm {M : List (List UInt8)} (h : M ≠ []) : jn M = [] ↔ M = [[]] := by
  match M, h with
  | [t], _ => show t = [] ↔ _; simp
  | x :: y :: r, _ => show x ++ 10 :: _ = [] ↔ _; simp
def Sz (c : Js) : Prop := c.1.2.1.length ≤ 3000 ∧ c.1.2.2.length ≤ 3000 ∧ c.2.1.length ≤ 3000 ∧ c.2.2.1.length ≤ 3000 ∧ ∀ x ∈ c.2.1, x.length ≤ 3000
end Go.Proofs.YthmkgdnnocemmaaGreatDoor
