/- Layer 11: tables, who is found. Conditions: none. -/
import Derived.Test.YtkjjioigbpkifaabM10
import Derived.Test.YtkjjioigbpkifaabEV
namespace Go.Proofs.Ytkjjioigbpkifaa
set_option linter.unusedVariables false
set_option linter.unusedSimpArgs false
set_option synthInstance.maxSize 1000
open Go Go.RowKit
abbrev kq (a b : Rl) : Prop := a.1 = b.1 ∧ a.2.1 = b.2.1
abbrev Bf (a b : Rl) : Prop := b.1 ≤ a.1 ∧ ¬ kq a b
abbrev LC (ports room : Int) (t : List Rl) : Prop := (t.length : Int) ≤ room ∧ (∀ x ∈ t, KG ports x) ∧ t.Pairwise Bf
noncomputable instance (ports room : Int) (t : List Rl) : Decidable (LC ports room t) := Classical.propDecidable _
theorem J5 (x y : Rl) : Gf x y = decide (kq x y) := KF x y
theorem IF {t : List Rl} : t.Pairwise Bf ↔ ∀ (i j : Nat) (a b : Rl), i < j → t[i]? = some a → t[j]? = some b → Bf a b := by
  rw [List.pairwise_iff_getElem]
  constructor
  · intro h i j a b hij ha hb
    obtain ⟨hi, rfl⟩ := List.getElem?_eq_some_iff.1 ha
    obtain ⟨hj, rfl⟩ := List.getElem?_eq_some_iff.1 hb
    exact h i j hi hj hij
  · intro h i j hi hj hij
    exact h i j _ _ hij (List.getElem?_eq_getElem hi) (List.getElem?_eq_getElem hj)
theorem Kd {t : List Rl} (hl : t.length ≤ 1000) (hA : ∀ x ∈ t, x.2.2.length ≤ 1000) (ports room : Int) : Fe t ports room = some (decide (LC ports room t)) := by
  have hd : DecidablePred fun i : Nat => ∃ x, t[i]? = some x ∧ (¬ KG ports x ∨ ∃ k y, k < i ∧ t[k]? = some y ∧ (y.1 < x.1 ∨ kq y x)) := fun _ => Classical.propDecidable _
  unfold Fe
  rw [FP t.length (Dw t ports) (fun i : Nat => ∃ x, t[i]? = some x ∧ (¬ KG ports x ∨ ∃ k y, k < i ∧ t[k]? = some y ∧ (y.1 < x.1 ∨ kq y x))) false (fun i hi => by
    have hx := F2 (List.getElem?_eq_getElem hi)
    have hm := hA _ (List.getElem_mem hi)
    rw [Dw, if_pos (by omega), hx, Option.bind_some, JA (by omega), Option.bind_some, D9 (by omega)]
    by_cases c : KG ports t[i]
    · have hd2 : DecidablePred fun k : Nat => ∃ y, t[k]? = some y ∧ (y.1 < t[i].1 ∨ kq y t[i]) := fun _ => Classical.propDecidable _
      rw [decide_eq_true c, if_neg (by decide), FP i (DG t (i : Int)) (fun k : Nat => ∃ y, t[k]? = some y ∧ (y.1 < t[i].1 ∨ kq y t[i])) (.inr (.inr false)) (fun k hk => by
        have hk2 : k < t.length := by omega
        have hy := F2 (List.getElem?_eq_getElem hk2)
        rw [DG, if_pos (by omega), hy, hx, Option.bind_some, Option.bind_some, D9 (by omega)]
        have e : (∃ y, t[k]? = some y ∧ (y.1 < t[i].1 ∨ kq y t[i])) ↔ (t[k].1 < t[i].1 ∨ kq t[k] t[i]) := by
          rw [List.getElem?_eq_getElem hk2]
          exact ⟨fun ⟨y, h1, h2⟩ => by cases h1; exact h2, fun h => ⟨_, rfl, h⟩⟩
        by_cases c1 : t[k].1 < t[i].1
        · rw [if_pos c1, Option.bind_some, if_pos rfl, if_pos (e.2 (.inl c1))]
        · rw [if_neg c1, Option.bind_some, Option.bind_some, J5, Option.bind_some]
          by_cases c2 : kq t[k] t[i]
          · rw [decide_eq_true c2, if_pos rfl, if_pos (e.2 (.inr c2))]
          · rw [decide_eq_false c2, if_neg (by decide), if_neg (fun h => (e.1 h).elim c1 c2)]; rfl) (by rw [DG, if_neg (by omega)])]
      by_cases h : ∃ k, k < i ∧ ∃ y, t[k]? = some y ∧ (y.1 < t[i].1 ∨ kq y t[i])
      · obtain ⟨k, hk, y, h1, h2⟩ := h
        rw [if_pos ⟨k, hk, y, h1, h2⟩, if_pos ⟨t[i], List.getElem?_eq_getElem hi, .inr ⟨k, y, hk, h1, h2⟩⟩]; rfl
      · rw [if_neg h, if_neg (fun ⟨x, h1, h2⟩ => by
          rw [List.getElem?_eq_getElem hi] at h1
          cases h1
          rcases h2 with h2 | ⟨k, y, hk, h3, h4⟩
          · exact h2 c
          · exact h ⟨k, hk, y, h3, h4⟩)]; rfl
    · rw [decide_eq_false c, if_pos (by decide), if_pos ⟨t[i], List.getElem?_eq_getElem hi, .inl c⟩]; rfl) (by rw [Dw, if_neg (by omega)])]
  by_cases h : ∃ i, i < t.length ∧ ∃ x, t[i]? = some x ∧ (¬ KG ports x ∨ ∃ k y, k < i ∧ t[k]? = some y ∧ (y.1 < x.1 ∨ kq y x))
  · rw [if_pos h]
    show some false = _
    rw [decide_eq_false (fun hc => by
      obtain ⟨i, hi, x, h1, h2⟩ := h
      rcases h2 with h2 | ⟨k, y, hk, h3, h4⟩
      · exact h2 (hc.2.1 x (List.mem_of_getElem? h1))
      · have := IF.1 hc.2.2 k i y x hk h3 h1
        rcases h4 with h4 | h4
        · omega
        · exact this.2 h4)]
  · rw [if_neg h]
    show some (decide ((t.length : Int) ≤ room)) = _
    congr 1
    refine decide_eq_decide.2 ⟨fun h1 => ⟨h1, fun x hx => Classical.byContradiction fun hn => ?_, IF.2 fun i j a b hij ha hb => ?_⟩, fun h1 => h1.1⟩
    · obtain ⟨i, hi, rfl⟩ := List.getElem_of_mem hx
      exact h ⟨i, hi, _, List.getElem?_eq_getElem hi, .inl hn⟩
    · have hj := (List.getElem?_eq_some_iff.1 hb).1
      have hn : ¬ (a.1 < b.1 ∨ kq a b) := fun hc => h ⟨j, hj, b, hb, .inr ⟨i, a, hij, ha, hc⟩⟩
      exact ⟨by
        have := fun hc => hn (.inl hc)
        omega, fun hc => hn (.inr hc)⟩
section
variable {κ : Type} [DecidableEq κ]
end
def HO {α : Type} (P : α → Bool) : List α → Nat → Int
  | [], _ => -1
  | x :: l, k => if P x = true then (k : Int) else HO P l (k + 1)
theorem Jy {α : Type} (l : List α) (hl : l.length ≤ 1000000) (P : α → Bool) (step : Int → Option (Int ⊕ (Unit ⊕ Int)))
    (hs : ∀ k (hk : k < l.length), step (k : Int) = if P l[k] = true then some (.inr (.inr (k : Int))) else some (.inl (C3 ((k : Int) + 1)))) (he : step (l.length : Int) = some (.inr (.inl ()))) :
    FC (BG step 0) (fun _ => some (-1)) = some (HO P l 0) := by
  have key : ∀ (d k : Nat), k + d = l.length → FC (BG step (k : Int)) (fun _ => some (-1)) = some (HO P (l.drop k) k) := by
    intro d
    induction d with
    | zero =>
      intro k hk
      obtain rfl : k = l.length := by omega
      rw [E1 he, List.drop_eq_nil_of_le (Nat.le_refl _)]; rfl
    | succ d ih =>
      intro k hk
      have hk2 : k < l.length := by omega
      have h := hs k hk2
      rw [List.drop_eq_getElem_cons hk2]
      show _ = some (if P l[k] = true then (k : Int) else HO P (l.drop (k + 1)) (k + 1))
      by_cases c : P l[k] = true
      · rw [if_pos c] at h
        rw [if_pos c, E1 h]; rfl
      · rw [if_neg c, D9 (by omega)] at h
        rw [if_neg c, F7 h]
        exact ih (k + 1) (by omega)
  exact key l.length 0 (by omega)
theorem Gx {α : Type} (P : α → Bool) : ∀ (l : List α) (k : Nat), (HO P l k = -1 ∧ ∀ x ∈ l, P x = false) ∨ ∃ (j : Nat) (x : α), l[j]? = some x ∧ P x = true ∧ HO P l k = ((k + j : Nat) : Int) ∧ ∀ (i : Nat) (y : α), i < j → l[i]? = some y → P y = false
  | [], k => .inl ⟨rfl, fun x hx => by cases hx⟩
  | x :: l, k => by
    by_cases c : P x = true
    · exact .inr ⟨0, x, rfl, c, if_pos c, fun i y hi => by omega⟩
    · have e : HO P (x :: l) k = HO P l (k + 1) := if_neg c
      rcases Gx P l (k + 1) with ⟨h1, h2⟩ | ⟨j, y, h1, h2, h3, h4⟩
      · exact .inl ⟨e.trans h1, fun y hy => by
          rcases List.mem_cons.1 hy with rfl | hy
          · simpa using c
          · exact h2 y hy⟩
      · refine .inr ⟨j + 1, y, h1, h2, by rw [e, h3]; omega, fun i z hi hz => ?_⟩
        cases i with
        | zero => simp at hz; subst hz; simpa using c
        | succ i => exact h4 i z (by omega) (by simpa using hz)
def Gj (t : List Rl) (port : Int) (p : P4) : Int := HO (fun x => decide (Kb x.2.1 port p)) t 0
theorem J3 {t : List Rl} (hl : t.length ≤ 1000) {ports : Int} (hok : ∀ x ∈ t, KG ports x) (port : Int) {p : P4} (hp : LM p) : CC t port p = some (Gj t port p) := by
  unfold CC AR
  rw [Jy t (by omega) (fun x => decide (Kb x.2.1 port p)) (AC t port p) (fun k hk => by
    rw [AC, if_pos (by omega), F2 (List.getElem?_eq_getElem hk), Option.bind_some]
    unfold Df
    rw [I8 (hok _ (List.getElem_mem hk)).2.1 port hp, Option.bind_some, Option.bind_some]) (by rw [AC, if_neg (by omega)])]; rfl
theorem I0 {t : List Rl} {port : Int} {p : P4} (h : ¬ Gj t port p < 0) : ∃ (j : Nat) (x : Rl), t[j]? = some x ∧ Gj t port p = (j : Int) ∧ Kb x.2.1 port p ∧ ∀ (i : Nat) (y : Rl), i < j → t[i]? = some y → ¬ Kb y.2.1 port p := by
  rcases Gx (fun x : Rl => decide (Kb x.2.1 port p)) t 0 with ⟨h1, _⟩ | ⟨j, x, h1, h2, h3, h4⟩
  · exact absurd (show Gj t port p < 0 by unfold Gj; rw [h1]; decide) h
  · exact ⟨j, x, h1, by unfold Gj; rw [h3]; omega, of_decide_eq_true h2, fun i y hi hy => of_decide_eq_false (h4 i y hi hy)⟩
abbrev MV (t : List Rl) : Prop := (t.length : Int) ≤ 20 ∧ ∀ x ∈ t, x.2.2.length ≤ 10
theorem JF {t : List Rl} (hl : t.length ≤ 9223372036854775807) : ∃ b, Fd t = some b ∧ (b = true ↔ MV t) := by
  unfold Fd
  rw [Gv t hl (Dx t) (fun x => 10 < (x.2.2.length : Int)) false (fun k hk => by
    rw [Dx, if_pos (by omega), F2 (List.getElem?_eq_getElem hk), Option.bind_some]) (by rw [Dx, if_neg (by omega)])]
  by_cases h : ∃ x ∈ t, 10 < (x.2.2.length : Int)
  · rw [if_pos h]
    refine ⟨false, rfl, ⟨fun hc => (by cases hc), fun hc => ?_⟩⟩
    obtain ⟨x, hx, h2⟩ := h
    have := hc.2 x hx
    omega
  · rw [if_neg h, IZ]
    refine ⟨_, rfl, ?_⟩
    rw [decide_eq_true_iff]
    exact ⟨fun hc => ⟨hc, fun x hx => Nat.le_of_not_lt fun h2 => h ⟨x, hx, by omega⟩⟩, fun hc => hc.1⟩
theorem GP {t : List Rl} (hl : t.length ≤ 9223372036854775807) (ports room port : Int) (p : P4) : C7 t ports room port p = some true := by
  unfold C7
  rw [J1]
  obtain ⟨b, hb, hs⟩ := JF hl
  rw [hb, Option.bind_some]
  cases b with
  | false => rfl
  | true =>
    obtain ⟨s1, s2⟩ := hs.1 rfl
    have hA : ∀ x ∈ t, x.2.2.length ≤ 1000 := fun x hx => by have := s2 x hx; omega
    rw [if_neg (by decide), Kd (by omega) hA, Option.bind_some]
    by_cases h : LC ports room t
    · rw [decide_eq_true h, if_neg (by decide), IE, Option.bind_some]
      by_cases hp : KY p
      · rw [decide_eq_true hp]
        have hbp := Ky hp
        have hneg : Gj t port p < 0 → Gj t port p = -1 ∧ ∀ x ∈ t, ¬ Kb x.2.1 port p := fun hn => by
          rcases Gx (fun x : Rl => decide (Kb x.2.1 port p)) t 0 with ⟨h1, h2⟩ | ⟨j, x, _, _, h3, _⟩
          · exact ⟨h1, fun x hx => of_decide_eq_false (h2 x hx)⟩
          · exfalso; unfold Gj at hn; rw [h3] at hn; omega
        rw [show (!true) = false from rfl, Option.bind_some, if_neg (show ¬ (false = true) by decide), J3 (by omega) h.2.1 port hbp, Option.bind_some]
        rw [Gv t (by omega) (Co t port p (Gj t port p)) (fun _ => False) false (fun k hk => by
          have hx := F2 (List.getElem?_eq_getElem hk)
          have hmem := List.getElem_mem hk
          rw [Co, if_pos (by omega), hx, Option.bind_some, I8 (h.2.1 _ hmem).2.1 port hbp, Option.bind_some, if_neg (show ¬ False from id)]
          by_cases hn : Gj t port p < 0
          · obtain ⟨h1, h2⟩ := hneg hn
            rw [decide_eq_false (h2 _ hmem), if_neg (by decide), if_neg (by omega)]; rfl
          · obtain ⟨j, x, g1, g2, g3, g4⟩ := I0 hn
            have hj := (List.getElem?_eq_some_iff.1 g1).1
            by_cases c : Kb t[k].2.1 port p
            · have hjk : j ≤ k := Nat.le_of_not_lt fun hlt => g4 k _ hlt (List.getElem?_eq_getElem hk) c
              have hprio : t[k].1 ≤ x.1 := by
                by_cases e : j = k
                · subst e
                  rw [List.getElem?_eq_getElem hk] at g1
                  cases g1; exact Int.le_refl _
                · exact (IF.1 h.2.2 j k x _ (by omega) g1 (List.getElem?_eq_getElem hk)).1
              rw [decide_eq_true c, if_pos rfl, if_neg hn, if_neg (by omega), g2, F2 g1, Option.bind_some, Option.bind_some, if_neg (by omega), if_neg (by omega), ite_self]; rfl
            · rw [decide_eq_false c, if_neg (by decide), if_neg (fun e => by
                have e2 : k = j := by omega
                subst e2
                rw [List.getElem?_eq_getElem hk] at g1
                cases g1
                exact c g3)]; rfl) (by rw [Co, if_neg (by omega)]), if_neg (by simp), IZ]
        have hb1 : -1 ≤ Gj t port p ∧ Gj t port p < (t.length : Int) := by
          by_cases hn : Gj t port p < 0
          · have := (hneg hn).1; omega
          · obtain ⟨j, x, g1, g2, _⟩ := I0 hn
            have hj := (List.getElem?_eq_some_iff.1 g1).1
            omega
        rw [if_pos hb1.1, if_pos hb1.2]; rfl
      · rw [decide_eq_false hp]; rfl
    · rw [decide_eq_false h]; rfl
theorem GM (p0 : List Rl) (ok0 : Km Lw p0) (p1 : Int) {A : Prop} (_ : A) (p2 : Int) {B : Prop} (_ : B) (p3 : Int) {C : Prop} (_ : C) (p4 : P4) {D : Prop} (_ : D) : C7 p0 p1 p2 p3 p4 = some true := GP ok0.1 p1 p2 p3 p4
end Go.Proofs.Ytkjjioigbpkifaa
