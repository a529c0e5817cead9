/- Layer 11: tables, who is found. Conditions: none. -/
import Derived.Test.YtkjjioigbpkifaaeM10
import Derived.Test.YtkjjioigbpkifaaeEV
namespace Go.Proofs.Ytkjjioigbpkifaa
set_option linter.unusedVariables false
set_option linter.unusedSimpArgs false
set_option synthInstance.maxSize 1000
open Go Go.RowKit
abbrev kq (a b : Rl) : Prop := a.1 = b.1 ∧ a.2.1 = b.2.1
abbrev Bf (a b : Rl) : Prop := b.1 ≤ a.1 ∧ ¬ kq a b
abbrev Lp (ports room : Int) (t : List Rl) : Prop := (t.length : Int) ≤ room ∧ (∀ x ∈ t, Hq ports x) ∧ t.Pairwise Bf
noncomputable instance (ports room : Int) (t : List Rl) : Decidable (Lp ports room t) := Classical.propDecidable _
theorem MG (x y : Rl) : Hc x y = decide (kq x y) := Kc x y
theorem L6 {t : List Rl} : t.Pairwise Bf ↔ ∀ (i j : Nat) (a b : Rl), i < j → t[i]? = some a → t[j]? = some b → Bf a b := by
  rw [List.pairwise_iff_getElem]
  constructor
  · intro h i j a b hij ha hb
    obtain ⟨hi, rfl⟩ := List.getElem?_eq_some_iff.1 ha
    obtain ⟨hj, rfl⟩ := List.getElem?_eq_some_iff.1 hb
    exact h i j hi hj hij
  · intro h i j hi hj hij
    exact h i j _ _ hij (List.getElem?_eq_getElem hi) (List.getElem?_eq_getElem hj)
theorem MK {t : List Rl} (hl : t.length ≤ 1000) (hA : ∀ x ∈ t, x.2.2.length ≤ 1000) (ports room : Int) : FQ t ports room = some (decide (Lp ports room t)) := by
  have hd : DecidablePred fun i : Nat => ∃ x, t[i]? = some x ∧ (¬ Hq ports x ∨ ∃ k y, k < i ∧ t[k]? = some y ∧ (y.1 < x.1 ∨ kq y x)) := fun _ => Classical.propDecidable _
  unfold FQ
  rw [DP t.length (Ec t ports) (fun i : Nat => ∃ x, t[i]? = some x ∧ (¬ Hq ports x ∨ ∃ k y, k < i ∧ t[k]? = some y ∧ (y.1 < x.1 ∨ kq y x))) false (fun i hi => by
    have hx := Cg (List.getElem?_eq_getElem hi)
    have hm := hA _ (List.getElem_mem hi)
    rw [Ec, if_pos (by omega), hx, Option.bind_some, J3 (by omega), Option.bind_some, BW (by omega)]
    by_cases c : Hq ports t[i]
    · have hd2 : DecidablePred fun k : Nat => ∃ y, t[k]? = some y ∧ (y.1 < t[i].1 ∨ kq y t[i]) := fun _ => Classical.propDecidable _
      rw [decide_eq_true c, if_neg (by decide), DP i (D6 t (i : Int)) (fun k : Nat => ∃ y, t[k]? = some y ∧ (y.1 < t[i].1 ∨ kq y t[i])) (.inr (.inr false)) (fun k hk => by
        have hk2 : k < t.length := by omega
        have hy := Cg (List.getElem?_eq_getElem hk2)
        rw [D6, if_pos (by omega), hy, hx, Option.bind_some, Option.bind_some, BW (by omega)]
        have e : (∃ y, t[k]? = some y ∧ (y.1 < t[i].1 ∨ kq y t[i])) ↔ (t[k].1 < t[i].1 ∨ kq t[k] t[i]) := by
          rw [List.getElem?_eq_getElem hk2]
          exact ⟨fun ⟨y, h1, h2⟩ => by cases h1; exact h2, fun h => ⟨_, rfl, h⟩⟩
        by_cases c1 : t[k].1 < t[i].1
        · rw [if_pos c1, Option.bind_some, if_pos rfl, if_pos (e.2 (.inl c1))]
        · rw [if_neg c1, Option.bind_some, Option.bind_some, MG, Option.bind_some]
          by_cases c2 : kq t[k] t[i]
          · rw [decide_eq_true c2, if_pos rfl, if_pos (e.2 (.inr c2))]
          · rw [decide_eq_false c2, if_neg (by decide), if_neg (fun h => (e.1 h).elim c1 c2)]; rfl) (by rw [D6, if_neg (by omega)])]
      by_cases h : ∃ k, k < i ∧ ∃ y, t[k]? = some y ∧ (y.1 < t[i].1 ∨ kq y t[i])
      · obtain ⟨k, hk, y, h1, h2⟩ := h
        rw [if_pos ⟨k, hk, y, h1, h2⟩, if_pos ⟨t[i], List.getElem?_eq_getElem hi, .inr ⟨k, y, hk, h1, h2⟩⟩]; rfl
      · rw [if_neg h, if_neg (fun ⟨x, h1, h2⟩ => by
          rw [List.getElem?_eq_getElem hi] at h1
          cases h1
          rcases h2 with h2 | ⟨k, y, hk, h3, h4⟩
          · exact h2 c
          · exact h ⟨k, hk, y, h3, h4⟩)]; rfl
    · rw [decide_eq_false c, if_pos (by decide), if_pos ⟨t[i], List.getElem?_eq_getElem hi, .inl c⟩]; rfl) (by rw [Ec, if_neg (by omega)])]
  by_cases h : ∃ i, i < t.length ∧ ∃ x, t[i]? = some x ∧ (¬ Hq ports x ∨ ∃ k y, k < i ∧ t[k]? = some y ∧ (y.1 < x.1 ∨ kq y x))
  · rw [if_pos h]
    show some false = _
    rw [decide_eq_false (fun hc => by
      obtain ⟨i, hi, x, h1, h2⟩ := h
      rcases h2 with h2 | ⟨k, y, hk, h3, h4⟩
      · exact h2 (hc.2.1 x (List.mem_of_getElem? h1))
      · have := L6.1 hc.2.2 k i y x hk h3 h1
        rcases h4 with h4 | h4
        · omega
        · exact this.2 h4)]
  · rw [if_neg h]
    show some (decide ((t.length : Int) ≤ room)) = _
    congr 1
    refine decide_eq_decide.2 ⟨fun h1 => ⟨h1, fun x hx => Classical.byContradiction fun hn => ?_, L6.2 fun i j a b hij ha hb => ?_⟩, fun h1 => h1.1⟩
    · obtain ⟨i, hi, rfl⟩ := List.getElem_of_mem hx
      exact h ⟨i, hi, _, List.getElem?_eq_getElem hi, .inl hn⟩
    · have hj := (List.getElem?_eq_some_iff.1 hb).1
      have hn : ¬ (a.1 < b.1 ∨ kq a b) := fun hc => h ⟨j, hj, b, hb, .inr ⟨i, a, hij, ha, hc⟩⟩
      exact ⟨by
        have := fun hc => hn (.inl hc)
        omega, fun hc => hn (.inr hc)⟩
section
variable {κ : Type} [DecidableEq κ]
end
def Ge {α : Type} (P : α → Bool) : List α → Nat → Int
  | [], _ => -1
  | x :: l, k => if P x = true then (k : Int) else Ge P l (k + 1)
theorem FL {α : Type} (l : List α) (hl : l.length ≤ 1000000) (P : α → Bool) (step : Int → Option (Int ⊕ (Unit ⊕ Int)))
    (hs : ∀ k (hk : k < l.length), step (k : Int) = if P l[k] = true then some (.inr (.inr (k : Int))) else some (.inl (CA ((k : Int) + 1)))) (he : step (l.length : Int) = some (.inr (.inl ()))) :
    Fp (Bk step 0) (fun _ => some (-1)) = some (Ge P l 0) := by
  have key : ∀ (d k : Nat), k + d = l.length → Fp (Bk step (k : Int)) (fun _ => some (-1)) = some (Ge P (l.drop k) k) := by
    intro d
    induction d with
    | zero =>
      intro k hk
      obtain rfl : k = l.length := by omega
      rw [CR he, List.drop_eq_nil_of_le (Nat.le_refl _)]; rfl
    | succ d ih =>
      intro k hk
      have hk2 : k < l.length := by omega
      have h := hs k hk2
      rw [List.drop_eq_getElem_cons hk2]
      show _ = some (if P l[k] = true then (k : Int) else Ge P (l.drop (k + 1)) (k + 1))
      by_cases c : P l[k] = true
      · rw [if_pos c] at h
        rw [if_pos c, CR h]; rfl
      · rw [if_neg c, BW (by omega)] at h
        rw [if_neg c, Cv h]
        exact ih (k + 1) (by omega)
  exact key l.length 0 (by omega)
theorem Er {α : Type} (P : α → Bool) : ∀ (l : List α) (k : Nat), (Ge P l k = -1 ∧ ∀ x ∈ l, P x = false) ∨ ∃ (j : Nat) (x : α), l[j]? = some x ∧ P x = true ∧ Ge P l k = ((k + j : Nat) : Int) ∧ ∀ (i : Nat) (y : α), i < j → l[i]? = some y → P y = false
  | [], k => .inl ⟨rfl, fun x hx => by cases hx⟩
  | x :: l, k => by
    by_cases c : P x = true
    · exact .inr ⟨0, x, rfl, c, if_pos c, fun i y hi => by omega⟩
    · have e : Ge P (x :: l) k = Ge P l (k + 1) := if_neg c
      rcases Er P l (k + 1) with ⟨h1, h2⟩ | ⟨j, y, h1, h2, h3, h4⟩
      · exact .inl ⟨e.trans h1, fun y hy => by
          rcases List.mem_cons.1 hy with rfl | hy
          · simpa using c
          · exact h2 y hy⟩
      · refine .inr ⟨j + 1, y, h1, h2, by rw [e, h3]; omega, fun i z hi hz => ?_⟩
        cases i with
        | zero => simp at hz; subst hz; simpa using c
        | succ i => exact h4 i z (by omega) (by simpa using hz)
def Gd (t : List Rl) (port : Int) (p : P4) : Int := Ge (fun x => decide (LJ x.2.1 port p)) t 0
theorem Mz {t : List Rl} (hl : t.length ≤ 1000) {ports : Int} (hok : ∀ x ∈ t, Hq ports x) (port : Int) {p : P4} (hp : NP p) : Dt t port p = some (Gd t port p) := by
  unfold Dt Ba
  rw [FL t (by omega) (fun x => decide (LJ x.2.1 port p)) (AV t port p) (fun k hk => by
    rw [AV, if_pos (by omega), Cg (List.getElem?_eq_getElem hk), Option.bind_some]
    unfold DL
    rw [KP (hok _ (List.getElem_mem hk)).2.1 port hp, Option.bind_some, Option.bind_some]) (by rw [AV, if_neg (by omega)])]; rfl
theorem JI {t : List Rl} (hl : t.length ≤ 1000) {ports : Int} (hok : ∀ x ∈ t, Hq ports x) (port : Int) {p : P4} (hp : NP p) : FT t port p = some (Gd t port p) := by
  unfold FT
  rw [FL t (by omega) (fun x => decide (LJ x.2.1 port p)) (EB t port p) (fun k hk => by
    rw [EB, if_pos (by omega), Cg (List.getElem?_eq_getElem hk), Option.bind_some, Mi (hok _ (List.getElem_mem hk)).2.1 port hp, Option.bind_some]) (by rw [EB, if_neg (by omega)])]; rfl
def Jw (t : List Rl) (port : Int) (p : P4) : List Sd := if Gd t port p < 0 then [] else (Ln ((t.getD (Gd t port p).toNat (0, (0, (0, 0, 0, 0), (0, 0, 0, 0)), [])).2.2) p).1
theorem MA {t : List Rl} {port : Int} {p : P4} (h : ¬ Gd t port p < 0) : ∃ (j : Nat) (x : Rl), t[j]? = some x ∧ Gd t port p = (j : Int) ∧ LJ x.2.1 port p ∧ ∀ (i : Nat) (y : Rl), i < j → t[i]? = some y → ¬ LJ y.2.1 port p := by
  rcases Er (fun x : Rl => decide (LJ x.2.1 port p)) t 0 with ⟨h1, _⟩ | ⟨j, x, h1, h2, h3, h4⟩
  · exact absurd (show Gd t port p < 0 by unfold Gd; rw [h1]; decide) h
  · exact ⟨j, x, h1, by unfold Gd; rw [h3]; omega, of_decide_eq_true h2, fun i y hi hy => of_decide_eq_false (h4 i y hi hy)⟩
theorem Kz {t : List Rl} (hl : t.length ≤ 1000) {ports : Int} (hok : ∀ x ∈ t, Hq ports x) (port : Int) {p : P4} (hp : NP p) : CS t port p = some (Jw t port p) ∧ GF t port p = some (Jw t port p) ∧ (Jw t port p).length ≤ 16 := by
  unfold CS GF
  rw [Mz hl hok port hp, JI hl hok port hp, Option.bind_some, Option.bind_some]
  unfold Jw
  by_cases h : Gd t port p < 0
  · have h1 : Gd t port p = -1 := by
      rcases Er (fun x : Rl => decide (LJ x.2.1 port p)) t 0 with ⟨h1, _⟩ | ⟨j, x, _, _, h3, _⟩
      · exact h1
      · exfalso; unfold Gd at h; rw [h3] at h; omega
    rw [if_pos h, if_pos h1, if_pos h]
    exact ⟨rfl, rfl, Nat.zero_le _⟩
  · obtain ⟨j, x, h1, h2, _⟩ := MA h
    have hx := hok x (List.mem_of_getElem? h1)
    have hlen := hx.2.2.1
    have hd : t.getD (Gd t port p).toNat (0, (0, (0, 0, 0, 0), (0, 0, 0, 0)), []) = x := by rw [h2, Int.toNat_natCast, List.getD_eq_getElem?_getD, h1]; rfl
    have r1 := Mk (l := x.2.2) (by omega) p
    rw [if_neg h, if_neg h, if_neg (show ¬ Gd t port p = -1 by omega), hd, h2, Cg h1, Option.bind_some, Option.bind_some, r1.1, KN (by omega)]
    exact ⟨rfl, rfl, by omega⟩
abbrev PM (t : List Rl) : Prop := (t.length : Int) ≤ 20 ∧ ∀ x ∈ t, x.2.2.length ≤ 10
theorem LT {t : List Rl} (hl : t.length ≤ 9223372036854775807) : ∃ b, FE t = some b ∧ (b = true ↔ PM t) := by
  unfold FE
  rw [FJ t hl (D2 t) (fun x => 10 < (x.2.2.length : Int)) false (fun k hk => by
    rw [D2, if_pos (by omega), Cg (List.getElem?_eq_getElem hk), Option.bind_some]) (by rw [D2, if_neg (by omega)])]
  by_cases h : ∃ x ∈ t, 10 < (x.2.2.length : Int)
  · rw [if_pos h]
    refine ⟨false, rfl, ⟨fun hc => (by cases hc), fun hc => ?_⟩⟩
    obtain ⟨x, hx, h2⟩ := h
    have := hc.2 x hx
    omega
  · rw [if_neg h, Ju]
    refine ⟨_, rfl, ?_⟩
    rw [decide_eq_true_iff]
    exact ⟨fun hc => ⟨hc, fun x hx => Nat.le_of_not_lt fun h2 => h ⟨x, hx, by omega⟩⟩, fun hc => hc.1⟩
end Go.Proofs.Ytkjjioigbpkifaa
