/- Layer 28: the lexer. Conditions: none. -/
import Derived.Test.YtimfbofhleigiaaDoorA1
import Derived.Test.YtimfbofhleigiaaDoorLP
namespace Go.Proofs.YtimfbofhleigiaaDoor
set_option linter.unusedVariables false
set_option linter.unusedSimpArgs false
open Go Go.RowKit

abbrev Tok := Int × Int × List UInt8 × Int
/-! ### Between tokens -/
/-- How many bytes are skipped; whether one is in a remark. -/
def skipN : Bool → List UInt8 → Nat
  | _, [] => 0
  | c, b :: t => if b.toNat = 10 then 1 + skipN false t else if b.toNat = 35 then 1 + skipN true t else if c = false ∧ b.toNat ≠ 32 ∧ b.toNat ≠ 9 then 0 else 1 + skipN c t
theorem skipN_le : ∀ (c : Bool) (l : List UInt8), skipN c l ≤ l.length
  | _, [] => Nat.le_refl _
  | c, b :: t => by
    have h1 := skipN_le false t
    have h2 := skipN_le true t
    have h3 := skipN_le c t
    unfold skipN
    simp only [List.length_cons]
    split
    · omega
    · split
      · omega
      · split <;> omega
theorem skip_eq {s : List UInt8} (hs : s.length ≤ 5000) {at_ : Nat} (ha : at_ ≤ s.length) : lex_skip s (at_ : Int) = some ((at_ + skipN false (s.drop at_) : Nat) : Int) := by
  have key : ∀ (d k : Nat), k + d = s.length → ∀ c : Bool, ∃ e, loopW (lex_skip_l1 s) ((k : Int), c) = some e ∧ (e = .inl ((k + skipN c (s.drop k) : Nat) : Int) ∨ e = .inr ((k + skipN c (s.drop k) : Nat) : Int)) := by
    intro d
    induction d with
    | zero =>
      intro k hk c
      refine ⟨_, loopW_end (by rw [lex_skip_l1, if_neg (by omega)]), .inl ?_⟩
      rw [List.drop_eq_nil_of_le (by omega)]; simp [skipN]
    | succ d ih =>
      intro k hk c
      have hkl : k < s.length := by omega
      rw [List.drop_eq_getElem_cons hkl]
      have step : lex_skip_l1 s ((k : Int), c) = orR ((if (s[k].toNat : Int) = 10 then some (.inl false) else (if (s[k].toNat : Int) = 35 then some (.inl true) else (if (!c && (decide ((s[k].toNat : Int) ≠ 32) && decide ((s[k].toNat : Int) ≠ 9))) = true then some (.inr (.inr (.inr (k : Int)))) else some (.inl c))))) fun x4 => some (.inl (((k + 1 : Nat) : Int), x4)) := by
        rw [lex_skip_l1, if_pos (by omega), ix_nat (List.getElem?_eq_getElem hkl), Option.bind_some, w64_id (by omega)]; rfl
      unfold skipN
      by_cases c1 : s[k].toNat = 10
      · obtain ⟨e, h1, h2⟩ := ih (k + 1) (by omega) false
        refine ⟨e, ?_, ?_⟩
        · rw [loopW_go (s' := (((k + 1 : Nat) : Int), false)) (by rw [step, if_pos (by omega)]; rfl), h1]
        · rw [if_pos c1, show k + (1 + skipN false (s.drop (k + 1))) = k + 1 + skipN false (s.drop (k + 1)) by omega]; exact h2
      · by_cases c2 : s[k].toNat = 35
        · obtain ⟨e, h1, h2⟩ := ih (k + 1) (by omega) true
          refine ⟨e, ?_, ?_⟩
          · rw [loopW_go (s' := (((k + 1 : Nat) : Int), true)) (by rw [step, if_neg (by omega), if_pos (by omega)]; rfl), h1]
          · rw [if_neg c1, if_pos c2, show k + (1 + skipN true (s.drop (k + 1))) = k + 1 + skipN true (s.drop (k + 1)) by omega]; exact h2
        · by_cases c3 : c = false ∧ s[k].toNat ≠ 32 ∧ s[k].toNat ≠ 9
          · refine ⟨.inr (k : Int), loopW_end (by rw [step, if_neg (by omega), if_neg (by omega), if_pos (by obtain ⟨h1, h2, h3⟩ := c3; subst h1; simp; omega)]; rfl), .inr ?_⟩
            rw [if_neg c1, if_neg c2, if_pos c3]; rfl
          · obtain ⟨e, h1, h2⟩ := ih (k + 1) (by omega) c
            refine ⟨e, ?_, ?_⟩
            · rw [loopW_go (s' := (((k + 1 : Nat) : Int), c)) (by
                rw [step, if_neg (by omega), if_neg (by omega), if_neg (by
                  intro h
                  apply c3
                  simp only [Bool.and_eq_true, Bool.not_eq_true', decide_eq_true_eq] at h
                  exact ⟨h.1, by omega, by omega⟩)]; rfl), h1]
            · rw [if_neg c1, if_neg c2, if_neg c3, show k + (1 + skipN c (s.drop (k + 1))) = k + 1 + skipN c (s.drop (k + 1)) by omega]; exact h2
  obtain ⟨e, h1, h2⟩ := key (s.length - at_) at_ (by omega) false
  unfold lex_skip
  rw [h1]
  rcases h2 with rfl | rfl <;> rfl
/-! ### A token -/
def isL (b : UInt8) : Bool := decide (97 ≤ b.toNat ∧ b.toNat ≤ 122)
def isD (b : UInt8) : Bool := decide (48 ≤ b.toNat ∧ b.toNat ≤ 57)
def lead (p : UInt8 → Bool) : List UInt8 → Nat
  | [] => 0
  | b :: t => if p b = true then 1 + lead p t else 0
theorem lead_le (p : UInt8 → Bool) : ∀ l, lead p l ≤ l.length
  | [] => Nat.le_refl _
  | b :: t => by
    have := lead_le p t
    unfold lead
    simp only [List.length_cons]
    split <;> omega
theorem run_loop {s : List UInt8} (hs : s.length ≤ 5000) {p : UInt8 → Bool} {S : Int → Option (Int ⊕ Int)} (h1 : ∀ (k : Nat) (hk : k < s.length), S (k : Int) = if p s[k] = true then some (.inl ((k + 1 : Nat) : Int)) else some (.inr (k : Int))) (h2 : S (s.length : Int) = some (.inr (s.length : Int))) : loopW S 0 = some ((lead p s : Nat) : Int) := by
  have key : ∀ (d k : Nat), k + d = s.length → loopW S (k : Int) = some ((k + lead p (s.drop k) : Nat) : Int) := by
    intro d
    induction d with
    | zero =>
      intro k hk
      obtain rfl : k = s.length := by omega
      rw [loopW_end h2, List.drop_eq_nil_of_le (by omega)]; rfl
    | succ d ih =>
      intro k hk
      have hkl : k < s.length := by omega
      have := h1 k hkl
      rw [List.drop_eq_getElem_cons hkl]
      unfold lead
      by_cases c : p s[k] = true
      · rw [if_pos c] at this
        rw [loopW_go this, ih (k + 1) (by omega), if_pos c, show k + 1 + lead p (s.drop (k + 1)) = k + (1 + lead p (s.drop (k + 1))) by omega]
      · rw [if_neg c] at this
        rw [loopW_end this, if_neg c]; rfl
  have := key s.length 0 (by omega)
  simpa using this
theorem runL_eq {s : List UInt8} (hs : s.length ≤ 5000) : lex_run s = some ((lead isL s : Nat) : Int) := by
  unfold lex_run
  rw [run_loop (p := isL) hs (fun k hk => by
    rw [lex_run_l1, if_pos (by omega), ix_nat (List.getElem?_eq_getElem hk), Option.bind_some, Option.bind_some, w64_id (by omega)]
    have e : lex_isLetter (s[k].toNat : Int) = isL s[k] := by
      unfold lex_isLetter isL
      rw [← Bool.decide_and]
      exact decide_eq_decide.2 ⟨fun h => by omega, fun h => by omega⟩
    rw [e]; rfl) (by rw [lex_run_l1, if_neg (by omega), Option.bind_some, if_neg (by decide)])]; rfl
theorem runD_eq {s : List UInt8} (hs : s.length ≤ 5000) : lex_run_2 s = some ((lead isD s : Nat) : Int) := by
  unfold lex_run_2
  rw [run_loop (p := isD) hs (fun k hk => by
    rw [lex_run_2_l1, if_pos (by omega), ix_nat (List.getElem?_eq_getElem hk), Option.bind_some, Option.bind_some, w64_id (by omega)]
    have e : lex_isDigit (s[k].toNat : Int) = isD s[k] := by
      unfold lex_isDigit isD
      rw [← Bool.decide_and]
      exact decide_eq_decide.2 ⟨fun h => by omega, fun h => by omega⟩
    rw [e]; rfl) (by rw [lex_run_2_l1, if_neg (by omega), Option.bind_some, if_neg (by decide)])]; rfl
/-- What a row of digits is: a number, or none. -/
theorem number_ex (d : List UInt8) (hd : d.length ≤ 5000) : ∃ (k n : Int) (z : Nat), lex_number d = some ((k, n, [], 0), (z : Int)) ∧ (z = 0 ∨ z = d.length) := by
  unfold lex_number
  by_cases c1 : 3 < (d.length : Int)
  · rw [if_pos c1]
    exact ⟨0, 0, 0, rfl, .inl rfl⟩
  · rw [if_neg c1]
    have hb : ∃ b, (if 1 < (d.length : Int) then (ix d 0).bind fun x2 => some (decide ((x2.toNat : Int) = 48)) else some false) = some b := by
      by_cases c2 : 1 < (d.length : Int)
      · rw [if_pos c2, show (0 : Int) = ((0 : Nat) : Int) from rfl, ix_nat (List.getElem?_eq_getElem (show 0 < d.length by omega))]
        exact ⟨_, rfl⟩
      · rw [if_neg c2]; exact ⟨_, rfl⟩
    obtain ⟨b, hb⟩ := hb
    rw [hb, Option.bind_some]
    cases b
    · obtain ⟨e, h1, _⟩ := loopW_ex (step := lex_number_l1 d) (fun st => ∃ k : Nat, k ≤ d.length ∧ st.2 = (k : Int)) (fun st => d.length - st.2.toNat) (fun _ => True) (by
        rintro ⟨x, y⟩ ⟨k, hk, rfl⟩
        by_cases c : k < d.length
        · left
          exact ⟨_, by rw [lex_number_l1, if_pos (by omega), ix_nat (List.getElem?_eq_getElem c), Option.bind_some, w64_id (x := (k : Int) + 1) (by omega)], ⟨k + 1, by omega, rfl⟩, by simp only; omega⟩
        · right
          exact ⟨_, by rw [lex_number_l1, if_neg (by omega)], trivial⟩) (0, 0) ⟨0, by omega, rfl⟩
      rw [if_neg (by decide), h1]
      exact ⟨2, e, d.length, rfl, .inr rfl⟩
    · rw [if_pos rfl]
      exact ⟨0, 0, 0, rfl, .inl rfl⟩
def signV (l : List UInt8) : Nat := match l with
  | [] => 0
  | a :: t => if a.toNat = 40 ∨ a.toNat = 41 ∨ a.toNat = 59 ∨ a.toNat = 124 ∨ a.toNat = 61 then 1 else if (a :: t).take 2 = [58, 61] then 2 else 0
theorem signV_cons (a : UInt8) (t : List UInt8) : signV (a :: t) = if a.toNat = 40 ∨ a.toNat = 41 ∨ a.toNat = 59 ∨ a.toNat = 124 ∨ a.toNat = 61 then 1 else if (a :: t).take 2 = [58, 61] then 2 else 0 := rfl
theorem sign_eq {l : List UInt8} (h0 : 0 < l.length) : lex_signSize l = some ((signV l : Nat) : Int) := by
  cases l with
  | nil => cases h0
  | cons a t =>
    unfold lex_signSize
    rw [signV_cons, show ix (a :: t) 0 = some a from rfl, Option.bind_some]
    have hb : (if (a.toNat : Int) = 40 then some true else (if (a.toNat : Int) = 41 then some true else (if (a.toNat : Int) = 59 then some true else (if (a.toNat : Int) = 124 then some true else some (decide ((a.toNat : Int) = 61)))))) = some (decide (a.toNat = 40 ∨ a.toNat = 41 ∨ a.toNat = 59 ∨ a.toNat = 124 ∨ a.toNat = 61)) := by
      by_cases c1 : a.toNat = 40
      · rw [if_pos (by omega)]; simp [c1]
      · rw [if_neg (by omega)]
        by_cases c2 : a.toNat = 41
        · rw [if_pos (by omega)]; simp [c2]
        · rw [if_neg (by omega)]
          by_cases c3 : a.toNat = 59
          · rw [if_pos (by omega)]; simp [c3]
          · rw [if_neg (by omega)]
            by_cases c4 : a.toNat = 124
            · rw [if_pos (by omega)]; simp [c4]
            · rw [if_neg (by omega)]
              congr 1
              exact decide_eq_decide.2 ⟨fun h => by omega, fun h => by omega⟩
    rw [hb, Option.bind_some]
    by_cases c : a.toNat = 40 ∨ a.toNat = 41 ∨ a.toNat = 59 ∨ a.toNat = 124 ∨ a.toNat = 61
    · rw [decide_eq_true c, if_pos rfl, if_pos c]; rfl
    · rw [decide_eq_false c, if_neg (by decide), if_neg c]
      have hp : strings_HasPrefix (a :: t) [58, 61] = some (decide ((a :: t).take 2 = [58, 61])) := by
        unfold strings_HasPrefix internal_stringslite_HasPrefix
        by_cases h2 : (2 : Int) ≤ ((a :: t).length : Int)
        · rw [if_pos (show ((([58, 61] : List UInt8).length : Nat) : Int) ≤ ((a :: t).length : Int) from h2), subl_is (by simp only [List.length_cons, List.length_nil] at h2 ⊢; omega)]; rfl
        · rw [if_neg (show ¬ ((([58, 61] : List UInt8).length : Nat) : Int) ≤ ((a :: t).length : Int) from h2), decide_eq_false (fun h => by
            have := congrArg List.length h
            rw [List.length_take] at this
            simp only [List.length_cons, List.length_nil] at this h2; omega)]; rfl
      rw [hp, Option.bind_some]
      by_cases c2 : (a :: t).take 2 = [58, 61]
      · rw [decide_eq_true c2, if_pos rfl, if_pos c2]; rfl
      · rw [decide_eq_false c2, if_neg (by decide), if_neg c2]; rfl
theorem signV_le (l : List UInt8) : signV l ≤ l.length := by
  cases l with
  | nil => exact Nat.le_refl _
  | cons a t =>
    rw [signV_cons]
    split
    · simp
    · split
      · rename_i h
        have := congrArg List.length h
        rw [List.length_take] at this
        simp only [List.length_cons, List.length_nil] at this ⊢; omega
      · exact Nat.zero_le _
theorem first_eq {l : List UInt8} (h0 : 0 < l.length) (hl : l.length ≤ 5000) : lex_first l = if 0 < lead isL l then some ((1, 0, l.take (lead isL l), 0), ((lead isL l : Nat) : Int)) else if 0 < lead isD l then lex_number (l.take (lead isD l)) else if signV l = 0 then some ((0, 0, [], 0), 0) else some ((3, 0, l.take (signV l), 0), ((signV l : Nat) : Int)) := by
  have a1 := lead_le isL l
  have a2 := lead_le isD l
  have a3 := signV_le l
  unfold lex_first
  rw [runL_eq hl, Option.bind_some]
  by_cases c1 : 0 < lead isL l
  · rw [if_pos (by omega), if_pos c1, subl_is (by omega)]; rfl
  · rw [if_neg (by omega), if_neg c1, runD_eq hl, Option.bind_some]
    by_cases c2 : 0 < lead isD l
    · rw [if_pos (by omega), if_pos c2, subl_is (by omega), Option.bind_some]
      show (lex_number (l.take (lead isD l))).bind _ = _
      cases lex_number (l.take (lead isD l)) <;> rfl
    · rw [if_neg (by omega), if_neg c2, sign_eq h0, Option.bind_some]
      by_cases c3 : signV l = 0
      · rw [if_pos (by omega), if_pos c3]
      · rw [if_neg (by omega), if_neg c3, subl_is (by omega)]; rfl
theorem first_ex {l : List UInt8} (h0 : 0 < l.length) (hl : l.length ≤ 5000) : ∃ (k n : Int) (w : List UInt8) (z : Nat), lex_first l = some ((k, n, w, 0), (z : Int)) ∧ z ≤ l.length := by
  have a1 := lead_le isL l
  have a2 := lead_le isD l
  have a3 := signV_le l
  rw [first_eq h0 hl]
  by_cases c1 : 0 < lead isL l
  · rw [if_pos c1]; exact ⟨1, 0, _, _, rfl, a1⟩
  · rw [if_neg c1]
    by_cases c2 : 0 < lead isD l
    · rw [if_pos c2]
      obtain ⟨k, n, z, h1, h2⟩ := number_ex (l.take (lead isD l)) (by rw [List.length_take]; omega)
      refine ⟨k, n, [], z, h1, ?_⟩
      rw [List.length_take] at h2; omega
    · rw [if_neg c2]
      by_cases c3 : signV l = 0
      · rw [if_pos c3]; exact ⟨0, 0, [], 0, rfl, Nat.zero_le _⟩
      · rw [if_neg c3]; exact ⟨3, 0, _, _, rfl, a3⟩
theorem lead_cons (p : UInt8 → Bool) (b : UInt8) (t : List UInt8) : lead p (b :: t) = if p b = true then 1 + lead p t else 0 := rfl
theorem lead_app (p : UInt8 → Bool) : ∀ w r : List UInt8, lead p (w ++ r) = if lead p w < w.length then lead p w else w.length + lead p r
  | [], r => by simp [lead]
  | b :: t, r => by
    have ih := lead_app p t r
    have hl := lead_le p t
    have hn : (b :: t).length = t.length + 1 := rfl
    show lead p (b :: (t ++ r)) = _
    by_cases c : p b = true
    · have e1 : lead p (b :: (t ++ r)) = 1 + lead p (t ++ r) := by rw [lead_cons, if_pos c]
      have e2 : lead p (b :: t) = 1 + lead p t := by rw [lead_cons, if_pos c]
      by_cases c2 : lead p t < t.length
      · rw [if_pos c2] at ih
        rw [if_pos (by omega)]; omega
      · rw [if_neg c2] at ih
        rw [if_neg (by omega)]; omega
    · have e1 : lead p (b :: (t ++ r)) = 0 := by rw [lead_cons, if_neg c]
      have e2 : lead p (b :: t) = 0 := by rw [lead_cons, if_neg c]
      rw [if_pos (by omega)]; omega
theorem lead_tab (p : UInt8 → Bool) (hp : p 9 = false) (w r : List UInt8) : lead p (w ++ 9 :: r) = lead p w := by
  have hl := lead_le p w
  have h0 : lead p (9 :: r) = 0 := by unfold lead; rw [if_neg (by rw [hp]; decide)]
  by_cases hc : lead p w < w.length
  · rw [lead_app, if_pos hc]
  · rw [lead_app, if_neg hc, h0]; omega
theorem lead_same (p : UInt8 → Bool) (hp : p 9 = false) {w r r' : List UInt8} (h : lead p (w ++ r) ≤ w.length) : lead p (w ++ 9 :: r') = lead p (w ++ r) := by
  have hl := lead_le p w
  rw [lead_tab p hp]
  by_cases hc : lead p w < w.length
  · rw [lead_app, if_pos hc]
  · rw [lead_app, if_neg hc] at h ⊢
    omega
/-- What is found in front is found whatever follows. -/
theorem first_local {w r r' : List UInt8} {t : Tok} {z : Nat} (hl : (w ++ r).length ≤ 5000) (hl' : (w ++ 9 :: r').length ≤ 5000) (h : lex_first (w ++ r) = some (t, (z : Int))) (hz : 0 < z) (hw : z ≤ w.length) : lex_first (w ++ 9 :: r') = some (t, (z : Int)) := by
  have hw0 : 0 < w.length := by omega
  have t1 : ∀ n, n ≤ w.length → (w ++ r).take n = (w ++ 9 :: r').take n := fun n hn => by
    rw [List.take_append_of_le_length hn, List.take_append_of_le_length hn]
  rw [first_eq (by simp; omega) hl] at h
  rw [first_eq (by simp; omega) hl']
  by_cases c1 : 0 < lead isL (w ++ r)
  · rw [if_pos c1] at h
    have e := Option.some.inj h
    have ez : lead isL (w ++ r) = z := by have := congrArg Prod.snd e; simp only at this; omega
    rw [lead_same isL (by decide) (r := r) (by omega), if_pos c1, ← t1 _ (by omega)]
    exact h
  · rw [if_neg c1] at h
    rw [lead_same isL (by decide) (r := r) (by omega), if_neg c1]
    by_cases c2 : 0 < lead isD (w ++ r)
    · rw [if_pos c2] at h
      have a2 := lead_le isD (w ++ r)
      obtain ⟨k, n, z', h1, h2⟩ := number_ex ((w ++ r).take (lead isD (w ++ r))) (by rw [List.length_take]; omega)
      rw [h1] at h
      have e := Option.some.inj h
      have ez : z' = z := by have := congrArg Prod.snd e; simp only at this; omega
      rw [List.length_take] at h2
      have ez2 : lead isD (w ++ r) = z := by omega
      rw [lead_same isD (by decide) (r := r) (by omega), if_pos c2, ← t1 _ (by omega), h1]
      exact h
    · rw [if_neg c2] at h
      rw [lead_same isD (by decide) (r := r) (by omega), if_neg c2]
      by_cases c3 : signV (w ++ r) = 0
      · rw [if_pos c3] at h
        have e := Option.some.inj h
        have := congrArg Prod.snd e
        simp only at this; omega
      · rw [if_neg c3] at h
        have e := Option.some.inj h
        have ez : signV (w ++ r) = z := by have := congrArg Prod.snd e; simp only at this; omega
        have es : signV (w ++ 9 :: r') = signV (w ++ r) := by
          cases w with
          | nil => cases hw0
          | cons a u =>
            have t2 := t1 2
            simp only [List.cons_append, signV_cons] at ez t2 ⊢
            by_cases d1 : a.toNat = 40 ∨ a.toNat = 41 ∨ a.toNat = 59 ∨ a.toNat = 124 ∨ a.toNat = 61
            · rw [if_pos d1, if_pos d1]
            · rw [if_neg d1] at ez
              rw [if_neg d1, if_neg d1]
              by_cases d2 : (a :: (u ++ r)).take 2 = [58, 61]
              · rw [if_pos d2] at ez
                rw [if_pos d2, if_pos (by rw [← t2 (by omega)]; exact d2)]
              · rw [if_neg d2] at ez; omega
        rw [es, if_neg c3, ← t1 _ (by omega)]
        exact h
/-! ### Skipping -/
theorem skipN_cons (c : Bool) (b : UInt8) (t : List UInt8) : skipN c (b :: t) = if b.toNat = 10 then 1 + skipN false t else if b.toNat = 35 then 1 + skipN true t else if c = false ∧ b.toNat ≠ 32 ∧ b.toNat ≠ 9 then 0 else 1 + skipN c t := by cases c <;> rfl
theorem skip_app : ∀ (w : List UInt8) (c : Bool) (r r' : List UInt8), skipN c (w ++ r) < w.length → skipN c (w ++ r') = skipN c (w ++ r)
  | [], c, r, r', h => by simp at h
  | b :: w, c, r, r', h => by
    have hn : (b :: w).length = w.length + 1 := rfl
    rw [List.cons_append] at h ⊢
    rw [List.cons_append, skipN_cons, skipN_cons]
    rw [skipN_cons] at h
    by_cases c1 : b.toNat = 10
    · rw [if_pos c1] at h ⊢
      rw [if_pos c1, skip_app w false r r' (by omega)]
    · rw [if_neg c1] at h ⊢
      rw [if_neg c1]
      by_cases c2 : b.toNat = 35
      · rw [if_pos c2] at h ⊢
        rw [if_pos c2, skip_app w true r r' (by omega)]
      · rw [if_neg c2] at h ⊢
        rw [if_neg c2]
        by_cases c3 : c = false ∧ b.toNat ≠ 32 ∧ b.toNat ≠ 9
        · rw [if_pos c3, if_pos c3]
        · rw [if_neg c3] at h ⊢
          rw [if_neg c3, skip_app w c r r' (by omega)]
theorem skip_remark : ∀ (m : List UInt8), (∀ b ∈ m, b.toNat ≠ 10) → ∀ r, skipN true (m ++ 10 :: r) = m.length + 1 + skipN false r
  | [], _, r => by
    show skipN true (10 :: r) = _
    rw [skipN_cons, if_pos (by decide)]; simp
  | b :: m, h, r => by
    have ih := skip_remark m (fun x hx => h x (List.mem_cons_of_mem _ hx)) r
    have hb := h b (List.mem_cons_self ..)
    rw [List.cons_append, skipN_cons, if_neg hb]
    by_cases c2 : b.toNat = 35
    · rw [if_pos c2, ih]; simp; omega
    · rw [if_neg c2, if_neg (fun h => by cases h.1), ih]; simp; omega
theorem skip_ins : ∀ (w : List UInt8) (c : Bool) (r m : List UInt8), (∀ b ∈ m, b.toNat ≠ 10) → r ≠ [] → skipN c (w ++ r) = w.length → skipN c (w ++ (9 :: 32 :: 35 :: (m ++ 10 :: r))) = w.length + (m.length + 4)
  | [], c, r, m, hm, hr, h => by
    cases r with
    | nil => exact absurd rfl hr
    | cons b t =>
      have h : skipN c (b :: t) = 0 := h
      have h0 := h
      rw [skipN_cons] at h
      by_cases c1 : b.toNat = 10
      · rw [if_pos c1] at h; omega
      · rw [if_neg c1] at h
        by_cases c2 : b.toNat = 35
        · rw [if_pos c2] at h; omega
        · rw [if_neg c2] at h
          by_cases c3 : c = false ∧ b.toNat ≠ 32 ∧ b.toNat ≠ 9
          · obtain ⟨rfl, _, _⟩ := c3
            show skipN false (9 :: 32 :: 35 :: (m ++ 10 :: b :: t)) = _
            rw [skipN_cons, if_neg (by decide), if_neg (by decide), if_neg (by decide), skipN_cons, if_neg (by decide), if_neg (by decide), if_neg (by decide), skipN_cons, if_neg (by decide), if_pos (by decide), skip_remark m hm, h0]
            simp; omega
          · rw [if_neg c3] at h; omega
  | b :: w, c, r, m, hm, hr, h => by
    have hn : (b :: w).length = w.length + 1 := rfl
    rw [List.cons_append, skipN_cons] at h ⊢
    by_cases c1 : b.toNat = 10
    · rw [if_pos c1] at h ⊢
      rw [skip_ins w false r m hm hr (by omega)]; omega
    · rw [if_neg c1] at h ⊢
      by_cases c2 : b.toNat = 35
      · rw [if_pos c2] at h ⊢
        rw [skip_ins w true r m hm hr (by omega)]; omega
      · rw [if_neg c2] at h ⊢
        by_cases c3 : c = false ∧ b.toNat ≠ 32 ∧ b.toNat ≠ 9
        · rw [if_pos c3] at h; omega
        · rw [if_neg c3] at h ⊢
          rw [skip_ins w c r m hm hr (by omega)]; omega
/-! ### Tokens from a place on -/
inductive Run (s : List UInt8) : Nat → List Tok → Prop
  | nil {a : Nat} : s.length ≤ a → Run s a []
  | cons {a : Nat} {k n : Int} {w : List UInt8} {z : Nat} {ts : List Tok} : a < s.length → lex_first (s.drop a) = some ((k, n, w, 0), (z : Int)) → 0 < z → a + z ≤ s.length → Run s (a + z + skipN false (s.drop (a + z))) ts → Run s a ((k, n, w, (a : Int)) :: ts)
theorem lex_total {s : List UInt8} (hs : s.length ≤ 4000) : ∀ (d a : Nat), s.length - a ≤ d → ∀ out : List Tok, out.length ≤ 500 →
    (∃ ts, loopW (lex_Lex_l1 s) (out, (a : Int)) = some (.inl (out ++ ts)) ∧ Run s a ts ∧ (out ++ ts).length ≤ 500) ∨ ∃ (p e : Int), loopW (lex_Lex_l1 s) (out, (a : Int)) = some (.inr ([], p, e)) ∧ e ≠ 0 := by
  intro d
  induction d with
  | zero =>
    intro a ha out ho
    exact .inl ⟨[], by rw [loopW_end (by rw [lex_Lex_l1, if_neg (by omega)]), List.append_nil], .nil (by omega), by simpa using ho⟩
  | succ d ih =>
    intro a ha out ho
    by_cases c : a < s.length
    · obtain ⟨k, n, w, z, h1, h2⟩ := first_ex (l := s.drop a) (by rw [List.length_drop]; omega) (by rw [List.length_drop]; omega)
      rw [List.length_drop] at h2
      have hstep : lex_Lex_l1 s (out, (a : Int)) = (if (z : Int) = 0 then some (.inr (.inr (([] : List Tok), (a : Int), 10))) else (if (out.length : Int) = 500 then some (.inr (.inr (([] : List Tok), (a : Int), 6))) else (app out ([(k, n, w, (a : Int))] : List Tok)).bind fun x7 => (lex_skip s (w64 ((a : Int) + (z : Int)))).bind fun x8 => some (.inl (x7, x8)))) := by
        rw [lex_Lex_l1, if_pos (by omega), subl_is (by omega), Option.bind_some, Int.toNat_natCast, Int.toNat_natCast, List.take_length, h1]; rfl
      by_cases cz : z = 0
      · exact .inr ⟨_, _, loopW_end (by rw [hstep, if_pos (by omega)]), by decide⟩
      · by_cases co : out.length = 500
        · exact .inr ⟨_, _, loopW_end (by rw [hstep, if_neg (by omega), if_pos (by omega)]), by decide⟩
        · have hgo : lex_Lex_l1 s (out, (a : Int)) = some (.inl (out ++ [(k, n, w, (a : Int))], ((a + z + skipN false (s.drop (a + z)) : Nat) : Int))) := by
            rw [hstep, if_neg (by omega), if_neg (by omega), app_is (by simp; omega), Option.bind_some, w64_id (by omega), show (a : Int) + (z : Int) = ((a + z : Nat) : Int) by omega, skip_eq (by omega) (by omega)]; rfl
          rw [loopW_go hgo]
          rcases ih (a + z + skipN false (s.drop (a + z))) (by omega) (out ++ [(k, n, w, (a : Int))]) (by simp; omega) with ⟨ts, g1, g2, g3⟩ | h
          · exact .inl ⟨(k, n, w, (a : Int)) :: ts, by rw [g1]; simp, .cons c h1 (by omega) (by omega) g2, by simpa using g3⟩
          · exact .inr h
    · exact .inl ⟨[], by rw [loopW_end (by rw [lex_Lex_l1, if_neg (by omega)]), List.append_nil], .nil (by omega), by simpa using ho⟩
theorem run_loop2 {s : List UInt8} (hs : s.length ≤ 4000) {a : Nat} {ts : List Tok} (h : Run s a ts) : ∀ out : List Tok, out.length + ts.length ≤ 500 → loopW (lex_Lex_l1 s) (out, (a : Int)) = some (.inl (out ++ ts)) := by
  induction h with
  | nil ha => intro out ho; rw [loopW_end (by rw [lex_Lex_l1, if_neg (by omega)]), List.append_nil]
  | cons h0 h1 hz hle _ ih =>
    rename_i a k n w z ts hrun
    intro out ho
    simp only [List.length_cons] at ho
    have hgo : lex_Lex_l1 s (out, (a : Int)) = some (.inl (out ++ [(k, n, w, (a : Int))], ((a + z + skipN false (s.drop (a + z)) : Nat) : Int))) := by
      rw [lex_Lex_l1, if_pos (by omega), subl_is (by omega), Option.bind_some, Int.toNat_natCast, Int.toNat_natCast, List.take_length, h1, Option.bind_some]
      simp only
      rw [if_neg (by omega), if_neg (by omega), app_is (by simp; omega), Option.bind_some, w64_id (by omega), show (a : Int) + (z : Int) = ((a + z : Nat) : Int) by omega, skip_eq (by omega) (by omega)]; rfl
    rw [loopW_go hgo, ih _ (by simp; omega)]; simp
abbrev endT (s : List UInt8) : Tok := (4, 0, [], (s.length : Int))
theorem lex_some {s : List UInt8} (hs : s.length ≤ 4000) : (∃ ts, lex_Lex s = some (ts ++ [endT s], 0, 0) ∧ Run s (skipN false s) ts ∧ ts.length ≤ 500) ∨ ∃ (p e : Int), lex_Lex s = some ([], p, e) ∧ e ≠ 0 := by
  have hk := skip_eq (s := s) (at_ := 0) (by omega) (by omega)
  have hk' : lex_skip s 0 = some ((skipN false s : Nat) : Int) := by
    have : lex_skip s ((0 : Nat) : Int) = some ((skipN false s : Nat) : Int) := by rw [hk]; simp
    exact this
  unfold lex_Lex
  rw [if_neg (by omega), hk', Option.bind_some]
  rcases lex_total hs s.length (skipN false s) (by omega) [] (by simp) with ⟨ts, h1, h2, h3⟩ | ⟨p, e, h1, h2⟩
  · left
    rw [List.nil_append] at h1 h3
    refine ⟨ts, ?_, h2, h3⟩
    rw [h1]
    show (app ts [endT s]).bind _ = _
    rw [app_is (by simp; omega)]; rfl
  · right
    exact ⟨p, e, by rw [h1]; rfl, h2⟩
theorem lex_run' {s : List UInt8} (hs : s.length ≤ 4000) {ts : List Tok} (h : Run s (skipN false s) ts) (hl : ts.length ≤ 500) : lex_Lex s = some (ts ++ [endT s], 0, 0) := by
  have hk := skip_eq (s := s) (at_ := 0) (by omega) (by omega)
  have hk' : lex_skip s 0 = some ((skipN false s : Nat) : Int) := by
    have : lex_skip s ((0 : Nat) : Int) = some ((skipN false s : Nat) : Int) := by rw [hk]; simp
    exact this
  unfold lex_Lex
  rw [if_neg (by omega), hk', Option.bind_some, run_loop2 hs h [] (by simpa using hl), List.nil_append]
  show (app ts [endT s]).bind _ = _
  rw [app_is (by simp; omega)]; rfl
theorem run_pos {s : List UInt8} {a : Nat} {ts : List Tok} (h : Run s a ts) : ∀ t ∈ ts, ∃ p : Nat, t.2.2.2 = (p : Int) ∧ a ≤ p ∧ p < s.length := by
  induction h with
  | nil ha => intro t ht; cases ht
  | cons h0 h1 hz hle hr ih =>
    rename_i a k n w z ts
    intro t ht
    rcases List.mem_cons.1 ht with rfl | ht
    · exact ⟨a, rfl, Nat.le_refl _, h0⟩
    · obtain ⟨p, h1, h2, h3⟩ := ih t ht
      exact ⟨p, h1, by omega, h3⟩
abbrev bare (t : Tok) : Int × Int × List UInt8 := (t.1, t.2.1, t.2.2.1)
theorem moved_eq {a b : List Tok} (hl : a.length ≤ 5000) (h : a.map bare = b.map bare) : L28_moved a b = some true := by
  have hlen : a.length = b.length := by
    have := congrArg List.length h
    simpa using this
  have key : ∀ (d k : Nat), k + d = a.length → loopW (L28_moved_l1 a b) (k : Int) = some (.inl ()) := by
    intro d
    induction d with
    | zero =>
      intro k hk
      exact loopW_end (by rw [L28_moved_l1, if_neg (by omega)])
    | succ d ih =>
      intro k hk
      have h1 : k < a.length := by omega
      have h2 : k < b.length := by omega
      have he : bare a[k] = bare b[k] := by
        have := congrArg (fun l => l[k]?) h
        simp only [List.getElem?_map, List.getElem?_eq_getElem h1, List.getElem?_eq_getElem h2, Option.map_some, Option.some.injEq] at this
        exact this
      have e1 : a[k].1 = b[k].1 := congrArg (fun t : Int × Int × List UInt8 => t.1) he
      have e2 : a[k].2.1 = b[k].2.1 := congrArg (fun t : Int × Int × List UInt8 => t.2.1) he
      have e3 : a[k].2.2.1 = b[k].2.2.1 := congrArg (fun t : Int × Int × List UInt8 => t.2.2) he
      rw [loopW_go (s' := ((k + 1 : Nat) : Int)) ?_]
      · exact ih (k + 1) (by omega)
      · rw [L28_moved_l1, if_pos (by omega), ix_nat (List.getElem?_eq_getElem h1), ix_nat (List.getElem?_eq_getElem h2)]
        simp only [Option.bind_some]
        rw [if_neg (fun hn => hn e1), if_neg (fun hn => hn e2), decide_eq_false (fun hn => hn e3), Option.bind_some, if_neg (by decide), w64_id (by omega)]; rfl
  unfold L28_moved
  rw [if_neg (by omega), show loopW (L28_moved_l1 a b) 0 = _ from key a.length 0 (by omega)]; rfl
theorem awake28 : L28_awake = some true := by
  have n3 : lex_number [51] = some ((2, 3, [], 0), 1) := by
    unfold lex_number
    rw [(loopW_iff.2 ⟨2, rfl⟩ : loopW (lex_number_l1 [51]) (0, 0) = some 3)]; rfl
  have f0 : lex_first ([100, 115, 116, 58, 61, 51].drop 0) = some ((1, 0, [100, 115, 116], 0), ((3 : Nat) : Int)) := by
    rw [first_eq (by decide) (by decide)]; rfl
  have f1 : lex_first ([100, 115, 116, 58, 61, 51].drop 3) = some ((3, 0, [58, 61], 0), ((2 : Nat) : Int)) := by
    rw [first_eq (by decide) (by decide)]; rfl
  have f2 : lex_first ([100, 115, 116, 58, 61, 51].drop 5) = some ((2, 3, [], 0), ((1 : Nat) : Int)) := by
    rw [first_eq (by decide) (by decide), if_neg (by decide), if_pos (by decide)]
    exact n3
  have r3 : Run [100, 115, 116, 58, 61, 51] 6 [] := .nil (by decide)
  have r2 : Run [100, 115, 116, 58, 61, 51] 5 [(2, 3, [], ((5 : Nat) : Int))] := .cons (by decide) f2 (by decide) (by decide) r3
  have r1 : Run [100, 115, 116, 58, 61, 51] 3 [(3, 0, [58, 61], ((3 : Nat) : Int)), (2, 3, [], ((5 : Nat) : Int))] := .cons (by decide) f1 (by decide) (by decide) r2
  have r0 : Run [100, 115, 116, 58, 61, 51] 0 [(1, 0, [100, 115, 116], ((0 : Nat) : Int)), (3, 0, [58, 61], ((3 : Nat) : Int)), (2, 3, [], ((5 : Nat) : Int))] := .cons (by decide) f0 (by decide) (by decide) r1
  have h := lex_run' (by decide) (show Run [100, 115, 116, 58, 61, 51] (skipN false [100, 115, 116, 58, 61, 51]) _ from r0) (by decide)
  unfold L28_awake
  rw [h]; rfl
end Go.Proofs.YtimfbofhleigiaaDoor
