/- Layer 36: journals. Conditions: none. -/
import Derived.Test.YtdllfdmdfdfilaaDoorA4
import Derived.Test.YtdllfdmdfdfilaaDoorLD
import Derived.SizedLaws
namespace Go.Proofs.YtdllfdmdfdfilaaDoor
set_option linter.unusedVariables false
set_option linter.unusedSimpArgs false
open Go Go.RowKit

abbrev S9 := Int × Int × Bool × Int × Int × Int × Bool × Bool × Int
abbrev R4 := Int × Int × Int × Int
/-- Where a replay may stand. -/
structure Inv (s : S9) : Prop where
  ar0 : 0 ≤ s.2.2.2.2.2.1
  ar8 : s.2.2.2.2.2.1 ≤ 8
  ou0 : 0 ≤ s.2.2.2.2.2.2.2.2
  ou1 : s.2.2.2.2.2.2.2.2 ≤ 255
  opn : s.2.2.1 = true → s.2.2.2.2.2.2.2.2 = 0
  u : i64 s.1
/-! ### Bits -/
theorem bits_and : ∀ o : Fin 256, ∀ a : Fin 8, andI .i64 (shrI .i64 (o.val : Int) (a.val : Int)) 1 = ((o.val / 2 ^ a.val % 2 : Nat) : Int) := by decide +kernel
theorem bits_not : ∀ o : Fin 256, ∀ a : Fin 8, o.val / 2 ^ a.val % 2 = 1 → andNotI .i64 (o.val : Int) (shlI .i64 1 (a.val : Int)) = (o.val : Int) - ((2 ^ a.val : Nat) : Int) ∧ 2 ^ a.val ≤ o.val := by decide +kernel
theorem bit_loop (a : Nat) (ha : a ≤ 7) : ∀ (d j x : Nat), j + d = a → x ≤ 255 → loopW (r36_bit_l1 (a : Int)) ((x : Int), (j : Int)) = some ((x / 2 ^ d : Nat) : Int) := by
  intro d
  induction d with
  | zero =>
    intro j x hj hx
    rw [loopW_end (by rw [r36_bit_l1, if_neg (by omega)])]
    simp
  | succ d ih =>
    intro j x hj hx
    rw [loopW_go (s' := (((x / 2 : Nat) : Int), ((j + 1 : Nat) : Int))) (by
      rw [r36_bit_l1, if_pos (by omega), show Int.tdiv (x : Int) 2 = ((x / 2 : Nat) : Int) from rfl, w64_id (by omega), w64_id (by omega)]; rfl)]
    rw [ih (j + 1) (x / 2) (by omega) (by omega), Nat.div_div_eq_div_mul, Nat.pow_succ, Nat.mul_comm]
theorem bit_eq {o a : Nat} (ho : o ≤ 255) (ha : a ≤ 7) : r36_bit (o : Int) (a : Int) = some ((o / 2 ^ a % 2 : Nat) : Int) := by
  unfold r36_bit
  rw [show ((o : Int), (0 : Int)) = ((o : Int), ((0 : Nat) : Int)) from rfl, bit_loop a ha a 0 o (by omega) ho]; rfl
theorem power_loop (a : Nat) (ha : a ≤ 7) : ∀ (d j : Nat), j + d = a → loopW (r36_power_l1 (a : Int)) (((2 ^ j : Nat) : Int), (j : Int)) = some ((2 ^ a : Nat) : Int) := by
  intro d
  induction d with
  | zero =>
    intro j hj
    obtain rfl : j = a := by omega
    exact loopW_end (by rw [r36_power_l1, if_neg (by omega)])
  | succ d ih =>
    intro j hj
    have : 2 ^ j ≤ 2 ^ 7 := Nat.pow_le_pow_right (by decide) (by omega)
    have hp : 2 ^ (j + 1) = 2 ^ j * 2 := Nat.pow_succ ..
    have hi := ih (j + 1) (by omega)
    generalize 2 ^ (j + 1) = q at hp hi
    generalize 2 ^ j = p at hp this
    subst hp
    rw [loopW_go (s' := (((p * 2 : Nat) : Int), ((j + 1 : Nat) : Int))) (by
      rw [r36_power_l1, if_pos (by omega), w64_id (by omega), w64_id (by omega)]; simp)]
    exact hi
theorem power_eq {a : Nat} (ha : a ≤ 7) : r36_power (a : Int) = some ((2 ^ a : Nat) : Int) := by
  unfold r36_power
  have := power_loop a ha a 0 (by omega)
  rw [show ((1 : Int), (0 : Int)) = (((2 ^ 0 : Nat) : Int), ((0 : Nat) : Int)) from rfl, this]; rfl
theorem next_u {a b : Int} (ha : i64 a) (hb : i64 b) : b = w64 (a + 1) ↔ w64 (b - 1) = a := by
  rw [w64_def, w64_def]
  split <;> split <;> constructor <;> intro h <;> omega
/-! ### What may follow -/
theorem may_eq {s : S9} {r : R4} (hI : Inv s) (hr : i64 r.2.1) : ∃ c, journal_allowed s r = some c ∧ r36_may s r = some c ∧ (c = true →
    (1 ≤ r.1 ∧ r.1 ≤ 7) ∧ (r.1 ≠ 1 → r.1 ≠ 7 → s.2.2.1 = true) ∧ (r.1 = 2 → s.2.2.2.2.2.1 < 8) ∧ (r.1 = 6 → 0 ≤ r.2.2.1 ∧ r.2.2.1 ≤ 255) ∧ (r.1 = 7 → s.2.2.1 = false ∧ 0 ≤ r.2.2.1 ∧ r.2.2.1 ≤ 7 ∧ s.2.2.2.2.2.2.2.2.toNat / 2 ^ r.2.2.1.toNat % 2 = 1)) := by
  obtain ⟨i1, i2, i3, i4, i5, i6⟩ := hI
  obtain ⟨u, now, op, tg, at', ar, su, ca, ou⟩ := s
  obtain ⟨k, ru, a, b⟩ := r
  simp only at *
  have hw : ∀ m : Int, journal_within a m = decide (0 ≤ a ∧ a ≤ m) := fun m => by unfold journal_within; simp
  unfold journal_allowed r36_may
  simp only [hw]
  by_cases k1 : k = 1
  · subst k1
    refine ⟨_, by rw [if_pos rfl], ?_, fun _ => by simp⟩
    rw [if_pos rfl]
    congr 1
    have : decide (ru = w64 (u + 1)) = decide (w64 (ru - 1) = u) := decide_eq_decide.2 (next_u i6 hr)
    rw [this]
    unfold journal_within
    cases op <;> cases decide (ou = 0) <;> cases decide (w64 (ru - 1) = u) <;> simp [Bool.decide_and, Bool.and_assoc]
  · rw [if_neg k1, if_neg k1]
    by_cases hu : ru = u ∧ b = 0
    · obtain ⟨rfl, rfl⟩ := hu
      by_cases k7 : k = 7
      · subst k7
        cases op
        · by_cases ha : 0 ≤ a ∧ a ≤ 7
          · obtain ⟨a, rfl⟩ : ∃ n : Nat, a = (n : Int) := ⟨a.toNat, by omega⟩
            obtain ⟨ou, rfl⟩ : ∃ n : Nat, ou = (n : Int) := ⟨ou.toNat, by omega⟩
            have h1 := bits_and ⟨ou, by omega⟩ ⟨a, by omega⟩
            simp only at h1
            refine ⟨decide (ou / 2 ^ a % 2 = 1), ?_, ?_, ?_⟩
            · rw [if_neg (by simp)]
              simp only [show ¬ ((7 : Int) = 2) by decide, show ¬ ((7 : Int) = 3) by decide, show ¬ ((7 : Int) = 4) by decide, show ¬ ((7 : Int) = 5) by decide, show ¬ ((7 : Int) = 6) by decide, if_false]
              rw [if_pos trivial, if_pos (by simp; omega), shN_is (by omega)]
              simp only [Option.bind_some]
              rw [h1]
              congr 1
              exact decide_eq_decide.2 ⟨fun h => by omega, fun h => by omega⟩
            · rw [if_neg (by simp), if_pos rfl, if_pos (show (!false) = true from rfl), if_pos (by omega), if_pos (by omega)]
              by_cases ho : 0 < (ou : Int)
              · rw [if_pos ho, bit_eq (by omega) (by omega)]
                simp only [Option.bind_some]
                congr 1
                exact decide_eq_decide.2 ⟨fun h => by omega, fun h => by omega⟩
              · obtain rfl : ou = 0 := by omega
                rw [if_neg ho]; simp
            · intro h
              have h := of_decide_eq_true h
              exact ⟨by decide, fun _ h => absurd rfl h, fun h => by omega, fun h => by omega, fun _ => ⟨rfl, by omega, by omega, h⟩⟩
          · refine ⟨false, ?_, ?_, fun h => by cases h⟩
            · rw [if_neg (by simp)]
              simp only [show ¬ ((7 : Int) = 2) by decide, show ¬ ((7 : Int) = 3) by decide, show ¬ ((7 : Int) = 4) by decide, show ¬ ((7 : Int) = 5) by decide, show ¬ ((7 : Int) = 6) by decide, if_false]
              rw [if_pos trivial, if_neg (by simpa using ha)]; rfl
            · rw [if_neg (by simp), if_pos rfl, if_pos (show (!false) = true from rfl)]
              by_cases h0 : 0 ≤ a
              · rw [if_pos h0, if_neg (by omega)]; rfl
              · rw [if_neg h0]; rfl
        · refine ⟨false, by rw [if_pos (by simp)], ?_, fun h => by cases h⟩
          rw [if_neg (by simp), if_pos rfl, if_neg (by decide)]; rfl
      · cases op
        · refine ⟨false, by rw [if_pos (by simp [k7])], ?_, fun h => by cases h⟩
          by_cases hk : k < 1 ∨ 7 < k
          · rw [if_pos (by simpa using hk)]
          · rw [if_neg (by simpa using hk), if_neg k7, if_pos (show (!false) = true from rfl)]
        · rw [if_neg (by simp [k7])]
          by_cases hk : k < 1 ∨ 7 < k
          · refine ⟨false, ?_, by rw [if_pos (by simpa using hk)], fun h => by cases h⟩
            rw [if_neg (by omega), if_neg (by omega), if_neg (by omega), if_neg (by omega), if_neg (by omega), if_neg (by omega)]
          · rw [if_neg (show ¬ ((decide (ru ≠ ru) || (decide ((0 : Int) ≠ 0) || (decide (k < 1) || decide (7 < k)))) = true) by simpa using hk), if_neg k7, if_neg (show ¬ ((!true) = true) by decide)]
            have hk' : k = 2 ∨ k = 3 ∨ k = 4 ∨ k = 5 ∨ k = 6 := by omega
            rcases hk' with rfl | rfl | rfl | rfl | rfl
            · refine ⟨_, rfl, ?_, ?_⟩
              · rw [if_pos rfl]
                congr 1
                have e1 : decide (0 ≤ ar) = true := decide_eq_true i1
                by_cases h : a = ar
                · subst h; cases su <;> cases ca <;> simp [e1]
                · cases su <;> cases ca <;> simp [h]
              · intro h
                simp at h
                exact ⟨by decide, fun _ _ => rfl, fun _ => by omega, fun h => by omega, fun h => by omega⟩
            · refine ⟨_, rfl, ?_, ?_⟩
              · by_cases ha : a = 0
                · subst ha; cases su <;> cases ca <;> simp
                · cases su <;> cases ca <;> simp [ha]
              · intro h
                exact ⟨by decide, fun _ _ => rfl, fun h => by omega, fun h => by omega, fun h => by omega⟩
            · refine ⟨_, rfl, ?_, ?_⟩
              · by_cases ha : a = 0
                · subst ha; cases su <;> cases ca <;> simp
                · cases su <;> cases ca <;> simp [ha]
              · intro h
                exact ⟨by decide, fun _ _ => rfl, fun h => by omega, fun h => by omega, fun h => by omega⟩
            · refine ⟨_, rfl, ?_, ?_⟩
              · by_cases ha : a = 0
                · subst ha; cases su <;> cases ca <;> simp
                · cases su <;> cases ca <;> simp [ha]
              · intro h
                exact ⟨by decide, fun _ _ => rfl, fun h => by omega, fun h => by omega, fun h => by omega⟩
            · refine ⟨_, rfl, ?_, ?_⟩
              · cases ca <;> simp [Bool.decide_and]
              · intro h
                simp at h
                exact ⟨by decide, fun _ _ => rfl, fun h => by omega, fun _ => by omega, fun h => by omega⟩
    · have hx : (decide (ru ≠ u) || (decide (b ≠ 0) || decide (op = decide (k = 7)))) = true := by
        by_cases h : ru = u
        · have : ¬ b = 0 := fun h' => hu ⟨h, h'⟩
          simp [this]
        · simp [h]
      have hy : (decide (ru ≠ u) || (decide (b ≠ 0) || (decide (k < 1) || decide (7 < k)))) = true := by
        by_cases h : ru = u
        · have : ¬ b = 0 := fun h' => hu ⟨h, h'⟩
          simp [this]
        · simp [h]
      exact ⟨false, by rw [if_pos hx], by rw [if_pos hy], fun h => by cases h⟩
theorem d0 : (0 : Int) ≤ 0 := by decide
theorem d8 : (0 : Int) ≤ 8 := by decide
theorem d255 : (0 : Int) ≤ 255 := by decide
theorem next_eq {s : S9} {r : R4} (hI : Inv s) (hr : i64 r.2.1) : ∃ x, journal_Next s r = some x ∧ r36_Next s r = some x ∧ Inv x.1 := by
  obtain ⟨c, h1, h2, h3⟩ := may_eq hI hr
  unfold journal_Next r36_Next
  rw [h1, h2]
  simp only [Option.bind_some]
  cases c
  · exact ⟨(s, 5), rfl, rfl, hI⟩
  · obtain ⟨hk, hop, h2', h6, h7⟩ := h3 rfl
    have i1 := hI.ar0
    have i2 := hI.ar8
    have i3 := hI.ou0
    have i4 := hI.ou1
    have i5 := hI.opn
    have i6 := hI.u
    obtain ⟨u, now, op, tg, at', ar, su, ca, ou⟩ := s
    obtain ⟨k, ru, a, b⟩ := r
    simp only at *
    have hk' : k = 1 ∨ k = 2 ∨ k = 3 ∨ k = 4 ∨ k = 5 ∨ k = 6 ∨ k = 7 := by omega
    rcases hk' with rfl | rfl | rfl | rfl | rfl | rfl | rfl
    · exact ⟨_, rfl, rfl, ⟨d0, d8, d0, d255, fun _ => rfl, hr⟩⟩
    · refine ⟨_, rfl, rfl, ⟨?_, ?_, i3, i4, i5, i6⟩⟩
      · show 0 ≤ w64 (ar + 1)
        rw [w64_id (by omega)]; omega
      · show w64 (ar + 1) ≤ 8
        have := h2' rfl
        rw [w64_id (by omega)]; omega
    · exact ⟨_, rfl, rfl, ⟨i1, i2, i3, i4, i5, i6⟩⟩
    · exact ⟨_, rfl, rfl, ⟨i1, i2, i3, i4, i5, i6⟩⟩
    · have := i5 (hop (by decide) (by decide))
      subst this
      exact ⟨_, rfl, rfl, ⟨d0, d8, d0, d255, fun _ => rfl, i6⟩⟩
    · have := h6 rfl
      exact ⟨_, rfl, rfl, ⟨d0, d8, this.1, this.2, (fun h => by cases h), i6⟩⟩
    · obtain ⟨g1, g2, g3, g4⟩ := h7 rfl
      obtain ⟨a, rfl⟩ : ∃ n : Nat, a = (n : Int) := ⟨a.toNat, by omega⟩
      obtain ⟨ou, rfl⟩ : ∃ n : Nat, ou = (n : Int) := ⟨ou.toNat, by omega⟩
      obtain ⟨b1, b2⟩ := bits_not ⟨ou, by omega⟩ ⟨a, by omega⟩ (by simpa using g4)
      simp only at b1 b2
      have hp : r36_power (a : Int) = _ := power_eq (by omega)
      generalize 2 ^ a = q at b1 b2 hp
      have hw : w64 ((ou : Int) - (q : Int)) = (ou : Int) - (q : Int) := w64_id (by omega)
      refine ⟨((u, now, op, tg, at', ar, su, ca, (ou : Int) - (q : Int)), 0), ?_, ?_, ⟨i1, i2, ?_, ?_, ?_, i6⟩⟩
      · rw [if_neg (by decide), if_neg (by decide), if_neg (by decide), if_neg (by decide), if_neg (by decide), if_neg (by decide), if_neg (by decide), if_pos rfl, shN_is (by omega), Option.bind_some, b1]; rfl
      · rw [if_neg (by decide), if_neg (by decide), if_neg (by decide), if_neg (by decide), if_neg (by decide), if_neg (by decide), if_neg (by decide), if_pos rfl, hp, Option.bind_some, hw]; rfl
      · show 0 ≤ (ou : Int) - (q : Int)
        omega
      · show (ou : Int) - (q : Int) ≤ 255
        omega
      · intro h
        rw [g1] at h; cases h
/-! ### Replay -/
theorem replay_loop {l : List R4} (hl : l.length ≤ 100) (hr : ∀ r ∈ l, i64 r.2.1) : ∀ (d k : Nat), k + d = l.length → ∀ s : S9, Inv s → ∃ e, loopW (journal_Replay_l1 l) ((k : Int), s) = some e ∧ loopW (r36_Replay_l1 l) ((k : Int), s) = some e := by
  intro d
  induction d with
  | zero =>
    intro k hk s hI
    exact ⟨_, loopW_end (by rw [journal_Replay_l1, if_neg (by omega)]), loopW_end (by rw [r36_Replay_l1, if_neg (by omega)])⟩
  | succ d ih =>
    intro k hk s hI
    have hkl : k < l.length := by omega
    obtain ⟨x, h1, h2, h3⟩ := next_eq hI (hr _ (List.getElem_mem hkl))
    by_cases hx : x.2 = 0
    · obtain ⟨e, g1, g2⟩ := ih (k + 1) (by omega) x.1 h3
      refine ⟨e, ?_, ?_⟩
      · rw [loopW_go (s' := (((k + 1 : Nat) : Int), x.1)) ?_, g1]
        rw [journal_Replay_l1, if_pos (by omega), ix_nat (List.getElem?_eq_getElem hkl), Option.bind_some, h1, Option.bind_some, if_neg (by simpa using hx), w64_id (by omega)]; rfl
      · rw [loopW_go (s' := (((k + 1 : Nat) : Int), x.1)) ?_, g2]
        rw [r36_Replay_l1, if_pos (by omega), ix_nat (List.getElem?_eq_getElem hkl), Option.bind_some, h2, Option.bind_some, if_neg (by simpa using hx), w64_id (by omega)]; rfl
    · refine ⟨_, loopW_end (by rw [journal_Replay_l1, if_pos (by omega), ix_nat (List.getElem?_eq_getElem hkl), Option.bind_some, h1, Option.bind_some, if_pos hx]), loopW_end (by rw [r36_Replay_l1, if_pos (by omega), ix_nat (List.getElem?_eq_getElem hkl), Option.bind_some, h2, Option.bind_some, if_pos hx])⟩
theorem inv0 : Inv (0, 0, false, 0, 0, 0, false, false, 0) := ⟨by decide, by decide, by decide, by decide, fun h => rfl, by decide⟩
theorem replay_eq {l : List R4} (hl : l.length ≤ 100) (hr : ∀ r ∈ l, i64 r.2.1) : ∃ x, journal_Replay l = some x ∧ r36_Replay l = some x := by
  obtain ⟨e, h1, h2⟩ := replay_loop hl hr l.length 0 (by omega) _ inv0
  have h1' : loopW (journal_Replay_l1 l) (0, 0, 0, false, 0, 0, 0, false, false, 0) = some e := h1
  have h2' : loopW (r36_Replay_l1 l) (0, 0, 0, false, 0, 0, 0, false, false, 0) = some e := h2
  unfold journal_Replay r36_Replay
  rw [h1', h2']
  cases e with
  | inl s => exact ⟨_, rfl, rfl⟩
  | inr e => exact ⟨_, rfl, rfl⟩
theorem steps_ok {l : List R4} (hl : l.length ≤ 100) (hr : ∀ r ∈ l, i64 r.2.1) : ∃ s, loopW (L36_JournalReplays_l1 l l) (0, 0, 0, false, 0, 0, 0, false, false, 0) = some (.inl s) := by
  have key : ∀ (d k : Nat), k + d = l.length → ∀ s : S9, Inv s → ∃ s', loopW (L36_JournalReplays_l1 l l) ((k : Int), s) = some (.inl s') := by
    intro d
    induction d with
    | zero =>
      intro k hk s hI
      exact ⟨_, loopW_end (by rw [L36_JournalReplays_l1, if_neg (by omega)])⟩
    | succ d ih =>
      intro k hk s hI
      have hkl : k < l.length := by omega
      obtain ⟨x, h1, h2, h3⟩ := next_eq hI (hr _ (List.getElem_mem hkl))
      rw [loopW_go (s' := (((k + 1 : Nat) : Int), x.1)) ?_]
      · exact ih (k + 1) (by omega) x.1 h3
      · rw [L36_JournalReplays_l1, if_pos (by omega), ix_nat (List.getElem?_eq_getElem hkl), Option.bind_some]
        show (journal_Next s _).bind _ = _
        rw [h1, Option.bind_some, Option.bind_some]
        show (r36_Next s _).bind _ = _
        rw [h2, Option.bind_some, if_neg (by simp [L36_State]), w64_id (by omega)]; rfl
  exact key l.length 0 (by omega) _ inv0
/-! ### Fate -/
def Any (u k : Int) (m : List R4) : Bool := m.any fun r => decide (r.2.1 = u) && decide (r.1 = k)
theorem any_cons (u k : Int) (r : R4) (m : List R4) : Any u k (r :: m) = ((decide (r.2.1 = u) && decide (r.1 = k)) || Any u k m) := rfl
theorem count_loop {l : List R4} (hl : l.length ≤ 100) (u k : Int) : ∀ (d j : Nat), j + d = l.length → ∀ c : Nat, c ≤ j → ∃ c' : Nat, c' ≤ l.length ∧ loopW (r36_Count_l1 l u k) ((c : Int), (j : Int)) = some (c' : Int) ∧ (0 < c' ↔ (0 < c ∨ Any u k (l.drop j) = true)) := by
  intro d
  induction d with
  | zero =>
    intro j hj c hc
    refine ⟨c, by omega, loopW_end (by rw [r36_Count_l1, if_neg (by omega)]), ?_⟩
    rw [List.drop_eq_nil_of_le (by omega)]; simp [Any]
  | succ d ih =>
    intro j hj c hc
    have hjl : j < l.length := by omega
    rw [List.drop_eq_getElem_cons hjl, any_cons]
    by_cases h : l[j].2.1 = u ∧ l[j].1 = k
    · obtain ⟨c', h1, h2, h3⟩ := ih (j + 1) (by omega) (c + 1) (by omega)
      refine ⟨c', h1, ?_, ?_⟩
      · rw [loopW_go (s' := (((c + 1 : Nat) : Int), ((j + 1 : Nat) : Int))) ?_, h2]
        rw [r36_Count_l1, if_pos (by omega), ix_nat (List.getElem?_eq_getElem hjl), Option.bind_some, if_pos h.1, Option.bind_some, decide_eq_true h.2, Option.bind_some, if_pos rfl, Option.bind_some, w64_id (by omega), w64_id (by omega)]; rfl
      · rw [h3, decide_eq_true h.1, decide_eq_true h.2]; simp
    · obtain ⟨c', h1, h2, h3⟩ := ih (j + 1) (by omega) c (by omega)
      refine ⟨c', h1, ?_, ?_⟩
      · rw [loopW_go (s' := ((c : Int), ((j + 1 : Nat) : Int))) ?_, h2]
        rw [r36_Count_l1, if_pos (by omega), ix_nat (List.getElem?_eq_getElem hjl), Option.bind_some]
        by_cases h' : l[j].2.1 = u
        · rw [if_pos h', Option.bind_some, decide_eq_false (fun h2 => h ⟨h', h2⟩), Option.bind_some, if_neg (by decide), Option.bind_some, w64_id (by omega)]; rfl
        · rw [if_neg h', Option.bind_some, if_neg (by decide), Option.bind_some, w64_id (by omega)]; rfl
      · rw [h3]
        have : (decide (l[j].2.1 = u) && decide (l[j].1 = k)) = false := by
          rw [← Bool.decide_and]; exact decide_eq_false h
        rw [this]; simp
theorem count_eq {l : List R4} (hl : l.length ≤ 100) (u k : Int) : ∃ c : Nat, c ≤ l.length ∧ r36_Count l u k = some (c : Int) ∧ (0 < c ↔ Any u k l = true) := by
  obtain ⟨c, h1, h2, h3⟩ := count_loop hl u k l.length 0 (by omega) 0 (by omega)
  refine ⟨c, h1, ?_, ?_⟩
  · unfold r36_Count
    rw [show ((0 : Int), (0 : Int)) = (((0 : Nat) : Int), ((0 : Nat) : Int)) from rfl, h2]; rfl
  · rw [h3]; simp
theorem fate_step (l : List R4) (u : Int) {j : Nat} (hj : j < l.length) (hl : l.length ≤ 100) (b0 b1 b2 b3 b4 b5 b6 b7 : Bool) : ∃ c0 c2 c3 c4 c7, journal_Fate_l1 l u ((j : Int), b0, b1, b2, b3, b4, b5, b6, b7) = some (.inl (((j + 1 : Nat) : Int), c0, (b1 || (decide (l[j].2.1 = u) && decide (l[j].1 = 1))), c2, c3, c4, (b5 || (decide (l[j].2.1 = u) && decide (l[j].1 = 5))), (b6 || (decide (l[j].2.1 = u) && decide (l[j].1 = 6))), c7)) := by
  rw [journal_Fate_l1, if_pos (by omega), ix_nat (List.getElem?_eq_getElem hj), Option.bind_some, w64_id (by omega)]
  generalize l[j] = r
  obtain ⟨k, ru, a, b⟩ := r
  simp only
  by_cases h : ru = u ∧ 1 ≤ k ∧ k ≤ 7
  · obtain ⟨rfl, h1, h2⟩ := h
    rw [if_pos (by simp; omega)]
    have hk : k = 1 ∨ k = 2 ∨ k = 3 ∨ k = 4 ∨ k = 5 ∨ k = 6 ∨ k = 7 := by omega
    rcases hk with rfl | rfl | rfl | rfl | rfl | rfl | rfl <;> simp [ix]
  · rw [if_neg (by simpa using h)]
    have e1 : (decide (ru = u) && decide (k = 1)) = false := by rw [← Bool.decide_and]; exact decide_eq_false (fun h' => h ⟨h'.1, by omega, by omega⟩)
    have e5 : (decide (ru = u) && decide (k = 5)) = false := by rw [← Bool.decide_and]; exact decide_eq_false (fun h' => h ⟨h'.1, by omega, by omega⟩)
    have e6 : (decide (ru = u) && decide (k = 6)) = false := by rw [← Bool.decide_and]; exact decide_eq_false (fun h' => h ⟨h'.1, by omega, by omega⟩)
    rw [e1, e5, e6]
    simp
theorem fate_loop {l : List R4} (hl : l.length ≤ 100) (u : Int) : ∀ (d j : Nat), j + d = l.length → ∀ b0 b1 b2 b3 b4 b5 b6 b7 : Bool, ∃ c0 c2 c3 c4 c7, loopW (journal_Fate_l1 l u) ((j : Int), b0, b1, b2, b3, b4, b5, b6, b7) = some (c0, (b1 || Any u 1 (l.drop j)), c2, c3, c4, (b5 || Any u 5 (l.drop j)), (b6 || Any u 6 (l.drop j)), c7) := by
  intro d
  induction d with
  | zero =>
    intro j hj b0 b1 b2 b3 b4 b5 b6 b7
    refine ⟨b0, b2, b3, b4, b7, loopW_end ?_⟩
    rw [journal_Fate_l1, if_neg (by omega), List.drop_eq_nil_of_le (by omega)]
    simp [Any]
  | succ d ih =>
    intro j hj b0 b1 b2 b3 b4 b5 b6 b7
    have hjl : j < l.length := by omega
    obtain ⟨c0, c2, c3, c4, c7, h⟩ := fate_step l u hjl hl b0 b1 b2 b3 b4 b5 b6 b7
    rw [loopW_go h, List.drop_eq_getElem_cons hjl, any_cons, any_cons, any_cons, ← Bool.or_assoc, ← Bool.or_assoc, ← Bool.or_assoc]
    exact ih (j + 1) (by omega) _ _ _ _ _ _ _ _
def fateV (l : List R4) (u : Int) : Int := if Any u 1 l = true then (if Any u 5 l = true then 2 else if Any u 6 l = true then 3 else 1) else 0
theorem fate_eq {l : List R4} (hl : l.length ≤ 100) (u : Int) : journal_Fate l u = some (fateV l u) ∧ r36_Fate l u = some (fateV l u) := by
  unfold fateV
  constructor
  · obtain ⟨c0, c2, c3, c4, c7, h⟩ := fate_loop hl u l.length 0 (by omega) false false false false false false false false
    have h' : loopW (journal_Fate_l1 l u) (0, false, false, false, false, false, false, false, false) = _ := h
    unfold journal_Fate
    rw [h']
    simp only [Bool.false_or, List.drop_zero, Option.bind_some]
    cases Any u 1 l <;> cases Any u 5 l <;> cases Any u 6 l <;> rfl
  · obtain ⟨n1, g1, h1, k1⟩ := count_eq hl u 1
    obtain ⟨n5, g5, h5, k5⟩ := count_eq hl u 5
    obtain ⟨n6, g6, h6, k6⟩ := count_eq hl u 6
    unfold r36_Fate
    rw [h1, Option.bind_some]
    by_cases a1 : 0 < n1
    · rw [if_neg (by omega), h5, Option.bind_some, if_pos (k1.1 a1)]
      by_cases a5 : 0 < n5
      · rw [if_pos (by omega), if_pos (k5.1 a5)]
      · rw [if_neg (by omega), h6, Option.bind_some, if_neg (fun h => a5 (k5.2 h))]
        by_cases a6 : 0 < n6
        · rw [if_pos (by omega), if_pos (k6.1 a6)]
        · rw [if_neg (by omega), if_neg (fun h => a6 (k6.2 h))]
    · rw [if_pos (by omega), if_neg (fun h => a1 (k1.2 h))]
/-! ### The example -/
theorem itoaP_d3 {n : Nat} (h : n < 256) : itoaP (n : Int) = some (d3 n) := by
  rw [itoaP_is (by omega), Lib.itoa_nonneg, dec_d3 (by omega)]
theorem line_d3 (k : Int) (a b c : Nat) (ha : a < 256) (hb : b < 256) (hc : c < 256) : journal_line (k, (a : Int), (b : Int), (c : Int)) = some (journal_word k ++ [32] ++ d3 a ++ [32] ++ d3 b ++ [32] ++ d3 c) := by
  have hw : (journal_word k).length ≤ 7 := by unfold journal_word; repeat' split
                                              all_goals decide
  have la := d3_len a
  have lb := d3_len b
  have lc := d3_len c
  unfold journal_line
  simp only
  rw [app_is (by simp; omega), Option.bind_some, itoaP_d3 ha, Option.bind_some, app_is (by simp; omega), Option.bind_some, app_is (by simp; omega), Option.bind_some, itoaP_d3 hb, Option.bind_some, app_is (by simp; omega), Option.bind_some, app_is (by simp; omega), Option.bind_some, itoaP_d3 hc, Option.bind_some, app_is (by simp; omega), Option.bind_some]
theorem awake36 : L36_awake = some true := by
  have h1 : journal_Replay [(1, 1, 2, 30), (2, 1, 0, 0), (3, 1, 0, 0), (5, 1, 0, 0)] = some ((1, 2, false, 0, 0, 0, false, false, 0), 4, 0) := by
    unfold journal_Replay
    rw [(loopW_iff.2 ⟨5, rfl⟩ : loopW (journal_Replay_l1 [(1, 1, 2, 30), (2, 1, 0, 0), (3, 1, 0, 0), (5, 1, 0, 0)]) (0, 0, 0, false, 0, 0, 0, false, false, 0) = some (.inl (1, 2, false, 0, 0, 0, false, false, 0)))]; rfl
  have h2 := (fate_eq (l := [(1, 1, 2, 30), (2, 1, 0, 0), (3, 1, 0, 0), (5, 1, 0, 0)]) (by decide) 1).1
  have h3 : journal_line (1, 1, 2, 30) = _ := line_d3 1 1 2 30 (by decide) (by decide) (by decide)
  have h4 : journal_line (2, 1, 0, 0) = _ := line_d3 2 1 0 0 (by decide) (by decide) (by decide)
  have h5 : journal_Text [(1, 1, 2, 30), (2, 1, 0, 0)] = some [98, 101, 103, 105, 110, 32, 49, 32, 50, 32, 51, 48, 10, 97, 114, 109, 32, 49, 32, 48, 32, 48, 10] := by
    have s1 : journal_Text_l1 [(1, 1, 2, 30), (2, 1, 0, 0)] (0, []) = some (.inl (1, [98, 101, 103, 105, 110, 32, 49, 32, 50, 32, 51, 48, 10])) := by
      rw [journal_Text_l1, if_pos (by decide), show ix ([(1, 1, 2, 30), (2, 1, 0, 0)] : List R4) 0 = some (1, 1, 2, 30) from rfl, Option.bind_some, h3]; rfl
    have s2 : journal_Text_l1 [(1, 1, 2, 30), (2, 1, 0, 0)] (1, [98, 101, 103, 105, 110, 32, 49, 32, 50, 32, 51, 48, 10]) = some (.inl (2, [98, 101, 103, 105, 110, 32, 49, 32, 50, 32, 51, 48, 10, 97, 114, 109, 32, 49, 32, 48, 32, 48, 10])) := by
      rw [journal_Text_l1, if_pos (by decide), show ix ([(1, 1, 2, 30), (2, 1, 0, 0)] : List R4) 1 = some (2, 1, 0, 0) from rfl, Option.bind_some, h4]; rfl
    unfold journal_Text
    rw [loopW_go s1, loopW_go s2, loopW_end (by rw [journal_Text_l1, if_neg (by decide)])]; rfl
  unfold L36_awake
  rw [h1, h2]
  simp only [Option.bind_some]
  rw [if_pos trivial, if_pos trivial, if_pos (by decide), if_pos (by decide), show subl ([(1, 1, 2, 30), (2, 1, 0, 0), (3, 1, 0, 0), (5, 1, 0, 0)] : List R4) 0 2 = some [(1, 1, 2, 30), (2, 1, 0, 0)] from rfl, Option.bind_some, h5]; rfl
/-! ### Once -/
def cnt (m : List R4) (u k : Int) : Nat := m.countP fun r => decide (r.2.1 = u ∧ r.1 = k)
theorem cnt_snoc (m : List R4) (r : R4) (u k : Int) : cnt (m ++ [r]) u k = cnt m u k + if r.2.1 = u ∧ r.1 = k then 1 else 0 := by
  unfold cnt
  rw [List.countP_append]
  congr 1
  by_cases h : r.2.1 = u ∧ r.1 = k
  · rw [if_pos h]; simp [h]
  · rw [if_neg h]; simp [h]
theorem cnt_le (m : List R4) (u k : Int) : cnt m u k ≤ m.length := List.countP_le_length
theorem cnt_any (m : List R4) (u k : Int) : 0 < cnt m u k ↔ Any u k m = true := by
  unfold cnt Any
  rw [List.countP_pos_iff, List.any_eq_true]
  constructor
  · rintro ⟨r, h1, h2⟩; exact ⟨r, h1, by simpa using h2⟩
  · rintro ⟨r, h1, h2⟩; exact ⟨r, h1, by simpa using h2⟩
theorem count_is {l : List R4} (hl : l.length ≤ 1000) (u k : Int) : r36_Count l u k = some ((cnt l u k : Nat) : Int) := by
  obtain ⟨s, h1, h2⟩ := loop_cnt l.length (fun (c : Nat) (j : Nat) => ((c : Int), (j : Int))) (r36_Count_l1 l u k) (fun c => (c : Int)) (fun c j => c = cnt (l.take j) u k) (fun c j hj hI => by
    refine ⟨cnt (l.take (j + 1)) u k, ?_, rfl⟩
    have hc : c ≤ 1000 := by rw [hI]; exact Nat.le_trans (cnt_le _ _ _) (by rw [List.length_take]; omega)
    rw [r36_Count_l1, if_pos (by omega), ix_nat (List.getElem?_eq_getElem hj), Option.bind_some, List.take_succ_eq_append_getElem hj, cnt_snoc, ← hI]
    by_cases h : l[j].2.1 = u
    · rw [if_pos h, Option.bind_some]
      by_cases h' : l[j].1 = k
      · rw [decide_eq_true h', Option.bind_some, if_pos rfl, Option.bind_some, w64_id (by omega), w64_id (by omega), if_pos ⟨h, h'⟩]; rfl
      · rw [decide_eq_false h', Option.bind_some, if_neg (by decide), Option.bind_some, w64_id (by omega), if_neg (fun e => h' e.2)]; rfl
    · rw [if_neg h, Option.bind_some, if_neg (by decide), Option.bind_some, w64_id (by omega), if_neg (fun e => h e.1)]; rfl) (fun c hc => by rw [r36_Count_l1, if_neg (by omega)]) 0 rfl
  have h2 : loopW (r36_Count_l1 l u k) (0, 0) = some (s : Int) := h2
  unfold r36_Count
  rw [h2, h1, List.take_length]; rfl
structure J (u : Int) (op su ca : Bool) (m : List R4) : Prop where
  u0 : 0 ≤ u
  u1 : u ≤ (m.length : Int)
  op1 : op = true → 1 ≤ u
  c1 : ∀ v, cnt m v 1 = if 1 ≤ v ∧ v ≤ u then 1 else 0
  c56 : ∀ v, cnt m v 5 + cnt m v 6 = if 1 ≤ v ∧ v ≤ u ∧ ¬ (v = u ∧ op = true) then 1 else 0
  c3 : ∀ v, cnt m v 3 ≤ if v ≤ u ∧ ¬ (v = u ∧ op = true ∧ su = false) then 1 else 0
  c4 : ∀ v, cnt m v 4 ≤ if v ≤ u ∧ ¬ (v = u ∧ op = true ∧ ca = false) then 1 else 0
theorem J0 (su ca : Bool) : J 0 false su ca [] := by
  refine ⟨by decide, by decide, fun h => (by cases h), fun v => ?_, fun v => ?_, fun v => Nat.zero_le _, fun v => Nat.zero_le _⟩
  · rw [if_neg (by omega)]; rfl
  · rw [if_neg (by omega)]; rfl
section
variable {u : Int} {op su ca : Bool} {m : List R4} {r : R4}
theorem sn {k : Int} (hk : ¬ r.1 = k) (v : Int) : cnt (m ++ [r]) v k = cnt m v k := by rw [cnt_snoc, if_neg (fun e => hk e.2)]; rfl
theorem snk {k : Int} (hk : r.1 = k) (hu : r.2.1 = u) (v : Int) : cnt (m ++ [r]) v k = cnt m v k + if v = u then 1 else 0 := by
  rw [cnt_snoc]
  by_cases h : v = u
  · rw [if_pos h, if_pos ⟨hu.trans h.symm, hk⟩]
  · rw [if_neg h, if_neg (fun e => h (e.1.symm.trans hu))]
theorem jlen (h : u ≤ (m.length : Int)) : u + 1 ≤ ((m ++ [r]).length : Int) := by rw [List.length_append]; simp; omega
theorem J1 (h : J u false su ca m) (hk : r.1 = 1) (hu : r.2.1 = u + 1) : J (u + 1) true false false (m ++ [r]) := by
  have h0 := h.u0
  refine ⟨by omega, jlen h.u1, fun _ => by omega, fun v => ?_, fun v => ?_, fun v => ?_, fun v => ?_⟩
  · rw [snk hk hu, h.c1]
    by_cases a : 1 ≤ v ∧ v ≤ u
    · rw [if_pos a, if_neg (by omega), if_pos (by omega)]
    · rw [if_neg a]
      by_cases b : v = u + 1
      · rw [if_pos b, if_pos (by omega)]
      · rw [if_neg b, if_neg (by omega)]
  · rw [sn (by omega), sn (by omega), h.c56]
    by_cases a : 1 ≤ v ∧ v ≤ u
    · rw [if_pos ⟨a.1, a.2, fun e => (by cases e.2)⟩, if_pos ⟨a.1, by omega, fun e => (by have := e.1; omega)⟩]
    · rw [if_neg (fun e => a ⟨e.1, e.2.1⟩), if_neg (fun e => e.2.2 ⟨by have := e.1; have := e.2.1; omega, rfl⟩)]
  · rw [sn (by omega)]
    have := h.c3 v
    by_cases a : v ≤ u
    · rw [if_pos ⟨by omega, fun e => (by have := e.1; omega)⟩]
      by_cases b : v ≤ u ∧ ¬ (v = u ∧ false = true ∧ su = false)
      · rw [if_pos b] at this; exact this
      · rw [if_neg b] at this; omega
    · rw [if_neg (fun e => a e.1)] at this; omega
  · rw [sn (by omega)]
    have := h.c4 v
    by_cases a : v ≤ u
    · rw [if_pos ⟨by omega, fun e => (by have := e.1; omega)⟩]
      by_cases b : v ≤ u ∧ ¬ (v = u ∧ false = true ∧ ca = false)
      · rw [if_pos b] at this; exact this
      · rw [if_neg b] at this; omega
    · rw [if_neg (fun e => a e.1)] at this; omega
theorem J27 (h : J u op su ca m) (h1 : ¬ r.1 = 1) (h3 : ¬ r.1 = 3) (h4 : ¬ r.1 = 4) (h5 : ¬ r.1 = 5) (h6 : ¬ r.1 = 6) : J u op su ca (m ++ [r]) :=
  ⟨h.u0, (by have := jlen (r := r) h.u1; omega), h.op1, fun v => (by rw [sn h1]; exact h.c1 v), fun v => (by rw [sn h5, sn h6]; exact h.c56 v), fun v => (by rw [sn h3]; exact h.c3 v), fun v => (by rw [sn h4]; exact h.c4 v)⟩
theorem J3 (h : J u true false ca m) (hk : r.1 = 3) (hu : r.2.1 = u) : J u true true ca (m ++ [r]) := by
  refine ⟨h.u0, (by have := jlen (r := r) h.u1; omega), h.op1, fun v => (by rw [sn (by omega)]; exact h.c1 v), fun v => (by rw [sn (by omega), sn (by omega)]; exact h.c56 v), fun v => ?_, fun v => (by rw [sn (by omega)]; exact h.c4 v)⟩
  rw [snk hk hu]
  have := h.c3 v
  by_cases a : v = u
  · rw [if_neg (fun e => e.2 ⟨a, rfl, rfl⟩)] at this
    rw [if_pos a, if_pos ⟨by omega, fun e => (by cases e.2.2)⟩]; omega
  · rw [if_neg a]
    by_cases b : v ≤ u
    · rw [if_pos ⟨b, fun e => a e.1⟩] at this ⊢; omega
    · rw [if_neg (fun e => b e.1)] at this; omega
theorem J4 (h : J u true su false m) (hk : r.1 = 4) (hu : r.2.1 = u) : J u true su true (m ++ [r]) := by
  refine ⟨h.u0, (by have := jlen (r := r) h.u1; omega), h.op1, fun v => (by rw [sn (by omega)]; exact h.c1 v), fun v => (by rw [sn (by omega), sn (by omega)]; exact h.c56 v), fun v => (by rw [sn (by omega)]; exact h.c3 v), fun v => ?_⟩
  rw [snk hk hu]
  have := h.c4 v
  by_cases a : v = u
  · rw [if_neg (fun e => e.2 ⟨a, rfl, rfl⟩)] at this
    rw [if_pos a, if_pos ⟨by omega, fun e => (by cases e.2.2)⟩]; omega
  · rw [if_neg a]
    by_cases b : v ≤ u
    · rw [if_pos ⟨b, fun e => a e.1⟩] at this ⊢; omega
    · rw [if_neg (fun e => b e.1)] at this; omega
theorem J56 (h : J u true su ca m) (hk : r.1 = 5 ∨ r.1 = 6) (hu : r.2.1 = u) (su' ca' : Bool) : J u false su' ca' (m ++ [r]) := by
  have ho := h.op1 rfl
  refine ⟨h.u0, (by have := jlen (r := r) h.u1; omega), (fun e => by cases e), fun v => (by rw [sn (by omega)]; exact h.c1 v), fun v => ?_, fun v => ?_, fun v => ?_⟩
  · have e : cnt (m ++ [r]) v 5 + cnt (m ++ [r]) v 6 = cnt m v 5 + cnt m v 6 + if v = u then 1 else 0 := by
      rcases hk with hk | hk
      · rw [snk hk hu, sn (by omega)]; omega
      · rw [snk hk hu, sn (by omega)]; omega
    rw [e, h.c56]
    by_cases a : v = u
    · rw [if_pos a, if_neg (fun e => e.2.2 ⟨a, rfl⟩), if_pos ⟨by omega, by omega, fun e => (by cases e.2)⟩]
    · rw [if_neg a]
      by_cases b : 1 ≤ v ∧ v ≤ u
      · rw [if_pos ⟨b.1, b.2, fun e => a e.1⟩, if_pos ⟨b.1, b.2, fun e => a e.1⟩]
      · rw [if_neg (fun e => b ⟨e.1, e.2.1⟩), if_neg (fun e => b ⟨e.1, e.2.1⟩)]
  · rw [sn (by omega)]
    have := h.c3 v
    by_cases b : v ≤ u
    · rw [if_pos ⟨b, fun e => (by cases e.2.1)⟩]
      by_cases c : v ≤ u ∧ ¬ (v = u ∧ true = true ∧ su = false)
      · rw [if_pos c] at this; exact this
      · rw [if_neg c] at this; omega
    · rw [if_neg (fun e => b e.1)] at this; omega
  · rw [sn (by omega)]
    have := h.c4 v
    by_cases b : v ≤ u
    · rw [if_pos ⟨b, fun e => (by cases e.2.1)⟩]
      by_cases c : v ≤ u ∧ ¬ (v = u ∧ true = true ∧ ca = false)
      · rw [if_pos c] at this; exact this
      · rw [if_neg c] at this; omega
    · rw [if_neg (fun e => b e.1)] at this; omega
end
abbrev JS (s : S9) (m : List R4) : Prop := J s.1 s.2.2.1 s.2.2.2.2.2.2.1 s.2.2.2.2.2.2.2.1 m
theorem allowed_says {s : S9} {r : R4} (h : journal_allowed s r = some true) :
    (r.1 = 1 ∧ s.2.2.1 = false ∧ r.2.1 = w64 (s.1 + 1)) ∨ (¬ r.1 = 1 ∧ r.2.1 = s.1 ∧ (r.1 ≠ 7 → s.2.2.1 = true) ∧ (r.1 = 3 → s.2.2.2.2.2.2.1 = false) ∧ (r.1 = 4 → s.2.2.2.2.2.2.2.1 = false) ∧ (r.1 = 2 ∨ r.1 = 3 ∨ r.1 = 4 ∨ r.1 = 5 ∨ r.1 = 6 ∨ r.1 = 7)) := by
  unfold journal_allowed at h
  by_cases k1 : r.1 = 1
  · rw [if_pos k1] at h
    have h := Option.some.inj h
    simp only [Bool.and_eq_true, Bool.not_eq_true', decide_eq_true_eq] at h
    exact .inl ⟨k1, h.1, h.2.2.1⟩
  · rw [if_neg k1] at h
    by_cases g : (decide (r.2.1 ≠ s.1) || (decide (r.2.2.2 ≠ 0) || decide (s.2.2.1 = (decide (r.1 = 7))))) = true
    · rw [if_pos g] at h; cases h
    · rw [if_neg g] at h
      have g' : r.2.1 = s.1 ∧ r.2.2.2 = 0 ∧ ¬ s.2.2.1 = decide (r.1 = 7) := by
        simp only [Bool.or_eq_true, decide_eq_true_eq, not_or] at g
        exact ⟨by omega, by omega, g.2.2⟩
      have ho : r.1 ≠ 7 → s.2.2.1 = true := fun k7 => by
        have := g'.2.2
        rw [decide_eq_false k7] at this
        simpa using this
      refine .inr ⟨k1, g'.1, ho, ?_⟩
      by_cases k2 : r.1 = 2
      · exact ⟨fun e => by omega, fun e => by omega, .inl k2⟩
      · rw [if_neg k2] at h
        by_cases k3 : r.1 = 3
        · rw [if_pos k3] at h
          have h := Option.some.inj h
          simp only [Bool.and_eq_true, Bool.not_eq_true', decide_eq_true_eq] at h
          exact ⟨fun _ => h.1.1, fun e => by omega, .inr (.inl k3)⟩
        · rw [if_neg k3] at h
          by_cases k4 : r.1 = 4
          · rw [if_pos k4] at h
            have h := Option.some.inj h
            simp only [Bool.and_eq_true, Bool.not_eq_true', decide_eq_true_eq] at h
            exact ⟨fun e => by omega, fun _ => h.1, .inr (.inr (.inl k4))⟩
          · rw [if_neg k4] at h
            refine ⟨fun e => absurd e k3, fun e => absurd e k4, ?_⟩
            by_cases k5 : r.1 = 5
            · exact .inr (.inr (.inr (.inl k5)))
            · rw [if_neg k5] at h
              by_cases k6 : r.1 = 6
              · exact .inr (.inr (.inr (.inr (.inl k6))))
              · rw [if_neg k6] at h
                by_cases k7 : r.1 = 7
                · exact .inr (.inr (.inr (.inr (.inr k7))))
                · rw [if_neg k7] at h; cases h
theorem next_J {s : S9} {r : R4} {x : S9 × Int} {m : List R4} (h : journal_Next s r = some x) (h0 : x.2 = 0) (hm : m.length ≤ 9000000000000000000) (hJ : JS s m) : JS x.1 (m ++ [r]) := by
  unfold journal_Next at h
  obtain ⟨c, hc, h⟩ := bindE h
  cases c with
  | false =>
    rw [if_pos (by decide)] at h
    have h := Option.some.inj h
    rw [← h] at h0; cases h0
  | true =>
    have ha := allowed_says hc
    have hu0 := hJ.u0
    have hu1 := hJ.u1
    rw [if_neg (by decide)] at h
    obtain ⟨u, now, op, tg, at', ar, su, ca, ou⟩ := s
    have hJ : J u op su ca m := hJ
    have hu0 : 0 ≤ u := hu0
    have hu1 : u ≤ (m.length : Int) := hu1
    rcases ha with ⟨k1, ho, hru⟩ | ⟨k1, hru, ho, h3, h4, hk⟩
    · rw [if_pos k1] at h
      have h := Option.some.inj h
      subst h
      have ho : op = false := ho
      subst ho
      have hru : r.2.1 = u + 1 := by rw [hru]; exact w64_id (by show -9223372036854775808 ≤ u + 1 ∧ u + 1 ≤ 9223372036854775807; omega)
      show J r.2.1 true false false (m ++ [r])
      rw [hru]
      exact J1 hJ k1 hru
    · have hru : r.2.1 = u := hru
      rw [if_neg k1] at h
      rcases hk with k | k | k | k | k | k
      · rw [if_pos k] at h
        have h := Option.some.inj h
        subst h
        exact J27 hJ k1 (by omega) (by omega) (by omega) (by omega)
      · have o1 : op = true := ho (by omega)
        have o2 : su = false := h3 k
        subst o1; subst o2
        rw [if_neg (by omega), if_pos k] at h
        have h := Option.some.inj h
        subst h
        exact J3 hJ k hru
      · have o1 : op = true := ho (by omega)
        have o2 : ca = false := h4 k
        subst o1; subst o2
        rw [if_neg (by omega), if_neg (by omega), if_pos k] at h
        have h := Option.some.inj h
        subst h
        exact J4 hJ k hru
      · have o1 : op = true := ho (by omega)
        subst o1
        rw [if_neg (by omega), if_neg (by omega), if_neg (by omega), if_pos k] at h
        have h := Option.some.inj h
        subst h
        exact J56 hJ (.inl k) hru false false
      · have o1 : op = true := ho (by omega)
        subst o1
        rw [if_neg (by omega), if_neg (by omega), if_neg (by omega), if_neg (by omega), if_pos k] at h
        have h := Option.some.inj h
        subst h
        exact J56 hJ (.inr k) hru false false
      · rw [if_neg (by omega), if_neg (by omega), if_neg (by omega), if_neg (by omega), if_neg (by omega), if_pos k] at h
        obtain ⟨y, hy, h⟩ := bindE h
        obtain ⟨z, hz, hy⟩ := bindE hy
        have hy := Option.some.inj hy
        subst hy
        have h := Option.some.inj h
        subst h
        exact J27 hJ k1 (by omega) (by omega) (by omega) (by omega)
noncomputable def nx (s : S9) (r : R4) : Option S9 := (journal_Next s r).bind fun x => if x.2 = 0 then some x.1 else none
noncomputable def rpl : List R4 → S9 → Option S9
  | [], s => some s
  | r :: l, s => (nx s r).bind (rpl l)
theorem rpl_app : ∀ (a b : List R4) (s : S9), rpl (a ++ b) s = (rpl a s).bind (rpl b)
  | [], b, s => rfl
  | r :: a, b, s => by
    show (nx s r).bind (rpl (a ++ b)) = ((nx s r).bind (rpl a)).bind (rpl b)
    cases nx s r with
    | none => rfl
    | some t => exact rpl_app a b t
theorem rpl_J : ∀ (l : List R4) (s s' : S9) (m : List R4), rpl l s = some s' → m.length + l.length ≤ 9000000000000000000 → JS s m → JS s' (m ++ l)
  | [], s, s', m, h, hl, hJ => by
    have h := Option.some.inj h
    subst h
    rw [List.append_nil]; exact hJ
  | r :: l, s, s', m, h, hl, hJ => by
    obtain ⟨t, h1, h2⟩ := bindE (show (nx s r).bind (rpl l) = some s' from h)
    obtain ⟨x, h3, h4⟩ := bindE h1
    rw [List.length_cons] at hl
    by_cases c : x.2 = 0
    · rw [if_pos c] at h4
      have h4 := Option.some.inj h4
      subst h4
      have := rpl_J l x.1 s' (m ++ [r]) h2 (by rw [List.length_append]; simp; omega) (next_J h3 c (by omega) hJ)
      rw [List.append_assoc] at this
      exact this
    · rw [if_neg c] at h4; cases h4
theorem replay_long {l : List R4} (hl : l.length ≤ 9000000000000000000) (hr : ∀ r ∈ l, i64 r.2.1) : ∀ (d k : Nat), k + d = l.length → ∀ s : S9, Inv s →
    (∀ s', rpl (l.drop k) s = some s' → loopW (journal_Replay_l1 l) ((k : Int), s) = some (.inl s')) ∧ (rpl (l.drop k) s = none → ∃ x, loopW (journal_Replay_l1 l) ((k : Int), s) = some (.inr x) ∧ x.2.2 ≠ 0)
  | 0, k, hk, s, hI => by
    rw [List.drop_eq_nil_of_le (by omega)]
    refine ⟨fun s' h => ?_, fun h => by cases h⟩
    have h := Option.some.inj h
    subst h
    exact loopW_end (by rw [journal_Replay_l1, if_neg (by omega)])
  | d + 1, k, hk, s, hI => by
    have hkl : k < l.length := by omega
    obtain ⟨x, h1, h2, h3⟩ := next_eq hI (hr _ (List.getElem_mem hkl))
    rw [List.drop_eq_getElem_cons hkl]
    have hn : nx s l[k] = if x.2 = 0 then some x.1 else none := by unfold nx; rw [h1]; rfl
    show (∀ s', (nx s l[k]).bind (rpl (l.drop (k + 1))) = some s' → _) ∧ ((nx s l[k]).bind (rpl (l.drop (k + 1))) = none → _)
    rw [hn]
    by_cases hx : x.2 = 0
    · have ih := replay_long hl hr d (k + 1) (by omega) x.1 h3
      rw [if_pos hx, Option.bind_some]
      rw [loopW_go (s' := (((k + 1 : Nat) : Int), x.1)) (by
        rw [journal_Replay_l1, if_pos (by omega), ix_nat (List.getElem?_eq_getElem hkl), Option.bind_some, h1, Option.bind_some, if_neg (by simpa using hx), w64_id (by omega)]; rfl)]
      exact ih
    · rw [if_neg hx]
      refine ⟨(fun s' h => by cases h), fun _ => ?_⟩
      refine ⟨_, loopW_end (by rw [journal_Replay_l1, if_pos (by omega), ix_nat (List.getElem?_eq_getElem hkl), Option.bind_some, h1, Option.bind_some, if_pos hx]), hx⟩
abbrev s90 : S9 := (0, 0, false, 0, 0, 0, false, false, 0)
theorem replay_is {l : List R4} (hl : l.length ≤ 9000000000000000000) (hr : ∀ r ∈ l, i64 r.2.1) :
    (∀ s', rpl l s90 = some s' → journal_Replay l = some (s', (l.length : Int), 0)) ∧ (rpl l s90 = none → ∃ x, journal_Replay l = some x ∧ x.2.2 ≠ 0) := by
  obtain ⟨h1, h2⟩ := replay_long hl hr l.length 0 (by omega) s90 inv0
  refine ⟨fun s' h => ?_, fun h => ?_⟩
  · have h3 : loopW (journal_Replay_l1 l) (0, 0, 0, false, 0, 0, 0, false, false, 0) = some (.inl s') := h1 s' h
    unfold journal_Replay
    rw [h3]; rfl
  · obtain ⟨x, h3, h4⟩ := h2 h
    have h3 : loopW (journal_Replay_l1 l) (0, 0, 0, false, 0, 0, 0, false, false, 0) = some (.inr x) := h3
    refine ⟨x, ?_, h4⟩
    unfold journal_Replay
    rw [h3]; rfl
theorem mine_long {l : List R4} (hl : l.length * 32 ≤ 140737488355328) : L36_Mine l = some l := by
  have key := loop_cnt l.length (fun (out : List R4) (k : Nat) => (out, (k : Int))) (L36_Mine_l1 l) id (fun out k => out = l.take k) (fun out k hk hI => by
    refine ⟨l.take (k + 1), ?_, rfl⟩
    have hx := ix_nat (List.getElem?_eq_getElem hk)
    have hap : appL 32 out ([(l[k].1, l[k].2.1, l[k].2.2.1, l[k].2.2.2)] : List R4) = some (l.take (k + 1)) := by
      unfold appL
      have hlen : out.length = k := by rw [hI, List.length_take]; omega
      rw [if_pos (by rw [hlen]; simp; omega), List.take_succ_eq_append_getElem hk, hI]
    rw [L36_Mine_l1, if_pos (by omega), hx]
    simp only [Option.bind_some]
    rw [hap, Option.bind_some, w64_id (by omega)]; rfl) (fun out ho => by rw [L36_Mine_l1, if_neg (by omega)]; rfl) [] rfl
  obtain ⟨s, h1, h2⟩ := key
  have h2 : loopW (L36_Mine_l1 l) ([], 0) = some s := h2
  unfold L36_Mine
  rw [h2, h1, List.take_length]; rfl
theorem JournalOnce_core {l : List R4} (hl : l.length * 32 ≤ 140737488355328) (hr : ∀ r ∈ l, i64 r.2.1) (u cut : Int) : L36_JournalOnce l u cut = some true := by
  unfold L36_JournalOnce
  rw [awake36, mine_long hl, Option.bind_some]
  obtain ⟨h1, h2⟩ := replay_is (l := l) (by omega) hr
  cases hrp : rpl l s90 with
  | none =>
    obtain ⟨x, h3, h4⟩ := h2 hrp
    rw [h3, Option.bind_some, if_pos (by simp [h4])]; rfl
  | some s =>
    rw [h1 s hrp, Option.bind_some]
    by_cases g : 100 < (l.length : Int) ∨ cut < 0 ∨ (l.length : Int) < cut
    · rw [if_pos (by rcases g with g | g | g <;> simp [g])]; rfl
    · have g1 : (l.length : Int) ≤ 100 := by omega
      have g2 : 0 ≤ cut := by omega
      have g3 : cut ≤ (l.length : Int) := by omega
      have hJ : JS s l := by
        have := rpl_J l s90 s [] hrp (by simp; omega) (J0 false false)
        exact this
      rw [if_neg (by simp; omega), subl_is (by omega), Option.bind_some]
      have hd : (l.take cut.toNat).drop (0 : Int).toNat = l.take cut.toNat := rfl
      rw [hd]
      have hlt : (l.take cut.toNat).length = cut.toNat := by rw [List.length_take]; omega
      rw [mine_long (by rw [hlt]; omega), Option.bind_some]
      have hsp := rpl_app (l.take cut.toNat) (l.drop cut.toNat) s90
      rw [List.take_append_drop, hrp] at hsp
      obtain ⟨s1, hs1, _⟩ := bindE hsp.symm
      have h5 := (replay_is (l := l.take cut.toNat) (by omega) (fun r hrr => hr r (List.mem_of_mem_take hrr))).1 s1 hs1
      rw [h5, Option.bind_some]
      have c1 := hJ.c1 u
      have c56 := hJ.c56 u
      have c3 := hJ.c3 u
      have c4 := hJ.c4 u
      have b1 : cnt l u 1 ≤ 1 := by rw [c1]; split <;> omega
      have b3 : cnt l u 3 ≤ 1 := by refine Nat.le_trans c3 ?_; split <;> omega
      have b4 : cnt l u 4 ≤ 1 := by refine Nat.le_trans c4 ?_; split <;> omega
      have b56 : cnt l u 5 + cnt l u 6 ≤ cnt l u 1 := by
        rw [c56, c1]
        by_cases a : 1 ≤ u ∧ u ≤ s.1
        · rw [if_pos a]; split <;> omega
        · rw [if_neg a, if_neg (fun e => a ⟨e.1, e.2.1⟩)]; exact Nat.le_refl _
      have k := fun k => count_is (l := l) (by omega) u k
      rw [if_neg (by simp), if_neg (by rw [hlt]; simp; omega), k, k, k, k, k]
      simp only [Option.bind_some]
      have hw : w64 (((cnt l u 5 : Nat) : Int) + ((cnt l u 6 : Nat) : Int)) = ((cnt l u 5 : Nat) : Int) + ((cnt l u 6 : Nat) : Int) := w64_id (by omega)
      rw [hw, if_neg (by omega), if_neg (by omega), if_neg (by omega), decide_eq_false (by omega), Option.bind_some, if_neg (by decide), (fate_eq (l := l) (by omega) u).1, Option.bind_some]
      have a1 := cnt_any l u 1
      have a5 := cnt_any l u 5
      have a6 := cnt_any l u 6
      unfold fateV
      by_cases f1 : Any u 1 l = true
      · rw [if_pos f1]
        have p1 : 1 ≤ u ∧ u ≤ s.1 := Classical.byContradiction fun hn => by
          rw [if_neg hn] at c1
          have := a1.2 f1
          omega
        by_cases f5 : Any u 5 l = true
        · rw [if_pos f5, if_pos (by decide), if_pos (by decide)]; rfl
        · rw [if_neg f5]
          by_cases f6 : Any u 6 l = true
          · rw [if_pos f6, if_pos (by decide), if_pos (by decide)]; rfl
          · rw [if_neg f6, if_neg (by decide)]
            have z5 : ¬ 0 < cnt l u 5 := fun e => f5 (a5.1 e)
            have z6 : ¬ 0 < cnt l u 6 := fun e => f6 (a6.1 e)
            have ho : u = s.1 ∧ s.2.2.1 = true := Classical.byContradiction fun hn => by
              rw [if_pos ⟨p1.1, p1.2, hn⟩] at c56
              omega
            rw [if_pos ho.2, if_pos ho.1.symm, if_pos (by decide)]; rfl
      · rw [if_neg f1, if_pos (by decide), if_neg (by decide)]
        have z1 : ¬ 0 < cnt l u 1 := fun e => f1 (a1.1 e)
        by_cases q : u < 1
        · rw [if_pos q]; rfl
        · rw [if_neg q]
          have : s.1 < u := Classical.byContradiction fun hn => by
            rw [if_pos ⟨by omega, by omega⟩] at c1
            omega
          rw [if_pos this]; rfl
theorem JournalOnce_true (p0 : List R4) (ok0 : okL (okP (fun n => (Lit.int .i64 n).wf = true) (okP (fun n => (Lit.int .i64 n).wf = true) (okP (fun n => (Lit.int .i64 n).wf = true) (fun n => (Lit.int .i64 n).wf = true)))) p0 ∧ p0.length * 32 ≤ reachBytes) (p1 : Int) {A : Prop} (_ : A) (p2 : Int) {B : Prop} (_ : B) : L36_JournalOnce p0 p1 p2 = some true :=
  JournalOnce_core (Nat.le_trans ok0.2 (by decide)) (fun r hr => wf_i64 (ok0.1.2 r hr).2.1) p1 p2
end Go.Proofs.YtdllfdmdfdfilaaDoor
