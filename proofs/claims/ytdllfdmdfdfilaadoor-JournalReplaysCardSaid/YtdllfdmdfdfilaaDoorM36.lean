/- Layer 36: journals. Conditions: none. -/
import Derived.Test.YtdllfdmdfdfilaaDoorA4
import Derived.Test.YtdllfdmdfdfilaaDoorLD
namespace Go.Proofs.YtdllfdmdfdfilaaDoor
set_option linter.unusedVariables false
set_option linter.unusedSimpArgs false
open Go Go.RowKit

abbrev S9 := Int × Int × Bool × Int × Int × Int × Bool × Bool × Int
abbrev R4 := Int × Int × Int × Int
/-- Where a replay may stand. -/
structure Inv (s : S9) : Prop where
  ar0 : 0 ≤ s.2.2.2.2.2.1
  ar8 : s.2.2.2.2.2.1 ≤ 8
  ou0 : 0 ≤ s.2.2.2.2.2.2.2.2
  ou1 : s.2.2.2.2.2.2.2.2 ≤ 255
  opn : s.2.2.1 = true → s.2.2.2.2.2.2.2.2 = 0
  u : i64 s.1
/-! ### Bits -/
theorem bits_and : ∀ o : Fin 256, ∀ a : Fin 8, andI .i64 (shrI .i64 (o.val : Int) (a.val : Int)) 1 = ((o.val / 2 ^ a.val % 2 : Nat) : Int) := by decide +kernel
theorem bits_not : ∀ o : Fin 256, ∀ a : Fin 8, o.val / 2 ^ a.val % 2 = 1 → andNotI .i64 (o.val : Int) (shlI .i64 1 (a.val : Int)) = (o.val : Int) - ((2 ^ a.val : Nat) : Int) ∧ 2 ^ a.val ≤ o.val := by decide +kernel
theorem bit_loop (a : Nat) (ha : a ≤ 7) : ∀ (d j x : Nat), j + d = a → x ≤ 255 → loopW (r36_bit_l1 (a : Int)) ((x : Int), (j : Int)) = some ((x / 2 ^ d : Nat) : Int) := by
  intro d
  induction d with
  | zero =>
    intro j x hj hx
    rw [loopW_end (by rw [r36_bit_l1, if_neg (by omega)])]
    simp
  | succ d ih =>
    intro j x hj hx
    rw [loopW_go (s' := (((x / 2 : Nat) : Int), ((j + 1 : Nat) : Int))) (by
      rw [r36_bit_l1, if_pos (by omega), show Int.tdiv (x : Int) 2 = ((x / 2 : Nat) : Int) from rfl, w64_id (by omega), w64_id (by omega)]; rfl)]
    rw [ih (j + 1) (x / 2) (by omega) (by omega), Nat.div_div_eq_div_mul, Nat.pow_succ, Nat.mul_comm]
theorem bit_eq {o a : Nat} (ho : o ≤ 255) (ha : a ≤ 7) : r36_bit (o : Int) (a : Int) = some ((o / 2 ^ a % 2 : Nat) : Int) := by
  unfold r36_bit
  rw [show ((o : Int), (0 : Int)) = ((o : Int), ((0 : Nat) : Int)) from rfl, bit_loop a ha a 0 o (by omega) ho]; rfl
theorem power_loop (a : Nat) (ha : a ≤ 7) : ∀ (d j : Nat), j + d = a → loopW (r36_power_l1 (a : Int)) (((2 ^ j : Nat) : Int), (j : Int)) = some ((2 ^ a : Nat) : Int) := by
  intro d
  induction d with
  | zero =>
    intro j hj
    obtain rfl : j = a := by omega
    exact loopW_end (by rw [r36_power_l1, if_neg (by omega)])
  | succ d ih =>
    intro j hj
    have : 2 ^ j ≤ 2 ^ 7 := Nat.pow_le_pow_right (by decide) (by omega)
    have hp : 2 ^ (j + 1) = 2 ^ j * 2 := Nat.pow_succ ..
    have hi := ih (j + 1) (by omega)
    generalize 2 ^ (j + 1) = q at hp hi
    generalize 2 ^ j = p at hp this
    subst hp
    rw [loopW_go (s' := (((p * 2 : Nat) : Int), ((j + 1 : Nat) : Int))) (by
      rw [r36_power_l1, if_pos (by omega), w64_id (by omega), w64_id (by omega)]; simp)]
    exact hi
theorem power_eq {a : Nat} (ha : a ≤ 7) : r36_power (a : Int) = some ((2 ^ a : Nat) : Int) := by
  unfold r36_power
  have := power_loop a ha a 0 (by omega)
  rw [show ((1 : Int), (0 : Int)) = (((2 ^ 0 : Nat) : Int), ((0 : Nat) : Int)) from rfl, this]; rfl
theorem next_u {a b : Int} (ha : i64 a) (hb : i64 b) : b = w64 (a + 1) ↔ w64 (b - 1) = a := by
  rw [w64_def, w64_def]
  split <;> split <;> constructor <;> intro h <;> omega
/-! ### What may follow -/
theorem may_eq {s : S9} {r : R4} (hI : Inv s) (hr : i64 r.2.1) : ∃ c, journal_allowed s r = some c ∧ r36_may s r = some c ∧ (c = true →
    (1 ≤ r.1 ∧ r.1 ≤ 7) ∧ (r.1 ≠ 1 → r.1 ≠ 7 → s.2.2.1 = true) ∧ (r.1 = 2 → s.2.2.2.2.2.1 < 8) ∧ (r.1 = 6 → 0 ≤ r.2.2.1 ∧ r.2.2.1 ≤ 255) ∧ (r.1 = 7 → s.2.2.1 = false ∧ 0 ≤ r.2.2.1 ∧ r.2.2.1 ≤ 7 ∧ s.2.2.2.2.2.2.2.2.toNat / 2 ^ r.2.2.1.toNat % 2 = 1)) := by
  obtain ⟨i1, i2, i3, i4, i5, i6⟩ := hI
  obtain ⟨u, now, op, tg, at', ar, su, ca, ou⟩ := s
  obtain ⟨k, ru, a, b⟩ := r
  simp only at *
  have hw : ∀ m : Int, journal_within a m = decide (0 ≤ a ∧ a ≤ m) := fun m => by unfold journal_within; simp
  unfold journal_allowed r36_may
  simp only [hw]
  by_cases k1 : k = 1
  · subst k1
    refine ⟨_, by rw [if_pos rfl], ?_, fun _ => by simp⟩
    rw [if_pos rfl]
    congr 1
    have : decide (ru = w64 (u + 1)) = decide (w64 (ru - 1) = u) := decide_eq_decide.2 (next_u i6 hr)
    rw [this]
    unfold journal_within
    cases op <;> cases decide (ou = 0) <;> cases decide (w64 (ru - 1) = u) <;> simp [Bool.decide_and, Bool.and_assoc]
  · rw [if_neg k1, if_neg k1]
    by_cases hu : ru = u ∧ b = 0
    · obtain ⟨rfl, rfl⟩ := hu
      by_cases k7 : k = 7
      · subst k7
        cases op
        · by_cases ha : 0 ≤ a ∧ a ≤ 7
          · obtain ⟨a, rfl⟩ : ∃ n : Nat, a = (n : Int) := ⟨a.toNat, by omega⟩
            obtain ⟨ou, rfl⟩ : ∃ n : Nat, ou = (n : Int) := ⟨ou.toNat, by omega⟩
            have h1 := bits_and ⟨ou, by omega⟩ ⟨a, by omega⟩
            simp only at h1
            refine ⟨decide (ou / 2 ^ a % 2 = 1), ?_, ?_, ?_⟩
            · rw [if_neg (by simp)]
              simp only [show ¬ ((7 : Int) = 2) by decide, show ¬ ((7 : Int) = 3) by decide, show ¬ ((7 : Int) = 4) by decide, show ¬ ((7 : Int) = 5) by decide, show ¬ ((7 : Int) = 6) by decide, if_false]
              rw [if_pos trivial, if_pos (by simp; omega), shN_is (by omega)]
              simp only [Option.bind_some]
              rw [h1]
              congr 1
              exact decide_eq_decide.2 ⟨fun h => by omega, fun h => by omega⟩
            · rw [if_neg (by simp), if_pos rfl, if_pos (show (!false) = true from rfl), if_pos (by omega), if_pos (by omega)]
              by_cases ho : 0 < (ou : Int)
              · rw [if_pos ho, bit_eq (by omega) (by omega)]
                simp only [Option.bind_some]
                congr 1
                exact decide_eq_decide.2 ⟨fun h => by omega, fun h => by omega⟩
              · obtain rfl : ou = 0 := by omega
                rw [if_neg ho]; simp
            · intro h
              have h := of_decide_eq_true h
              exact ⟨by decide, fun _ h => absurd rfl h, fun h => by omega, fun h => by omega, fun _ => ⟨rfl, by omega, by omega, h⟩⟩
          · refine ⟨false, ?_, ?_, fun h => by cases h⟩
            · rw [if_neg (by simp)]
              simp only [show ¬ ((7 : Int) = 2) by decide, show ¬ ((7 : Int) = 3) by decide, show ¬ ((7 : Int) = 4) by decide, show ¬ ((7 : Int) = 5) by decide, show ¬ ((7 : Int) = 6) by decide, if_false]
              rw [if_pos trivial, if_neg (by simpa using ha)]; rfl
            · rw [if_neg (by simp), if_pos rfl, if_pos (show (!false) = true from rfl)]
              by_cases h0 : 0 ≤ a
              · rw [if_pos h0, if_neg (by omega)]; rfl
              · rw [if_neg h0]; rfl
        · refine ⟨false, by rw [if_pos (by simp)], ?_, fun h => by cases h⟩
          rw [if_neg (by simp), if_pos rfl, if_neg (by decide)]; rfl
      · cases op
        · refine ⟨false, by rw [if_pos (by simp [k7])], ?_, fun h => by cases h⟩
          by_cases hk : k < 1 ∨ 7 < k
          · rw [if_pos (by simpa using hk)]
          · rw [if_neg (by simpa using hk), if_neg k7, if_pos (show (!false) = true from rfl)]
        · rw [if_neg (by simp [k7])]
          by_cases hk : k < 1 ∨ 7 < k
          · refine ⟨false, ?_, by rw [if_pos (by simpa using hk)], fun h => by cases h⟩
            rw [if_neg (by omega), if_neg (by omega), if_neg (by omega), if_neg (by omega), if_neg (by omega), if_neg (by omega)]
          · rw [if_neg (show ¬ ((decide (ru ≠ ru) || (decide ((0 : Int) ≠ 0) || (decide (k < 1) || decide (7 < k)))) = true) by simpa using hk), if_neg k7, if_neg (show ¬ ((!true) = true) by decide)]
            have hk' : k = 2 ∨ k = 3 ∨ k = 4 ∨ k = 5 ∨ k = 6 := by omega
            rcases hk' with rfl | rfl | rfl | rfl | rfl
            · refine ⟨_, rfl, ?_, ?_⟩
              · rw [if_pos rfl]
                congr 1
                have e1 : decide (0 ≤ ar) = true := decide_eq_true i1
                by_cases h : a = ar
                · subst h; cases su <;> cases ca <;> simp [e1]
                · cases su <;> cases ca <;> simp [h]
              · intro h
                simp at h
                exact ⟨by decide, fun _ _ => rfl, fun _ => by omega, fun h => by omega, fun h => by omega⟩
            · refine ⟨_, rfl, ?_, ?_⟩
              · by_cases ha : a = 0
                · subst ha; cases su <;> cases ca <;> simp
                · cases su <;> cases ca <;> simp [ha]
              · intro h
                exact ⟨by decide, fun _ _ => rfl, fun h => by omega, fun h => by omega, fun h => by omega⟩
            · refine ⟨_, rfl, ?_, ?_⟩
              · by_cases ha : a = 0
                · subst ha; cases su <;> cases ca <;> simp
                · cases su <;> cases ca <;> simp [ha]
              · intro h
                exact ⟨by decide, fun _ _ => rfl, fun h => by omega, fun h => by omega, fun h => by omega⟩
            · refine ⟨_, rfl, ?_, ?_⟩
              · by_cases ha : a = 0
                · subst ha; cases su <;> cases ca <;> simp
                · cases su <;> cases ca <;> simp [ha]
              · intro h
                exact ⟨by decide, fun _ _ => rfl, fun h => by omega, fun h => by omega, fun h => by omega⟩
            · refine ⟨_, rfl, ?_, ?_⟩
              · cases ca <;> simp [Bool.decide_and]
              · intro h
                simp at h
                exact ⟨by decide, fun _ _ => rfl, fun h => by omega, fun _ => by omega, fun h => by omega⟩
    · have hx : (decide (ru ≠ u) || (decide (b ≠ 0) || decide (op = decide (k = 7)))) = true := by
        by_cases h : ru = u
        · have : ¬ b = 0 := fun h' => hu ⟨h, h'⟩
          simp [this]
        · simp [h]
      have hy : (decide (ru ≠ u) || (decide (b ≠ 0) || (decide (k < 1) || decide (7 < k)))) = true := by
        by_cases h : ru = u
        · have : ¬ b = 0 := fun h' => hu ⟨h, h'⟩
          simp [this]
        · simp [h]
      exact ⟨false, by rw [if_pos hx], by rw [if_pos hy], fun h => by cases h⟩
theorem d0 : (0 : Int) ≤ 0 := by decide
theorem d8 : (0 : Int) ≤ 8 := by decide
theorem d255 : (0 : Int) ≤ 255 := by decide
theorem next_eq {s : S9} {r : R4} (hI : Inv s) (hr : i64 r.2.1) : ∃ x, journal_Next s r = some x ∧ r36_Next s r = some x ∧ Inv x.1 := by
  obtain ⟨c, h1, h2, h3⟩ := may_eq hI hr
  unfold journal_Next r36_Next
  rw [h1, h2]
  simp only [Option.bind_some]
  cases c
  · exact ⟨(s, 5), rfl, rfl, hI⟩
  · obtain ⟨hk, hop, h2', h6, h7⟩ := h3 rfl
    have i1 := hI.ar0
    have i2 := hI.ar8
    have i3 := hI.ou0
    have i4 := hI.ou1
    have i5 := hI.opn
    have i6 := hI.u
    obtain ⟨u, now, op, tg, at', ar, su, ca, ou⟩ := s
    obtain ⟨k, ru, a, b⟩ := r
    simp only at *
    have hk' : k = 1 ∨ k = 2 ∨ k = 3 ∨ k = 4 ∨ k = 5 ∨ k = 6 ∨ k = 7 := by omega
    rcases hk' with rfl | rfl | rfl | rfl | rfl | rfl | rfl
    · exact ⟨_, rfl, rfl, ⟨d0, d8, d0, d255, fun _ => rfl, hr⟩⟩
    · refine ⟨_, rfl, rfl, ⟨?_, ?_, i3, i4, i5, i6⟩⟩
      · show 0 ≤ w64 (ar + 1)
        rw [w64_id (by omega)]; omega
      · show w64 (ar + 1) ≤ 8
        have := h2' rfl
        rw [w64_id (by omega)]; omega
    · exact ⟨_, rfl, rfl, ⟨i1, i2, i3, i4, i5, i6⟩⟩
    · exact ⟨_, rfl, rfl, ⟨i1, i2, i3, i4, i5, i6⟩⟩
    · have := i5 (hop (by decide) (by decide))
      subst this
      exact ⟨_, rfl, rfl, ⟨d0, d8, d0, d255, fun _ => rfl, i6⟩⟩
    · have := h6 rfl
      exact ⟨_, rfl, rfl, ⟨d0, d8, this.1, this.2, (fun h => by cases h), i6⟩⟩
    · obtain ⟨g1, g2, g3, g4⟩ := h7 rfl
      obtain ⟨a, rfl⟩ : ∃ n : Nat, a = (n : Int) := ⟨a.toNat, by omega⟩
      obtain ⟨ou, rfl⟩ : ∃ n : Nat, ou = (n : Int) := ⟨ou.toNat, by omega⟩
      obtain ⟨b1, b2⟩ := bits_not ⟨ou, by omega⟩ ⟨a, by omega⟩ (by simpa using g4)
      simp only at b1 b2
      have hp : r36_power (a : Int) = _ := power_eq (by omega)
      generalize 2 ^ a = q at b1 b2 hp
      have hw : w64 ((ou : Int) - (q : Int)) = (ou : Int) - (q : Int) := w64_id (by omega)
      refine ⟨((u, now, op, tg, at', ar, su, ca, (ou : Int) - (q : Int)), 0), ?_, ?_, ⟨i1, i2, ?_, ?_, ?_, i6⟩⟩
      · rw [if_neg (by decide), if_neg (by decide), if_neg (by decide), if_neg (by decide), if_neg (by decide), if_neg (by decide), if_neg (by decide), if_pos rfl, shN_is (by omega), Option.bind_some, b1]; rfl
      · rw [if_neg (by decide), if_neg (by decide), if_neg (by decide), if_neg (by decide), if_neg (by decide), if_neg (by decide), if_neg (by decide), if_pos rfl, hp, Option.bind_some, hw]; rfl
      · show 0 ≤ (ou : Int) - (q : Int)
        omega
      · show (ou : Int) - (q : Int) ≤ 255
        omega
      · intro h
        rw [g1] at h; cases h
/-! ### Replay -/
theorem replay_loop {l : List R4} (hl : l.length ≤ 100) (hr : ∀ r ∈ l, i64 r.2.1) : ∀ (d k : Nat), k + d = l.length → ∀ s : S9, Inv s → ∃ e, loopW (journal_Replay_l1 l) ((k : Int), s) = some e ∧ loopW (r36_Replay_l1 l) ((k : Int), s) = some e := by
  intro d
  induction d with
  | zero =>
    intro k hk s hI
    exact ⟨_, loopW_end (by rw [journal_Replay_l1, if_neg (by omega)]), loopW_end (by rw [r36_Replay_l1, if_neg (by omega)])⟩
  | succ d ih =>
    intro k hk s hI
    have hkl : k < l.length := by omega
    obtain ⟨x, h1, h2, h3⟩ := next_eq hI (hr _ (List.getElem_mem hkl))
    by_cases hx : x.2 = 0
    · obtain ⟨e, g1, g2⟩ := ih (k + 1) (by omega) x.1 h3
      refine ⟨e, ?_, ?_⟩
      · rw [loopW_go (s' := (((k + 1 : Nat) : Int), x.1)) ?_, g1]
        rw [journal_Replay_l1, if_pos (by omega), ix_nat (List.getElem?_eq_getElem hkl), Option.bind_some, h1, Option.bind_some, if_neg (by simpa using hx), w64_id (by omega)]; rfl
      · rw [loopW_go (s' := (((k + 1 : Nat) : Int), x.1)) ?_, g2]
        rw [r36_Replay_l1, if_pos (by omega), ix_nat (List.getElem?_eq_getElem hkl), Option.bind_some, h2, Option.bind_some, if_neg (by simpa using hx), w64_id (by omega)]; rfl
    · refine ⟨_, loopW_end (by rw [journal_Replay_l1, if_pos (by omega), ix_nat (List.getElem?_eq_getElem hkl), Option.bind_some, h1, Option.bind_some, if_pos hx]), loopW_end (by rw [r36_Replay_l1, if_pos (by omega), ix_nat (List.getElem?_eq_getElem hkl), Option.bind_some, h2, Option.bind_some, if_pos hx])⟩
theorem inv0 : Inv (0, 0, false, 0, 0, 0, false, false, 0) := ⟨by decide, by decide, by decide, by decide, fun h => rfl, by decide⟩
theorem replay_eq {l : List R4} (hl : l.length ≤ 100) (hr : ∀ r ∈ l, i64 r.2.1) : ∃ x, journal_Replay l = some x ∧ r36_Replay l = some x := by
  obtain ⟨e, h1, h2⟩ := replay_loop hl hr l.length 0 (by omega) _ inv0
  have h1' : loopW (journal_Replay_l1 l) (0, 0, 0, false, 0, 0, 0, false, false, 0) = some e := h1
  have h2' : loopW (r36_Replay_l1 l) (0, 0, 0, false, 0, 0, 0, false, false, 0) = some e := h2
  unfold journal_Replay r36_Replay
  rw [h1', h2']
  cases e with
  | inl s => exact ⟨_, rfl, rfl⟩
  | inr e => exact ⟨_, rfl, rfl⟩
theorem steps_ok {l : List R4} (hl : l.length ≤ 100) (hr : ∀ r ∈ l, i64 r.2.1) : ∃ s, loopW (L36_JournalReplays_l1 l l) (0, 0, 0, false, 0, 0, 0, false, false, 0) = some (.inl s) := by
  have key : ∀ (d k : Nat), k + d = l.length → ∀ s : S9, Inv s → ∃ s', loopW (L36_JournalReplays_l1 l l) ((k : Int), s) = some (.inl s') := by
    intro d
    induction d with
    | zero =>
      intro k hk s hI
      exact ⟨_, loopW_end (by rw [L36_JournalReplays_l1, if_neg (by omega)])⟩
    | succ d ih =>
      intro k hk s hI
      have hkl : k < l.length := by omega
      obtain ⟨x, h1, h2, h3⟩ := next_eq hI (hr _ (List.getElem_mem hkl))
      rw [loopW_go (s' := (((k + 1 : Nat) : Int), x.1)) ?_]
      · exact ih (k + 1) (by omega) x.1 h3
      · rw [L36_JournalReplays_l1, if_pos (by omega), ix_nat (List.getElem?_eq_getElem hkl), Option.bind_some]
        show (journal_Next s _).bind _ = _
        rw [h1, Option.bind_some, Option.bind_some]
        show (r36_Next s _).bind _ = _
        rw [h2, Option.bind_some, if_neg (by simp [L36_State]), w64_id (by omega)]; rfl
  exact key l.length 0 (by omega) _ inv0
theorem mine_eq {l : List R4} (hl : l.length ≤ 1000000000) : L36_Mine l = some l := by
  unfold L36_Mine
  rw [loop_copy l hl (fun a => (a.1, a.2.1, a.2.2.1, a.2.2.2)) (L36_Mine_l1 l) (fun k hk out ho => by
    rw [L36_Mine_l1, if_pos (by omega), ix_nat (List.getElem?_eq_getElem hk)]; rfl) (fun out => by rw [L36_Mine_l1, if_neg (by omega)]), map_id' l (fun a => rfl)]; rfl
/-! ### Fate -/
def Any (u k : Int) (m : List R4) : Bool := m.any fun r => decide (r.2.1 = u) && decide (r.1 = k)
theorem any_cons (u k : Int) (r : R4) (m : List R4) : Any u k (r :: m) = ((decide (r.2.1 = u) && decide (r.1 = k)) || Any u k m) := rfl
theorem count_loop {l : List R4} (hl : l.length ≤ 100) (u k : Int) : ∀ (d j : Nat), j + d = l.length → ∀ c : Nat, c ≤ j → ∃ c' : Nat, c' ≤ l.length ∧ loopW (r36_Count_l1 l u k) ((c : Int), (j : Int)) = some (c' : Int) ∧ (0 < c' ↔ (0 < c ∨ Any u k (l.drop j) = true)) := by
  intro d
  induction d with
  | zero =>
    intro j hj c hc
    refine ⟨c, by omega, loopW_end (by rw [r36_Count_l1, if_neg (by omega)]), ?_⟩
    rw [List.drop_eq_nil_of_le (by omega)]; simp [Any]
  | succ d ih =>
    intro j hj c hc
    have hjl : j < l.length := by omega
    rw [List.drop_eq_getElem_cons hjl, any_cons]
    by_cases h : l[j].2.1 = u ∧ l[j].1 = k
    · obtain ⟨c', h1, h2, h3⟩ := ih (j + 1) (by omega) (c + 1) (by omega)
      refine ⟨c', h1, ?_, ?_⟩
      · rw [loopW_go (s' := (((c + 1 : Nat) : Int), ((j + 1 : Nat) : Int))) ?_, h2]
        rw [r36_Count_l1, if_pos (by omega), ix_nat (List.getElem?_eq_getElem hjl), Option.bind_some, if_pos h.1, Option.bind_some, decide_eq_true h.2, Option.bind_some, if_pos rfl, Option.bind_some, w64_id (by omega), w64_id (by omega)]; rfl
      · rw [h3, decide_eq_true h.1, decide_eq_true h.2]; simp
    · obtain ⟨c', h1, h2, h3⟩ := ih (j + 1) (by omega) c (by omega)
      refine ⟨c', h1, ?_, ?_⟩
      · rw [loopW_go (s' := ((c : Int), ((j + 1 : Nat) : Int))) ?_, h2]
        rw [r36_Count_l1, if_pos (by omega), ix_nat (List.getElem?_eq_getElem hjl), Option.bind_some]
        by_cases h' : l[j].2.1 = u
        · rw [if_pos h', Option.bind_some, decide_eq_false (fun h2 => h ⟨h', h2⟩), Option.bind_some, if_neg (by decide), Option.bind_some, w64_id (by omega)]; rfl
        · rw [if_neg h', Option.bind_some, if_neg (by decide), Option.bind_some, w64_id (by omega)]; rfl
      · rw [h3]
        have : (decide (l[j].2.1 = u) && decide (l[j].1 = k)) = false := by
          rw [← Bool.decide_and]; exact decide_eq_false h
        rw [this]; simp
theorem count_eq {l : List R4} (hl : l.length ≤ 100) (u k : Int) : ∃ c : Nat, c ≤ l.length ∧ r36_Count l u k = some (c : Int) ∧ (0 < c ↔ Any u k l = true) := by
  obtain ⟨c, h1, h2, h3⟩ := count_loop hl u k l.length 0 (by omega) 0 (by omega)
  refine ⟨c, h1, ?_, ?_⟩
  · unfold r36_Count
    rw [show ((0 : Int), (0 : Int)) = (((0 : Nat) : Int), ((0 : Nat) : Int)) from rfl, h2]; rfl
  · rw [h3]; simp
theorem fate_step (l : List R4) (u : Int) {j : Nat} (hj : j < l.length) (hl : l.length ≤ 100) (b0 b1 b2 b3 b4 b5 b6 b7 : Bool) : ∃ c0 c2 c3 c4 c7, journal_Fate_l1 l u ((j : Int), b0, b1, b2, b3, b4, b5, b6, b7) = some (.inl (((j + 1 : Nat) : Int), c0, (b1 || (decide (l[j].2.1 = u) && decide (l[j].1 = 1))), c2, c3, c4, (b5 || (decide (l[j].2.1 = u) && decide (l[j].1 = 5))), (b6 || (decide (l[j].2.1 = u) && decide (l[j].1 = 6))), c7)) := by
  rw [journal_Fate_l1, if_pos (by omega), ix_nat (List.getElem?_eq_getElem hj), Option.bind_some, w64_id (by omega)]
  generalize l[j] = r
  obtain ⟨k, ru, a, b⟩ := r
  simp only
  by_cases h : ru = u ∧ 1 ≤ k ∧ k ≤ 7
  · obtain ⟨rfl, h1, h2⟩ := h
    rw [if_pos (by simp; omega)]
    have hk : k = 1 ∨ k = 2 ∨ k = 3 ∨ k = 4 ∨ k = 5 ∨ k = 6 ∨ k = 7 := by omega
    rcases hk with rfl | rfl | rfl | rfl | rfl | rfl | rfl <;> simp [ix]
  · rw [if_neg (by simpa using h)]
    have e1 : (decide (ru = u) && decide (k = 1)) = false := by rw [← Bool.decide_and]; exact decide_eq_false (fun h' => h ⟨h'.1, by omega, by omega⟩)
    have e5 : (decide (ru = u) && decide (k = 5)) = false := by rw [← Bool.decide_and]; exact decide_eq_false (fun h' => h ⟨h'.1, by omega, by omega⟩)
    have e6 : (decide (ru = u) && decide (k = 6)) = false := by rw [← Bool.decide_and]; exact decide_eq_false (fun h' => h ⟨h'.1, by omega, by omega⟩)
    rw [e1, e5, e6]
    simp
theorem fate_loop {l : List R4} (hl : l.length ≤ 100) (u : Int) : ∀ (d j : Nat), j + d = l.length → ∀ b0 b1 b2 b3 b4 b5 b6 b7 : Bool, ∃ c0 c2 c3 c4 c7, loopW (journal_Fate_l1 l u) ((j : Int), b0, b1, b2, b3, b4, b5, b6, b7) = some (c0, (b1 || Any u 1 (l.drop j)), c2, c3, c4, (b5 || Any u 5 (l.drop j)), (b6 || Any u 6 (l.drop j)), c7) := by
  intro d
  induction d with
  | zero =>
    intro j hj b0 b1 b2 b3 b4 b5 b6 b7
    refine ⟨b0, b2, b3, b4, b7, loopW_end ?_⟩
    rw [journal_Fate_l1, if_neg (by omega), List.drop_eq_nil_of_le (by omega)]
    simp [Any]
  | succ d ih =>
    intro j hj b0 b1 b2 b3 b4 b5 b6 b7
    have hjl : j < l.length := by omega
    obtain ⟨c0, c2, c3, c4, c7, h⟩ := fate_step l u hjl hl b0 b1 b2 b3 b4 b5 b6 b7
    rw [loopW_go h, List.drop_eq_getElem_cons hjl, any_cons, any_cons, any_cons, ← Bool.or_assoc, ← Bool.or_assoc, ← Bool.or_assoc]
    exact ih (j + 1) (by omega) _ _ _ _ _ _ _ _
def fateV (l : List R4) (u : Int) : Int := if Any u 1 l = true then (if Any u 5 l = true then 2 else if Any u 6 l = true then 3 else 1) else 0
theorem fate_eq {l : List R4} (hl : l.length ≤ 100) (u : Int) : journal_Fate l u = some (fateV l u) ∧ r36_Fate l u = some (fateV l u) := by
  unfold fateV
  constructor
  · obtain ⟨c0, c2, c3, c4, c7, h⟩ := fate_loop hl u l.length 0 (by omega) false false false false false false false false
    have h' : loopW (journal_Fate_l1 l u) (0, false, false, false, false, false, false, false, false) = _ := h
    unfold journal_Fate
    rw [h']
    simp only [Bool.false_or, List.drop_zero, Option.bind_some]
    cases Any u 1 l <;> cases Any u 5 l <;> cases Any u 6 l <;> rfl
  · obtain ⟨n1, g1, h1, k1⟩ := count_eq hl u 1
    obtain ⟨n5, g5, h5, k5⟩ := count_eq hl u 5
    obtain ⟨n6, g6, h6, k6⟩ := count_eq hl u 6
    unfold r36_Fate
    rw [h1, Option.bind_some]
    by_cases a1 : 0 < n1
    · rw [if_neg (by omega), h5, Option.bind_some, if_pos (k1.1 a1)]
      by_cases a5 : 0 < n5
      · rw [if_pos (by omega), if_pos (k5.1 a5)]
      · rw [if_neg (by omega), h6, Option.bind_some, if_neg (fun h => a5 (k5.2 h))]
        by_cases a6 : 0 < n6
        · rw [if_pos (by omega), if_pos (k6.1 a6)]
        · rw [if_neg (by omega), if_neg (fun h => a6 (k6.2 h))]
    · rw [if_pos (by omega), if_neg (fun h => a1 (k1.2 h))]
/-! ### The example -/
theorem itoaP_d3 {n : Nat} (h : n < 256) : itoaP (n : Int) = some (d3 n) := by
  rw [itoaP_is (by omega), Lib.itoa_nonneg, dec_d3 (by omega)]
theorem line_d3 (k : Int) (a b c : Nat) (ha : a < 256) (hb : b < 256) (hc : c < 256) : journal_line (k, (a : Int), (b : Int), (c : Int)) = some (journal_word k ++ [32] ++ d3 a ++ [32] ++ d3 b ++ [32] ++ d3 c) := by
  have hw : (journal_word k).length ≤ 7 := by unfold journal_word; repeat' split
                                              all_goals decide
  have la := d3_len a
  have lb := d3_len b
  have lc := d3_len c
  unfold journal_line
  simp only
  rw [app_is (by simp; omega), Option.bind_some, itoaP_d3 ha, Option.bind_some, app_is (by simp; omega), Option.bind_some, app_is (by simp; omega), Option.bind_some, itoaP_d3 hb, Option.bind_some, app_is (by simp; omega), Option.bind_some, app_is (by simp; omega), Option.bind_some, itoaP_d3 hc, Option.bind_some, app_is (by simp; omega), Option.bind_some]
theorem awake36 : L36_awake = some true := by
  have h1 : journal_Replay [(1, 1, 2, 30), (2, 1, 0, 0), (3, 1, 0, 0), (5, 1, 0, 0)] = some ((1, 2, false, 0, 0, 0, false, false, 0), 4, 0) := by
    unfold journal_Replay
    rw [(loopW_iff.2 ⟨5, rfl⟩ : loopW (journal_Replay_l1 [(1, 1, 2, 30), (2, 1, 0, 0), (3, 1, 0, 0), (5, 1, 0, 0)]) (0, 0, 0, false, 0, 0, 0, false, false, 0) = some (.inl (1, 2, false, 0, 0, 0, false, false, 0)))]; rfl
  have h2 := (fate_eq (l := [(1, 1, 2, 30), (2, 1, 0, 0), (3, 1, 0, 0), (5, 1, 0, 0)]) (by decide) 1).1
  have h3 : journal_line (1, 1, 2, 30) = _ := line_d3 1 1 2 30 (by decide) (by decide) (by decide)
  have h4 : journal_line (2, 1, 0, 0) = _ := line_d3 2 1 0 0 (by decide) (by decide) (by decide)
  have h5 : journal_Text [(1, 1, 2, 30), (2, 1, 0, 0)] = some [98, 101, 103, 105, 110, 32, 49, 32, 50, 32, 51, 48, 10, 97, 114, 109, 32, 49, 32, 48, 32, 48, 10] := by
    have s1 : journal_Text_l1 [(1, 1, 2, 30), (2, 1, 0, 0)] (0, []) = some (.inl (1, [98, 101, 103, 105, 110, 32, 49, 32, 50, 32, 51, 48, 10])) := by
      rw [journal_Text_l1, if_pos (by decide), show ix ([(1, 1, 2, 30), (2, 1, 0, 0)] : List R4) 0 = some (1, 1, 2, 30) from rfl, Option.bind_some, h3]; rfl
    have s2 : journal_Text_l1 [(1, 1, 2, 30), (2, 1, 0, 0)] (1, [98, 101, 103, 105, 110, 32, 49, 32, 50, 32, 51, 48, 10]) = some (.inl (2, [98, 101, 103, 105, 110, 32, 49, 32, 50, 32, 51, 48, 10, 97, 114, 109, 32, 49, 32, 48, 32, 48, 10])) := by
      rw [journal_Text_l1, if_pos (by decide), show ix ([(1, 1, 2, 30), (2, 1, 0, 0)] : List R4) 1 = some (2, 1, 0, 0) from rfl, Option.bind_some, h4]; rfl
    unfold journal_Text
    rw [loopW_go s1, loopW_go s2, loopW_end (by rw [journal_Text_l1, if_neg (by decide)])]; rfl
  unfold L36_awake
  rw [h1, h2]
  simp only [Option.bind_some]
  rw [if_pos trivial, if_pos trivial, if_pos (by decide), if_pos (by decide), show subl ([(1, 1, 2, 30), (2, 1, 0, 0), (3, 1, 0, 0), (5, 1, 0, 0)] : List R4) 0 2 = some [(1, 1, 2, 30), (2, 1, 0, 0)] from rfl, Option.bind_some, h5]; rfl
theorem JournalReplays_true (p0 : List (Int × Int × Int × Int)) (ok0 : okL (okP (fun n => (Lit.int .i64 n).wf = true) (okP (fun n => (Lit.int .i64 n).wf = true) (okP (fun n => (Lit.int .i64 n).wf = true) (fun n => (Lit.int .i64 n).wf = true)))) p0) (p1 : Int) (ok1 : (Lit.int .i64 p1).wf = true) : L36_JournalReplays p0 p1 = some true := by
  unfold L36_JournalReplays
  rw [awake36]
  by_cases h : 100 < (p0.length : Int)
  · rw [if_pos h]; rfl
  · have hl : p0.length ≤ 100 := by omega
    have hr : ∀ r ∈ p0, i64 r.2.1 := fun r hr => wf_i64 (ok0.2 r hr).2.1
    obtain ⟨s, hs⟩ := steps_ok hl hr
    obtain ⟨x, h1, h2⟩ := replay_eq hl hr
    rw [if_neg h, mine_eq (by omega), Option.bind_some, hs]
    show ((journal_Replay p0).bind _) = _
    rw [h1, Option.bind_some, h2, Option.bind_some, (fate_eq hl p1).1, (fate_eq hl p1).2, if_pos (by simp [L36_State]), if_pos rfl, if_pos rfl]
    simp
end Go.Proofs.YtdllfdmdfdfilaaDoor
