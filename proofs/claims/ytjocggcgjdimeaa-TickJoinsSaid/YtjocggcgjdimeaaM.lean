/- Layer 1: evaluations. Conditions: none. -/
import Derived.Test.YtjocggcgjdimeaaA1
import Derived.Test.YtjocggcgjdimeaaML
namespace Go.Proofs.Ytjocggcgjdimeaa
set_option linter.unusedVariables false
set_option linter.unusedSimpArgs false
open Go Go.RowKit

def Tm (n : Int) : Prop := -1125899906842624 ≤ n ∧ n ≤ 1125899906842624
instance (n : Int) : Decidable (Tm n) := by unfold Tm; infer_instance
theorem chk_ok {n : Int} (h : Tm n) : tick_checked n = .inl n := by
  unfold tick_checked tick_Clamp Tm at *
  rw [if_neg (by omega)]
theorem chk_no {n : Int} (h : ¬ Tm n) : tick_checked n = .inr () := by
  unfold tick_checked tick_Clamp Tm at *
  rw [if_pos (by omega)]
theorem time_eq (n : Int) : r01_Time n = decide (Tm n) := by
  unfold r01_Time Tm
  rw [← Bool.decide_and]
def twoS (k a b : Int) : Option Int :=
  if k = 2 then (if Tm (a + b) then some (a + b) else none) else if k = 3 then (if Tm (a - b) then some (a - b) else none) else if k = 4 then (if Tm (a * b) then some (a * b) else none)
  else if k = 5 then some (min a b) else some (max a b)
def stepR (s : List Int) (k n : Int) : List Int ⊕ Int :=
  if k = 1 then (if Tm n then .inl (n :: s) else .inr 11)
  else if k = 7 then (match s with | [] => .inr 2 | x :: r => .inl (-x :: r))
  else if k < 2 ∨ 6 < k then .inr 2
  else match s with
    | y :: x :: r => (match twoS k x y with | some z => .inl (z :: r) | none => .inr 11)
    | _ => .inr 2
def okS' (s : List Int) : Prop := ∀ x ∈ s, Tm x
theorem two_T {k a b z : Int} (ha : Tm a) (hb : Tm b) (h : twoS k a b = some z) : Tm z := by
  unfold twoS at h
  by_cases h2 : k = 2
  · rw [if_pos h2] at h; split at h <;> cases h; assumption
  · rw [if_neg h2] at h
    by_cases h3 : k = 3
    · rw [if_pos h3] at h; split at h <;> cases h; assumption
    · rw [if_neg h3] at h
      by_cases h4 : k = 4
      · rw [if_pos h4] at h; split at h <;> cases h; assumption
      · rw [if_neg h4] at h
        unfold Tm at *
        split at h <;> cases h <;> omega
theorem step_T {s q : List Int} {k n : Int} (hs : okS' s) (h : stepR s k n = .inl q) : okS' q ∧ q.length ≤ s.length + 1 := by
  unfold stepR at h
  by_cases h1 : k = 1
  · rw [if_pos h1] at h
    split at h
    · cases h
      exact ⟨fun x hx => (List.mem_cons.1 hx).elim (fun e => e ▸ ‹Tm n›) (hs x), by simp⟩
    · cases h
  · rw [if_neg h1] at h
    by_cases h7 : k = 7
    · rw [if_pos h7] at h
      cases s with
      | nil => cases h
      | cons x r =>
        cases h
        refine ⟨fun y hy => ?_, by simp⟩
        rcases List.mem_cons.1 hy with rfl | hy
        · have := hs x (List.mem_cons_self ..)
          unfold Tm at *; omega
        · exact hs y (List.mem_cons_of_mem _ hy)
    · rw [if_neg h7] at h
      by_cases hk : k < 2 ∨ 6 < k
      · rw [if_pos hk] at h; cases h
      · rw [if_neg hk] at h
        match s, hs, h with
        | [], _, h => cases h
        | [_], _, h => cases h
        | y :: x :: r, hs, h =>
          cases ht : twoS k x y with
          | none => simp only [ht] at h; cases h
          | some z =>
            simp only [ht] at h
            cases h
            refine ⟨fun u hu => ?_, by simp only [List.length_cons]; omega⟩
            rcases List.mem_cons.1 hu with rfl | hu
            · exact two_T (hs x (by simp)) (hs y (by simp)) ht
            · exact hs u (by simp [hu])
/-! ### The program -/
theorem pop_cons (x : Int) (r : List Int) (hl : r.length ≤ 1000) : tick_stack_pop (x :: r).reverse = some (.inl (x, r.reverse)) := by
  unfold tick_stack_pop
  rw [List.reverse_cons]
  have hlen : (r.reverse ++ [x]).length = r.length + 1 := by simp
  rw [hlen, w64_id (by omega), if_neg (by omega)]
  have hix : ix (r.reverse ++ [x]) (((r.length + 1 : Nat) : Int) - 1) = some x := by
    rw [show ((r.length + 1 : Nat) : Int) - 1 = ((r.length : Nat) : Int) by omega]
    refine ix_nat ?_
    rw [List.getElem?_append_right (by simp)]; simp
  rw [hix, Option.bind_some, subl_is (by rw [hlen]; omega), Option.bind_some]
  congr 3
  have : (((r.length + 1 : Nat) : Int) - 1).toNat = r.reverse.length := by rw [List.length_reverse]; omega
  rw [this, List.take_left]; rfl
theorem pop_nil : tick_stack_pop ([] : List Int).reverse = some (.inr []) := by
  unfold tick_stack_pop
  rw [if_pos (by decide)]; rfl
theorem push_eq (s : List Int) (n : Int) (hl : s.length ≤ 1000) : tick_stack_push s.reverse n = some (n :: s).reverse := by
  unfold tick_stack_push
  rw [app_is (by simp; omega), Option.bind_some, List.reverse_cons]
def ans (o : Option Int) : Int ⊕ Unit := match o with | some z => .inl z | none => .inr ()
theorem add_eq {a b : Int} (ha : Tm a) (hb : Tm b) : tick_add a b = some (ans (if Tm (a + b) then some (a + b) else none)) := by
  unfold tick_add
  have h1 := ha
  have h2 := hb
  unfold Tm at h1 h2
  simp only [chk_ok ha, chk_ok hb, Option.bind_some, altS]
  rw [w64_id (by omega)]
  by_cases h : Tm (a + b)
  · rw [chk_ok h, if_pos h]; rfl
  · rw [chk_no h, if_neg h]; rfl
theorem sub_eq {a b : Int} (ha : Tm a) (hb : Tm b) : tick_sub a b = some (ans (if Tm (a - b) then some (a - b) else none)) := by
  unfold tick_sub
  have h1 := ha
  have h2 := hb
  unfold Tm at h1 h2
  simp only [chk_ok ha, chk_ok hb, Option.bind_some, altS]
  rw [w64_id (by omega)]
  by_cases h : Tm (a - b)
  · rw [chk_ok h, if_pos h]; rfl
  · rw [chk_no h, if_neg h]; rfl
theorem prod_abs (a b : Int) : ∃ A B : Int, A = max a (-a) ∧ B = max b (-b) ∧ 0 ≤ A ∧ 0 ≤ B ∧ (a * b = A * B ∨ a * b = -(A * B)) := by
  refine ⟨_, _, rfl, rfl, by omega, by omega, ?_⟩
  rcases Int.lt_or_le a 0 with h1 | h1 <;> rcases Int.lt_or_le b 0 with h2 | h2
  · left; rw [show max a (-a) = -a by omega, show max b (-b) = -b by omega, Int.neg_mul_neg]
  · right; rw [show max a (-a) = -a by omega, show max b (-b) = b by omega, Int.neg_mul, Int.neg_neg]
  · right; rw [show max a (-a) = a by omega, show max b (-b) = -b by omega, Int.mul_neg, Int.neg_neg]
  · left; rw [show max a (-a) = a by omega, show max b (-b) = b by omega]
theorem mul_eq {a b : Int} (ha : Tm a) (hb : Tm b) : tick_mul a b = some (ans (if Tm (a * b) then some (a * b) else none)) := by
  unfold tick_mul
  have h1 := ha
  have h2 := hb
  unfold Tm at h1 h2
  simp only [chk_ok ha, chk_ok hb, Option.bind_some, altS]
  rw [w64_id (x := 0 - a) (by omega), w64_id (x := 0 - b) (by omega), show 0 - a = -a by omega, show 0 - b = -b by omega]
  obtain ⟨A, B, hA, hB, hA0, hB0, hp⟩ := prod_abs a b
  rw [← hA, ← hB]
  have key : (if b ≠ 0 then (dvI .i64 1125899906842624 B).bind fun x8 => some (decide (x8 < A)) else some false) = some (decide (¬ Tm (a * b))) := by
    by_cases hb0 : b = 0
    · rw [if_neg (by simp [hb0])]
      have : Tm (a * b) := by rw [hb0, Int.mul_zero]; unfold Tm; omega
      simp [this]
    · rw [if_pos hb0]
      have hBp : 0 < B := by omega
      have hd : dvI .i64 1125899906842624 B = some (1125899906842624 / B) := by
        unfold dvI
        rw [if_neg (by omega), Int.tdiv_eq_ediv_of_nonneg (by omega)]
        have h3 : 0 ≤ 1125899906842624 / B := Int.ediv_nonneg (by omega) (by omega)
        have h4 : 1125899906842624 / B ≤ 1125899906842624 := Int.ediv_le_self _ (by omega)
        have : IntKind.i64.wrap (1125899906842624 / B) = 1125899906842624 / B := w64_id (by omega)
        rw [this]
      rw [hd, Option.bind_some]
      congr 1
      refine decide_eq_decide.2 ?_
      have h5 : A ≤ 1125899906842624 / B ↔ A * B ≤ 1125899906842624 := Int.le_ediv_iff_mul_le hBp
      have h6 : 0 ≤ A * B := Int.mul_nonneg hA0 hB0
      unfold Tm
      constructor
      · intro h ht
        have : A * B ≤ 1125899906842624 := by omega
        have := h5.2 this
        omega
      · intro h
        rcases Int.lt_or_le (1125899906842624 / B) A with h7 | h7
        · exact h7
        · have := h5.1 h7
          exact absurd (by omega) h
  rw [key, Option.bind_some]
  by_cases h : Tm (a * b)
  · rw [if_neg (by simp [h]), if_pos h]
    have h7 := h
    unfold Tm at h7
    rw [w64_id (by omega)]; rfl
  · rw [if_pos (by simp [h]), if_neg h]; rfl
/-- What a step of the program answers. -/
theorem perform_eq (s : List Int) (k n : Int) (hs : okS' s) (hl : s.length ≤ 1000) : (∀ q, stepR s k n = .inl q → tick_stack_perform s.reverse (k, n) = some (.inl q.reverse)) ∧ (∀ e, stepR s k n = .inr e → ∃ p, tick_stack_perform s.reverse (k, n) = some (.inr (e, p))) := by
  have key : match stepR s k n with | .inl q => tick_stack_perform s.reverse (k, n) = some (.inl q.reverse) | .inr e => ∃ p, tick_stack_perform s.reverse (k, n) = some (.inr (e, p)) := by
    unfold tick_stack_perform stepR
    simp only
    by_cases h1 : k = 1
    · rw [if_pos h1, if_pos h1]
      by_cases hn : Tm n
      · rw [if_pos hn, chk_ok hn]
        simp only [Option.bind_some, altS]
        rw [push_eq _ _ hl]; rfl
      · rw [if_neg hn, chk_no hn]; exact ⟨_, rfl⟩
    · rw [if_neg h1, if_neg h1]
      by_cases h7 : k = 7
      · rw [if_pos h7, if_pos h7]
        cases s with
        | nil => rw [pop_nil]; exact ⟨_, rfl⟩
        | cons x r =>
          have hx := hs x (List.mem_cons_self ..)
          have hx2 := hx
          unfold Tm at hx2
          simp only [List.length_cons] at hl
          rw [pop_cons x r (by omega)]
          simp only [Option.bind_some, altS]
          rw [sub_eq (by unfold Tm; omega) hx, if_pos (by unfold Tm; omega)]
          simp only [Option.bind_some, ans]
          rw [push_eq _ _ (by omega), Int.zero_sub]; rfl
      · rw [if_neg h7, if_neg h7]
        unfold tick_stack_combine
        by_cases hk : k < 2 ∨ 6 < k
        · rw [if_pos hk, if_pos (by simpa using hk)]; exact ⟨_, rfl⟩
        · rw [if_neg hk, if_neg (by simpa using hk)]
          match s, hs, hl with
          | [], _, _ => rw [pop_nil]; exact ⟨_, rfl⟩
          | [y], _, _ =>
            rw [pop_cons y [] (by simp)]
            simp only [Option.bind_some, altS]
            rw [pop_nil]; exact ⟨_, rfl⟩
          | y :: x :: r, hs, hl =>
            have hx := hs x (by simp)
            have hy := hs y (by simp)
            simp only [List.length_cons] at hl
            rw [pop_cons y (x :: r) (by simp; omega)]
            simp only [Option.bind_some, altS]
            rw [pop_cons x r (by omega)]
            simp only [Option.bind_some, altS, add_eq hx hy, sub_eq hx hy, mul_eq hx hy, push_eq _ _ (show r.length ≤ 1000 by omega)]
            unfold twoS
            by_cases c2 : k = 2
            · rw [if_pos c2, if_pos c2]
              by_cases ht : Tm (x + y)
              · simp only [ht, if_true, ans, Option.bind_some]
              · simp only [ht, if_false, ans, Option.bind_some]; exact ⟨_, rfl⟩
            · rw [if_neg c2, if_neg c2]
              by_cases c3 : k = 3
              · rw [if_pos c3, if_pos c3]
                by_cases ht : Tm (x - y)
                · simp only [ht, if_true, ans, Option.bind_some]
                · simp only [ht, if_false, ans, Option.bind_some]; exact ⟨_, rfl⟩
              · rw [if_neg c3, if_neg c3]
                by_cases c4 : k = 4
                · rw [if_pos c4, if_pos c4]
                  by_cases ht : Tm (x * y)
                  · simp only [ht, if_true, ans, Option.bind_some]
                  · simp only [ht, if_false, ans, Option.bind_some]; exact ⟨_, rfl⟩
                · rw [if_neg c4, if_neg c4]
                  by_cases c5 : k = 5
                  · rw [if_pos c5, if_pos c5]; rfl
                  · rw [if_neg c5, if_neg c5, if_pos (by omega)]; rfl
  constructor
  · intro q hq; rw [hq] at key; exact key
  · intro e he; rw [he] at key; exact key
/-! ### The reference -/
theorem orR_inl {α β : Type} (t : α) (k : α → Option β) : orR (some (Sum.inl t)) k = k t := rfl
theorem orR_inr {α β : Type} (e : β) (k : α → Option β) : orR (some (Sum.inr e)) k = some e := rfl
theorem radd_eq {a b : Int} (ha : Tm a) (hb : Tm b) : r01_Add a b = if Tm (a + b) then (a + b, 0) else (0, 11) := by
  unfold r01_Add
  have h1 := ha
  have h2 := hb
  unfold Tm at h1 h2
  rw [time_eq, time_eq, time_eq, w64_id (by omega)]
  by_cases h : Tm (a + b)
  · rw [if_pos h, if_neg (by simp [ha, hb, h])]
  · rw [if_neg h, if_pos (by simp [h])]
theorem rneg_eq {a : Int} (ha : Tm a) : r01_Neg a = (-a, 0) := by
  unfold r01_Neg
  have h1 := ha
  unfold Tm at h1
  rw [time_eq, if_neg (by simp [ha]), w64_id (by omega), Int.zero_sub]
theorem rsub_eq {a b : Int} (ha : Tm a) (hb : Tm b) : r01_Sub a b = if Tm (a - b) then (a - b, 0) else (0, 11) := by
  unfold r01_Sub
  have hb2 : Tm (-b) := by unfold Tm at *; omega
  rw [rneg_eq hb, if_neg (by simp)]
  simp only
  rw [radd_eq ha hb2, show a + -b = a - b by omega]
def nxt {σ ε : Type} (f : σ → Option ε) (o : σ ⊕ ε) : Option ε := match o with | .inl s => f s | .inr e => some e
theorem loopW_nxt {σ ε : Type} (step : σ → Option (σ ⊕ ε)) (s : σ) : loopW step s = (step s).bind (nxt (loopW step)) := by
  rw [loopW_eq]
  rfl
theorem mul_loop (P : Int) : ∀ (a b s : Int), 0 ≤ b → b ≤ 1125899906842624 → Tm a → Tm s → ((0 ≤ a ∧ 0 ≤ s) ∨ (a ≤ 0 ∧ s ≤ 0)) → s + a * b = P → orR (loopW r01_Mul_l1 (a, b, s)) (fun x => some (x, (0 : Int))) = some (if Tm P then (P, 0) else (0, 11)) := by
  have key : ∀ (n : Nat) (a b s : Int), b.toNat = n → 0 ≤ b → b ≤ 1125899906842624 → Tm a → Tm s → ((0 ≤ a ∧ 0 ≤ s) ∨ (a ≤ 0 ∧ s ≤ 0)) → s + a * b = P → orR (loopW r01_Mul_l1 (a, b, s)) (fun x => some (x, (0 : Int))) = some (if Tm P then (P, 0) else (0, 11)) := by
    intro n
    induction n using Nat.strongRecOn with
    | _ n ih =>
      intro a b s hn hb hbm ha hs hsg hP
      have ha' := ha
      have hs' := hs
      unfold Tm at ha' hs'
      rw [loopW_nxt, r01_Mul_l1]
      by_cases hb0 : 0 < b
      · rw [if_pos hb0, Int.tmod_eq_emod_of_nonneg hb, Int.tdiv_eq_ediv_of_nonneg hb, w64_id (x := s + a) (by omega), w64_id (x := b / 2) (by omega), w64_id (x := a + a) (by omega)]
        obtain ⟨q, hq⟩ : ∃ q, b / 2 = q := ⟨_, rfl⟩
        rw [hq]
        have hq0 : 0 ≤ q := by omega
        have hab : a * b = 2 * (a * q) + a * (b % 2) := by
          have e : b = 2 * q + b % 2 := by omega
          have e2 : a * b = a * (2 * q + b % 2) := by rw [← e]
          rw [e2, Int.mul_add, ← Int.mul_assoc, Int.mul_comm a 2, Int.mul_assoc]
        have hsign : (0 ≤ a → 0 ≤ a * q) ∧ (a ≤ 0 → a * q ≤ 0) := ⟨fun h => Int.mul_nonneg h hq0, fun h => Int.mul_nonpos_of_nonpos_of_nonneg h hq0⟩
        have hbig : 0 < q → (0 ≤ a → a ≤ a * q) ∧ (a ≤ 0 → a * q ≤ a) := fun hq1 => by
          refine ⟨fun h => ?_, fun h => ?_⟩
          · have := Int.mul_le_mul_of_nonneg_left (show (1 : Int) ≤ q by omega) h
            omega
          · have := Int.mul_le_mul_of_nonneg_left (show (1 : Int) ≤ q by omega) (show 0 ≤ -a by omega)
            rw [Int.neg_mul, Int.neg_mul] at this
            omega
        have h2q : (a + a) * q = 2 * (a * q) := by rw [Int.add_mul]; omega
        have rest : ∀ s', Tm s' → ((0 ≤ a ∧ 0 ≤ s') ∨ (a ≤ 0 ∧ s' ≤ 0)) → s' + 2 * (a * q) = P → orR ((if 0 < q then (if (!(r01_Time (a + a))) = true then some (.inr (.inr (0, 11))) else some (.inl (a + a, q, s'))) else some (.inl (a, q, s')) : Option ((Int × Int × Int) ⊕ (Int ⊕ (Int × Int)))).bind (nxt (loopW r01_Mul_l1))) (fun x => some (x, (0 : Int))) = some (if Tm P then (P, 0) else (0, 11)) := by
          intro s' hs2 hsg2 hP2
          have hs2' := hs2
          unfold Tm at hs2'
          by_cases hq1 : 0 < q
          · rw [if_pos hq1, time_eq]
            have hb2 := hbig hq1
            by_cases h2 : Tm (a + a)
            · rw [if_neg (by simp [h2])]
              exact ih q.toNat (by omega) (a + a) q s' rfl hq0 (by omega) h2 hs2 (by omega) (by rw [h2q]; exact hP2)
            · rw [if_pos (by simp [h2])]
              have : ¬ Tm P := by
                unfold Tm at h2 ⊢
                generalize a * q = t at *
                omega
              rw [if_neg this]; rfl
          · rw [if_neg hq1]
            have hq2 : q = 0 := by omega
            subst hq2
            exact ih 0 (by omega) a 0 s' rfl (by omega) (by omega) ha hs2 hsg2 (by rw [Int.mul_zero] at hP2 ⊢; omega)
        by_cases hodd : b % 2 = 1
        · rw [if_pos hodd, time_eq]
          rw [hodd, Int.mul_one] at hab
          by_cases h1 : Tm (s + a)
          · rw [if_neg (by simp [h1])]
            rw [orR_inl]
            exact rest (s + a) h1 (by omega) (by omega)
          · rw [if_pos (by simp [h1])]
            have : ¬ Tm P := by
              unfold Tm at h1 ⊢
              generalize a * q = t at *
              omega
            rw [if_neg this]; rfl
        · rw [if_neg hodd]
          have hev : b % 2 = 0 := by omega
          rw [hev, Int.mul_zero] at hab
          rw [orR_inl]
          exact rest s hs hsg (by omega)
      · rw [if_neg hb0]
        have hb2 : b = 0 := by omega
        subst hb2
        rw [Int.mul_zero, Int.add_zero] at hP
        subst hP
        rw [if_pos hs]; rfl
  exact fun a b s => key b.toNat a b s rfl
theorem rmul_eq {a b : Int} (ha : Tm a) (hb : Tm b) : r01_Mul a b = some (if Tm (a * b) then (a * b, 0) else (0, 11)) := by
  unfold r01_Mul
  have h1 := ha
  have h2 := hb
  unfold Tm at h1 h2
  rw [time_eq, time_eq, if_neg (by simp [ha, hb])]
  by_cases hn : b < 0
  · rw [if_pos hn, Option.bind_some, w64_id (by omega), w64_id (by omega)]
    exact mul_loop _ _ _ _ (by omega) (by omega) (by unfold Tm; omega) (by unfold Tm; omega) (by omega) (by rw [show 0 - a = -a by omega, show 0 - b = -b by omega, Int.neg_mul_neg, Int.zero_add])
  · rw [if_neg hn, Option.bind_some]
    exact mul_loop _ _ _ _ (by omega) (by omega) ha (by unfold Tm; omega) (by omega) (by rw [Int.zero_add])
theorem rtwo_eq {k a b : Int} (hk : ¬ (k < 2 ∨ 6 < k)) (ha : Tm a) (hb : Tm b) : r01_two k a b = some (match twoS k a b with | some z => (z, 0) | none => (0, 11)) := by
  unfold r01_two twoS
  rw [radd_eq ha hb, rsub_eq ha hb, rmul_eq ha hb]
  by_cases c2 : k = 2
  · rw [if_pos c2, if_pos c2]; by_cases h : Tm (a + b) <;> simp [h]
  · rw [if_neg c2, if_neg c2]
    by_cases c3 : k = 3
    · rw [if_pos c3, if_pos c3]; by_cases h : Tm (a - b) <;> simp [h]
    · rw [if_neg c3, if_neg c3]
      by_cases c4 : k = 4
      · rw [if_pos c4, if_pos c4]; by_cases h : Tm (a * b) <;> simp [h]
      · rw [if_neg c4, if_neg c4]
        by_cases c5 : k = 5
        · rw [if_pos c5, if_pos c5]
          by_cases h : a < b
          · rw [if_pos h]; simp only; congr 2; omega
          · rw [if_neg h]; simp only; congr 2; omega
        · rw [if_neg c5, if_neg c5]
          by_cases h : b < a
          · rw [if_pos h]; simp only; congr 2; omega
          · rw [if_neg h]; simp only; congr 2; omega
theorem rev_last (x : Int) (r : List Int) : ix (x :: r).reverse (((x :: r).reverse.length : Int) - 1) = some x ∧ ∀ y, ix (y :: x :: r).reverse (((y :: x :: r).reverse.length : Int) - 2) = some x := by
  constructor
  · rw [List.reverse_cons, show (((r.reverse ++ [x]).length : Nat) : Int) - 1 = ((r.length : Nat) : Int) by rw [List.length_append, List.length_reverse, List.length_singleton]; omega]
    refine ix_nat ?_
    rw [List.getElem?_append_right (by simp)]; simp
  · intro y
    rw [List.reverse_cons, List.reverse_cons, show (((r.reverse ++ [x] ++ [y]).length : Nat) : Int) - 2 = ((r.length : Nat) : Int) by rw [List.length_append, List.length_append, List.length_reverse, List.length_singleton, List.length_singleton]; omega]
    refine ix_nat ?_
    rw [List.append_assoc, List.getElem?_append_right (by simp)]; simp
theorem rev_sub (l r : List Int) (n : Int) (h : n = l.length) : subl (l ++ r).reverse 0 (((l ++ r).reverse.length : Int) - n) = some r.reverse := by
  subst h
  have e : (((l ++ r).reverse.length : Nat) : Int) - (l.length : Int) = ((r.length : Nat) : Int) := by rw [List.length_reverse, List.length_append]; omega
  rw [e, subl_is (by rw [List.length_reverse, List.length_append]; omega), Int.toNat_natCast, List.reverse_append]
  have : r.length = r.reverse.length := by simp
  rw [this, List.take_left]; rfl
theorem stepR_2 {k : Int} (h1 : ¬ k = 1) (h7 : ¬ k = 7) (hk : ¬ (k < 2 ∨ 6 < k)) (n : Int) : stepR [] k n = .inr 2 ∧ (∀ y, stepR [y] k n = .inr 2) ∧ ∀ y x r, stepR (y :: x :: r) k n = match twoS k x y with | some z => .inl (z :: r) | none => .inr 11 := by
  unfold stepR
  simp only [if_neg h1, if_neg h7, if_neg hk]
  exact ⟨trivial, fun _ => trivial, fun _ _ _ => trivial⟩
/-- A step of the reference. -/
theorem rstep_eq (l : List (Int × Int)) (i : Nat) (k n : Int) (s : List Int) (hg : l[i]? = some (k, n)) (hs : okS' s) (hl : s.length ≤ 1000) (hi : i ≤ 1000000) :
    r01_Eval_l1 l (s.reverse, (i : Int)) = some (match stepR s k n with | .inl q => .inl (q.reverse, ((i + 1 : Nat) : Int)) | .inr e => .inr (.inr (0, e))) := by
  have hil := (List.getElem?_eq_some_iff.1 hg).1
  have hw : w64 ((i : Int) + 1) = ((i + 1 : Nat) : Int) := by rw [w64_id (by omega)]; rfl
  have hlen : s.reverse.length = s.length := List.length_reverse
  rw [r01_Eval_l1, if_pos (by omega), ix_nat hg]
  simp only [Option.bind_some, hw]
  by_cases h1 : k = 1
  · have h7 : ¬ k = 7 := by omega
    have hst : stepR s k n = if Tm n then .inl (n :: s) else .inr 11 := by unfold stepR; rw [if_pos h1]
    rw [if_pos h1, Option.bind_some, if_neg h7, Option.bind_some, if_neg (show ¬ ((decide (k < 1) || (decide (7 < k) || decide ((s.reverse.length : Int) < 0))) = true) by simp only [Bool.or_eq_true, decide_eq_true_eq]; omega), if_neg h7]
    dsimp only [Option.bind_some, Option.bind]
    rw [if_neg (show ¬ ((0 : Int) = 2) by decide)]
    dsimp only [Option.bind_some, Option.bind]
    rw [time_eq, hst]
    by_cases hn : Tm n
    · have e0 := rev_sub [] s 0 rfl
      rw [List.nil_append] at e0
      rw [if_neg (by simp [hn]), w64_id (x := _ - 0) (by omega), e0]
      dsimp only
      rw [app_is (by rw [hlen]; simp; omega)]
      dsimp only
      rw [app_is (by rw [List.nil_append, hlen]; simp; omega), if_pos hn]
      simp
    · rw [if_pos (by simp [hn]), if_neg hn]
  · rw [if_neg h1, Option.bind_some]
    by_cases h7 : k = 7
    · rw [if_pos h7, Option.bind_some]
      cases s with
      | nil =>
        have hst : stepR [] k n = .inr 2 := by unfold stepR; rw [if_neg h1, if_pos h7]
        rw [if_pos (show (decide (k < 1) || (decide (7 < k) || decide ((([] : List Int).reverse.length : Int) < 1))) = true by simp), hst]
      | cons x r =>
        have hst : stepR (x :: r) k n = .inl (-x :: r) := by unfold stepR; rw [if_neg h1, if_pos h7]
        have hx := hs x (List.mem_cons_self ..)
        have hx2 : Tm (-x) := by unfold Tm at *; omega
        have hlen2 : (x :: r).reverse.length = r.length + 1 := by rw [List.length_reverse, List.length_cons]
        simp only [List.length_cons] at hl
        rw [if_neg (show ¬ ((decide (k < 1) || (decide (7 < k) || decide ((((x :: r).reverse.length : Nat) : Int) < 1))) = true) by simp only [Bool.or_eq_true, decide_eq_true_eq]; omega), if_pos h7]
        rw [w64_id (x := _ - 1) (by omega), (rev_last x r).1]
        dsimp only [Option.bind_some, Option.bind]
        rw [rneg_eq hx]
        dsimp only
        rw [if_neg (show ¬ ((1 : Int) = 2) by decide)]
        dsimp only
        have e0 := rev_sub [x] r 1 rfl
        rw [List.singleton_append] at e0
        rw [time_eq, if_neg (by simp [hx2]), e0]
        dsimp only
        rw [app_is (by rw [List.length_reverse]; simp; omega)]
        dsimp only
        rw [app_is (by rw [List.nil_append, List.length_reverse]; simp; omega), hst]
        simp
    · rw [if_neg h7, Option.bind_some]
      by_cases hk : k < 2 ∨ 6 < k
      · have hst : stepR s k n = .inr 2 := by unfold stepR; rw [if_neg h1, if_neg h7, if_pos hk]
        rw [if_pos (show (decide (k < 1) || (decide (7 < k) || decide ((s.reverse.length : Int) < 2))) = true by simp only [Bool.or_eq_true, decide_eq_true_eq]; omega), hst]
      · have h2 := stepR_2 h1 h7 hk n
        match s, hs, hl, hlen with
        | [], _, _, _ => rw [if_pos (by simp), h2.1]
        | [y], _, _, _ => rw [if_pos (by simp), h2.2.1]
        | y :: x :: r, hs, hl, hlen =>
          have hx := hs x (by simp)
          have hy := hs y (by simp)
          have hlen2 : (y :: x :: r).reverse.length = r.length + 2 := by rw [List.length_reverse, List.length_cons, List.length_cons]
          simp only [List.length_cons] at hl
          rw [if_neg (show ¬ ((decide (k < 1) || (decide (7 < k) || decide ((((y :: x :: r).reverse.length : Nat) : Int) < 2))) = true) by simp only [Bool.or_eq_true, decide_eq_true_eq]; omega), if_neg h7]
          dsimp only [Option.bind_some, Option.bind]
          rw [if_pos rfl]
          rw [w64_id (x := _ - 2) (by omega), w64_id (x := _ - 1) (by omega), (rev_last x r).2 y, (rev_last y (x :: r)).1]
          dsimp only
          rw [rtwo_eq hk hx hy]
          dsimp only
          rw [h2.2.2]
          cases ht : twoS k x y with
          | none => simp [time_eq]
          | some z =>
            have hz := two_T hx hy ht
            have e0 := rev_sub [y, x] r 2 rfl
            rw [show [y, x] ++ r = y :: x :: r from rfl] at e0
            dsimp only
            rw [time_eq, if_neg (by simp [hz]), e0]
            dsimp only
            rw [app_is (by rw [List.length_reverse]; simp; omega)]
            dsimp only
            rw [app_is (by rw [List.nil_append, List.length_reverse]; simp; omega)]
            simp
/-! ### Whole evaluations -/
def runR : List Int → List (Int × Int) → List Int ⊕ Int
  | s, [] => .inl s
  | s, (k, n) :: l => match stepR s k n with | .inl q => runR q l | .inr e => .inr e
def evalS (l : List (Int × Int)) : Int × Int := if 64 < l.length then (0, 3) else match runR [] l with | .inl [x] => (x, 0) | .inl _ => (0, 2) | .inr e => (0, e)
theorem run_T : ∀ (l : List (Int × Int)) (s q : List Int), okS' s → runR s l = .inl q → okS' q ∧ q.length ≤ s.length + l.length
  | [], s, q, hs, h => by cases h; exact ⟨hs, by simp⟩
  | (k, n) :: l, s, q, hs, h => by
    unfold runR at h
    cases hst : stepR s k n with
    | inr e => rw [hst] at h; cases h
    | inl t =>
      rw [hst] at h
      have h1 := step_T hs hst
      have h2 := run_T l t q h1.1 h
      exact ⟨h2.1, by simp only [List.length_cons]; omega⟩
theorem run_app : ∀ (l m : List (Int × Int)) (s : List Int), runR s (l ++ m) = match runR s l with | .inl q => runR q m | .inr e => .inr e
  | [], m, s => rfl
  | (k, n) :: l, m, s => by
    show (match stepR s k n with | .inl q => runR q (l ++ m) | .inr e => .inr e) = match (match stepR s k n with | .inl q => runR q l | .inr e => .inr e) with | .inl q => runR q m | .inr e => .inr e
    cases stepR s k n with
    | inl q => exact run_app l m q
    | inr e => rfl
theorem ploop (l : List (Int × Int)) (hl : l.length ≤ 64) (K : List Int → Option (Int × Int)) : ∀ (m i : Nat) (s : List Int), l.length - i = m → i ≤ l.length → okS' s → s.length ≤ i → orR (loopW (tick_Eval_l1 l) ((i : Int), s.reverse)) K = match runR s (l.drop i) with | .inl q => K q.reverse | .inr e => some (0, e) := by
  intro m
  induction m with
  | zero =>
    intro i s hm hi hs hsl
    have : i = l.length := by omega
    subst this
    rw [loopW_eq, tick_Eval_l1, if_neg (by omega), List.drop_length]; rfl
  | succ m ih =>
    intro i s hm hi hs hsl
    have hil : i < l.length := by omega
    obtain ⟨k, n, hkn⟩ : ∃ k n, l[i] = (k, n) := ⟨_, _, rfl⟩
    have hg : l[i]? = some (k, n) := by rw [List.getElem?_eq_getElem hil, hkn]
    have hp := perform_eq s k n hs (by omega)
    rw [loopW_eq, tick_Eval_l1, if_pos (by omega), ix_nat hg, List.drop_eq_getElem_cons hil, hkn]
    have hw : w64 ((i : Int) + 1) = ((i + 1 : Nat) : Int) := by rw [w64_id (by omega)]; rfl
    simp only [Option.bind_some, hw]
    unfold runR
    cases hst : stepR s k n with
    | inl q =>
      have h1 := step_T hs hst
      rw [hp.1 q hst]
      exact ih (i + 1) q (by omega) (by omega) h1.1 (by omega)
    | inr e =>
      obtain ⟨p, hp2⟩ := hp.2 e hst
      rw [hp2]; rfl
theorem rloop (l : List (Int × Int)) (hl : l.length ≤ 64) (K : List Int → Option (Int × Int)) : ∀ (m i : Nat) (s : List Int), l.length - i = m → i ≤ l.length → okS' s → s.length ≤ i → orR (loopW (r01_Eval_l1 l) (s.reverse, (i : Int))) K = match runR s (l.drop i) with | .inl q => K q.reverse | .inr e => some (0, e) := by
  intro m
  induction m with
  | zero =>
    intro i s hm hi hs hsl
    have : i = l.length := by omega
    subst this
    rw [loopW_eq, r01_Eval_l1, if_neg (by omega), List.drop_length]; rfl
  | succ m ih =>
    intro i s hm hi hs hsl
    have hil : i < l.length := by omega
    obtain ⟨k, n, hkn⟩ : ∃ k n, l[i] = (k, n) := ⟨_, _, rfl⟩
    have hg : l[i]? = some (k, n) := by rw [List.getElem?_eq_getElem hil, hkn]
    rw [loopW_eq, rstep_eq l i k n s hg hs (by omega) (by omega), List.drop_eq_getElem_cons hil, hkn]
    unfold runR
    cases hst : stepR s k n with
    | inl q =>
      have h1 := step_T hs hst
      exact ih (i + 1) q (by omega) (by omega) h1.1 (by omega)
    | inr e => rfl
theorem eval_eq (l : List (Int × Int)) : tick_Eval l = some (evalS l) := by
  unfold tick_Eval evalS
  by_cases h : 64 < l.length
  · rw [if_pos (by omega), if_pos h]
  · rw [if_neg (by omega), if_neg h]
    have hp := ploop l (by omega) (fun x1 => (if (x1.length : Int) ≠ 1 then some (0, 2) else (tick_stack_pop x1).bind fun x8 => altS x8 (fun x9 => some (x9.1, 0)) (fun x10 => some ((tick_Eval_1_catch 0 0 2).1, (tick_Eval_1_catch 0 0 2).2)))) l.length 0 [] (by omega) (by omega) (fun x hx => by cases hx) (by simp)
    rw [List.drop_zero] at hp
    rw [show ((0 : Int), ([] : List Int)) = (((0 : Nat) : Int), ([] : List Int).reverse) from rfl, hp]
    cases hr : runR [] l with
    | inr e => rfl
    | inl q =>
      match q with
      | [] => rfl
      | [x] =>
        simp only
        rw [if_neg (by simp), pop_cons x [] (by simp)]; rfl
      | x :: y :: r =>
        simp only
        rw [if_pos (by simp; omega)]
theorem reval_eq (l : List (Int × Int)) : r01_Eval l = some (evalS l) := by
  unfold r01_Eval evalS
  by_cases h : 64 < l.length
  · rw [if_pos (by omega), if_pos h]
  · rw [if_neg (by omega), if_neg h]
    have hp := rloop l (by omega) (fun x1 => (if (x1.length : Int) ≠ 1 then some (0, 2) else (ix x1 0).bind fun x19 => some (x19, 0))) l.length 0 [] (by omega) (by omega) (fun x hx => by cases hx) (by simp)
    rw [List.drop_zero] at hp
    rw [show (([] : List Int), (0 : Int)) = (([] : List Int).reverse, ((0 : Nat) : Int)) from rfl, hp]
    cases hr : runR [] l with
    | inr e => rfl
    | inl q =>
      match q with
      | [] => rfl
      | [x] => rfl
      | x :: y :: r =>
        simp only
        rw [if_pos (by simp; omega)]
theorem mine_eq (l : List (Int × Int)) (hl : l.length ≤ 1000000) : L01_mine l = some l := by
  unfold L01_mine
  have hlo : loopW (L01_mine_l1 l) (([] : List (Int × Int)), 0) = some l := by
    refine loopW_is (fun s => ∃ k : Nat, k ≤ l.length ∧ s = (l.take k, (k : Int))) (fun s => l.length - s.2.toNat) _ ?_ _ ⟨0, by omega, by simp⟩
    rintro s ⟨k, hk, rfl⟩
    by_cases hkl : k < l.length
    · left
      have hg : l[k]? = some l[k] := List.getElem?_eq_getElem hkl
      refine ⟨(l.take (k + 1), ((k + 1 : Nat) : Int)), ?_, ⟨k + 1, by omega, rfl⟩, by simp; omega⟩
      rw [L01_mine_l1, if_pos (by omega), ix_nat hg]
      simp only [Option.bind_some]
      rw [app_is (by simp; omega), Option.bind_some, w64_id (by omega), List.take_succ_eq_append_getElem hkl]
      rfl
    · right
      have : k = l.length := by omega
      subst this
      rw [L01_mine_l1, if_neg (by omega), List.take_length]
  rw [hlo]; rfl
theorem bindT {o : Option Bool} (h : o = some true) : (o.bind fun x => some x) = some true := by rw [h]; rfl
theorem awake1 : L01_awake = some true := by
  unfold L01_awake
  rw [eval_eq, Option.bind_some]
  have e1 : evalS [(1, 3), (1, 4), (4, 0), (7, 0)] = (-12, 0) := by decide +kernel
  have e2 : tick_Add 1125899906842624 1 = some (0, 11) := by
    unfold tick_Add
    rw [add_eq (by unfold Tm; decide) (by unfold Tm; decide), if_neg (by unfold Tm; decide)]
    rfl
  rw [e1, e2]; rfl
theorem TickEvals_true (p0 : List (Int × Int)) (ok0 : okL (okP (fun n => (Lit.int .i64 n).wf = true) (fun n => (Lit.int .i64 n).wf = true)) p0) : L01_TickEvals p0 = some true := by
  unfold L01_TickEvals
  by_cases h : 80 < (p0.length : Int)
  · rw [if_pos h]; exact bindT awake1
  · rw [if_neg h, mine_eq _ (by omega), Option.bind_some, eval_eq, reval_eq]
    simp [awake1]
theorem TickJoins_true (p0 : List (Int × Int)) (ok0 : okL (okP (fun n => (Lit.int .i64 n).wf = true) (fun n => (Lit.int .i64 n).wf = true)) p0) (p1 : List (Int × Int)) (ok1 : okL (okP (fun n => (Lit.int .i64 n).wf = true) (fun n => (Lit.int .i64 n).wf = true)) p1) : L01_TickJoins p0 p1 = some true := by
  unfold L01_TickJoins
  by_cases h : 30 < (p0.length : Int) ∨ 30 < (p1.length : Int)
  · rw [if_pos (by simpa using h)]; exact bindT awake1
  · rw [if_neg (by simpa using h), mine_eq _ (by omega), mine_eq p1 (by omega)]
    simp only [Option.bind_some, eval_eq]
    by_cases he : (evalS p0).2 ≠ 0
    · have h0 : (evalS p0).1 = 0 := by
        unfold evalS at he ⊢
        rw [if_neg (by omega)] at he ⊢
        cases hr : runR [] p0 with
        | inr e => rfl
        | inl q =>
          rw [hr] at he
          match q, he with
          | [], _ => rfl
          | [x], he => exact absurd rfl he
          | x :: y :: r, _ => rfl
      rw [if_pos he, if_pos h0]; exact bindT (bindT awake1)
    · rw [if_neg he, app_is (by omega), Option.bind_some, app_is (by simp; omega), Option.bind_some]
      obtain ⟨x, hx⟩ : ∃ x, runR [] p0 = .inl [x] := by
        unfold evalS at he
        rw [if_neg (by omega)] at he
        cases hr : runR [] p0 with
        | inr e =>
          rw [hr] at he
          exfalso
          have : ∀ (l : List (Int × Int)) (s : List Int) (e : Int), runR s l = .inr e → e ≠ 0 := by
            intro l
            induction l with
            | nil => intro s e h; cases h
            | cons a l ih =>
              intro s e h
              unfold runR at h
              cases hst : stepR s a.1 a.2 with
              | inl q => rw [hst] at h; exact ih q e h
              | inr f =>
                rw [hst] at h
                cases h
                unfold stepR at hst
                repeat' split at hst
                all_goals (first | (cases hst; done) | (cases hst; decide))
          exact he (this _ _ _ hr)
        | inl q =>
          rw [hr] at he
          match q, he with
          | [], he => exact absurd (show (2 : Int) ≠ 0 by decide) he
          | [x], _ => exact ⟨x, rfl⟩
          | x :: y :: r, he => exact absurd (show (2 : Int) ≠ 0 by decide) he
      have hT : Tm x := (run_T p0 [] [x] (fun y hy => by cases hy) hx).1 x (by simp)
      have e1 : (evalS p0).1 = x := by unfold evalS; rw [if_neg (by omega), hx]
      have e2 : evalS (p0 ++ p1) = evalS ([(1, (evalS p0).1)] ++ p1) := by
        rw [e1]
        unfold evalS
        rw [if_neg (by simp; omega), if_neg (by simp; omega), run_app, hx, run_app]
        have e3 : runR [] [(1, x)] = .inl [x] := by
          unfold runR stepR
          rw [if_pos rfl, if_pos hT]; rfl
        rw [e3]
      rw [e2]
      simp [awake1]
end Go.Proofs.Ytjocggcgjdimeaa
