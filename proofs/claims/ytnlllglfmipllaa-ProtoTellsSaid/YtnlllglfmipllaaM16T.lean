/- Layer 16: the document's answers. Conditions: none. -/
import Derived.Test.YtnlllglfmipllaaM16C
import Derived.Test.YtnlllglfmipllaaT1
namespace Go.Proofs.Ytnlllglfmipllaa
set_option linter.unusedVariables false
set_option linter.unusedSimpArgs false
open Go Go.RowKit
theorem rnum_eq (n w : Int) (hn : n ≤ 9223372036854775807) : r04_Num n w = some (numS n w) := by
  unfold r04_Num numS
  by_cases h1 : 1 ≤ w ∧ w ≤ 7 ∧ 0 ≤ n
  · obtain ⟨k, rfl⟩ : ∃ k : Nat, w = k := ⟨w.toNat, by omega⟩
    rw [if_neg (by simp; omega), Int.toNat_natCast]
    have hl : loopW (r04_Num_l1 k) (n, ([] : List UInt8), 0) = some (n / 256 ^ k, be k n) := by
      refine loopW_is (fun s => ∃ j : Nat, j ≤ k ∧ s = (n / 256 ^ j, be j n, (j : Int))) (fun s => k - s.2.2.toNat) _ ?_ _ ⟨0, by omega, by simp [be]⟩
      rintro s ⟨j, hj, rfl⟩
      by_cases hjk : j < k
      · left
        have hp := pow_pos256 j
        have h0 : 0 ≤ n / 256 ^ j := Int.ediv_nonneg (by omega) (by omega)
        have hle : n / 256 ^ j ≤ n := Int.ediv_le_self _ (by omega)
        refine ⟨(n / 256 ^ (j + 1), be (j + 1) n, ((j + 1 : Nat) : Int)), ?_, ⟨j + 1, by omega, rfl⟩, by simp; omega⟩
        rw [r04_Num_l1, if_pos (by omega), app_is (by rw [be_len]; simp [strOf]; omega), Option.bind_some, w64_id (x := (j : Int) + 1) (by omega)]
        have e1 : Int.tdiv (n / 256 ^ j) 256 = n / 256 ^ (j + 1) := by
          rw [Int.tdiv_eq_ediv_of_nonneg h0, Int.ediv_ediv_of_nonneg (by omega), Int.pow_succ]
        have e2 : Int.tmod (n / 256 ^ j) 256 = n / 256 ^ j % 256 := Int.tmod_eq_emod_of_nonneg h0
        have h1' : 0 ≤ n / 256 ^ (j + 1) := Int.ediv_nonneg (by omega) (by have := pow_pos256 (j + 1); omega)
        have h2' : n / 256 ^ (j + 1) ≤ n := Int.ediv_le_self _ (by omega)
        rw [e1, e2, w64_id (by omega), wu8, Int.emod_emod_of_dvd _ (by decide), be_head]
        rfl
      · right
        have : j = k := by omega
        subst this
        rw [r04_Num_l1, if_neg (by omega)]
    rw [hl, Option.bind_some]
    have hp := pow_pos256 k
    by_cases h4 : n / 256 ^ k = 0
    · have h5 : n < 256 ^ k := by
        rcases Int.lt_or_le n (256 ^ k) with h | h
        · exact h
        · have := Int.le_ediv_of_mul_le hp (show 1 * 256 ^ k ≤ n by omega); omega
      show (if n / 256 ^ k ≠ 0 then some ([] : List UInt8) else some (be k n)) = _
      rw [if_neg (by simp [h4]), if_pos ⟨by omega, by omega, by omega, h5⟩]
    · have h5 : ¬ n < 256 ^ k := fun h => h4 (Int.ediv_eq_zero_of_lt (by omega) h)
      show (if n / 256 ^ k ≠ 0 then some ([] : List UInt8) else some (be k n)) = _
      rw [if_pos h4, if_neg (fun h => h5 h.2.2.2)]
  · rw [if_pos (by simp; omega), if_neg (by omega)]
theorem be4_mod (n : Int) : be 4 (n % 4294967296) = be 4 n := by
  simp only [be]
  have e1 : n % 4294967296 % 256 = n % 256 := by omega
  have e2 : n % 4294967296 / 256 % 256 = n / 256 % 256 := by omega
  have e3 : n % 4294967296 / 256 / 256 % 256 = n / 256 / 256 % 256 := by omega
  have e4 : n % 4294967296 / 256 / 256 / 256 % 256 = n / 256 / 256 / 256 % 256 := by omega
  rw [e1, e2, e3, e4]
theorem rint_eq (n : Int) (h : -9223372036854775808 ≤ n ∧ n ≤ 9223372036854775807) : r04_Int n = some (be 8 n) := by
  have e1 : (if Int.tmod n 4294967296 < 0 then some (w64 (Int.tmod n 4294967296 + 4294967296)) else some (Int.tmod n 4294967296)) = some (n % 4294967296) := by
    have h1 := tdiv_lit n 4294967296 (by decide)
    by_cases h0 : Int.tmod n 4294967296 < 0
    · rw [if_pos h0, w64_id (by omega)]; congr 1; omega
    · rw [if_neg h0]; congr 1; omega
  have hd : n - n % 4294967296 = 4294967296 * (n / 4294967296) := by omega
  have e0 : w64 (n - n % 4294967296) = 4294967296 * (n / 4294967296) := by rw [w64_id (by omega)]; exact hd
  have e2 : Int.tdiv (4294967296 * (n / 4294967296)) 4294967296 = n / 4294967296 := Int.mul_tdiv_cancel_left _ (by decide)
  have e3 : w64 (n / 4294967296) = n / 4294967296 := w64_id (by omega)
  have e4 : (if n / 4294967296 < 0 then some (w64 (n / 4294967296 + 4294967296)) else some (n / 4294967296)) = some (n / 4294967296 % 4294967296) := by
    by_cases h0 : n / 4294967296 < 0
    · rw [if_pos h0, w64_id (by omega)]; congr 1; omega
    · rw [if_neg h0]; congr 1; omega
  unfold r04_Int
  rw [e1, Option.bind_some, e0, e2, e3, e4, Option.bind_some, rnum_eq _ _ (by omega), Option.bind_some, rnum_eq _ _ (by omega), Option.bind_some]
  have e5 : numS (n / 4294967296 % 4294967296) 4 = be 4 (n / 4294967296) := by
    unfold numS
    rw [if_pos (by simp; omega)]
    exact be4_mod _
  have e6 : numS (n % 4294967296) 4 = be 4 n := by
    unfold numS
    rw [if_pos (by simp; omega)]
    exact be4_mod _
  rw [e5, e6, app_is (by rw [be_len, be_len]; omega), Option.bind_some]
  have := be_add 4 4 n
  rw [show (256 : Int) ^ 4 = 4294967296 from rfl] at this
  rw [← this]

/-! ### The reader -/
theorem rcode_step {m : Mt} (h : Good m) {k : Nat} (hk : k < 4) (o : List UInt8) (ho : o.length ≤ 100) : r08_Code_l1 m (o, (k : Int)) = some (.inl (o ++ (be 1 (p4 m.2.1 k) ++ be 1 (p4 m.2.2 k)), ((k + 1 : Nat) : Int))) := by
  obtain ⟨g1, g2⟩ := good_by h hk
  rw [r08_Code_l1, if_pos (by omega), ix4 m.2.1 hk, Option.bind_some, rnum_eq _ _ (by have := g1.2; omega), Option.bind_some, num1 g1, app_is (by simp [be]; omega), Option.bind_some, ix4 m.2.2 hk, Option.bind_some, rnum_eq _ _ (by have := g2.2; omega), Option.bind_some, num1 g2, app_is (by simp [be]; omega), Option.bind_some, w64_id (by omega), List.append_assoc]; rfl
theorem rcode_eq {m : Mt} (h : Good m) : r08_Code m = some (codeM m) := by
  have hp := h.1
  unfold r08_Code codeM
  rw [w64_id (by omega), rnum_eq _ _ (by omega), Option.bind_some, num1 (by omega)]
  have s0 := rcode_step h (k := 0) (by decide) (be 1 (m.1 + 1)) (by simp [be])
  have s1 := rcode_step h (k := 1) (by decide) (be 1 (m.1 + 1) ++ (be 1 m.2.1.1 ++ be 1 m.2.2.1)) (by simp [be])
  have s2 := rcode_step h (k := 2) (by decide) (be 1 (m.1 + 1) ++ (be 1 m.2.1.1 ++ be 1 m.2.2.1) ++ (be 1 m.2.1.2.1 ++ be 1 m.2.2.2.1)) (by simp [be])
  have s3 := rcode_step h (k := 3) (by decide) (be 1 (m.1 + 1) ++ (be 1 m.2.1.1 ++ be 1 m.2.2.1) ++ (be 1 m.2.1.2.1 ++ be 1 m.2.2.2.1) ++ (be 1 m.2.1.2.2.1 ++ be 1 m.2.2.2.2.1)) (by simp [be])
  have s4 : ∀ o, r08_Code_l1 m (o, 4) = some (.inr o) := fun o => by rw [r08_Code_l1, if_neg (by decide)]
  have e : loopW (r08_Code_l1 m) (be 1 (m.1 + 1), 0) = some (codeM m) := (loopW_go s0).trans ((loopW_go s1).trans ((loopW_go s2).trans ((loopW_go s3).trans (loopW_end (s4 _)))))
  rw [e]; rfl
theorem ractcode_eq {ports : Int} (hp : ports ≤ 256) {l : List A3} (h : OkAs ports l) : r09_Code l = some (codeA l) := by
  have hl := h.1
  obtain ⟨s, h1, h2⟩ := loop_cnt l.length (fun (s : List UInt8) (k : Nat) => (s, (k : Int))) (r09_Code_l1 l) id (fun s k => s = be 1 (l.length : Int) ++ ((l.take k).map byte3).flatten)
    (fun s k hk hI => by
      obtain ⟨b1, b2, b3⟩ := oka_by hp (h.2 _ (List.getElem_mem hk))
      have c1 := b1.2
      have c2 := b2.2
      have c3 := b3.2
      have hlen : s.length ≤ 100 := by
        rw [hI, List.length_append, flat_len, List.length_take]
        simp [be]; omega
      refine ⟨s ++ byte3 l[k], ?_, ?_⟩
      · rw [r09_Code_l1, if_pos (by omega), ix_nat (List.getElem?_eq_getElem hk)]
        simp only [Option.bind_some]
        rw [rnum_eq _ _ (by omega), rnum_eq _ _ (by omega), rnum_eq _ _ (by omega), num1 b1, num1 b2, num1 b3]
        simp only [Option.bind_some]
        rw [app_is (by simp [be]; omega)]
        simp only [Option.bind_some]
        rw [app_is (by simp [be]; omega)]
        simp only [Option.bind_some]
        rw [app_is (by simp [be]; omega), Option.bind_some, w64_id (by omega)]
        simp [byte3]
      · rw [hI, List.take_succ_eq_append_getElem hk, List.map_append, List.flatten_append]
        simp)
    (fun s _ => by rw [r09_Code_l1, if_neg (by omega)]; rfl) (be 1 (l.length : Int)) (by simp)
  have e : loopW (r09_Code_l1 l) (be 1 (l.length : Int), 0) = some s := h2
  rw [List.take_length] at h1
  unfold r09_Code codeA
  rw [rnum_eq _ _ (by omega), Option.bind_some, num1 (by constructor <;> omega), e, h1]; rfl
theorem rrulecode_eq {ports : Int} (hp : ports ≤ 256) {x : Rl} (h : OkR ports x) : r10_Code x = some (codeR x) := by
  have l1 := codeM_len x.2.1
  have l2 := codeA_len h.2.2
  have h1 := h.1
  unfold r10_Code codeR
  rw [rnum_eq _ _ (by omega), Option.bind_some, num2 h.1, rcode_eq h.2.1, Option.bind_some, app_is (by simp [be]; omega), Option.bind_some, ractcode_eq hp h.2.2, Option.bind_some, app_is (by simp [be]; omega)]; rfl
/-! ### The document's bytes -/
theorem opt_yes {p : Prop} [Decidable p] (h : p) (x : List UInt8) : opt p x = x := if_pos h
theorem opt_no {p : Prop} [Decidable p] (h : ¬ p) (x : List UInt8) : opt p x = [] := if_neg h
theorem change_eq {x : Mo} (h : OkC x) : r16_change x = some (codeC x) := by
  have l0 := codeR_len h.2
  unfold r16_change codeC
  rw [rnum_eq _ _ (by have := h.1; omega), Option.bind_some, num1 (by have := h.1; constructor <;> omega), rrulecode_eq (by decide) h.2]
  cases hb : x.2.2
  · rw [if_neg (by decide), app_is (by rw [be_len]; decide), Option.bind_some, Option.bind_some]
    show (app (be 1 x.1 ++ [0]) (codeR x.2.1)).bind _ = _
    rw [app_is (by rw [List.length_append, be_len]; simp; omega)]; rfl
  · rw [if_pos rfl, app_is (by rw [be_len]; decide), Option.bind_some, Option.bind_some]
    show (app (be 1 x.1 ++ [1]) (codeR x.2.1)).bind _ = _
    rw [app_is (by rw [List.length_append, be_len]; simp; omega)]; rfl
theorem rcodemods {m : Ms} (hl : m.2.2.2.2.2.2.2.2.2.length ≤ 16) (h : ∀ x ∈ m.2.2.2.2.2.2.2.2.2, OkC x) (s : List UInt8) (hs : s.length ≤ 1000) : loopW (r16_Code_l1 m) (s, 0) = some (s ++ (m.2.2.2.2.2.2.2.2.2.map codeC).flatten) := by
  have key : ∀ (d k : Nat), k + d = m.2.2.2.2.2.2.2.2.2.length → loopW (r16_Code_l1 m) (s ++ ((m.2.2.2.2.2.2.2.2.2.take k).map codeC).flatten, (k : Int)) = some (s ++ (m.2.2.2.2.2.2.2.2.2.map codeC).flatten) := by
    intro d
    induction d with
    | zero =>
      intro k hk
      rw [loopW_end (by rw [r16_Code_l1, if_neg (by omega)]), List.take_of_length_le (by omega)]
    | succ d ih =>
      intro k hk
      have hkl : k < m.2.2.2.2.2.2.2.2.2.length := by omega
      have hx := h _ (List.getElem_mem hkl)
      have l0 := codeC_len hx
      have l1 := flatC_len (l := m.2.2.2.2.2.2.2.2.2.take k) (fun y hy => h y (List.mem_of_mem_take hy))
      rw [List.length_take] at l1
      rw [← ih (k + 1) (by omega), List.take_succ_eq_append_getElem hkl, List.map_append, List.flatten_append]
      refine loopW_go ?_
      rw [r16_Code_l1, if_pos (by omega), ix_nat (List.getElem?_eq_getElem hkl), Option.bind_some, change_eq hx, Option.bind_some, app_is (by rw [List.length_append]; omega), Option.bind_some, w64_id (by omega), List.append_assoc]
      simp
  have h0 := key m.2.2.2.2.2.2.2.2.2.length 0 (by omega)
  rw [List.take_zero, List.map_nil, List.flatten_nil, List.append_nil] at h0
  exact h0
theorem rcode16_eq {m : Ms} (h : Ok16 m) : r16_Code m = some (msgV m) := by
  obtain ⟨n1, n2, n3, n4, n5, n6, n7⟩ := ok_nums h
  have hl := h.2.2.2.2.1
  have hk := h.1
  have hs := h.2.1
  have e1 : r04_Num m.1 1 = some (be 1 m.1) := by rw [rnum_eq _ _ (by omega), num1 (by constructor <;> omega)]
  have e2 : r04_Num m.2.1 1 = some (be 1 m.2.1) := by rw [rnum_eq _ _ (by omega), num1 (by constructor <;> omega)]
  have e3 : r04_Num m.2.2.1 2 = some (be 2 m.2.2.1) := by rw [rnum_eq _ _ (by omega), num2 n1]
  have e4 : r04_Num (w64 (m.2.2.2.1 + 1)) 1 = some (be 1 (m.2.2.2.1 + 1)) := by rw [w64_id (by omega), rnum_eq _ _ (by omega), num1 (by constructor <;> omega)]
  have e5 : r04_Int m.2.2.2.2.1 = some (be 8 m.2.2.2.2.1) := rint_eq _ (by omega)
  have e6 : r04_Int m.2.2.2.2.2.1 = some (be 8 m.2.2.2.2.2.1) := rint_eq _ (by omega)
  have e7 : r04_Num m.2.2.2.2.2.2.1 2 = some (be 2 m.2.2.2.2.2.2.1) := by rw [rnum_eq _ _ (by omega), num2 n5]
  have e8 : r04_Num m.2.2.2.2.2.2.2.1 1 = some (be 1 m.2.2.2.2.2.2.2.1) := by rw [rnum_eq _ _ (by omega), num1 n6]
  have e9 : r04_Num m.2.2.2.2.2.2.2.2.1 1 = some (be 1 m.2.2.2.2.2.2.2.2.1) := by rw [rnum_eq _ _ (by omega), num1 n7]
  have e10 : r04_Num (m.2.2.2.2.2.2.2.2.2.length : Int) 1 = some (be 1 (m.2.2.2.2.2.2.2.2.2.length : Int)) := by rw [rnum_eq _ _ (by omega), num1 (by constructor <;> omega)]
  have e11 := fun s hs => rcodemods hl h.2.2.2.2.2 s hs
  clear n1 n2 n3 n4 n5 n6 n7 hs hl h
  unfold r16_Code
  rw [e1, Option.bind_some, e2, Option.bind_some, app_is (by simp only [be_len]; omega), Option.bind_some, e3, Option.bind_some, e4, Option.bind_some, app_is (by simp only [be_len]; omega), Option.bind_some]
  have hks : m.1 = 1 ∨ m.1 = 2 ∨ m.1 = 3 ∨ m.1 = 4 ∨ m.1 = 5 ∨ m.1 = 6 ∨ m.1 = 7 ∨ m.1 = 8 := by omega
  have hmsg : ∀ (x1 x2 x3 x4 x5 x6 x7 x8 : List UInt8), opt (m.1 = 1 ∨ m.1 = 2) (be 8 m.2.2.2.2.1) = x1 → opt (m.1 = 2 ∨ m.1 = 4) (be 8 m.2.2.2.2.2.1) = x2 → opt (m.1 = 2 ∨ m.1 = 7 ∨ m.1 = 8) (be 2 m.2.2.2.2.2.2.1) = x3 → opt (3 ≤ m.1 ∧ m.1 ≤ 8) (be 2 m.2.2.1) = x4 → opt (3 ≤ m.1 ∧ m.1 ≤ 8 ∧ m.1 ≠ 6) (be 1 (m.2.2.2.1 + 1)) = x5 → opt (m.1 = 7 ∨ m.1 = 8) (be 1 m.2.2.2.2.2.2.2.1) = x6 → opt (m.1 = 6 ∨ m.1 = 8) (be 1 m.2.2.2.2.2.2.2.2.1) = x7 → opt (m.1 = 3) (codeK m.2.2.2.2.2.2.2.2.2) = x8 → msgV m = be 1 m.1 ++ be 1 m.2.1 ++ (x1 ++ (x2 ++ (x3 ++ (x4 ++ (x5 ++ (x6 ++ (x7 ++ x8))))))) := by
    rintro _ _ _ _ _ _ _ _ rfl rfl rfl rfl rfl rfl rfl rfl
    unfold msgV
    simp only [List.append_assoc]
  rcases hks with c | c | c | c | c | c | c | c
  · rw [if_pos c, e5, hmsg _ _ _ _ _ _ _ _ (opt_yes (by omega) _) (opt_no (by omega) _) (opt_no (by omega) _) (opt_no (by omega) _) (opt_no (by omega) _) (opt_no (by omega) _) (opt_no (by omega) _) (opt_no (by omega) _)]
    simp only [Option.bind_some]
    rw [app_is (by simp only [List.length_append, be_len]; omega), Option.bind_some]; simp
  · rw [if_neg (by omega), if_pos c, e5, e6, e7, hmsg _ _ _ _ _ _ _ _ (opt_yes (by omega) _) (opt_yes (by omega) _) (opt_yes (by omega) _) (opt_no (by omega) _) (opt_no (by omega) _) (opt_no (by omega) _) (opt_no (by omega) _) (opt_no (by omega) _)]
    simp only [Option.bind_some]
    rw [app_is (by simp only [List.length_append, be_len]; omega), Option.bind_some, app_is (by simp only [List.length_append, be_len]; omega), Option.bind_some, app_is (by simp only [List.length_append, be_len]; omega), Option.bind_some]; simp
  · rw [if_neg (by omega), if_neg (by omega), if_neg (by omega), if_neg (by omega), if_neg (by omega), if_neg (by omega), if_neg (by omega), e10, hmsg _ _ _ _ _ _ _ _ (opt_no (by omega) _) (opt_no (by omega) _) (opt_no (by omega) _) (opt_yes (by omega) _) (opt_yes (by omega) _) (opt_no (by omega) _) (opt_no (by omega) _) (opt_yes c _)]
    rw [app_is (by simp only [List.length_append, be_len]; omega), Option.bind_some, Option.bind_some, app_is (by simp only [List.length_append, be_len]; omega), Option.bind_some, e11 _ (by simp only [List.length_append, be_len]; omega), Option.bind_some]; simp [codeK]
  · rw [if_neg (by omega), if_neg (by omega), if_pos c, e6, hmsg _ _ _ _ _ _ _ _ (opt_no (by omega) _) (opt_yes (by omega) _) (opt_no (by omega) _) (opt_yes (by omega) _) (opt_yes (by omega) _) (opt_no (by omega) _) (opt_no (by omega) _) (opt_no (by omega) _)]
    simp only [Option.bind_some]
    rw [app_is (by simp only [List.length_append, be_len]; omega), Option.bind_some, app_is (by simp only [List.length_append, be_len]; omega), Option.bind_some]; simp
  · rw [if_neg (by omega), if_neg (by omega), if_neg (by omega), if_pos c, hmsg _ _ _ _ _ _ _ _ (opt_no (by omega) _) (opt_no (by omega) _) (opt_no (by omega) _) (opt_yes (by omega) _) (opt_yes (by omega) _) (opt_no (by omega) _) (opt_no (by omega) _) (opt_no (by omega) _)]
    rw [app_is (by simp only [List.length_append, be_len]; omega), Option.bind_some]; simp
  · rw [if_neg (by omega), if_neg (by omega), if_neg (by omega), if_neg (by omega), if_pos c, hmsg _ _ _ _ _ _ _ _ (opt_no (by omega) _) (opt_no (by omega) _) (opt_no (by omega) _) (opt_yes (by omega) _) (opt_no (by omega) _) (opt_no (by omega) _) (opt_yes (by omega) _) (opt_no (by omega) _)]
    rw [Option.bind_some, app_is (by simp only [List.length_append, be_len]; omega), Option.bind_some, e9, Option.bind_some, app_is (by simp only [List.length_append, be_len]; omega), Option.bind_some]; simp
  · rw [if_neg (by omega), if_neg (by omega), if_neg (by omega), if_neg (by omega), if_neg (by omega), if_pos c, hmsg _ _ _ _ _ _ _ _ (opt_no (by omega) _) (opt_no (by omega) _) (opt_yes (by omega) _) (opt_yes (by omega) _) (opt_yes (by omega) _) (opt_yes (by omega) _) (opt_no (by omega) _) (opt_no (by omega) _)]
    rw [e7, Option.bind_some, app_is (by simp only [List.length_append, be_len]; omega), Option.bind_some, app_is (by simp only [List.length_append, be_len]; omega), Option.bind_some, e8, Option.bind_some, app_is (by simp only [List.length_append, be_len]; omega), Option.bind_some]; simp
  · rw [if_neg (by omega), if_neg (by omega), if_neg (by omega), if_neg (by omega), if_neg (by omega), if_neg (by omega), if_pos c, hmsg _ _ _ _ _ _ _ _ (opt_no (by omega) _) (opt_no (by omega) _) (opt_yes (by omega) _) (opt_yes (by omega) _) (opt_yes (by omega) _) (opt_yes (by omega) _) (opt_yes (by omega) _) (opt_no (by omega) _)]
    rw [e7, Option.bind_some, app_is (by simp only [List.length_append, be_len]; omega), Option.bind_some, app_is (by simp only [List.length_append, be_len]; omega), Option.bind_some, e8, Option.bind_some, app_is (by simp only [List.length_append, be_len]; omega), Option.bind_some, e9, Option.bind_some, app_is (by simp only [List.length_append, be_len]; omega), Option.bind_some]; simp
/-! ### The statement -/
theorem short_eq {m : Ms} (hl : m.2.2.2.2.2.2.2.2.2.length ≤ 9223372036854775807) : L16_short m = some (decide (m.2.2.2.2.2.2.2.2.2.length ≤ 20 ∧ ∀ x ∈ m.2.2.2.2.2.2.2.2.2, x.2.1.2.2.length ≤ 10)) := by
  unfold L16_short
  rw [search_in m.2.2.2.2.2.2.2.2.2 hl (L16_short_l1 m) (fun x => ¬ x.2.1.2.2.length ≤ 10) false (fun k hk => by
    rw [L16_short_l1, if_pos (by omega), ix_nat (List.getElem?_eq_getElem hk)]
    simp only [Option.bind_some]
    by_cases c : m.2.2.2.2.2.2.2.2.2[k].2.1.2.2.length ≤ 10
    · rw [if_neg (by omega), if_neg (by simpa using c)]
    · rw [if_pos (by omega), if_pos c]) (by rw [L16_short_l1, if_neg (by omega)])]
  by_cases c : ∃ x ∈ m.2.2.2.2.2.2.2.2.2, ¬ x.2.1.2.2.length ≤ 10
  · rw [if_pos c]
    show some false = _
    rw [decide_eq_false (fun hh => by obtain ⟨x, hx, hn⟩ := c; exact hn (hh.2 x hx))]
  · rw [if_neg c]
    show some _ = _
    congr 1
    exact decide_eq_decide.2 ⟨fun hh => ⟨by omega, fun x hx => Decidable.not_not.1 fun hn => c ⟨x, hx, hn⟩⟩, fun hh => by have := hh.1; omega⟩
theorem ProtoTells_core (p0 p1 : Ms) (h0 : Lm p0.2.2.2.2.2.2.2.2.2) (h1 : Lm p1.2.2.2.2.2.2.2.2.2) (hi : Im p0.2.2.2.2.2.2.2.2.2) : L16_ProtoTells p0 p1 = some true := by
  unfold L16_ProtoTells
  rw [awake16, short_eq h0.1, Option.bind_some]
  by_cases c0 : p0.2.2.2.2.2.2.2.2.2.length ≤ 20 ∧ ∀ x ∈ p0.2.2.2.2.2.2.2.2.2, x.2.1.2.2.length ≤ 10
  · have hs : Sm p0.2.2.2.2.2.2.2.2.2 := ⟨c0.1, fun x hx => by have := c0.2 x hx; omega⟩
    rw [decide_eq_true c0, if_neg (by decide), short_eq h1.1, Option.bind_some, Option.bind_some]
    by_cases c1 : p1.2.2.2.2.2.2.2.2.2.length ≤ 20 ∧ ∀ x ∈ p1.2.2.2.2.2.2.2.2.2, x.2.1.2.2.length ≤ 10
    · rw [decide_eq_true c1, if_neg (by decide), right16_eq hs hi, rright16_eq h0, Option.bind_some, Option.bind_some, if_neg (fun h => h rfl), clean_eq hs, Option.bind_some, rclean_eq, Option.bind_some]
      have hlc : Lm (cleanV p0).2.2.2.2.2.2.2.2.2 := by
        unfold cleanV
        simp only
        split
        · exact h0
        · exact ⟨by simp, fun x hx => by simp at hx⟩
      rw [rsame16_eq hlc, decide_eq_true rfl, Option.bind_some, if_neg (by decide), same16_eq h0, Option.bind_some, rsame16_eq h0, Option.bind_some, decide_eq_false (fun h => h rfl), Option.bind_some, if_neg (by decide), Option.bind_some]
      by_cases c2 : Ok16 p0
      · rw [decide_eq_true c2, if_neg (by decide), (code16_eq c2 hs hi).1, Option.bind_some, rcode16_eq c2, Option.bind_some, if_pos rfl]; rfl
      · rw [decide_eq_false c2, if_pos (by decide)]; rfl
    · rw [decide_eq_false c1, if_pos (by decide)]; rfl
  · rw [decide_eq_false c0, if_pos (by decide), Option.bind_some, if_pos rfl]; rfl
theorem ProtoTells_true (p0 : Ms) (ok0 : okMs p0) (p1 : Ms) (ok1 : okMs p1) : L16_ProtoTells p0 p1 = some true := ProtoTells_core p0 p1 (ok_lm ok0) (ok_lm ok1) (ok_im ok0)
end Go.Proofs.Ytnlllglfmipllaa
