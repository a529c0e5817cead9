/- Layer 4: what the functions answer, in plain words; the four statements. Conditions: none. -/
import Derived.Test.YtkpifofijmimdaaA2
import Derived.Test.YtkpifofijmimdaaML
namespace Go.Proofs.Ytkpifofijmimdaa
set_option linter.unusedVariables false
set_option linter.unusedSimpArgs false
open Go Go.RowKit

theorem shr8 (n : Int) (j : Nat) (hj : j ≤ 7) : shrI .i64 n (8 * (j : Int)) = n / 256 ^ j := by
  have : j = 0 ∨ j = 1 ∨ j = 2 ∨ j = 3 ∨ j = 4 ∨ j = 5 ∨ j = 6 ∨ j = 7 := by omega
  rcases this with rfl | rfl | rfl | rfl | rfl | rfl | rfl | rfl <;> simp [shrI, IntKind.bits, Int.fdiv_eq_ediv_of_nonneg]
theorem fill_set {α : Type} (l : List α) (m : Nat) (z v : α) : (l ++ List.replicate (m + 1) z).set l.length v = (l ++ [v]) ++ List.replicate m z := by
  rw [List.set_append_right _ _ (Nat.le_refl _)]
  simp [List.replicate_succ]
theorem range_snoc {α : Type} (f : Nat → α) (k : Nat) : (List.range (k + 1)).map f = (List.range k).map f ++ [f k] := by simp [List.range_succ]
def byteI (n : Int) (w i : Nat) : Int := n / 256 ^ (w - 1 - i) % 256
theorem be_str (n : Int) (w : Nat) : strOf ((List.range w).map (byteI n w)) = be w n := by
  refine List.ext_getElem? fun i => ?_
  by_cases hi : i < w
  · rw [be_get w n i hi]
    simp [strOf, hi, byteI]
  · rw [List.getElem?_eq_none (by simp [strOf]; omega), List.getElem?_eq_none (by rw [be_len]; omega)]
theorem bigEndian_eq (n : Int) (w : Nat) (hw : w ≤ 8) : octet_bigEndian n w = some (be w n) := by
  unfold octet_bigEndian
  rw [mk_is (by omega)]
  simp only [Option.bind_some, Int.toNat_natCast]
  have hl : loopW (octet_bigEndian_l1 n w) (List.replicate w 0, 0) = some ((List.range w).map (byteI n w)) := by
    refine loopW_is (fun s => ∃ k, k ≤ w ∧ s = ((List.range k).map (byteI n w) ++ List.replicate (w - k) 0, (k : Int))) (fun s => w - s.2.toNat) _ ?_ _ ⟨0, by omega, by simp⟩
    rintro s ⟨k, hk, rfl⟩
    by_cases hkw : k < w
    · left
      have e1 : w64 (w64 ((w : Int) - 1) - (k : Int)) = ((w - 1 - k : Nat) : Int) := by
        rw [w64_id (x := (w : Int) - 1) (by omega), w64_id (by omega)]; omega
      have e2 : w64 (8 * ((w - 1 - k : Nat) : Int)) = 8 * ((w - 1 - k : Nat) : Int) := w64_id (by omega)
      have hlen : ((List.range k).map (byteI n w)).length = k := by simp
      have hix : ix ((List.range k).map (byteI n w) ++ List.replicate (w - k) 0) (k : Int) = some 0 := by
        refine ix_nat ?_
        rw [List.getElem?_append_right (by omega), hlen, Nat.sub_self]
        have : 0 < w - k := by omega
        simp [this]
      refine ⟨((List.range (k + 1)).map (byteI n w) ++ List.replicate (w - (k + 1)) 0, ((k + 1 : Nat) : Int)), ?_, ⟨k + 1, by omega, rfl⟩, by simp; omega⟩
      rw [octet_bigEndian_l1]
      rw [if_pos (by omega), e1, e2, shN_is (by omega), Option.bind_some, hix, Option.bind_some, shr8 _ _ (by omega), wu8, w64_id (by omega)]
      have hs := fill_set ((List.range k).map (byteI n w)) (w - (k + 1)) 0 (byteI n w k)
      rw [hlen, show w - (k + 1) + 1 = w - k by omega] at hs
      rw [range_snoc, ← hs]
      rfl
    · right
      have : k = w := by omega
      subst this
      rw [octet_bigEndian_l1, if_neg (by omega)]
      simp
  rw [hl, Option.bind_some, be_str]

/-- A number in so many bytes, or none. -/
def numS (n w : Int) : List UInt8 := if 1 ≤ w ∧ w ≤ 7 ∧ 0 ≤ n ∧ n < 256 ^ w.toNat then be w.toNat n else []
theorem num_eq (n w : Int) : octet_Num n w = some (numS n w) := by
  unfold octet_Num numS
  by_cases h1 : w < 1
  · rw [if_pos h1, if_neg (by omega)]; rfl
  · rw [if_neg h1]
    by_cases h2 : 7 < w
    · rw [if_pos h2, if_neg (by omega)]; rfl
    · rw [if_neg h2]
      by_cases h3 : n < 0
      · rw [if_pos h3, if_neg (by omega)]; rfl
      · obtain ⟨k, rfl⟩ : ∃ k : Nat, w = k := ⟨w.toNat, by omega⟩
        rw [if_neg h3, w64_id (by omega), shN_is (by omega), Option.bind_some, shr8 _ _ (by omega), Option.bind_some, Int.toNat_natCast]
        by_cases h4 : n / 256 ^ k = 0
        · have hp := pow_pos256 k
          have h5 : n < 256 ^ k := by
            rcases Int.lt_or_le n (256 ^ k) with h | h
            · exact h
            · have := Int.le_ediv_of_mul_le hp (show 1 * 256 ^ k ≤ n by omega); omega
          have hd : decide (n / 256 ^ k ≠ 0) = false := by simp [h4]
          rw [hd]
          simp only [Bool.false_eq_true, if_false]
          rw [bigEndian_eq n k (by omega), Option.bind_some, if_pos ⟨by omega, by omega, by omega, h5⟩]
        · have h5 : ¬ n < 256 ^ k := fun h => h4 (Int.ediv_eq_zero_of_lt (by omega) h)
          have hd : decide (n / 256 ^ k ≠ 0) = true := by simp [h4]
          rw [hd]
          simp only [if_true]
          rw [if_neg (fun h => h5 h.2.2.2)]
theorem rnum_eq (n w : Int) (hn : n ≤ 9223372036854775807) : r04_Num n w = some (numS n w) := by
  unfold r04_Num numS
  by_cases h1 : 1 ≤ w ∧ w ≤ 7 ∧ 0 ≤ n
  · obtain ⟨k, rfl⟩ : ∃ k : Nat, w = k := ⟨w.toNat, by omega⟩
    rw [if_neg (by simp; omega), Int.toNat_natCast]
    have hl : loopW (r04_Num_l1 k) (n, ([] : List UInt8), 0) = some (n / 256 ^ k, be k n) := by
      refine loopW_is (fun s => ∃ j : Nat, j ≤ k ∧ s = (n / 256 ^ j, be j n, (j : Int))) (fun s => k - s.2.2.toNat) _ ?_ _ ⟨0, by omega, by simp [be]⟩
      rintro s ⟨j, hj, rfl⟩
      by_cases hjk : j < k
      · left
        have hp := pow_pos256 j
        have h0 : 0 ≤ n / 256 ^ j := Int.ediv_nonneg (by omega) (by omega)
        have hle : n / 256 ^ j ≤ n := Int.ediv_le_self _ (by omega)
        refine ⟨(n / 256 ^ (j + 1), be (j + 1) n, ((j + 1 : Nat) : Int)), ?_, ⟨j + 1, by omega, rfl⟩, by simp; omega⟩
        rw [r04_Num_l1, if_pos (by omega), app_is (by rw [be_len]; simp [strOf]; omega), Option.bind_some, w64_id (x := (j : Int) + 1) (by omega)]
        have e1 : Int.tdiv (n / 256 ^ j) 256 = n / 256 ^ (j + 1) := by
          rw [Int.tdiv_eq_ediv_of_nonneg h0, Int.ediv_ediv_of_nonneg (by omega), Int.pow_succ]
        have e2 : Int.tmod (n / 256 ^ j) 256 = n / 256 ^ j % 256 := Int.tmod_eq_emod_of_nonneg h0
        have h1' : 0 ≤ n / 256 ^ (j + 1) := Int.ediv_nonneg (by omega) (by have := pow_pos256 (j + 1); omega)
        have h2' : n / 256 ^ (j + 1) ≤ n := Int.ediv_le_self _ (by omega)
        rw [e1, e2, w64_id (by omega), wu8, Int.emod_emod_of_dvd _ (by decide), be_head]
        rfl
      · right
        have : j = k := by omega
        subst this
        rw [r04_Num_l1, if_neg (by omega)]
    rw [hl, Option.bind_some]
    have hp := pow_pos256 k
    by_cases h4 : n / 256 ^ k = 0
    · have h5 : n < 256 ^ k := by
        rcases Int.lt_or_le n (256 ^ k) with h | h
        · exact h
        · have := Int.le_ediv_of_mul_le hp (show 1 * 256 ^ k ≤ n by omega); omega
      show (if n / 256 ^ k ≠ 0 then some ([] : List UInt8) else some (be k n)) = _
      rw [if_neg (by simp [h4]), if_pos ⟨by omega, by omega, by omega, h5⟩]
    · have h5 : ¬ n < 256 ^ k := fun h => h4 (Int.ediv_eq_zero_of_lt (by omega) h)
      show (if n / 256 ^ k ≠ 0 then some ([] : List UInt8) else some (be k n)) = _
      rw [if_pos h4, if_neg (fun h => h5 h.2.2.2)]
  · rw [if_pos (by simp; omega), if_neg (by omega)]
theorem int_eq (n : Int) : octet_Int n = some (be 8 n) := by
  unfold octet_Int
  rw [show (8 : Int) = ((8 : Nat) : Int) from rfl, bigEndian_eq n 8 (by omega)]
  rfl
theorem be4_mod (n : Int) : be 4 (n % 4294967296) = be 4 n := by
  simp only [be]
  have e1 : n % 4294967296 % 256 = n % 256 := by omega
  have e2 : n % 4294967296 / 256 % 256 = n / 256 % 256 := by omega
  have e3 : n % 4294967296 / 256 / 256 % 256 = n / 256 / 256 % 256 := by omega
  have e4 : n % 4294967296 / 256 / 256 / 256 % 256 = n / 256 / 256 / 256 % 256 := by omega
  rw [e1, e2, e3, e4]
theorem rint_eq (n : Int) (h : -9223372036854775808 ≤ n ∧ n ≤ 9223372036854775807) : r04_Int n = some (be 8 n) := by
  have e1 : (if Int.tmod n 4294967296 < 0 then some (w64 (Int.tmod n 4294967296 + 4294967296)) else some (Int.tmod n 4294967296)) = some (n % 4294967296) := by
    have h1 := tdiv_lit n 4294967296 (by decide)
    by_cases h0 : Int.tmod n 4294967296 < 0
    · rw [if_pos h0, w64_id (by omega)]; congr 1; omega
    · rw [if_neg h0]; congr 1; omega
  have hd : n - n % 4294967296 = 4294967296 * (n / 4294967296) := by omega
  have e0 : w64 (n - n % 4294967296) = 4294967296 * (n / 4294967296) := by rw [w64_id (by omega)]; exact hd
  have e2 : Int.tdiv (4294967296 * (n / 4294967296)) 4294967296 = n / 4294967296 := Int.mul_tdiv_cancel_left _ (by decide)
  have e3 : w64 (n / 4294967296) = n / 4294967296 := w64_id (by omega)
  have e4 : (if n / 4294967296 < 0 then some (w64 (n / 4294967296 + 4294967296)) else some (n / 4294967296)) = some (n / 4294967296 % 4294967296) := by
    by_cases h0 : n / 4294967296 < 0
    · rw [if_pos h0, w64_id (by omega)]; congr 1; omega
    · rw [if_neg h0]; congr 1; omega
  unfold r04_Int
  rw [e1, Option.bind_some, e0, e2, e3, e4, Option.bind_some, rnum_eq _ _ (by omega), Option.bind_some, rnum_eq _ _ (by omega), Option.bind_some]
  have e5 : numS (n / 4294967296 % 4294967296) 4 = be 4 (n / 4294967296) := by
    unfold numS
    rw [if_pos (by simp; omega)]
    exact be4_mod _
  have e6 : numS (n % 4294967296) 4 = be 4 n := by
    unfold numS
    rw [if_pos (by simp; omega)]
    exact be4_mod _
  rw [e5, e6, app_is (by rw [be_len, be_len]; omega), Option.bind_some]
  have := be_add 4 4 n
  rw [show (256 : Int) ^ 4 = 4294967296 from rfl] at this
  rw [← this]

/-! ### The reader -/
def takeR (p : List UInt8 × Int) (n : Int) : List UInt8 × (List UInt8 × Int) :=
  if p.2 ≠ 0 then ([], p) else if n < 0 then ([], (p.1, 2)) else if (p.1.length : Int) < n then ([], (p.1, 3)) else (p.1.take n.toNat, (p.1.drop n.toNat, 0))
theorem take_eq (p : List UInt8 × Int) (n : Int) : octet_Reader_Take p n = some (takeR p n) := by
  obtain ⟨s, e⟩ := p
  unfold octet_Reader_Take takeR octet_Reader_Left octet_Reader_Wrong octet_Reader_Ok
  by_cases he : e = 0
  · subst he
    by_cases h1 : n < 0
    · simp [h1]
    · by_cases h2 : (s.length : Int) < n
      · simp [h1, h2]
      · simp [h1, h2]
        rw [subl_is (by omega), Option.bind_some, subl_is (by omega), Option.bind_some]
        simp
  · simp [he]
theorem read_eq (p : List UInt8 × Int) (n : Int) (hl : p.1.length ≤ 1000000) : octet_Reader_read p n = some (w64 (val (takeR p n).1), (takeR p n).2) := by
  unfold octet_Reader_read
  rw [take_eq, Option.bind_some]
  have hlen : (takeR p n).1.length ≤ 1000000 := by
    unfold takeR
    split
    · simp
    · split
      · simp
      · split
        · simp
        · simp; omega
  have h := loop_fold (takeR p n).1 (fun x (c : UInt8) => w64 (x * 256 + (c.toNat : Int))) (octet_Reader_read_l1 (takeR p n)) (by omega) (fun x i => by
    rw [octet_Reader_read_l1]
    split
    · congr 1
      funext c
      have hc := c.toNat_lt
      rw [w64_id (x := (c.toNat : Int)) (by omega), or_step x c.toNat (by omega)]
    · rfl) 0
  rw [h, fold_w64]
  rfl
/-- What Num does to a reader whose width is not one. -/
def preN (p : List UInt8 × Int) (w : Int) : List UInt8 × Int := if (w < 1 ∨ 7 < w) ∧ p.2 = 0 then (p.1, 2) else p
theorem rnumR_eq (p : List UInt8 × Int) (w : Int) (hl : p.1.length ≤ 1000000) : octet_Reader_Num p w = some (w64 (val (takeR (preN p w) w).1), (takeR (preN p w) w).2) := by
  obtain ⟨s, e⟩ := p
  have key : (if (decide (w < 1) || decide (7 < w)) = true then some ((octet_Reader_Wrong (s, e) 2).1, (octet_Reader_Wrong (s, e) 2).2) else some ((s, e).1, (s, e).2)) = some (preN (s, e) w) := by
    unfold preN octet_Reader_Wrong octet_Reader_Ok
    by_cases h1 : w < 1 ∨ 7 < w
    · by_cases he : e = 0
      · simp [h1, he]
      · simp [h1, he]
    · simp [h1]
  unfold octet_Reader_Num
  rw [key, Option.bind_some]
  have h2 : (preN (s, e) w).1 = s := by unfold preN; split <;> rfl
  show (octet_Reader_read (preN (s, e) w) w).bind _ = _
  rw [read_eq _ _ (by rw [h2]; exact hl)]
  rfl
theorem rintR_eq (p : List UInt8 × Int) (hl : p.1.length ≤ 1000000) : octet_Reader_Int p = some (w64 (val (takeR p 8).1), (takeR p 8).2) := by
  unfold octet_Reader_Int
  rw [read_eq p 8 hl]
  rfl
theorem endR_eq (p : List UInt8 × Int) : octet_Reader_End p = some (if p.2 = 0 ∧ p.1 ≠ [] then 5 else p.2, (p.1, if p.2 = 0 ∧ p.1 ≠ [] then 5 else p.2)) := by
  obtain ⟨s, e⟩ := p
  unfold octet_Reader_End octet_Reader_Left octet_Reader_Wrong octet_Reader_Ok
  by_cases he : e = 0
  · subst he
    cases s <;> simp
  · simp [he]

theorem awake04 : L04_awake = some true := by
  unfold L04_awake
  rw [int_eq, Option.bind_some, if_pos (by decide), rintR_eq _ (by decide), Option.bind_some]
  have h1 : takeR (octet_Open [255, 255, 255, 255, 255, 255, 255, 254]) 8 = ([255, 255, 255, 255, 255, 255, 255, 254], ([], 0)) := by decide
  rw [h1]
  rw [if_pos (by decide), endR_eq, Option.bind_some, if_pos (by decide), num_eq, Option.bind_some]
  rfl
theorem OctetTells_true (n : Int) (hn : (Lit.int .i64 n).wf = true) (width : Int) (_ : (Lit.int .i64 width).wf = true) (b : Bool) (_ : okT b) : L04_OctetTells n width b = some true := by
  have h := wf_i64 hn
  unfold L04_OctetTells
  rw [num_eq, Option.bind_some, rnum_eq _ _ h.2, Option.bind_some, if_pos rfl, int_eq, Option.bind_some, rint_eq _ h, Option.bind_some, if_pos rfl, awake04]
  cases b <;> rfl

theorem takeR_app (a b : List UInt8) (n : Int) (h : n = a.length) : takeR (a ++ b, 0) n = (a, (b, 0)) := by
  subst h
  unfold takeR
  rw [if_neg (by simp), if_neg (by omega), if_neg (by simp; omega)]
  simp
theorem preN_ok {p : List UInt8 × Int} {w : Int} (h : 1 ≤ w ∧ w ≤ 7) : preN p w = p := by
  unfold preN; rw [if_neg (by omega)]
def flagR (p : List UInt8 × Int) : List UInt8 × Int := if 1 < w64 (val (takeR p 1).1) ∧ (takeR p 1).2.2 = 0 then ((takeR p 1).2.1, 5) else (takeR p 1).2
theorem flagR_eq (p : List UInt8 × Int) (hl : p.1.length ≤ 1000000) : octet_Reader_Flag p = some (decide ((flagR p).2 = 0) && decide (w64 (val (takeR p 1).1) = 1), flagR p) := by
  unfold octet_Reader_Flag
  rw [rnumR_eq p 1 hl, preN_ok (by decide), Option.bind_some]
  unfold flagR octet_Reader_Wrong octet_Reader_Ok
  by_cases h1 : 1 < w64 (val (takeR p 1).1)
  · by_cases h2 : (takeR p 1).2.2 = 0
    · simp [h1, h2]
    · simp [h1, h2]
  · simp [h1]
def countR (p : List UInt8 × Int) (most : Int) : List UInt8 × Int := if most < w64 (val (takeR p 1).1) ∧ (takeR p 1).2.2 = 0 then ((takeR p 1).2.1, 6) else (takeR p 1).2
theorem countR_eq (p : List UInt8 × Int) (most : Int) (hl : p.1.length ≤ 1000000) : octet_Reader_Count p most = some (if (countR p most).2 = 0 then w64 (val (takeR p 1).1) else 0, countR p most) := by
  unfold octet_Reader_Count
  rw [rnumR_eq p 1 hl, preN_ok (by decide), Option.bind_some]
  unfold countR octet_Reader_Wrong octet_Reader_Ok
  by_cases h1 : most < w64 (val (takeR p 1).1)
  · by_cases h2 : (takeR p 1).2.2 = 0
    · simp [h1, h2]
    · simp [h1, h2]
  · have e : (if most < w64 (val (takeR p 1).1) ∧ (takeR p 1).2.2 = 0 then ((takeR p 1).2.1, (6 : Int)) else (takeR p 1).2) = (takeR p 1).2 := if_neg (fun h => h1 h.1)
    rw [if_neg h1, Option.bind_some, e]
    by_cases h2 : (takeR p 1).2.2 = 0
    · simp only [h2, decide_true, Bool.not_true, Bool.false_eq_true, if_false, if_true]
      exact congrArg some (Prod.ext rfl (Prod.ext rfl h2.symm))
    · simp [h2]

theorem val_one (b : UInt8) : val [b] = (b.toNat : Int) := by simp [val]
theorem w64_val_be8 (m : Int) (h : -9223372036854775808 ≤ m ∧ m ≤ 9223372036854775807) : w64 (val (be 8 m)) = m := by
  rw [val_be]
  have e : (256 : Int) ^ 8 = 18446744073709551616 := by decide
  rw [e, ← w64_id h]
  refine w64_congr ?_
  rw [w64_id h]
  omega
theorem OctetBack_true (n : Int) (hn : (Lit.int .i64 n).wf = true) (width : Int) (_ : (Lit.int .i64 width).wf = true) (m : Int) (hm : (Lit.int .i64 m).wf = true) (b : Bool) (_ : okT b) (t : List UInt8) (_ : okS t) : L04_OctetBack n width m b t = some true := by
  have h := wf_i64 hn
  have hm := wf_i64 hm
  unfold L04_OctetBack
  rw [rnum_eq _ _ h.2, Option.bind_some]
  by_cases h0 : numS n width = []
  · rw [if_pos h0, Option.bind_some, if_pos rfl, awake04, Option.bind_some]
  · rw [if_neg h0, Option.bind_some]
    by_cases ht : 500 < (t.length : Int)
    · rw [if_pos (by simpa using ht), awake04, Option.bind_some]
    · rw [if_neg (by simpa using ht)]
      have hv : 1 ≤ width ∧ width ≤ 7 ∧ 0 ≤ n ∧ n < 256 ^ width.toNat := by
        unfold numS at h0
        by_cases hc : 1 ≤ width ∧ width ≤ 7 ∧ 0 ≤ n ∧ n < 256 ^ width.toNat
        · exact hc
        · rw [if_neg hc] at h0; exact absurd rfl h0
      have hf : (octet_Flag b).length = 1 := by cases b <;> rfl
      rw [num_eq, Option.bind_some, int_eq, Option.bind_some]
      have e1 : numS n width = be width.toNat n := by unfold numS; rw [if_pos hv]
      rw [e1, app_is (by rw [be_len, be_len]; omega), Option.bind_some, app_is (by rw [List.length_append, be_len, be_len, hf]; omega), Option.bind_some, app_is (by rw [List.length_append, List.length_append, be_len, be_len, hf]; omega), Option.bind_some]
      have hopen : octet_Open (be width.toNat n ++ be 8 m ++ octet_Flag b ++ t) = (be width.toNat n ++ (be 8 m ++ (octet_Flag b ++ t)), 0) := by simp [octet_Open]
      rw [hopen, rnumR_eq _ _ (by simp [be_len, hf]; omega), Option.bind_some, preN_ok ⟨hv.1, hv.2.1⟩, takeR_app _ _ _ (by rw [be_len]; omega)]
      have e2 : w64 (val (be width.toNat n)) = n := by
        rw [val_be, Int.emod_eq_of_lt hv.2.2.1 hv.2.2.2, w64_id h]
      simp only [e2]
      rw [if_pos trivial, rintR_eq _ (by simp [be_len, hf]; omega), Option.bind_some, takeR_app _ _ _ (by rw [be_len]; rfl)]
      simp only [w64_val_be8 m hm]
      rw [if_pos trivial, flagR_eq _ (by simp [hf]; omega), Option.bind_some]
      have e3 : takeR (octet_Flag b ++ t, 0) 1 = (octet_Flag b, (t, 0)) := takeR_app _ _ _ (by rw [hf]; rfl)
      have e4 : flagR (octet_Flag b ++ t, 0) = (t, 0) := by
        unfold flagR; rw [e3]; cases b <;> rfl
      have e5 : (decide ((flagR (octet_Flag b ++ t, 0)).2 = 0) && decide (w64 (val (takeR (octet_Flag b ++ t, 0) 1).1) = 1)) = b := by
        rw [e4, e3]; cases b <;> rfl
      rw [e5, e4]
      simp only
      rw [if_pos trivial]
      have e6 : octet_Reader_Left (t, 0) = (t.length : Int) := rfl
      rw [e6, if_pos rfl, take_eq, Option.bind_some]
      have e7 : takeR (t, 0) (t.length : Int) = (t, ([], 0)) := by
        have := takeR_app t [] (t.length : Int) rfl
        rwa [List.append_nil] at this
      rw [e7]
      simp only
      rw [if_pos trivial, endR_eq, Option.bind_some]
      simp [awake04]

theorem takeR_ok {p : List UInt8 × Int} {n : Int} (h : (takeR p n).2.2 = 0) : p.2 = 0 ∧ 0 ≤ n ∧ n ≤ p.1.length ∧ takeR p n = (p.1.take n.toNat, (p.1.drop n.toNat, 0)) := by
  unfold takeR at *
  by_cases h1 : p.2 ≠ 0
  · rw [if_pos h1] at h; exact absurd h h1
  · rw [if_neg h1] at h ⊢
    by_cases h2 : n < 0
    · rw [if_pos h2] at h; cases h
    · rw [if_neg h2] at h ⊢
      by_cases h3 : (p.1.length : Int) < n
      · rw [if_pos h3] at h; cases h
      · rw [if_neg h3]
        exact ⟨by omega, by omega, by omega, rfl⟩
theorem be8_w64 (x : Int) : be 8 (w64 x) = be 8 x := by
  have h := w64_mod x
  generalize hy : w64 x = y at h
  simp only [be]
  have e1 : y % 256 = x % 256 := by omega
  have e2 : y / 256 % 256 = x / 256 % 256 := by omega
  have e3 : y / 256 / 256 % 256 = x / 256 / 256 % 256 := by omega
  have e4 : y / 256 / 256 / 256 % 256 = x / 256 / 256 / 256 % 256 := by omega
  have e5 : y / 256 / 256 / 256 / 256 % 256 = x / 256 / 256 / 256 / 256 % 256 := by omega
  have e6 : y / 256 / 256 / 256 / 256 / 256 % 256 = x / 256 / 256 / 256 / 256 / 256 % 256 := by omega
  have e7 : y / 256 / 256 / 256 / 256 / 256 / 256 % 256 = x / 256 / 256 / 256 / 256 / 256 / 256 % 256 := by omega
  have e8 : y / 256 / 256 / 256 / 256 / 256 / 256 / 256 % 256 = x / 256 / 256 / 256 / 256 / 256 / 256 / 256 % 256 := by omega
  rw [e1, e2, e3, e4, e5, e6, e7, e8]
theorem val_lt7 {l : List UInt8} (h : l.length ≤ 7) : 0 ≤ val l ∧ val l < 72057594037927936 := by
  have h1 := val_bd l
  have h2 : (256 : Int) ^ l.length ≤ 256 ^ 7 := by
    have : l.length = 0 ∨ l.length = 1 ∨ l.length = 2 ∨ l.length = 3 ∨ l.length = 4 ∨ l.length = 5 ∨ l.length = 6 ∨ l.length = 7 := by omega
    rcases this with h | h | h | h | h | h | h | h <;> rw [h] <;> decide
  have h3 : (256 : Int) ^ 7 = 72057594037927936 := by decide
  omega
theorem none_take (n : Int) : octet_Reader_Take_2 n = some [] := by
  unfold octet_Reader_Take_2 octet_Reader_Wrong_2 octet_Reader_Left_2 octet_Reader_Ok_2
  by_cases h1 : n < 0
  · simp [h1]
  · by_cases h2 : 0 < n <;> simp [h1, h2]
theorem none_read (n : Int) : octet_Reader_read_2 n = some 0 := by
  unfold octet_Reader_read_2
  rw [none_take, Option.bind_some, loopW_eq, octet_Reader_read_2_l1, if_neg (by simp)]
  rfl
theorem none_num (n : Int) : octet_Reader_Num_2 n = some 0 := by
  unfold octet_Reader_Num_2
  have : (if (decide (n < 1) || decide (7 < n)) = true then (octet_Reader_Wrong_2 2).bind fun x1 => some () else some ()) = some () := by
    split
    · simp [octet_Reader_Wrong_2, octet_Reader_Ok_2]
    · rfl
  rw [this, Option.bind_some, none_read]
  rfl
theorem once_none (n : Int) : ((octet_Reader_Wrong_2 2).bind fun _ => ((octet_Reader_Num_2 n).bind fun x16 => (if x16 = 0 then (octet_Reader_Int_2).bind fun x17 => (if x17 = 0 then (octet_Reader_Flag_2).bind fun x18 => (if (!x18) = true then (octet_Reader_Take_2 n).bind fun x19 => (if x19 = ([] : List UInt8) then (octet_Reader_Count_2 n).bind fun x20 => (if x20 = 0 then (if (!octet_Reader_Ok_2) = true then (octet_Reader_Left_2).bind fun x21 => (if x21 = 0 then (if octet_Reader_End_2 = 1 then (L04_awake).bind fun x22 => some x22 else some false) else some false) else some false) else some false) else some false) else some false) else some false) else some false)).bind fun x15 => some x15) = some true := by
  have h1 : octet_Reader_Int_2 = some 0 := by unfold octet_Reader_Int_2; rw [none_read]; rfl
  have h2 : octet_Reader_Flag_2 = some false := by unfold octet_Reader_Flag_2; rw [none_num]; simp [octet_Reader_Ok_2]
  have h3 : octet_Reader_Count_2 n = some 0 := by
    unfold octet_Reader_Count_2; rw [none_num, Option.bind_some]
    by_cases h : n < 0 <;> simp [h, octet_Reader_Wrong_2, octet_Reader_Ok_2]
  have h4 : octet_Reader_Left_2 = some 0 := by simp [octet_Reader_Left_2, octet_Reader_Ok_2]
  have h5 : octet_Reader_Wrong_2 2 = some () := by simp [octet_Reader_Wrong_2, octet_Reader_Ok_2]
  simp [h5, none_num, none_take, h1, h2, h3, h4, octet_Reader_Ok_2, octet_Reader_End_2, awake04]
theorem orR_inl {α β : Type} (t : α) (k : α → Option β) : orR (some (Sum.inl t)) k = k t := rfl
theorem takeR_len (p : List UInt8 × Int) (n : Int) : (takeR p n).2.1.length ≤ p.1.length := by
  unfold takeR
  split
  · simp
  · split
    · simp
    · split <;> simp
theorem flagR_ok {p : List UInt8 × Int} (h : (flagR p).2 = 0) : (takeR p 1).2.2 = 0 ∧ w64 (val (takeR p 1).1) ≤ 1 ∧ flagR p = (takeR p 1).2 := by
  unfold flagR at *
  by_cases h1 : 1 < w64 (val (takeR p 1).1) ∧ (takeR p 1).2.2 = 0
  · rw [if_pos h1] at h; cases h
  · rw [if_neg h1] at h ⊢
    exact ⟨h, by omega, rfl⟩
theorem OctetOnce_true (s : List UInt8) (_ : okS s) (width : Int) (_ : (Lit.int .i64 width).wf = true) : L04_OctetOnce s width = some true := by
  unfold L04_OctetOnce
  by_cases hs : 500 < (s.length : Int)
  · rw [if_pos (by simpa using hs), awake04, Option.bind_some]
  · rw [if_neg (by simpa using hs)]
    have l1 : (takeR (preN (octet_Open s) width) width).2.1.length ≤ s.length := by
      refine Nat.le_trans (takeR_len _ _) ?_
      unfold preN octet_Open; split <;> simp
    have l2 : (takeR (takeR (preN (octet_Open s) width) width).2 8).2.1.length ≤ s.length := Nat.le_trans (takeR_len _ _) l1
    rw [rnumR_eq _ _ (by simp [octet_Open]; omega), Option.bind_some, rintR_eq _ (by show (takeR (preN (octet_Open s) width) width).2.1.length ≤ 1000000; omega), Option.bind_some,
      flagR_eq _ (by show (takeR (takeR (preN (octet_Open s) width) width).2 8).2.1.length ≤ 1000000; omega), Option.bind_some]
    simp only
    generalize hq1 : takeR (preN (octet_Open s) width) width = q1 at *
    generalize hq2 : takeR q1.2 8 = q2 at *
    generalize hq3 : flagR q2.2 = q3 at *
    rw [endR_eq, Option.bind_some]
    by_cases hok : q3.2 = 0
    · have f := flagR_ok (p := q2.2) (by rw [hq3]; exact hok)
      obtain ⟨f1, f2, f3⟩ := f
      obtain ⟨g1, g2, g3, g4⟩ := takeR_ok f1
      obtain ⟨k1, k2, k3, k4⟩ := takeR_ok (p := q1.2) (n := 8) (by rw [hq2]; exact g1)
      obtain ⟨j1, j2, j3, j4⟩ := takeR_ok (p := preN (octet_Open s) width) (n := width) (by rw [hq1]; exact k1)
      have hw : 1 ≤ width ∧ width ≤ 7 := by
        unfold preN at j1
        by_cases hc : (width < 1 ∨ 7 < width) ∧ (octet_Open s).2 = 0
        · rw [if_pos hc] at j1; cases j1
        · have : (octet_Open s).2 = 0 := rfl
          omega
      rw [preN_ok hw] at j3 j4 hq1
      have ho : (octet_Open s).1 = s := rfl
      rw [ho] at j3 j4
      rw [hq1] at j4
      have e1 : q1.1 = s.take width.toNat := by rw [j4]
      have e2 : q1.2.1 = s.drop width.toNat := by rw [j4]
      rw [hq2, e2] at k4
      have e3 : q2.1 = (s.drop width.toNat).take 8 := by rw [k4]; rfl
      have e4 : q2.2.1 = (s.drop width.toNat).drop 8 := by rw [k4]; rfl
      rw [e2] at k3
      rw [e4] at g3 g4
      have e5 : (takeR q2.2 1).1 = ((s.drop width.toNat).drop 8).take 1 := by rw [g4]; rfl
      have e6 : q3.1 = ((s.drop width.toNat).drop 8).drop 1 := by rw [← hq3, f3, g4]; rfl
      rw [e5] at f2 ⊢
      have ha : (s.take width.toNat).length = width.toNat := by simp; omega
      have hb : ((s.drop width.toNat).take 8).length = 8 := by simp at k3 ⊢; omega
      have hc1 : (((s.drop width.toNat).drop 8).take 1).length = 1 := by simp at g3 ⊢; omega
      obtain ⟨c, hc⟩ : ∃ c, ((s.drop width.toNat).drop 8).take 1 = [c] := List.length_eq_one_iff.1 hc1
      have hsplit : s = s.take width.toNat ++ ((s.drop width.toNat).take 8 ++ ([c] ++ ((s.drop width.toNat).drop 8).drop 1)) := by
        rw [← hc, List.take_append_drop, List.take_append_drop, List.take_append_drop]
      rw [hc] at f2 ⊢
      have hcn := c.toNat_lt
      rw [val_one, w64_id (by omega)] at f2 ⊢
      have hflag : octet_Flag (decide (q3.2 = 0) && decide ((c.toNat : Int) = 1)) = [c] := by
        rw [hok]
        have : c.toNat = 0 ∨ c.toNat = 1 := by omega
        rcases this with h | h
        · have : c = 0 := UInt8.toNat_inj.1 (by simpa using h)
          subst this; rfl
        · have : c = 1 := UInt8.toNat_inj.1 (by simpa using h)
          subst this; rfl
      have hv := val_lt7 (l := s.take width.toNat) (by rw [ha]; omega)
      have hnum : numS (w64 (val q1.1)) width = s.take width.toNat := by
        rw [e1, w64_id (by omega)]
        unfold numS
        have hb1 := val_bd (s.take width.toNat)
        rw [ha] at hb1
        rw [if_pos ⟨hw.1, hw.2, hb1.1, hb1.2⟩]
        have := be_val (s.take width.toNat)
        rwa [ha] at this
      have hint : be 8 (w64 (val q2.1)) = (s.drop width.toNat).take 8 := by
        rw [be8_w64, e3]
        have := be_val ((s.drop width.toNat).take 8)
        rwa [hb] at this
      have hleft : octet_Reader_Left q3 = (q3.1.length : Int) := by
        unfold octet_Reader_Left octet_Reader_Ok; simp [hok]
      have hcond : (decide ((if q3.2 = 0 ∧ q3.1 ≠ [] then (5 : Int) else q3.2) = 0) || (decide ((if q3.2 = 0 ∧ q3.1 ≠ [] then (5 : Int) else q3.2) = 5) && decide (0 < octet_Reader_Left q3))) = true := by
        rw [hleft, hok]
        cases q3.1 <;> simp
      simp only [hcond, if_true]
      rw [num_eq, Option.bind_some, int_eq, Option.bind_some, hnum, hint, app_is (by omega), Option.bind_some, hflag, app_is (by simp; omega), Option.bind_some]
      have hlen : (s.take width.toNat ++ (s.drop width.toNat).take 8 ++ [c]).length + q3.1.length = s.length := by
        rw [e6]
        have := congrArg List.length hsplit
        simp only [List.length_append] at this ⊢
        omega
      rw [if_neg (by rw [hleft, w64_id (by omega)]; omega), subl_is (by omega), Option.bind_some]
      have hpre : ((s.take (((s.take width.toNat ++ (s.drop width.toNat).take 8 ++ [c]).length : Int)).toNat).drop (0 : Int).toNat) = s.take width.toNat ++ (s.drop width.toNat).take 8 ++ [c] := by
        rw [Int.toNat_natCast]
        have hs2 : s = (s.take width.toNat ++ (s.drop width.toNat).take 8 ++ [c]) ++ ((s.drop width.toNat).drop 8).drop 1 := by
          rw [List.append_assoc, List.append_assoc]; exact hsplit
        exact (congrArg (List.take (s.take width.toNat ++ (s.drop width.toNat).take 8 ++ [c]).length) hs2).trans List.take_left
      rw [hpre]
      simp only [ne_eq, not_true_eq_false, decide_false, Option.bind_some, Bool.false_eq_true, if_false]
      rw [orR_inl]
      exact once_none width
    · have hleft : octet_Reader_Left q3 = 0 := by
        unfold octet_Reader_Left octet_Reader_Ok; simp [hok]
      have hcond : (decide ((if q3.2 = 0 ∧ q3.1 ≠ [] then (5 : Int) else q3.2) = 0) || (decide ((if q3.2 = 0 ∧ q3.1 ≠ [] then (5 : Int) else q3.2) = 5) && decide (0 < octet_Reader_Left q3))) = false := by
        rw [hleft]; simp [hok]
      simp only [hcond, Bool.false_eq_true, if_false]
      rw [orR_inl]
      exact once_none width

/-! ### Two readers side by side -/
structure Rel (p : List UInt8 × Int) (q : List UInt8 × Int × Int) : Prop where
  lo : 0 ≤ q.2.1
  hi : q.2.1 ≤ q.1.length
  rest : p = (q.1.drop q.2.1.toNat, q.2.2)
  len : q.1.length ≤ 500
theorem Rel.plen {p q} (h : Rel p q) : p.1.length ≤ 500 := by
  rw [h.rest]; simp; have := h.len; omega
theorem rel_left {p q} (h : Rel p q) : r04_Reader_Left q = octet_Reader_Left p := by
  obtain ⟨S, at_, bad⟩ := q
  obtain ⟨h1, h2, rfl, h4⟩ := h
  simp only at *
  unfold r04_Reader_Left octet_Reader_Left octet_Reader_Ok
  by_cases hb : bad = 0
  · subst hb
    simp only [ne_eq, not_true_eq_false, if_false, decide_true, Bool.not_true, Bool.false_eq_true]
    rw [w64_id (by omega)]; simp; omega
  · simp [hb]
theorem rel_wrong {p q} (h : Rel p q) (e : Int) : Rel (octet_Reader_Wrong p e) (r04_Reader_Wrong q e) := by
  obtain ⟨S, at_, bad⟩ := q
  obtain ⟨h1, h2, rfl, h4⟩ := h
  simp only at *
  unfold r04_Reader_Wrong octet_Reader_Wrong octet_Reader_Ok
  by_cases hb : bad = 0
  · subst hb; exact ⟨h1, h2, rfl, h4⟩
  · simp only [hb, decide_false, Bool.false_eq_true, if_false]; exact ⟨h1, h2, rfl, h4⟩
theorem rel_take {p q} (h : Rel p q) (n : Int) : ∃ q', r04_Reader_Take q n = some ((takeR p n).1, q') ∧ Rel (takeR p n).2 q' := by
  have hl := rel_left h
  obtain ⟨S, at_, bad⟩ := q
  obtain ⟨h1, h2, rfl, h4⟩ := h
  simp only at *
  unfold r04_Reader_Take takeR
  by_cases hb : bad = 0
  · subst hb
    simp only [ne_eq, not_true_eq_false, if_false]
    by_cases n0 : n < 0
    · have e1 : r04_Reader_Wrong (S, at_, 0) 2 = (S, at_, 2) := rfl
      have e2 : ¬ r04_Reader_Left (S, at_, 2) < n ∨ True := .inr trivial
      simp only [n0, if_true, e1, Option.bind_some]
      by_cases n1 : r04_Reader_Left (S, at_, 2) < n
      · have e3 : r04_Reader_Wrong (S, at_, 2) 3 = (S, at_, 2) := rfl
        simp only [n1, if_true, e3, Option.bind_some]
        exact ⟨(S, at_, 2), rfl, h1, h2, rfl, h4⟩
      · simp only [n1, if_false, Option.bind_some]
        exact ⟨(S, at_, 2), rfl, h1, h2, rfl, h4⟩
    · have hlen : octet_Reader_Left (S.drop at_.toNat, 0) = ((S.drop at_.toNat).length : Int) := rfl
      rw [hlen] at hl
      simp only [n0, if_false, Option.bind_some]
      rw [hl]
      by_cases n1 : ((S.drop at_.toNat).length : Int) < n
      · have e3 : r04_Reader_Wrong (S, at_, 0) 3 = (S, at_, 3) := rfl
        simp only [n1, if_true, e3, Option.bind_some]
        exact ⟨(S, at_, 3), rfl, h1, h2, rfl, h4⟩
      · have hdl : ((S.drop at_.toNat).length : Int) = S.length - at_ := by simp; omega
        have e4 : w64 (at_ + n) = at_ + n := w64_id (by omega)
        have e5 : w64 (at_ + n - n) = at_ := by rw [w64_id (by omega)]; omega
        simp only [n1, if_false, Option.bind_some, not_true_eq_false, e4, e5]
        rw [subl_is (by omega), Option.bind_some]
        refine ⟨(S, at_ + n, 0), ?_, by show 0 ≤ at_ + n; omega, by show at_ + n ≤ S.length; omega, ?_, h4⟩
        · rw [List.drop_take]
          congr 3
          omega
        · show ((S.drop at_.toNat).drop n.toNat, (0 : Int)) = (S.drop (at_ + n).toNat, 0)
          rw [List.drop_drop]
          congr 2
          omega
  · have e0 : ∀ e, r04_Reader_Wrong (S, at_, bad) e = (S, at_, bad) := fun e => by unfold r04_Reader_Wrong; simp [hb]
    have e1 : (if n < 0 then some ((r04_Reader_Wrong (S, at_, bad) 2).1, (r04_Reader_Wrong (S, at_, bad) 2).2.1, (r04_Reader_Wrong (S, at_, bad) 2).2.2) else some ((S, at_, bad).1, (S, at_, bad).2.1, (S, at_, bad).2.2)) = some (S, at_, bad) := by
      rw [e0]; split <;> rfl
    have e2 : (if r04_Reader_Left (S, at_, bad) < n then some ((r04_Reader_Wrong (S, at_, bad) 3).1, (r04_Reader_Wrong (S, at_, bad) 3).2.1, (r04_Reader_Wrong (S, at_, bad) 3).2.2) else some (S, at_, bad)) = some (S, at_, bad) := by
      rw [e0]; split <;> rfl
    rw [e1, Option.bind_some]
    simp only [e2, Option.bind_some, hb, ne_eq, not_false_eq_true, if_true]
    exact ⟨(S, at_, bad), rfl, h1, h2, rfl, h4⟩
theorem takeR_bad {p : List UInt8 × Int} (h : p.2 ≠ 0) (n : Int) : takeR p n = ([], p) := by unfold takeR; rw [if_pos h]
theorem rel_num {p q} (h : Rel p q) (w : Int) : ∃ q', r04_Reader_Num q w = some (w64 (val (takeR (preN p w) w).1), q') ∧ Rel (takeR (preN p w) w).2 q' := by
  obtain ⟨q1, hq1, hr1⟩ : ∃ q1, (if (decide (w < 1) || decide (7 < w)) = true then some ((r04_Reader_Wrong q 2).1, (r04_Reader_Wrong q 2).2.1, (r04_Reader_Wrong q 2).2.2) else some (q.1, q.2.1, q.2.2)) = some q1 ∧ Rel (preN p w) q1 := by
    by_cases hw : w < 1 ∨ 7 < w
    · refine ⟨r04_Reader_Wrong q 2, by simp [hw], ?_⟩
      have := rel_wrong h 2
      have e : preN p w = octet_Reader_Wrong p 2 := by
        unfold preN octet_Reader_Wrong octet_Reader_Ok
        by_cases hb : p.2 = 0 <;> simp [hw, hb]
      rw [e]; exact this
    · refine ⟨q, by simp [hw], ?_⟩
      have e : preN p w = p := by unfold preN; rw [if_neg (fun h => hw h.1)]
      rw [e]; exact h
  obtain ⟨S, at_, bad⟩ := q1
  unfold r04_Reader_Num
  rw [hq1, Option.bind_some]
  obtain ⟨q2, hq2, hr2⟩ : ∃ q2 : List UInt8 × Int × Int, (if bad = 0 then (r04_Reader_Take (S, at_, bad) w).bind fun x8 => some (x8.1, x8.2.1, x8.2.2.1, x8.2.2.2) else some (([] : List UInt8), S, at_, bad)) = some ((takeR (preN p w) w).1, q2.1, q2.2.1, q2.2.2) ∧ Rel (takeR (preN p w) w).2 q2 := by
    by_cases hb : bad = 0
    · obtain ⟨q2, k1, k2⟩ := rel_take hr1 w
      exact ⟨q2, by rw [if_pos hb, k1]; rfl, k2⟩
    · have hp : (preN p w).2 ≠ 0 := by rw [hr1.rest]; exact hb
      refine ⟨(S, at_, bad), by rw [if_neg hb, takeR_bad hp], ?_⟩
      rw [takeR_bad hp]; exact hr1
  simp only [hq2, Option.bind_some]
  have hl : (takeR (preN p w) w).1.length ≤ 1000000 := by
    have h3 := hr1.plen
    unfold takeR
    split
    · simp
    · split
      · simp
      · split
        · simp
        · simp; omega
  have h := loop_fold (takeR (preN p w) w).1 (fun x (c : UInt8) => w64 (x * 256 + (c.toNat : Int))) (r04_Reader_Num_l1 (takeR (preN p w) w).1) (by omega) (fun x i => by
    rw [r04_Reader_Num_l1]
    split
    · congr 1
      funext c
      have hc := c.toNat_lt
      rw [w64_step x c.toNat (by omega)]
    · rfl) 0
  rw [h, fold_w64, Option.bind_some]
  exact ⟨q2, rfl, hr2⟩
theorem rint_loop (x : List UInt8 × (List UInt8 × Int × Int)) (hl : x.1.length = 0 ∨ x.1.length = 8) : loopW (r04_Reader_Int_l1 x) (0, 0) = some (w64 (val x.1)) := by
  obtain ⟨l, y⟩ := x
  simp only at hl
  refine loopW_is (fun s => ∃ k, k ≤ l.length ∧ s = (w64 (val (l.take k) - (if k ≠ 0 ∧ (∃ c, l[0]? = some c ∧ 127 < c.toNat) then 256 ^ k else 0)), (k : Int))) (fun s => l.length - s.2.toNat) _ ?_ _ ⟨0, by omega, by simp [val, w64_id (x := 0) (by decide)]⟩
  rintro s ⟨k, hk, rfl⟩
  by_cases hkl : k < l.length
  · left
    have hg := List.getElem?_eq_getElem hkl
    have hc := (l[k]).toNat_lt
    refine ⟨_, ?_, ⟨k + 1, by omega, rfl⟩, by simp; omega⟩
    rw [r04_Reader_Int_l1, if_pos (by show (k : Int) < (l.length : Int); omega), ix_nat hg, Option.bind_some, w64_id (x := ((l[k]).toNat : Int)) (by omega)]
    have htk : val (l.take (k + 1)) = val (l.take k) * 256 + ((l[k]).toNat : Int) := by
      rw [List.take_succ_eq_append_getElem hkl, val_snoc]
    rw [w64_id (x := (k : Int) + 1) (by omega), htk]
    by_cases h0 : k = 0
    · subst h0
      by_cases hb : 127 < (l[0]).toNat
      · have hx : ∃ c, l[0]? = some c ∧ 127 < c.toNat := ⟨_, hg, hb⟩
        rw [if_pos (by simp; omega), Option.bind_some]
        simp only [hx, and_true, ne_eq, not_true_eq_false, if_false, Nat.zero_add, Nat.succ_ne_zero, not_false_eq_true, if_true]
        congr 3
        refine w64_congr ?_
        have hv0 : val (l.take 0) = 0 := by simp [val]
        rw [hv0, w64_id (x := ((l[0]).toNat : Int) - 256) (by omega)]
        have : w64 (0 - 0) = 0 := by decide
        rw [this]
        have : w64 (0 * 256) = 0 := by decide
        rw [this]
        have : (256 : Int) ^ (0 + 1) = 256 := by decide
        omega
      · have hx : ¬ ∃ c, l[0]? = some c ∧ 127 < c.toNat := by
          rintro ⟨c, h1, h2⟩; rw [hg] at h1; cases h1; exact hb h2
        rw [if_neg (by simp; omega), Option.bind_some]
        simp only [hx, and_false, if_false]
        congr 3
    · rw [if_neg (by simp; omega), Option.bind_some]
      by_cases hx : ∃ c, l[0]? = some c ∧ 127 < c.toNat
      · simp only [hx, and_true, ne_eq, h0, not_false_eq_true, if_true, Nat.succ_ne_zero]
        congr 3
        refine w64_congr ?_
        have h1 := w64_mod (w64 (val (l.take k) - 256 ^ k) * 256)
        have h2 := w64_mod (val (l.take k) - 256 ^ k)
        rw [Int.pow_succ]
        omega
      · simp only [hx, and_false, if_false]
        congr 3
        refine w64_congr ?_
        have h1 := w64_mod (w64 (val (l.take k) - 0) * 256)
        have h2 := w64_mod (val (l.take k) - 0)
        omega
  · right
    have : k = l.length := by omega
    subst this
    rw [r04_Reader_Int_l1, if_neg (by show ¬ (l.length : Int) < (l.length : Int); omega), List.take_length]
    congr 2
    refine w64_congr ?_
    rcases hl with h | h
    · rw [h]; simp
    · rw [h]
      have : (256 : Int) ^ 8 = 18446744073709551616 := by decide
      dsimp only
      split <;> omega
theorem takeR_len8 (p : List UInt8 × Int) : (takeR p 8).1.length = 0 ∨ (takeR p 8).1.length = 8 := by
  unfold takeR
  split
  · simp
  · split
    · simp
    · split
      · simp
      · right; simp; omega
theorem rel_int {p q} (h : Rel p q) : ∃ q', r04_Reader_Int q = some (w64 (val (takeR p 8).1), q') ∧ Rel (takeR p 8).2 q' := by
  obtain ⟨q2, h1, h2⟩ := rel_take h 8
  unfold r04_Reader_Int
  rw [h1, Option.bind_some, rint_loop _ (takeR_len8 p), Option.bind_some]
  exact ⟨q2, rfl, h2⟩
theorem rel_flag {p q} (h : Rel p q) : ∃ q', r04_Reader_Flag q = some (decide ((flagR p).2 = 0) && decide (w64 (val (takeR p 1).1) = 1), q') ∧ Rel (flagR p) q' := by
  obtain ⟨q2, h1, h2⟩ := rel_num h 1
  rw [preN_ok (by decide)] at h1 h2
  unfold r04_Reader_Flag
  rw [h1, Option.bind_some]
  have hz : (takeR p 1).2.2 ≠ 0 → w64 (val (takeR p 1).1) = 0 := by
    unfold takeR
    intro hne
    split
    · rfl
    · rename_i k1
      rw [if_neg k1] at hne
      split
      · rfl
      · rename_i k2
        rw [if_neg k2] at hne
        split
        · rfl
        · rename_i k3; rw [if_neg k3] at hne; exact absurd rfl hne
  unfold flagR
  by_cases hb : (takeR p 1).2.2 = 0
  · by_cases hv : 1 < w64 (val (takeR p 1).1)
    · have hw := rel_wrong h2 5
      have e : octet_Reader_Wrong (takeR p 1).2 5 = ((takeR p 1).2.1, 5) := by unfold octet_Reader_Wrong octet_Reader_Ok; simp [hb]
      rw [e] at hw
      simp only [hv, if_true, hb, and_self, Option.bind_some]
      refine ⟨r04_Reader_Wrong q2 5, ?_, hw⟩
      simp
      omega
    · simp only [hv, if_false, false_and, Option.bind_some]
      exact ⟨q2, by simp [hb], h2⟩
  · have h0 := hz hb
    simp only [h0, hb, and_false, if_false, Option.bind_some]
    exact ⟨q2, by simp [hb], h2⟩
theorem rel_count {p q} (h : Rel p q) (most : Int) : ∃ q', r04_Reader_Count q most = some (if (countR p most).2 = 0 then w64 (val (takeR p 1).1) else 0, q') ∧ Rel (countR p most) q' := by
  obtain ⟨q2, h1, h2⟩ := rel_num h 1
  rw [preN_ok (by decide)] at h1 h2
  unfold r04_Reader_Count
  rw [h1, Option.bind_some]
  have hz : (takeR p 1).2.2 ≠ 0 → w64 (val (takeR p 1).1) = 0 := by
    unfold takeR
    intro hne
    split
    · rfl
    · rename_i k1
      rw [if_neg k1] at hne
      split
      · rfl
      · rename_i k2
        rw [if_neg k2] at hne
        split
        · rfl
        · rename_i k3; rw [if_neg k3] at hne; exact absurd rfl hne
  have hw := rel_wrong h2 6
  unfold countR
  by_cases hb : (takeR p 1).2.2 = 0
  · by_cases hv : most < w64 (val (takeR p 1).1)
    · have e : octet_Reader_Wrong (takeR p 1).2 6 = ((takeR p 1).2.1, 6) := by unfold octet_Reader_Wrong octet_Reader_Ok; simp [hb]
      rw [e] at hw
      simp only [hv, if_true, hb, and_self]
      exact ⟨r04_Reader_Wrong q2 6, rfl, hw⟩
    · simp only [hv, if_false, false_and, hb, if_true]
      exact ⟨q2, rfl, h2⟩
  · have h0 := hz hb
    have e : octet_Reader_Wrong (takeR p 1).2 6 = (takeR p 1).2 := by unfold octet_Reader_Wrong octet_Reader_Ok; simp [hb]
    rw [e] at hw
    simp only [hb, and_false, if_false]
    by_cases hv : most < w64 (val (takeR p 1).1)
    · rw [if_pos hv]; exact ⟨r04_Reader_Wrong q2 6, rfl, hw⟩
    · rw [if_neg hv]; exact ⟨q2, by rw [h0], h2⟩
theorem rel_end {p q} (h : Rel p q) : ∃ q', r04_Reader_End q = some (if p.2 = 0 ∧ p.1 ≠ [] then 5 else p.2, q') ∧ Rel (p.1, if p.2 = 0 ∧ p.1 ≠ [] then 5 else p.2) q' := by
  have hl := rel_left h
  obtain ⟨S, at_, bad⟩ := q
  obtain ⟨h1, h2, rfl, h4⟩ := h
  simp only at *
  unfold r04_Reader_End
  rw [hl]
  unfold octet_Reader_Left octet_Reader_Ok
  by_cases hb : bad = 0
  · subst hb
    by_cases hne : S.drop at_.toNat = []
    · simp only [decide_true, Bool.not_true, Bool.false_eq_true, if_false, hne, List.length_nil, ne_eq, not_true_eq_false, and_false]
      rw [if_neg (by decide), Option.bind_some]
      exact ⟨_, rfl, h1, h2, by simp [hne], h4⟩
    · have : 0 < ((S.drop at_.toNat).length : Int) := by
        have := List.length_pos_iff.2 hne; omega
      simp only [decide_true, Bool.not_true, Bool.false_eq_true, if_false, this, if_true, Option.bind_some, ne_eq, hne, not_false_eq_true, and_self]
      exact ⟨_, rfl, h1, h2, rfl, h4⟩
  · simp only [hb, decide_false, Bool.not_false, if_true, false_and, if_false]
    rw [if_neg (by decide), Option.bind_some]
    exact ⟨_, rfl, h1, h2, rfl, h4⟩
theorem rel_ok {p q} (h : Rel p q) : octet_Reader_Ok p = decide (q.2.2 = 0) := by
  rw [h.rest]; rfl
theorem does_rel {p q} (h : Rel p q) (d : Int × Int) : ∃ p' q', L04_does p q d = some (true, p', q') ∧ Rel p' q' := by
  have hl : p.1.length ≤ 1000000 := by have := h.plen; omega
  have k01 : (if d.1 = 0 then some true else some (decide (d.1 = 1))) = some (decide (d.1 = 0 ∨ d.1 = 1)) := by
    by_cases h0 : d.1 = 0 <;> simp [h0]
  unfold L04_does
  rw [k01, Option.bind_some]
  by_cases h01 : d.1 = 0 ∨ d.1 = 1
  · obtain ⟨q', k1, k2⟩ := rel_num h d.2
    rw [if_pos (by simpa using h01), rnumR_eq _ _ hl, Option.bind_some, k1, Option.bind_some]
    exact ⟨_, q', by simp [orR], k2⟩
  · rw [if_neg (by simpa using h01)]
    by_cases h2 : d.1 = 2
    · obtain ⟨q', k1, k2⟩ := rel_int h
      rw [if_pos h2, rintR_eq _ hl, Option.bind_some, k1, Option.bind_some]
      exact ⟨_, q', by simp [orR], k2⟩
    · rw [if_neg h2]
      by_cases h3 : d.1 = 3
      · obtain ⟨q', k1, k2⟩ := rel_flag h
        rw [if_pos h3, flagR_eq _ hl, Option.bind_some, k1, Option.bind_some]
        exact ⟨_, q', by simp [orR], k2⟩
      · rw [if_neg h3]
        by_cases h4 : d.1 = 4
        · obtain ⟨q', k1, k2⟩ := rel_take h d.2
          rw [if_pos h4, take_eq, Option.bind_some, k1, Option.bind_some]
          exact ⟨_, q', by simp [orR], k2⟩
        · rw [if_neg h4]
          by_cases h5 : d.1 = 5
          · obtain ⟨q', k1, k2⟩ := rel_count h d.2
            rw [if_pos h5, countR_eq _ _ hl, Option.bind_some, k1, Option.bind_some]
            exact ⟨_, q', by simp [orR], k2⟩
          · rw [if_neg h5]
            by_cases h6 : d.1 = 6
            · rw [if_pos h6]
              by_cases hr : (decide (1 ≤ d.2) && decide (d.2 ≤ 17)) = true
              · rw [if_pos hr]
                exact ⟨octet_Reader_Wrong p d.2, r04_Reader_Wrong q d.2, rfl, rel_wrong h d.2⟩
              · rw [if_neg hr]
                exact ⟨p, q, rfl, h⟩
            · rw [if_neg h6]
              by_cases h7 : d.1 = 7
              · obtain ⟨q', k1, k2⟩ := rel_end h
                rw [if_pos h7, endR_eq, Option.bind_some, k1, Option.bind_some]
                exact ⟨_, q', by simp [orR], k2⟩
              · rw [if_neg h7]
                exact ⟨p, q, rfl, h⟩
theorem OctetReads_true (s : List UInt8) (_ : okS s) (l : List (Int × Int)) (hl : okL (okP (fun n => (Lit.int .i64 n).wf = true) (fun n => (Lit.int .i64 n).wf = true)) l) : L04_OctetReads s l = some true := by
  unfold L04_OctetReads
  by_cases hs : 500 < (s.length : Int)
  · rw [if_pos (by simpa using hs), awake04, Option.bind_some]
  · rw [if_neg (by simpa using hs)]
    obtain ⟨e, he, hP⟩ := loopW_ex (step := L04_OctetReads_l1 l) (fun st => ∃ k : Nat, k ≤ 30 ∧ st.1 = (k : Int) ∧ Rel (st.2.2.2.2.1, st.2.2.2.2.2) (st.2.1, st.2.2.1, st.2.2.2.1)) (fun st => 30 - st.1.toNat)
      (fun e => ∃ t, e = Sum.inl t ∧ Rel (t.2.2.2.1, t.2.2.2.2) (t.1, t.2.1, t.2.2.1)) (by
        rintro ⟨i, S, at_, bad, rest, er⟩ ⟨k, hk, hi, hr⟩
        simp only at hi hr
        subst hi
        rw [L04_OctetReads_l1]
        by_cases hc : (k : Int) < (l.length : Int) ∧ k < 30
        · left
          obtain ⟨d, hd, _⟩ := ix_getD (l := l) (i := (k : Int)) (by omega) hc.1
          obtain ⟨p', q', k1, k2⟩ := does_rel hr d
          rw [if_pos (by simp; omega), hd, Option.bind_some, k1, Option.bind_some]
          simp only [Bool.not_true, Bool.false_eq_true, if_false]
          rw [if_neg (by rw [rel_left k2]; simp), Option.bind_some]
          have hok : decide (octet_Reader_Ok p' ≠ decide (q'.2.2 = 0)) = false := by rw [rel_ok k2]; simp
          rw [hok]
          simp only [Bool.false_eq_true, if_false]
          exact ⟨_, rfl, ⟨k + 1, by omega, by rw [w64_id (by omega)]; rfl, k2⟩, by rw [w64_id (by omega)]; simp; omega⟩
        · right
          rw [if_neg (by simp; omega)]
          exact ⟨_, rfl, _, rfl, hr⟩) (0, s, 0, 0, (octet_Open s).1, (octet_Open s).2) ⟨0, by omega, rfl, by show 0 ≤ (0 : Int); omega, by show (0 : Int) ≤ s.length; omega, rfl, by show s.length ≤ 500; omega⟩
    obtain ⟨t, rfl, hr⟩ := hP
    rw [he, orR_inl]
    obtain ⟨q', k1, k2⟩ := rel_end hr
    simp only
    rw [endR_eq, Option.bind_some, k1, Option.bind_some, if_pos rfl, awake04]
    rfl
end Go.Proofs.Ytkpifofijmimdaa
