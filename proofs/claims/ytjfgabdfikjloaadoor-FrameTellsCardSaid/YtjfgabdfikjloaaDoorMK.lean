/- The functions of layer 5 (the program's and the reference's), in plain words. Conditions: none. -/
import Derived.Test.YtjfgabdfikjloaaDoorA2
import Derived.Test.YtjfgabdfikjloaaDoorMC
namespace Go.Proofs.YtjfgabdfikjloaaDoor
set_option linter.unusedVariables false
set_option linter.unusedSimpArgs false
open Go Go.RowKit

theorem ofInt32 (a : Nat) (h : a < 4294967296) : (BitVec.ofInt 32 (a : Int)).toNat = a := by
  rw [BitVec.toNat_ofInt]; omega
theorem xor_u32 (a b : Nat) (ha : a < 4294967296) (hb : b < 4294967296) : xorI .u32 (a : Int) (b : Int) = ((a ^^^ b : Nat) : Int) := by
  have hl : a ^^^ b < 2 ^ 32 := Nat.xor_lt_two_pow ha hb
  show IntKind.u32.wrap ((BitVec.ofInt 32 (a : Int) ^^^ BitVec.ofInt 32 (b : Int)).toNat : Int) = _
  rw [BitVec.toNat_xor, ofInt32 a ha, ofInt32 b hb, wu32]; omega
theorem and_24 (a : Nat) (ha : a < 4294967296) : andI .u32 (a : Int) 16777215 = ((a % 16777216 : Nat) : Int) := by
  show IntKind.u32.wrap ((BitVec.ofInt 32 (a : Int) &&& BitVec.ofInt 32 ((16777215 : Nat) : Int)).toNat : Int) = _
  rw [BitVec.toNat_and, ofInt32 a ha, ofInt32 _ (by decide), Nat.and_two_pow_sub_one_eq_mod a 24, wu32]; omega
theorem shr_u32 (a k : Nat) (hk : k < 32) : shrI .u32 (a : Int) (k : Int) = ((a / 2 ^ k : Nat) : Int) := by
  unfold shrI
  rw [Int.toNat_natCast, Nat.min_eq_left (by show k ≤ 32; omega), Int.fdiv_eq_ediv_of_nonneg _ (by have := Int.pow_pos (n := 2) (m := k) (by decide); omega)]
  norm_cast
theorem shl_u32 (a k : Nat) (hk : k < 32) : shlI .u32 (a : Int) (k : Int) = ((a * 2 ^ k % 4294967296 : Nat) : Int) := by
  unfold shlI
  rw [Int.toNat_natCast, Nat.min_eq_left (by show k ≤ 32; omega), wu32, Int.natCast_emod, Int.natCast_mul, Int.natCast_pow]
  rfl

theorem shifted_eq (c : BitVec 24) : crc_shifted (c.toNat : Int) = some ((itr 4 c).toNat : Int) := by
  have hc := c.isLt
  obtain ⟨t, ht, he⟩ := nib c
  unfold crc_shifted
  have h1 : shrI .u32 (c.toNat : Int) 20 = ((c.toNat / 1048576 : Nat) : Int) := shr_u32 c.toNat 20 (by decide)
  have h2 : tab0_l[c.toNat / 1048576]? = some (t : Int) := by
    have : tab0_l = tabN.map fun n : Nat => (n : Int) := rfl
    rw [this, List.getElem?_map, ht]; rfl
  have ht' : t < 4294967296 := by
    have : ∀ x ∈ tabN, x < 4294967296 := by decide
    exact this t (List.mem_of_getElem? ht)
  have h3 : shlI .u32 (c.toNat : Int) 4 = ((c.toNat * 16 % 4294967296 : Nat) : Int) := shl_u32 c.toNat 4 (by decide)
  rw [h1, ix_nat h2, Option.bind_some, h3, and_24 _ (by omega), xor_u32 _ _ (by omega) ht', he]
  have e : (c <<< 4).toNat = c.toNat * 16 % 4294967296 % 16777216 := by
    rw [BitVec.toNat_shiftLeft, Nat.shiftLeft_eq]; omega
  rw [e]

theorem reg_take (c : BitVec 24) (l : List UInt8) (k : Nat) (b : UInt8) (h : l[k]? = some b) : reg c (l.take (k + 1)) = byt (reg c (l.take k)) b := by
  rw [List.take_add_one, h]; exact reg_snoc _ _ _
theorem up_byte (b : UInt8) : ((b.toBitVec.setWidth 24 : BitVec 24) <<< 16).toNat = b.toNat * 65536 := by
  have hb := b.toNat_lt
  rw [BitVec.toNat_shiftLeft, BitVec.toNat_setWidth, UInt8.toNat_toBitVec, Nat.shiftLeft_eq]; omega
def reg0 (p : Int) : BitVec 24 := BitVec.ofNat 24 p.toNat
theorem more_eq (p : Int) (hp : 0 ≤ p ∧ p < 4294967296) (l : List UInt8) (hl : l.length ≤ 1000000000) : crc_More p l = some ((reg (reg0 p) l).toNat : Int) := by
  unfold crc_More
  have h0 : andI .u32 p 16777215 = ((reg0 p).toNat : Int) := by
    have := and_24 p.toNat (by omega)
    rw [Int.toNat_of_nonneg hp.1] at this
    rw [this]; unfold reg0; rw [BitVec.toNat_ofNat]
  have hlo : loopW (crc_More_l1 l) (andI .u32 p 16777215, 0) = some ((reg (reg0 p) l).toNat : Int) := by
    refine loopW_is (fun s => ∃ k : Nat, k ≤ l.length ∧ s = (((reg (reg0 p) (l.take k)).toNat : Int), (k : Int))) (fun s => l.length - s.2.toNat) _ ?_ _ ⟨0, by omega, by rw [h0]; rfl⟩
    rintro s ⟨k, hk, rfl⟩
    by_cases hkl : k < l.length
    · left
      obtain ⟨b, hb⟩ : ∃ b, l[k]? = some b := ⟨_, List.getElem?_eq_getElem hkl⟩
      have hbl := b.toNat_lt
      generalize hc : reg (reg0 p) (l.take k) = c
      refine ⟨(((reg (reg0 p) (l.take (k + 1))).toNat : Int), ((k + 1 : Nat) : Int)), ?_, ⟨k + 1, by omega, rfl⟩, by simp; omega⟩
      have hcl := c.isLt
      have e1 : shlI .u32 (IntKind.u32.wrap (b.toNat : Int)) 16 = ((b.toNat * 65536 : Nat) : Int) := by
        rw [wu32, show ((b.toNat : Int) % 4294967296) = (b.toNat : Int) by omega]
        have := shl_u32 b.toNat 16 (by decide)
        rw [show ((16 : Nat) : Int) = 16 from rfl] at this
        rw [this, Nat.mod_eq_of_lt (by omega)]
      have e2 : xorI .u32 (c.toNat : Int) ((b.toNat * 65536 : Nat) : Int) = ((c ^^^ (b.toBitVec.setWidth 24 <<< 16)).toNat : Int) := by
        rw [xor_u32 _ _ (by omega) (by omega), BitVec.toNat_xor, up_byte]
      rw [crc_More_l1, if_pos (by omega), ix_nat hb, Option.bind_some, e1, e2, shifted_eq, Option.bind_some, shifted_eq, Option.bind_some, w64_id (by omega), reg_take _ _ _ _ hb, hc]
      rfl
    · right
      have : k = l.length := by omega
      subst this
      rw [crc_More_l1, if_neg (by omega), List.take_length]
  rw [hlo]; rfl
def reg1 : BitVec 24 := 0xB704CE#24
theorem reg1_eq : reg0 11994318 = reg1 := by decide
theorem sum_eq (l : List UInt8) (hl : l.length ≤ 1000000000) : crc_Sum l = some ((reg reg1 l).toNat : Int) := by
  unfold crc_Sum; rw [more_eq _ (by decide) l hl, reg1_eq]; rfl
theorem str_b3 (c : BitVec 24) : strOf ([IntKind.u8.wrap (shrI .u32 (c.toNat : Int) 16), IntKind.u8.wrap (shrI .u32 (c.toNat : Int) 8), IntKind.u8.wrap (c.toNat : Int)] : List Int) = b3 c := by
  have e : ∀ n : Nat, UInt8.ofNat (((n : Int) % 256).toNat) = UInt8.ofNat n := by
    intro n
    apply UInt8.toNat_inj.1
    rw [UInt8.toNat_ofNat', UInt8.toNat_ofNat']; omega
  have h1 : shrI .u32 (c.toNat : Int) 16 = ((c.toNat / 65536 : Nat) : Int) := shr_u32 c.toNat 16 (by decide)
  have h2 : shrI .u32 (c.toNat : Int) 8 = ((c.toNat / 256 : Nat) : Int) := shr_u32 c.toNat 8 (by decide)
  rw [h1, h2]
  simp only [strOf, List.map, wu8, e, b3]
def sealed (l : List UInt8) : List UInt8 := l ++ b3 (reg reg1 l)
theorem seal_eq (l : List UInt8) (hl : l.length ≤ 999999997) : crc_Seal l = some (sealed l) := by
  unfold crc_Seal
  rw [sum_eq l (by omega), Option.bind_some, str_b3, app_is (by simp [b3]; omega)]; rfl
def opn (l : List UInt8) : List UInt8 × Bool := if l.length < 3 then ([], false) else if sealed (l.take (l.length - 3)) = l then (l.take (l.length - 3), true) else ([], false)
theorem open_eq (l : List UInt8) (hl : l.length ≤ 999999997) : crc_Open l = some (opn l) := by
  unfold crc_Open opn
  by_cases h : l.length < 3
  · rw [if_pos (by omega), if_pos h]
  · rw [if_neg (by omega), if_neg h, w64_id (by omega), subl_is (by omega), Option.bind_some]
    have e : ((l.length : Int) - 3).toNat = l.length - 3 := by omega
    rw [e, show ((0 : Int).toNat) = 0 from rfl, List.drop_zero, seal_eq _ (by rw [List.length_take]; omega), Option.bind_some]
    by_cases hs : sealed (l.take (l.length - 3)) = l
    · rw [if_neg (by simp [hs]), if_pos hs]
    · rw [if_pos hs, if_neg hs]

/-- The reference, bit by bit. -/
theorem rbit (b : UInt8) (k : Nat) (hk : k < 8) : Int.tmod (shrI .u32 (b.toNat : Int) (k : Int)) 2 = if b.toBitVec.getLsbD k then 1 else 0 := by
  rw [shr_u32 _ _ (by omega), Int.tmod_eq_emod_of_nonneg (Int.natCast_nonneg _), ← BitVec.testBit_toNat, UInt8.toNat_toBitVec, Nat.testBit_eq_decide_div_mod_eq]
  generalize b.toNat / 2 ^ k = q
  by_cases h : q % 2 = 1
  · rw [if_pos (by simpa using h)]; omega
  · rw [if_neg (by simpa using h)]; omega
theorem bst_nat (c : BitVec 24) (b : Bool) : (bst c b).toNat = if (c.toNat / 8388608 : Nat) ≠ (if b then 1 else 0) then (c.toNat * 2 % 16777216) ^^^ 8801531 else c.toNat * 2 % 16777216 := by
  have hc := c.isLt
  have e1 : (c <<< 1).toNat = c.toNat * 2 % 16777216 := by rw [BitVec.toNat_shiftLeft, Nat.shiftLeft_eq]
  have e2 : c.msb = decide (c.toNat / 8388608 = 1) := by
    rw [BitVec.msb_eq_decide]
    by_cases h : 2 ^ (24 - 1) ≤ c.toNat
    · simp [h]; omega
    · simp [h]; omega
  unfold bst
  rw [BitVec.toNat_xor, e1, e2]
  rcases (show c.toNat / 8388608 = 0 ∨ c.toNat / 8388608 = 1 by omega) with h | h <;> cases b <;> simp [h, pif, poly]
theorem rmore_l2 (l : List UInt8) (k : Nat) (b : UInt8) (hb : l[k]? = some b) (c : BitVec 24) : loopW (r05_More_l2 l k) ((c.toNat : Int), 7) = some ((byt c b).toNat : Int) := by
  rw [← bby_eq]
  refine loopW_is (fun s => ∃ j : Nat, j ≤ 8 ∧ s = (((((bits b).take j).foldl bst c).toNat : Int), 7 - (j : Int))) (fun s => (s.2 + 1).toNat) _ ?_ _ ⟨0, by omega, rfl⟩
  rintro s ⟨j, hj, rfl⟩
  by_cases hj8 : j < 8
  · left
    refine ⟨(((((bits b).take (j + 1)).foldl bst c).toNat : Int), 7 - ((j + 1 : Nat) : Int)), ?_, ⟨j + 1, by omega, rfl⟩, by simp; omega⟩
    generalize hd : ((bits b).take j).foldl bst c = d
    have hdl := d.isLt
    have hbl := b.toNat_lt
    have hbit : (bits b)[j]? = some (b.toBitVec.getLsbD (7 - j)) := by simp [bits, hj8]
    have hfo : ((bits b).take (j + 1)).foldl bst c = bst d (b.toBitVec.getLsbD (7 - j)) := by
      rw [List.take_add_one, hbit]; simp [hd]
    rw [hfo, bst_nat]
    have e0 : (7 - (j : Int)) = ((7 - j : Nat) : Int) := by omega
    have e1 : IntKind.u32.wrap (b.toNat : Int) = (b.toNat : Int) := by rw [wu32]; omega
    have e2 : IntKind.u64.wrap ((7 - j : Nat) : Int) = ((7 - j : Nat) : Int) := by
      show ((7 - j : Nat) : Int) % 18446744073709551616 = _
      omega
    have e3 : IntKind.u32.wrap (Int.tdiv (d.toNat : Int) 8388608) = ((d.toNat / 8388608 : Nat) : Int) := by
      rw [wu32, Int.tdiv_eq_ediv_of_nonneg (by omega)]; omega
    have e4 : Int.tmod (IntKind.u32.wrap ((d.toNat : Int) * 2)) 16777216 = ((d.toNat * 2 % 16777216 : Nat) : Int) := by
      rw [wu32, Int.tmod_eq_emod_of_nonneg (by omega)]; omega
    have e5 : w64 (((7 - j : Nat) : Int) - 1) = 7 - ((j + 1 : Nat) : Int) := by rw [w64_id (by omega)]; omega
    rw [e0, r05_More_l2, if_pos (by omega), ix_nat hb, Option.bind_some, e1, e2, shN_is (by omega), Option.bind_some, rbit _ _ (by omega), e3, e4, e5, show (8801531 : Int) = ((8801531 : Nat) : Int) from rfl, xor_u32 _ _ (by omega) (by decide)]
    by_cases hq : (d.toNat / 8388608 : Nat) ≠ (if b.toBitVec.getLsbD (7 - j) then 1 else 0)
    · rw [if_pos hq, if_pos (by intro h; apply hq; by_cases hbb : b.toBitVec.getLsbD (7 - j) = true <;> simp only [hbb, if_true, if_false, Bool.false_eq_true] at h ⊢ <;> omega)]; rfl
    · rw [if_neg hq, if_neg (by simp only [ne_eq, Decidable.not_not] at hq ⊢; rw [hq]; split <;> rfl)]; rfl
  · right
    have : j = 8 := by omega
    subst this
    rw [r05_More_l2, if_neg (by omega)]
    rw [List.take_of_length_le (by simp [bits])]; rfl
theorem rmore_eq (p : Int) (hp : 0 ≤ p ∧ p < 4294967296) (l : List UInt8) (hl : l.length ≤ 1000000000) : r05_More p l = some ((reg (reg0 p) l).toNat : Int) := by
  unfold r05_More
  have h0 : Int.tmod p 16777216 = ((reg0 p).toNat : Int) := by
    rw [Int.tmod_eq_emod_of_nonneg hp.1]; unfold reg0; rw [BitVec.toNat_ofNat]; omega
  have hlo : loopW (r05_More_l1 l) (Int.tmod p 16777216, 0) = some ((reg (reg0 p) l).toNat : Int) := by
    refine loopW_is (fun s => ∃ k : Nat, k ≤ l.length ∧ s = (((reg (reg0 p) (l.take k)).toNat : Int), (k : Int))) (fun s => l.length - s.2.toNat) _ ?_ _ ⟨0, by omega, by rw [h0]; rfl⟩
    rintro s ⟨k, hk, rfl⟩
    by_cases hkl : k < l.length
    · left
      obtain ⟨b, hb⟩ : ∃ b, l[k]? = some b := ⟨_, List.getElem?_eq_getElem hkl⟩
      refine ⟨(((reg (reg0 p) (l.take (k + 1))).toNat : Int), ((k + 1 : Nat) : Int)), ?_, ⟨k + 1, by omega, rfl⟩, by simp; omega⟩
      rw [r05_More_l1, if_pos (by omega), rmore_l2 l k b hb, Option.bind_some, w64_id (by omega), reg_take _ _ _ _ hb]
      rfl
    · right
      have : k = l.length := by omega
      subst this
      rw [r05_More_l1, if_neg (by omega), List.take_length]
  rw [hlo]; rfl
theorem rsum_eq (l : List UInt8) (hl : l.length ≤ 1000000000) : r05_Sum l = some ((reg reg1 l).toNat : Int) := by
  unfold r05_Sum; rw [rmore_eq _ (by decide) l hl, reg1_eq]; rfl
theorem rstr_b3 (c : BitVec 24) : strOf ([IntKind.u8.wrap (IntKind.u32.wrap (Int.tdiv (c.toNat : Int) 65536)), IntKind.u8.wrap (Int.tmod (IntKind.u32.wrap (Int.tdiv (c.toNat : Int) 256)) 256), IntKind.u8.wrap (Int.tmod (c.toNat : Int) 256)] : List Int) = b3 c := by
  have hc := c.isLt
  have e : ∀ n m : Nat, (n % 256 = m % 256) → UInt8.ofNat n = UInt8.ofNat m := by
    intro n m h
    apply UInt8.toNat_inj.1
    rw [UInt8.toNat_ofNat', UInt8.toNat_ofNat']; omega
  simp only [strOf, List.map, wu8, wu32, b3, List.cons.injEq, and_true]
  rw [Int.tdiv_eq_ediv_of_nonneg (by omega), Int.tdiv_eq_ediv_of_nonneg (by omega), Int.tmod_eq_emod_of_nonneg (by omega), Int.tmod_eq_emod_of_nonneg (by omega)]
  exact ⟨e _ _ (by omega), e _ _ (by omega), e _ _ (by omega)⟩
theorem rseal_eq (l : List UInt8) (hl : l.length ≤ 999999997) : r05_Seal l = some (sealed l) := by
  unfold r05_Seal
  rw [rsum_eq l (by omega), Option.bind_some, rstr_b3, app_is (by simp [b3]; omega)]; rfl
theorem open_seal (l : List UInt8) : opn (sealed l) = (l, true) := by
  have hl : (sealed l).length = l.length + 3 := by simp [sealed, b3]
  have ht : (sealed l).take ((sealed l).length - 3) = l := by rw [hl]; simp [sealed]
  unfold opn
  rw [if_neg (by omega), ht, if_pos rfl]
end Go.Proofs.YtjfgabdfikjloaaDoor
