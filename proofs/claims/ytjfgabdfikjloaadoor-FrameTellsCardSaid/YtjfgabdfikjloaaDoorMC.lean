/- A 24-bit remainder, as plain mathematics: linear, and no burst of three bytes is lost. Conditions: none. -/
import Derived.Test.YtjfgabdfikjloaaDoorML
namespace Go.Proofs.YtjfgabdfikjloaaDoor
set_option linter.unusedVariables false
set_option linter.unusedSimpArgs false

def poly : BitVec 24 := 0x864CFB#24
def pif (b : Bool) : BitVec 24 := if b then poly else 0#24
theorem pif_xor (a b : Bool) : pif (a ^^ b) = pif a ^^^ pif b := by cases a <;> cases b <;> decide
def stp (c : BitVec 24) : BitVec 24 := (c <<< 1) ^^^ pif c.msb
theorem xor4 {n : Nat} (a b c d : BitVec n) : (a ^^^ b) ^^^ (c ^^^ d) = (a ^^^ c) ^^^ (b ^^^ d) := by
  rw [BitVec.xor_assoc, BitVec.xor_assoc, ← BitVec.xor_assoc b c d, BitVec.xor_comm b c, BitVec.xor_assoc c b d]
theorem stp_xor (a b : BitVec 24) : stp (a ^^^ b) = stp a ^^^ stp b := by
  unfold stp
  rw [BitVec.msb_xor, pif_xor, BitVec.shiftLeft_xor_distrib, xor4]
def itr : Nat → BitVec 24 → BitVec 24
  | 0, c => c
  | n + 1, c => itr n (stp c)
theorem itr_xor : ∀ (n : Nat) (a b : BitVec 24), itr n (a ^^^ b) = itr n a ^^^ itr n b
  | 0, _, _ => rfl
  | n + 1, a, b => by rw [itr, stp_xor, itr_xor n]; rfl
theorem itr_add : ∀ (m n : Nat) (c : BitVec 24), itr (m + n) c = itr n (itr m c)
  | 0, n, c => by rw [Nat.zero_add]; rfl
  | m + 1, n, c => by rw [Nat.succ_add, itr, itr_add m n]; rfl
theorem stp_low {c : BitVec 24} (h : c.msb = false) : stp c = c <<< 1 := by
  unfold stp; rw [h]; show c <<< 1 ^^^ 0#24 = _; simp
theorem stp_zero {c : BitVec 24} (h : stp c = 0#24) : c = 0#24 := by
  cases hm : c.msb with
  | true =>
    exfalso
    have h0 : (stp c).getLsbD 0 = true := by
      unfold stp; rw [hm, BitVec.getLsbD_xor]; simp [pif, poly]
    rw [h] at h0; simp at h0
  | false =>
    rw [stp_low hm] at h
    apply BitVec.eq_of_getLsbD_eq
    intro i hi
    by_cases h23 : i = 23
    · subst h23
      have : c.msb = c.getLsbD 23 := BitVec.msb_eq_getLsbD_last c
      rw [← this, hm]; simp
    · have h1 : (c <<< 1).getLsbD (i + 1) = false := by rw [h]; simp
      rw [BitVec.getLsbD_shiftLeft] at h1
      have h2 : decide (i + 1 < 24) = true := by simp; omega
      simp only [h2, Nat.add_sub_cancel, Bool.true_and] at h1
      simpa using h1
theorem itr_zero : ∀ (n : Nat) {c : BitVec 24}, itr n c = 0#24 → c = 0#24
  | 0, _, h => h
  | n + 1, _, h => stp_zero (itr_zero n h)
theorem itr_0 (n : Nat) : itr n 0#24 = 0#24 := by
  have := itr_xor n 0#24 0#24
  simpa using this

/-- Four steps by a table. -/
def tabN : List Nat := [0, 8801531, 9098509, 825846, 9692897, 1419802, 1651692, 10452759, 10584377, 2608578, 2839604, 11344079, 3303384, 11807523, 12104405, 4128302]
theorem tab_nib : ∀ h : Fin 16, tabN[h.val]? = some (itr 4 (BitVec.ofNat 24 (h.val * 1048576))).toNat := by decide +kernel
theorem low4 (c : BitVec 24) : itr 4 (c &&& 0xFFFFF#24) = c <<< 4 := by
  have hb : ∀ (j : Nat), j < 4 → ((c &&& 0xFFFFF#24) <<< j).msb = false := by
    intro j hj
    rw [BitVec.msb_eq_getLsbD_last, BitVec.getLsbD_shiftLeft, BitVec.getLsbD_and]
    have : j = 0 ∨ j = 1 ∨ j = 2 ∨ j = 3 := by omega
    rcases this with rfl | rfl | rfl | rfl <;> simp
  have e : ∀ j : Nat, (c &&& 0xFFFFF#24) <<< j <<< 1 = (c &&& 0xFFFFF#24) <<< (j + 1) := fun j => (BitVec.shiftLeft_add _ j 1).symm
  have h0 := hb 0 (by decide)
  rw [BitVec.shiftLeft_zero] at h0
  have e0 := e 0
  rw [BitVec.shiftLeft_zero] at e0
  show stp (stp (stp (stp (c &&& 0xFFFFF#24)))) = _
  rw [stp_low h0, e0, stp_low (hb 1 (by decide)), e, stp_low (hb 2 (by decide)), e, stp_low (hb 3 (by decide)), e]
  apply BitVec.eq_of_getLsbD_eq
  intro i hi
  rw [BitVec.getLsbD_shiftLeft, BitVec.getLsbD_shiftLeft, BitVec.getLsbD_and]
  by_cases h4 : i < 4
  · simp [h4]
  · have : (0xFFFFF#24).getLsbD (i - 4) = true := by
      have : i - 4 < 20 := by omega
      generalize i - 4 = j at this
      revert j; decide +kernel
    simp [this]
theorem split20 (c : BitVec 24) : c = BitVec.ofNat 24 (c.toNat / 1048576 * 1048576) ^^^ (c &&& 0xFFFFF#24) := by
  apply BitVec.eq_of_toNat_eq
  have hc := c.isLt
  rw [BitVec.toNat_xor, BitVec.toNat_and, BitVec.toNat_ofNat, Nat.mod_eq_of_lt (by omega)]
  have e1 : c.toNat &&& (0xFFFFF#24).toNat = c.toNat % 2 ^ 20 := Nat.and_two_pow_sub_one_eq_mod c.toNat 20
  rw [e1]
  have e2 : c.toNat / 1048576 * 1048576 ^^^ c.toNat % 2 ^ 20 = c.toNat / 1048576 * 1048576 + c.toNat % 2 ^ 20 := by
    have h := Nat.two_pow_add_eq_or_of_lt (i := 20) (b := c.toNat % 2 ^ 20) (Nat.mod_lt _ (by decide)) (c.toNat / 1048576)
    have hx : ∀ x y : Nat, x &&& y = 0 → x ^^^ y = x ||| y := by
      intro x y hxy
      apply Nat.eq_of_testBit_eq
      intro i
      have := congrArg (fun z => z.testBit i) hxy
      simp only [Nat.testBit_and, Nat.zero_testBit] at this
      rw [Nat.testBit_xor, Nat.testBit_or]
      cases hx : x.testBit i <;> cases hy : y.testBit i <;> simp_all
    rw [hx, Nat.mul_comm, show (1048576 : Nat) = 2 ^ 20 from rfl, h]
    apply Nat.eq_of_testBit_eq
    intro i
    rw [Nat.testBit_and, Nat.zero_testBit, show (1048576 : Nat) = 2 ^ 20 from rfl, Nat.testBit_mul_two_pow, Nat.testBit_mod_two_pow]
    by_cases h20 : i < 20 <;> simp [h20]; omega
  rw [e2]; omega
theorem nib (c : BitVec 24) : ∃ t, tabN[c.toNat / 1048576]? = some t ∧ (itr 4 c).toNat = (c <<< 4).toNat ^^^ t := by
  have hc := c.isLt
  have hi : c.toNat / 1048576 < 16 := by omega
  refine ⟨_, tab_nib ⟨c.toNat / 1048576, hi⟩, ?_⟩
  conv => lhs; rw [split20 c, itr_xor, low4]
  rw [BitVec.toNat_xor, Nat.xor_comm]

/-- A byte. -/
def byt (c : BitVec 24) (b : UInt8) : BitVec 24 := itr 8 (c ^^^ (b.toBitVec.setWidth 24 <<< 16))
def reg (c : BitVec 24) (l : List UInt8) : BitVec 24 := l.foldl byt c
theorem byt_xor (c d : BitVec 24) (a b : UInt8) : byt (c ^^^ d) (a ^^^ b) = byt c a ^^^ byt d b := by
  unfold byt
  rw [← itr_xor]
  congr 1
  rw [UInt8.toBitVec_xor, BitVec.setWidth_xor, BitVec.shiftLeft_xor_distrib, xor4]
theorem reg_snoc (c : BitVec 24) (l : List UInt8) (b : UInt8) : reg c (l ++ [b]) = byt (reg c l) b := by simp [reg]
theorem reg_app (c : BitVec 24) (l m : List UInt8) : reg c (l ++ m) = reg (reg c l) m := by simp [reg]
theorem reg_xor : ∀ (l m : List UInt8) (c d : BitVec 24), l.length = m.length → reg (c ^^^ d) (List.zipWith (· ^^^ ·) l m) = reg c l ^^^ reg d m
  | [], [], _, _, _ => rfl
  | a :: l, b :: m, c, d, h => by
    show reg (byt (c ^^^ d) (a ^^^ b)) (List.zipWith (· ^^^ ·) l m) = reg (byt c a) l ^^^ reg (byt d b) m
    rw [byt_xor, reg_xor l m _ _ (by simpa using h)]
  | [], _ :: _, _, _, h => by simp at h
  | _ :: _, [], _, _, h => by simp at h

/-- Bit by bit. -/
def bst (c : BitVec 24) (b : Bool) : BitVec 24 := (c <<< 1) ^^^ pif (c.msb ^^ b)
theorem bst_xor (c d : BitVec 24) (a b : Bool) : bst (c ^^^ d) (a ^^ b) = bst c a ^^^ bst d b := by
  unfold bst
  have e : ((c ^^^ d).msb ^^ (a ^^ b)) = ((c.msb ^^ a) ^^ (d.msb ^^ b)) := by
    rw [BitVec.msb_xor]; cases c.msb <;> cases d.msb <;> cases a <;> cases b <;> rfl
  rw [e, pif_xor, BitVec.shiftLeft_xor_distrib, xor4]
def bits (b : UInt8) : List Bool := (List.range 8).map fun i => b.toBitVec.getLsbD (7 - i)
def bby (c : BitVec 24) (b : UInt8) : BitVec 24 := (bits b).foldl bst c
theorem bfold_xor : ∀ (l m : List Bool) (c d : BitVec 24), l.length = m.length → (List.zipWith (· ^^ ·) l m).foldl bst (c ^^^ d) = l.foldl bst c ^^^ m.foldl bst d
  | [], [], _, _, _ => rfl
  | a :: l, b :: m, c, d, h => by
    show (List.zipWith (· ^^ ·) l m).foldl bst (bst (c ^^^ d) (a ^^ b)) = l.foldl bst (bst c a) ^^^ m.foldl bst (bst d b)
    rw [bst_xor, bfold_xor l m _ _ (by simpa using h)]
  | [], _ :: _, _, _, h => by simp at h
  | _ :: _, [], _, _, h => by simp at h
theorem bst_f (c : BitVec 24) : bst c false = stp c := by unfold bst stp; rw [Bool.xor_false]
theorem bby_zero : ∀ b : Fin 256, bby 0#24 (UInt8.ofNat b.val) = itr 8 ((UInt8.ofNat b.val).toBitVec.setWidth 24 <<< 16) := by decide +kernel
theorem bby_eq (c : BitVec 24) (b : UInt8) : bby c b = byt c b := by
  have h1 : bby c b = bby c 0 ^^^ bby 0#24 b := by
    have := bfold_xor (bits 0) (bits b) c 0#24 (by simp [bits])
    rw [BitVec.xor_zero] at this
    rw [show bby c 0 ^^^ bby 0#24 b = (bits 0).foldl bst c ^^^ (bits b).foldl bst 0#24 from rfl, ← this]
    show (bits b).foldl bst c = _
    congr 1
    simp [bits, List.range_succ_eq_map]
  have h2 : bby c 0 = itr 8 c := by
    show [false, false, false, false, false, false, false, false].foldl bst c = _
    simp only [List.foldl, bst_f]; rfl
  have h3 := bby_zero ⟨b.toNat, b.toNat_lt⟩
  simp only [UInt8.ofNat_toNat] at h3
  rw [h1, h2, h3, ← itr_xor]; rfl

/-- The remainder's own bytes bring it to nothing. -/
def b3 (c : BitVec 24) : List UInt8 := [UInt8.ofNat (c.toNat / 65536), UInt8.ofNat (c.toNat / 256), UInt8.ofNat c.toNat]
def v3 (x y z : UInt8) : BitVec 24 := (x.toBitVec.setWidth 24 <<< 16) ^^^ (y.toBitVec.setWidth 24 <<< 8) ^^^ z.toBitVec.setWidth 24
theorem up8 : ∀ b : Fin 256, itr 8 ((UInt8.ofNat b.val).toBitVec.setWidth 24 <<< 8) = (UInt8.ofNat b.val).toBitVec.setWidth 24 <<< 16 := by decide +kernel
theorem up16 : ∀ b : Fin 256, itr 16 ((UInt8.ofNat b.val).toBitVec.setWidth 24) = (UInt8.ofNat b.val).toBitVec.setWidth 24 <<< 16 := by decide +kernel
theorem reg3 (c : BitVec 24) (x y z : UInt8) : reg c [x, y, z] = itr 24 (c ^^^ v3 x y z) := by
  have hy := up8 ⟨y.toNat, y.toNat_lt⟩
  have hz := up16 ⟨z.toNat, z.toNat_lt⟩
  simp only [UInt8.ofNat_toNat] at hy hz
  show byt (byt (byt c x) y) z = _
  unfold byt v3
  rw [← hy, ← hz, ← itr_xor, show itr 16 (z.toBitVec.setWidth 24) = itr 8 (itr 8 (z.toBitVec.setWidth 24)) from itr_add 8 8 _, ← itr_xor, ← itr_xor, ← itr_add, ← itr_add]
  congr 1
  simp only [BitVec.xor_assoc]
theorem v3_b3 (c : BitVec 24) : v3 (UInt8.ofNat (c.toNat / 65536)) (UInt8.ofNat (c.toNat / 256)) (UInt8.ofNat c.toNat) = c := by
  apply BitVec.eq_of_getLsbD_eq
  intro i hi
  have hu : ∀ n j : Nat, (UInt8.ofNat n).toBitVec.getLsbD j = (decide (j < 8) && n.testBit j) := by
    intro n j
    rw [← BitVec.testBit_toNat, show (UInt8.ofNat n).toBitVec.toNat = n % 2 ^ 8 from rfl, Nat.testBit_mod_two_pow]
  unfold v3
  have hd : ∀ k j : Nat, (c.toNat / 2 ^ k).testBit j = c.getLsbD (k + j) := by
    intro k j
    rw [← Nat.shiftRight_eq_div_pow, Nat.testBit_shiftRight, BitVec.testBit_toNat]
  rw [BitVec.getLsbD_xor, BitVec.getLsbD_xor, BitVec.getLsbD_shiftLeft, BitVec.getLsbD_shiftLeft, BitVec.getLsbD_setWidth, BitVec.getLsbD_setWidth, BitVec.getLsbD_setWidth, hu, hu, hu]
  rw [show (65536 : Nat) = 2 ^ 16 from rfl, show (256 : Nat) = 2 ^ 8 from rfl, hd, hd, BitVec.testBit_toNat]
  by_cases h8 : i < 8
  · have : i < 16 := by omega
    simp [h8, this, hi]
  · by_cases h16 : i < 16
    · have e1 : 8 + (i - 8) = i := by omega
      have e2 : i - 8 < 8 := by omega
      have e3 : i - 8 < 24 := by omega
      simp [h8, h16, hi, e1, e2, e3]
    · have e1 : 16 + (i - 16) = i := by omega
      have e2 : i - 16 < 8 := by omega
      have e3 : i - 16 < 24 := by omega
      have e4 : ¬ i - 8 < 8 := by omega
      simp [h8, h16, hi, e1, e2, e3, e4]
theorem reg_seal (c : BitVec 24) : reg c (b3 c) = 0#24 := by
  unfold b3; rw [reg3, v3_b3, BitVec.xor_self, itr_0]
theorem byt_zero (c : BitVec 24) : byt c 0 = itr 8 c := by
  unfold byt
  rw [show (0 : UInt8).toBitVec.setWidth 24 <<< 16 = 0#24 by decide, BitVec.xor_zero]
theorem reg_zeros : ∀ (n : Nat) (c : BitVec 24), reg c (List.replicate n 0) = itr (8 * n) c
  | 0, _ => rfl
  | n + 1, c => by
    show reg (byt c 0) (List.replicate n 0) = _
    rw [reg_zeros n, byt_zero, ← itr_add]; congr 1; omega
theorem v3_zero {x y z : UInt8} (h : v3 x y z = 0#24) : x = 0 ∧ y = 0 ∧ z = 0 := by
  have key : ∀ i, (v3 x y z).getLsbD i = false := fun i => by rw [h]; simp
  have key' := key
  unfold v3 at key'
  simp only [BitVec.getLsbD_xor, BitVec.getLsbD_shiftLeft, BitVec.getLsbD_setWidth] at key'
  refine ⟨?_, ?_, ?_⟩
  · apply UInt8.eq_of_toBitVec_eq
    apply BitVec.eq_of_getLsbD_eq
    intro i hi
    have h1 := key' (16 + i)
    have e1 : y.toBitVec.getLsbD (16 + i - 8) = false := BitVec.getLsbD_of_ge _ _ (by omega)
    have e2 : z.toBitVec.getLsbD (16 + i) = false := BitVec.getLsbD_of_ge _ _ (by omega)
    have e3 : 16 + i < 24 := by omega
    have e4 : i < 24 := by omega
    simpa [e1, e2, e3, e4] using h1
  · apply UInt8.eq_of_toBitVec_eq
    apply BitVec.eq_of_getLsbD_eq
    intro i hi
    have h1 := key' (8 + i)
    have e2 : z.toBitVec.getLsbD (8 + i) = false := BitVec.getLsbD_of_ge _ _ (by omega)
    have e3 : 8 + i < 24 := by omega
    have e4 : i < 24 := by omega
    have e5 : 8 + i < 16 := by omega
    simpa [e2, e3, e4, e5] using h1
  · apply UInt8.eq_of_toBitVec_eq
    apply BitVec.eq_of_getLsbD_eq
    intro i hi
    have h1 := key' i
    have e3 : i < 24 := by omega
    have e4 : i < 16 := by omega
    simpa [hi, e3, e4] using h1
/-- A change of three bytes side by side is seen. -/
theorem burst (m n : Nat) (x y z : UInt8) (h : reg 0#24 (List.replicate m 0 ++ [x, y, z] ++ List.replicate n 0) = 0#24) : x = 0 ∧ y = 0 ∧ z = 0 := by
  rw [reg_app, reg_app, reg_zeros n, reg_zeros m, itr_0, reg3, BitVec.zero_xor] at h
  exact v3_zero (itr_zero _ (itr_zero _ h))
end Go.Proofs.YtjfgabdfikjloaaDoor
