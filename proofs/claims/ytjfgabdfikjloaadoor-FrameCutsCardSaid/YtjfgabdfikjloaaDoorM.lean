/- Layer 6: frames in plain words; the four statements. Conditions: none. -/
import Derived.Test.YtjfgabdfikjloaaDoorM4
namespace Go.Proofs.YtjfgabdfikjloaaDoor
set_option linter.unusedVariables false
set_option linter.unusedSimpArgs false
open Go Go.RowKit

theorem xor_u8 (a b : UInt8) : xorI .u8 (a.toNat : Int) (b.toNat : Int) = ((a ^^^ b).toNat : Int) := by
  have ha := a.toNat_lt
  have hb := b.toNat_lt
  have hl : a.toNat ^^^ b.toNat < 2 ^ 8 := Nat.xor_lt_two_pow ha hb
  show IntKind.u8.wrap ((BitVec.ofInt 8 (a.toNat : Int) ^^^ BitVec.ofInt 8 (b.toNat : Int)).toNat : Int) = _
  rw [BitVec.toNat_xor, BitVec.toNat_ofInt, BitVec.toNat_ofInt, wu8, UInt8.toNat_xor]
  have e1 : ((a.toNat : Int) % ((2 ^ 8 : Nat) : Int)).toNat = a.toNat := by omega
  have e2 : ((b.toNat : Int) % ((2 ^ 8 : Nat) : Int)).toNat = b.toNat := by omega
  rw [e1, e2]; omega
theorem str_nat : ∀ (l : List UInt8), strOf (l.map fun b => (b.toNat : Int)) = l
  | [] => rfl
  | a :: l => by
    show UInt8.ofNat ((a.toNat : Int).toNat) :: strOf (l.map fun b => (b.toNat : Int)) = a :: l
    rw [str_nat l, Int.toNat_natCast, UInt8.ofNat_toNat]
def mask (m n : Nat) (x : List UInt8) : List UInt8 := List.replicate m 0 ++ x ++ List.replicate n 0
theorem mask_get (m n : Nat) (x : List UInt8) (k : Nat) (hk : k < m + x.length + n) : (mask m n x)[k]? = some (if m ≤ k ∧ k - m < x.length then x[k - m]?.getD 0 else 0) := by
  unfold mask
  by_cases h1 : k < m
  · rw [List.append_assoc, List.getElem?_append_left (by simpa using h1), if_neg (by omega)]; simp [h1]
  · by_cases h2 : k - m < x.length
    · rw [List.append_assoc, List.getElem?_append_right (by simp; omega), List.getElem?_append_left (by simpa using h2), if_pos ⟨by omega, h2⟩]
      simp [List.getElem?_eq_getElem h2]
    · rw [List.getElem?_append_right (by simp; omega), if_neg (by omega)]
      have : k - (m + x.length) < n := by omega
      simp [this]
theorem chg_eq (l : List UInt8) (m n : Nat) (x : List UInt8) (hl : l.length ≤ 100000000) (hm : m + x.length + n = l.length) : r05_Changed l (m : Int) x = some (List.zipWith (· ^^^ ·) l (mask m n x)) := by
  have hz : (List.zipWith (· ^^^ ·) l (mask m n x)).length = l.length := by simp [mask]; omega
  generalize hZ : List.zipWith (· ^^^ ·) l (mask m n x) = z at hz
  have hlo : loopW (r05_Changed_l1 l (m : Int) x) (([] : List Int), 0) = some (z.map fun b => (b.toNat : Int)) := by
    refine loopW_is (fun s => ∃ k : Nat, k ≤ l.length ∧ s = ((z.take k).map (fun b => (b.toNat : Int)), (k : Int))) (fun s => l.length - s.2.toNat) _ ?_ _ ⟨0, by omega, rfl⟩
    rintro s ⟨k, hk, rfl⟩
    by_cases hkl : k < l.length
    · left
      refine ⟨((z.take (k + 1)).map (fun b => (b.toNat : Int)), ((k + 1 : Nat) : Int)), ?_, ⟨k + 1, by omega, rfl⟩, by simp; omega⟩
      obtain ⟨a, ha⟩ : ∃ a, l[k]? = some a := ⟨_, List.getElem?_eq_getElem hkl⟩
      have hmk := mask_get m n x k (by omega)
      have hzk : z[k]? = some (a ^^^ (if m ≤ k ∧ k - m < x.length then x[k - m]?.getD 0 else 0)) := by
        rw [← hZ, List.getElem?_zipWith, ha, hmk]
      have hmid : (if (decide ((m : Int) ≤ (k : Int)) && decide ((w64 ((k : Int) - (m : Int))) < (x.length : Int))) = true then (ix x (w64 ((k : Int) - (m : Int)))).bind fun x6 => some (xorI .u8 (a.toNat : Int) (x6.toNat : Int)) else some (a.toNat : Int)) = some (((a ^^^ (if m ≤ k ∧ k - m < x.length then x[k - m]?.getD 0 else 0)).toNat : Nat) : Int) := by
        have hw : w64 ((k : Int) - (m : Int)) = (k : Int) - (m : Int) := w64_id (by omega)
        rw [hw]
        by_cases hc : m ≤ k ∧ k - m < x.length
        · rw [if_pos (by simp; omega), if_pos hc]
          obtain ⟨y, hy⟩ : ∃ y, x[k - m]? = some y := ⟨_, List.getElem?_eq_getElem hc.2⟩
          rw [show (k : Int) - (m : Int) = ((k - m : Nat) : Int) by omega, ix_nat hy, Option.bind_some, xor_u8, hy]; rfl
        · rw [if_neg (by simp; omega), if_neg hc]; simp
      rw [r05_Changed_l1, if_pos (by omega), ix_nat ha, Option.bind_some, hmid, Option.bind_some, app_is (by simp; omega), Option.bind_some, w64_id (by omega), List.take_add_one, hzk]
      simp
    · right
      have : k = l.length := by omega
      subst this
      rw [r05_Changed_l1, if_neg (by omega), ← hz, List.take_length]
  unfold r05_Changed
  rw [hlo, Option.bind_some, str_nat]
theorem okU32 {n : Int} (h : (Lit.int .u32 n).wf = true) : 0 ≤ n ∧ n < 4294967296 := by
  have a1 : IntKind.u32.min = 0 := rfl
  have a2 : IntKind.u32.max = 4294967295 := rfl
  simp only [Lit.wf, Bool.and_eq_true, decide_eq_true_eq] at h
  omega
theorem okU8 {n : Int} (h : (Lit.int .u8 n).wf = true) : 0 ≤ n ∧ n < 256 := by
  have a1 : IntKind.u8.min = 0 := rfl
  have a2 : IntKind.u8.max = 255 := rfl
  simp only [Lit.wf, Bool.and_eq_true, decide_eq_true_eq] at h
  omega
theorem sealed_len (l : List UInt8) : (sealed l).length = l.length + 3 := by simp [sealed, b3]
theorem sealed_reg (l : List UInt8) : reg reg1 (sealed l) = 0#24 := by
  unfold sealed; rw [reg_app, reg_seal]
theorem opn_reg {l : List UInt8} (h : (opn l).2 = true) : reg reg1 l = 0#24 := by
  unfold opn at h
  split at h
  · simp at h
  · split at h
    · rename_i h2; rw [← h2]; exact sealed_reg _
    · simp at h


theorem one_byte (m n : Nat) (x : UInt8) (h : reg 0#24 (mask m n [x]) = 0#24) : x = 0 := by
  unfold mask at h
  rw [reg_app, reg_app, reg_zeros n, reg_zeros m, itr_0] at h
  have h1 := itr_zero _ h
  have h2 : itr 8 (0#24 ^^^ (x.toBitVec.setWidth 24 <<< 16)) = 0#24 := h1
  have h3 := itr_zero _ h2
  have h4 : v3 x 0 0 = 0#24 := by
    unfold v3
    rw [BitVec.zero_xor] at h3
    rw [h3, show (0 : UInt8).toBitVec.setWidth 24 <<< 8 = 0#24 by decide, show (0 : UInt8).toBitVec.setWidth 24 = 0#24 by decide]; simp
  exact (v3_zero h4).1

/-- A frame's head, and a frame. -/
def hd (n : Nat) : List UInt8 := 1 :: be 2 (n : Int)
theorem hd_len (n : Nat) : (hd n).length = 3 := by simp [hd, be_len]
def pack (b : List UInt8) : List UInt8 := if 2000 < b.length then [] else sealed (hd b.length ++ b)
theorem pack_len {b : List UInt8} (h : b.length ≤ 2000) : (pack b).length = b.length + 6 := by
  unfold pack; rw [if_neg (by omega), sealed_len, List.length_append, hd_len]; omega
theorem num2 (n : Nat) (h : n ≤ 2000) : numS (n : Int) 2 = be 2 (n : Int) := by
  unfold numS
  rw [if_pos ⟨by decide, by decide, by omega, by show (n : Int) < 65536; omega⟩]; rfl
theorem pack_eq (b : List UInt8) (hb : b.length ≤ 1000000) : frame_Pack b = some (pack b) := by
  unfold frame_Pack pack
  by_cases h : 2000 < b.length
  · rw [if_pos (by omega), if_pos h]
  · rw [if_neg (by omega), if_neg h, num_eq, Option.bind_some, num_eq, Option.bind_some, num2 _ (by omega)]
    have e1 : numS 1 1 = [1] := by decide
    rw [e1, app_is (by rw [be_len]; decide), Option.bind_some, app_is (by simp [be_len]; omega), Option.bind_some, seal_eq _ (by simp [be_len]; omega)]
    rfl
theorem pack_eq' (b : List UInt8) : frame_Pack b = some (pack b) := by
  by_cases h : 2000 < b.length
  · unfold frame_Pack pack
    rw [if_pos (by omega), if_pos h]
  · exact pack_eq b (by omega)
theorem rpack_eq (b : List UInt8) (hb : b.length ≤ 1000000) : r06_Pack b = some (pack b) := by
  unfold r06_Pack pack
  by_cases h : 2000 < b.length
  · rw [if_pos (by omega), if_pos h]
  · rw [if_neg (by omega), if_neg h, rnum_eq _ _ (by omega), Option.bind_some, num2 _ (by omega)]
    rw [app_is (by rw [be_len]; decide), Option.bind_some, app_is (by simp [be_len]; omega), Option.bind_some, rseal_eq _ (by simp [be_len]; omega)]
    rfl

def at_ (s : List UInt8) (i : Nat) : Int := ((s[i]?.getD 0).toNat : Int)
theorem at_bd (s : List UInt8) (i : Nat) : 0 ≤ at_ s i ∧ at_ s i < 256 := by
  have := (s[i]?.getD 0).toNat_lt
  unfold at_; omega
def sizeF (s : List UInt8) : Int × Int :=
  if s.length = 0 ∨ at_ s 0 ≠ 1 then (0, 5) else if s.length < 3 then (0, 3) else if 2000 < at_ s 1 * 256 + at_ s 2 then (0, 6) else (at_ s 1 * 256 + at_ s 2 + 6, 0)
theorem sizeF_5 {s : List UInt8} (h : s.length = 0 ∨ at_ s 0 ≠ 1) : sizeF s = (0, 5) := by unfold sizeF; rw [if_pos h]
theorem sizeF_3 {s : List UInt8} (h0 : s.length ≠ 0) (h1 : at_ s 0 = 1) (h : s.length < 3) : sizeF s = (0, 3) := by
  unfold sizeF; rw [if_neg (by rintro (q | q); exact h0 q; exact q h1), if_pos h]
theorem sizeF_6 {s : List UInt8} (h1 : at_ s 0 = 1) (h : 3 ≤ s.length) (h6 : 2000 < at_ s 1 * 256 + at_ s 2) : sizeF s = (0, 6) := by
  unfold sizeF; rw [if_neg (by rintro (q | q); omega; exact q h1), if_neg (by omega), if_pos h6]
theorem sizeF_0 {s : List UInt8} (h1 : at_ s 0 = 1) (h : 3 ≤ s.length) (h6 : ¬ 2000 < at_ s 1 * 256 + at_ s 2) : sizeF s = (at_ s 1 * 256 + at_ s 2 + 6, 0) := by
  unfold sizeF; rw [if_neg (by rintro (q | q); omega; exact q h1), if_neg (by omega), if_neg h6]
theorem ix_at {s : List UInt8} {i : Nat} (h : i < s.length) : ∃ b, ix s (i : Int) = some b ∧ at_ s i = (b.toNat : Int) := by
  refine ⟨s[i], ix_nat (List.getElem?_eq_getElem h), ?_⟩
  unfold at_; rw [List.getElem?_eq_getElem h]; rfl
theorem rsize_eq (s : List UInt8) (hs : s.length ≤ 1000000) : r06_Size s = some (sizeF s) := by
  unfold r06_Size
  by_cases h0 : s.length = 0
  · rw [sizeF_5 (.inl h0), if_pos (by omega)]; rfl
  · rw [if_neg (by omega)]
    obtain ⟨b0, hb0, ha0⟩ := ix_at (s := s) (i := 0) (by omega)
    rw [show ((0 : Nat) : Int) = 0 from rfl] at hb0
    rw [hb0, Option.bind_some, Option.bind_some]
    by_cases h1 : at_ s 0 ≠ 1
    · rw [sizeF_5 (.inr h1), if_pos (by rw [ha0] at h1; exact decide_eq_true h1)]
    · have h1 : at_ s 0 = 1 := Decidable.not_not.1 h1
      rw [if_neg (by rw [← ha0, h1]; decide)]
      by_cases h3 : s.length < 3
      · rw [sizeF_3 h0 h1 h3, if_pos (by omega)]
      · rw [if_neg (by omega)]
        obtain ⟨b1, hb1, ha1⟩ := ix_at (s := s) (i := 1) (by omega)
        obtain ⟨b2, hb2, ha2⟩ := ix_at (s := s) (i := 2) (by omega)
        rw [show ((1 : Nat) : Int) = 1 from rfl] at hb1
        rw [show ((2 : Nat) : Int) = 2 from rfl] at hb2
        have l1 := b1.toNat_lt
        have l2 := b2.toNat_lt
        have e : w64 ((w64 ((w64 (b1.toNat : Int)) * 256)) + (w64 (b2.toNat : Int))) = at_ s 1 * 256 + at_ s 2 := by
          rw [w64_id (x := (b1.toNat : Int)) (by omega), w64_id (x := (b2.toNat : Int)) (by omega), w64_id (x := (b1.toNat : Int) * 256) (by omega), w64_id (by omega), ha1, ha2]
        rw [hb1, Option.bind_some, hb2, Option.bind_some, e]
        by_cases h6 : 2000 < at_ s 1 * 256 + at_ s 2
        · rw [sizeF_6 h1 (by omega) h6, if_pos h6]
        · rw [sizeF_0 h1 (by omega) h6, if_neg h6, w64_id (by have := at_bd s 1; have := at_bd s 2; omega)]
theorem size_eq (s : List UInt8) (hs : s.length ≤ 1000000) : frame_Size s = some (sizeF s) := by
  unfold frame_Size
  show (octet_Reader_Num (s, 0) 1).bind _ = _
  rw [rnumR_eq (s, 0) 1 hs, preN_ok (by decide), Option.bind_some]
  by_cases h0 : s.length = 0
  · have : s = [] := List.eq_nil_of_length_eq_zero h0
    subst this
    rw [sizeF_5 (.inl rfl), if_pos (by decide)]
  · obtain ⟨b0, t, rfl⟩ : ∃ b0 t, s = b0 :: t := by cases s with | nil => simp at h0 | cons a l => exact ⟨a, l, rfl⟩
    have e0 : takeR (b0 :: t, 0) 1 = ([b0], (t, 0)) := takeR_app [b0] t 1 rfl
    have hb0 := b0.toNat_lt
    have ha0 : at_ (b0 :: t) 0 = (b0.toNat : Int) := rfl
    rw [e0]
    have ev : w64 (val [b0]) = (b0.toNat : Int) := by rw [val_one, w64_id (by omega)]
    show (if w64 (val [b0]) ≠ 1 then _ else _) = _
    rw [ev]
    by_cases h1 : (b0.toNat : Int) ≠ 1
    · rw [sizeF_5 (.inr (by rw [ha0]; exact h1)), if_pos h1]
    · have h1' : at_ (b0 :: t) 0 = 1 := by rw [ha0]; exact Decidable.not_not.1 h1
      rw [if_neg h1]
      have htl : t.length ≤ 1000000 := by simp at hs; omega
      rw [rnumR_eq (t, 0) 2 htl, preN_ok (by decide), Option.bind_some]
      by_cases h3 : t.length < 2
      · have ht : takeR (t, 0) 2 = ([], (t, 3)) := by
          unfold takeR
          rw [if_neg (by simp), if_neg (by decide), if_pos (by show (t.length : Int) < 2; omega)]
        rw [sizeF_3 (by simp) h1' (by show t.length + 1 < 3; omega), ht]
        rfl
      · obtain ⟨b1, b2, u, rfl⟩ : ∃ b1 b2 u, t = b1 :: b2 :: u := by
          match t, h3 with
          | [], h => simp at h
          | [_], h => simp at h
          | a :: b :: u, _ => exact ⟨a, b, u, rfl⟩
        have e2 : takeR (b1 :: b2 :: u, 0) 2 = ([b1, b2], (u, 0)) := takeR_app [b1, b2] u 2 rfl
        rw [e2]
        have l1 := b1.toNat_lt
        have l2 := b2.toNat_lt
        have a1 : at_ (b0 :: b1 :: b2 :: u) 1 = (b1.toNat : Int) := rfl
        have a2 : at_ (b0 :: b1 :: b2 :: u) 2 = (b2.toNat : Int) := rfl
        have ev2 : w64 (val [b1, b2]) = (b1.toNat : Int) * 256 + (b2.toNat : Int) := by
          have : val [b1, b2] = (b1.toNat : Int) * 256 + (b2.toNat : Int) := by simp [val]
          rw [this, w64_id (by omega)]
        show (if (!(octet_Reader_Ok (u, 0))) = true then _ else if 2000 < w64 (val [b1, b2]) then some (0, 6) else some (w64 ((w64 (3 + w64 (val [b1, b2]))) + 3), 0)) = _
        have hl3 : 3 ≤ (b0 :: b1 :: b2 :: u).length := by simp
        rw [if_neg (by simp [octet_Reader_Ok]), ev2]
        by_cases h6 : 2000 < (b1.toNat : Int) * 256 + (b2.toNat : Int)
        · rw [sizeF_6 h1' hl3 (by rw [a1, a2]; exact h6), if_pos h6]
        · rw [sizeF_0 h1' hl3 (by rw [a1, a2]; exact h6), if_neg h6, w64_id (x := 3 + _) (by omega), w64_id (by omega), a1, a2]
          congr 2; omega

/-- The first frame. -/
def bodyF (s : List UInt8) : List UInt8 := (s.take ((sizeF s).1.toNat - 3)).drop 3
def nextF (s : List UInt8) : List UInt8 × List UInt8 × Int :=
  if s = [] then ([], [], 3) else if (sizeF s).2 = 3 ∨ ((sizeF s).2 = 0 ∧ (s.length : Int) < (sizeF s).1) then ([], s, 3) else if (sizeF s).2 ≠ 0 then ([], [], (sizeF s).2)
  else if pack (bodyF s) ≠ s.take (sizeF s).1.toNat then ([], [], 4) else (bodyF s, s.drop (sizeF s).1.toNat, 0)
theorem size_ok {s : List UInt8} (h : (sizeF s).2 = 0) : at_ s 0 = 1 ∧ 3 ≤ s.length ∧ ∃ n : Nat, n ≤ 2000 ∧ at_ s 1 * 256 + at_ s 2 = n ∧ sizeF s = ((n : Int) + 6, 0) := by
  by_cases h0 : s.length = 0 ∨ at_ s 0 ≠ 1
  · rw [sizeF_5 h0] at h; exact absurd h (by decide)
  · have h1 : at_ s 0 = 1 := Decidable.not_not.1 fun q => h0 (.inr q)
    by_cases h3 : s.length < 3
    · rw [sizeF_3 (fun q => h0 (.inl q)) h1 h3] at h; exact absurd h (by decide)
    · by_cases h6 : 2000 < at_ s 1 * 256 + at_ s 2
      · rw [sizeF_6 h1 (by omega) h6] at h; exact absurd h (by decide)
      · have b1 := at_bd s 1
        have b2 := at_bd s 2
        refine ⟨h1, by omega, (at_ s 1 * 256 + at_ s 2).toNat, by omega, by omega, ?_⟩
        have q : ((at_ s 1 * 256 + at_ s 2).toNat : Int) = at_ s 1 * 256 + at_ s 2 := by omega
        rw [sizeF_0 h1 (by omega) h6, q]
theorem three {s : List UInt8} (h : 3 ≤ s.length) : ∃ a b c t, s = a :: b :: c :: t := by
  cases s with
  | nil => simp at h
  | cons a s => cases s with
    | nil => simp at h
    | cons b s => cases s with
      | nil => simp at h
      | cons c t => exact ⟨a, b, c, t, rfl⟩
theorem head_of {s : List UInt8} {n : Nat} (h0 : at_ s 0 = 1) (h3 : 3 ≤ s.length) (hn : at_ s 1 * 256 + at_ s 2 = n) : s.take 3 = hd n := by
  obtain ⟨a, b, c, t, rfl⟩ := three h3
  have e0 : (a.toNat : Int) = 1 := h0
  have e1 : (b.toNat : Int) * 256 + (c.toNat : Int) = n := hn
  have hb := b.toNat_lt
  have hc := c.toNat_lt
  have ha : a = 1 := UInt8.toNat_inj.1 (by show a.toNat = 1; omega)
  have e : be 2 (n : Int) = [b, c] := by
    have := be_val [b, c]
    rw [show val [b, c] = (b.toNat : Int) * 256 + (c.toNat : Int) by simp [val], e1] at this
    exact this
  unfold hd
  rw [e, ha]; rfl
theorem body_len {s : List UInt8} {n : Nat} (hn : sizeF s = ((n : Int) + 6, 0)) (hl : n + 6 ≤ s.length) : (bodyF s).length = n := by
  unfold bodyF; rw [hn]
  have : ((n : Int) + 6).toNat = n + 6 := by omega
  simp only [this, List.length_drop, List.length_take]; omega
theorem front_eq {s : List UInt8} {n : Nat} (h0 : at_ s 0 = 1) (h3 : 3 ≤ s.length) (hs : at_ s 1 * 256 + at_ s 2 = n) (hn : sizeF s = ((n : Int) + 6, 0)) : s.take (n + 3) = hd n ++ bodyF s := by
  have e : ((n : Int) + 6).toNat - 3 = n + 3 := by omega
  have hb : bodyF s = (s.take (n + 3)).drop 3 := by unfold bodyF; rw [hn]; show List.drop 3 (List.take (((n : Int) + 6).toNat - 3) s) = _; rw [e]
  have ht : (s.take (n + 3)).take 3 = s.take 3 := by rw [List.take_take, Nat.min_eq_left (by omega)]
  rw [hb, ← head_of h0 h3 hs, ← ht, List.take_append_drop]
theorem rnext_eq (s : List UInt8) (hs : s.length ≤ 100000) : r06_Next s = some (nextF s) := by
  unfold r06_Next nextF
  by_cases h0 : s = []
  · subst h0; rw [if_pos (by decide), if_pos rfl]
  · have hl : s.length ≠ 0 := fun q => h0 (List.eq_nil_of_length_eq_zero q)
    rw [if_neg (by omega), if_neg h0, rsize_eq s (by omega), Option.bind_some]
    by_cases h1 : (sizeF s).2 = 3 ∨ ((sizeF s).2 = 0 ∧ (s.length : Int) < (sizeF s).1)
    · rw [if_pos (by simpa using h1), if_pos h1]
    · rw [if_neg (by simpa using h1), if_neg h1]
      by_cases h2 : (sizeF s).2 ≠ 0
      · rw [if_pos h2, if_pos h2]
      · rw [if_neg h2, if_neg h2]
        have h2' := Decidable.not_not.1 h2
        obtain ⟨a0, a3, n, hn, hsn, he⟩ := size_ok h2'
        have hle : n + 6 ≤ s.length := by
          have := fun q => h1 (.inr ⟨h2', q⟩)
          rw [he] at this
          have : ¬ (s.length : Int) < (n : Int) + 6 := this
          omega
        have hbl := body_len he hle
        have e3 : (w64 ((sizeF s).1 - 3)) = (n : Int) + 3 := by rw [he]; show w64 ((n : Int) + 6 - 3) = _; rw [w64_id (by omega)]; omega
        have eb : (s.take ((n : Int) + 3).toNat).drop (3 : Int).toNat = bodyF s := by
          unfold bodyF; rw [he]
          have q1 : ((n : Int) + 3).toNat = n + 3 := by omega
          have q2 : ((n : Int) + 6).toNat - 3 = n + 3 := by omega
          show (s.take ((n : Int) + 3).toNat).drop 3 = List.drop 3 (List.take (((n : Int) + 6).toNat - 3) s)
          rw [q1, q2]
        have e6 : (sizeF s).1 = ((n + 6 : Nat) : Int) := by rw [he]; show (n : Int) + 6 = _; omega
        rw [e3, subl_is (by omega), Option.bind_some, eb, rpack_eq _ (by omega), Option.bind_some, e6, subl_is (by omega), Option.bind_some, Int.toNat_natCast, show (0 : Int).toNat = 0 from rfl, List.drop_zero]
        by_cases hp : pack (bodyF s) ≠ s.take (n + 6)
        · rw [if_pos hp, if_pos hp]
        · rw [if_neg hp, if_neg hp, subl_is (by omega), Option.bind_some, Int.toNat_natCast, Int.toNat_natCast, List.take_length]
theorem next_eq (s : List UInt8) (hs : s.length ≤ 100000) : frame_Next s = some (nextF s) := by
  unfold frame_Next nextF
  by_cases h0 : s = []
  · subst h0; rw [if_pos rfl, if_pos rfl]
  · rw [if_neg h0, if_neg h0, size_eq s (by omega), Option.bind_some]
    by_cases h1 : (sizeF s).2 = 3 ∨ ((sizeF s).2 = 0 ∧ (s.length : Int) < (sizeF s).1)
    · rw [if_pos (by simpa using h1), if_pos h1]
    · rw [if_neg (by simpa using h1), if_neg h1]
      by_cases h2 : (sizeF s).2 ≠ 0
      · rw [if_pos h2, if_pos h2]
      · rw [if_neg h2, if_neg h2]
        have h2' := Decidable.not_not.1 h2
        obtain ⟨a0, a3, n, hn, hsn, he⟩ := size_ok h2'
        have hle : n + 6 ≤ s.length := by
          have := fun q => h1 (.inr ⟨h2', q⟩)
          rw [he] at this
          have : ¬ (s.length : Int) < (n : Int) + 6 := this
          omega
        have hbl := body_len he hle
        have e6 : (sizeF s).1 = ((n + 6 : Nat) : Int) := by rw [he]; show (n : Int) + 6 = _; omega
        have hfr := front_eq a0 a3 hsn he
        have htl : (s.take (n + 6)).length = n + 6 := by rw [List.length_take]; omega
        have htt : (s.take (n + 6)).take ((s.take (n + 6)).length - 3) = s.take (n + 3) := by
          have q : min (n + 6 - 3) (n + 6) = n + 3 := by omega
          rw [htl, List.take_take, q]
        have hpk : sealed (s.take (n + 3)) = pack (bodyF s) := by
          unfold pack; rw [if_neg (by omega), hfr, hbl]
        have ho : opn (s.take (n + 6)) = if pack (bodyF s) = s.take (n + 6) then (s.take (n + 3), true) else ([], false) := by
          unfold opn; rw [if_neg (by omega), htt, hpk]
        rw [e6, subl_is (by omega), Option.bind_some, Int.toNat_natCast, show (0 : Int).toNat = 0 from rfl, List.drop_zero, open_eq _ (by omega), Option.bind_some, ho]
        by_cases hp : pack (bodyF s) = s.take (n + 6)
        case neg => rw [if_neg hp, if_pos (by rfl), if_pos hp]
        case pos =>
          rw [if_pos hp, if_neg (by simp), if_neg (by simp [hp])]
          have hl3 : (s.take (n + 3)).length = n + 3 := by rw [List.length_take]; omega
          show (subl (s.take (n + 3)) 3 ((s.take (n + 3)).length : Int)).bind _ = _
          rw [subl_is (by omega), Option.bind_some, subl_is (by omega), Option.bind_some, Int.toNat_natCast, Int.toNat_natCast, Int.toNat_natCast, List.take_length, List.take_length, hfr]
          have : (hd n ++ bodyF s).drop (3 : Int).toNat = bodyF s := List.drop_left' (hd_len n)
          rw [this]

theorem next_code (s : List UInt8) : (nextF s).2.2 = 0 → ∃ n : Nat, n ≤ 2000 ∧ n + 6 ≤ s.length ∧ nextF s = (bodyF s, s.drop (n + 6), 0) ∧ sizeF s = ((n : Int) + 6, 0) ∧ pack (bodyF s) = s.take (n + 6) := by
  intro h
  unfold nextF at h ⊢
  by_cases h0 : s = []
  · rw [if_pos h0] at h; exact absurd h (by simp)
  · rw [if_neg h0] at h ⊢
    by_cases h1 : (sizeF s).2 = 3 ∨ ((sizeF s).2 = 0 ∧ (s.length : Int) < (sizeF s).1)
    · rw [if_pos h1] at h; exact absurd h (by simp)
    · rw [if_neg h1] at h ⊢
      by_cases h2 : (sizeF s).2 ≠ 0
      · rw [if_pos h2] at h; exact absurd h h2
      · rw [if_neg h2] at h ⊢
        have h2' := Decidable.not_not.1 h2
        obtain ⟨a0, a3, n, hn, hsn, he⟩ := size_ok h2'
        have hle : n + 6 ≤ s.length := by
          have := fun q => h1 (.inr ⟨h2', q⟩)
          rw [he] at this
          have : ¬ (s.length : Int) < (n : Int) + 6 := this
          omega
        have e6 : (sizeF s).1.toNat = n + 6 := by rw [he]; show ((n : Int) + 6).toNat = _; omega
        rw [e6] at h ⊢
        by_cases hp : pack (bodyF s) ≠ s.take (n + 6)
        · rw [if_pos hp] at h; exact absurd h (by simp)
        · rw [if_neg hp]
          exact ⟨n, hn, hle, rfl, he, Decidable.not_not.1 hp⟩
theorem next_rest (s : List UInt8) (h : (nextF s).2.2 = 3) : nextF s = ([], s, 3) := by
  unfold nextF at h ⊢
  by_cases h0 : s = []
  · rw [if_pos h0, h0]
  · rw [if_neg h0] at h ⊢
    by_cases h1 : (sizeF s).2 = 3 ∨ ((sizeF s).2 = 0 ∧ (s.length : Int) < (sizeF s).1)
    · rw [if_pos h1]
    · rw [if_neg h1] at h ⊢
      by_cases h2 : (sizeF s).2 ≠ 0
      · rw [if_pos h2] at h; exact absurd (.inl h) h1
      · rw [if_neg h2] at h
        by_cases hp : pack (bodyF s) ≠ s.take (sizeF s).1.toNat
        · rw [if_pos hp] at h; exact absurd h (by simp)
        · rw [if_neg hp] at h; exact absurd h (by simp)

/-- All frames. -/
def splitN : Nat → List UInt8 → List (List UInt8) × List UInt8 × Int
  | 0, _ => ([], [], 0)
  | k + 1, s => if (nextF s).2.2 = 3 then ([], s, 0) else if (nextF s).2.2 ≠ 0 then ([], [], (nextF s).2.2) else ((nextF s).1 :: (splitN k (nextF s).2.1).1, (splitN k (nextF s).2.1).2)
theorem next_less {s : List UInt8} (h3 : (nextF s).2.2 ≠ 3) (h0 : ¬ (nextF s).2.2 ≠ 0) : (nextF s).2.1.length + 6 ≤ s.length := by
  obtain ⟨n, _, hl, he, _⟩ := next_code s (Decidable.not_not.1 h0)
  rw [he]; show (s.drop (n + 6)).length + 6 ≤ _; rw [List.length_drop]; omega
theorem splitN_st : ∀ (k j : Nat) (s : List UInt8), s.length < k → s.length < j → splitN k s = splitN j s
  | 0, _, _, h, _ => by omega
  | _, 0, _, _, h => by omega
  | k + 1, j + 1, s, hk, hj => by
    unfold splitN
    by_cases h3 : (nextF s).2.2 = 3
    · rw [if_pos h3, if_pos h3]
    · rw [if_neg h3, if_neg h3]
      by_cases h0 : (nextF s).2.2 ≠ 0
      · rw [if_pos h0, if_pos h0]
      · have := next_less h3 h0
        rw [if_neg h0, if_neg h0, splitN_st k j _ (by omega) (by omega)]
def splitF (s : List UInt8) : List (List UInt8) × List UInt8 × Int := splitN (s.length + 1) s
theorem split_3 {s : List UInt8} (h : (nextF s).2.2 = 3) : splitF s = ([], s, 0) := by unfold splitF splitN; rw [if_pos h]
theorem split_e {s : List UInt8} (h : (nextF s).2.2 ≠ 3) (h0 : (nextF s).2.2 ≠ 0) : splitF s = ([], [], (nextF s).2.2) := by unfold splitF splitN; rw [if_neg h, if_pos h0]
theorem split_0 {s : List UInt8} (h0 : (nextF s).2.2 = 0) : splitF s = ((nextF s).1 :: (splitF (nextF s).2.1).1, (splitF (nextF s).2.1).2) := by
  have h3 : (nextF s).2.2 ≠ 3 := by rw [h0]; decide
  have hn : ¬ (nextF s).2.2 ≠ 0 := fun q => q h0
  have := next_less h3 hn
  rw [show splitF s = splitN (s.length + 1) s from rfl]
  unfold splitN
  rw [if_neg h3, if_neg hn, splitN_st s.length ((nextF s).2.1.length + 1) _ (by omega) (by omega)]; rfl
theorem split_len : ∀ (k : Nat) (s : List UInt8), s.length ≤ k → (splitF s).1.length ≤ s.length := by
  intro k
  induction k with
  | zero =>
    intro s h
    have : s = [] := List.eq_nil_of_length_eq_zero (by omega)
    subst this; decide
  | succ k ih =>
    intro s h
    by_cases h3 : (nextF s).2.2 = 3
    · rw [split_3 h3]; exact Nat.zero_le _
    · by_cases h0 : (nextF s).2.2 ≠ 0
      · rw [split_e h3 h0]; exact Nat.zero_le _
      · have := next_less h3 h0
        have := ih (nextF s).2.1 (by omega)
        rw [split_0 (Decidable.not_not.1 h0), List.length_cons]; omega
theorem split_eq (s : List UInt8) (hs : s.length ≤ 100000) : frame_Split s = some (splitF s) := by
  unfold frame_Split
  refine loopW_is (fun t => t.1.length ≤ 100000 ∧ t.1.length + t.2.length ≤ s.length ∧ (t.2 ++ (splitF t.1).1, (splitF t.1).2) = splitF s) (fun t => t.1.length) _ ?_ _ ⟨hs, by simp, by simp⟩
  rintro ⟨u, acc⟩ ⟨h1, h2, h4⟩
  rw [frame_Split_l1, next_eq u h1, Option.bind_some]
  by_cases h3 : (nextF u).2.2 = 3
  · right
    rw [if_pos h3, ← h4, split_3 h3, next_rest u h3, List.append_nil]
  · rw [if_neg h3]
    by_cases h0 : (nextF u).2.2 ≠ 0
    · right
      rw [if_pos h0, ← h4, split_e h3 h0, List.append_nil]
    · left
      have hle := next_less h3 h0
      rw [if_neg h0, app_is (by simp; simp at h2; omega), Option.bind_some]
      refine ⟨_, rfl, ⟨?_, ?_, ?_⟩, ?_⟩
      · show (nextF u).2.1.length ≤ _; simp at h1; omega
      · show (nextF u).2.1.length + (acc ++ [(nextF u).1]).length ≤ _; simp; simp at h2; omega
      · rw [← h4, split_0 (Decidable.not_not.1 h0)]; simp
      · show (nextF u).2.1.length < u.length; omega
theorem rsplit_eq (s : List UInt8) (hs : s.length ≤ 100000) : r06_Split s = some (splitF s) := by
  have key : ∀ (n : Nat) (s : List UInt8), s.length ≤ 100000 → (s.length < n → r06_Split_n n s = some (splitF s)) ∧ ∀ r, r06_Split_n n s = some r → r = splitF s := by
    intro n
    induction n with
    | zero => exact fun s hs => ⟨fun h => by omega, fun r h => nomatch h⟩
    | succ n ih =>
      intro s hs
      have hst : r06_Split_n (n + 1) s = r06_Split_st (r06_Split_n n) s := rfl
      rw [hst]
      unfold r06_Split_st
      rw [rnext_eq s hs, Option.bind_some]
      by_cases h3 : (nextF s).2.2 = 3
      · rw [if_pos h3, split_3 h3]; exact ⟨fun _ => rfl, fun r h => (Option.some.inj h).symm⟩
      · rw [if_neg h3]
        by_cases h0 : (nextF s).2.2 ≠ 0
        · rw [if_pos h0, split_e h3 h0]; exact ⟨fun _ => rfl, fun r h => (Option.some.inj h).symm⟩
        · have hle := next_less h3 h0
          have hsl := split_len _ (nextF s).2.1 (Nat.le_refl _)
          obtain ⟨i1, i2⟩ := ih (nextF s).2.1 (by omega)
          rw [if_neg h0, split_0 (Decidable.not_not.1 h0)]
          refine ⟨fun h => ?_, fun r h => ?_⟩
          · rw [i1 (by omega), Option.bind_some, app_is (by simp; omega)]; rfl
          · obtain ⟨x, hx, h⟩ := Option.bind_eq_some_iff.1 h
            have := i2 x hx
            subst this
            rw [app_is (by simp; omega)] at h
            exact (Option.some.inj h).symm
  unfold r06_Split
  exact limF_is (s.length + 1) ((key _ s hs).1 (by omega)) fun n r h => (key n s hs).2 r h
theorem same_eq (a b : List (List UInt8)) (ha : a.length ≤ 1000000) : r06_Same a b = some (decide (a = b)) := by
  unfold r06_Same
  by_cases hl : a.length = b.length
  · rw [if_neg (by omega)]
    have hlo : loopW (r06_Same_l1 a b) 0 = some (if a = b then .inl () else .inr false) := by
      refine loopW_is (fun s => ∃ k : Nat, k ≤ a.length ∧ s = (k : Int) ∧ a.take k = b.take k) (fun s => a.length - s.toNat) _ ?_ _ ⟨0, by omega, rfl, rfl⟩
      rintro s ⟨k, hk, rfl, hp⟩
      by_cases hkl : k < a.length
      · have h1 : a[k]? = some a[k] := List.getElem?_eq_getElem hkl
        have h2 : b[k]? = some b[k] := List.getElem?_eq_getElem (by omega)
        rw [r06_Same_l1, if_pos (by omega), ix_nat h1, Option.bind_some, ix_nat h2, Option.bind_some]
        by_cases he : a[k] = b[k]
        · left
          refine ⟨((k + 1 : Nat) : Int), ?_, ⟨k + 1, by omega, rfl, ?_⟩, by simp; omega⟩
          · rw [if_neg (by simp [he]), w64_id (by omega)]; rfl
          · rw [List.take_add_one, List.take_add_one, hp, h1, h2, he]
        · right
          rw [if_pos he, if_neg]
          intro h; subst h; exact he rfl
      · right
        have : k = a.length := by omega
        subst this
        rw [List.take_length, hl, List.take_length] at hp
        rw [r06_Same_l1, if_neg (by omega), if_pos hp]
    rw [hlo]
    by_cases he : a = b
    · simp [he, orR]
    · simp [he, orR]
  · rw [if_pos (by omega)]
    have : a ≠ b := fun h => hl (by rw [h])
    simp [this]
theorem awake6 : L06_awake = some true := by
  unfold L06_awake
  rw [pack_eq _ (by decide), Option.bind_some]
  have e : pack [97, 98] = [1, 0, 2, 97, 98] ++ b3 (reg reg1 [1, 0, 2, 97, 98]) := by decide +kernel
  have e2 : (pack [97, 98]).length = 8 := pack_len (b := [97, 98]) (by decide)
  rw [app_is (by rw [e2]; decide), Option.bind_some, next_eq _ (by rw [List.length_append, e2]; decide)]
  have e3 : nextF (pack [97, 98] ++ [1]) = ([97, 98], [1], 0) := by decide +kernel
  rw [e3, e2]; rfl

theorem FrameTells_true (p0 : List UInt8) (ok0 : okS p0) : L06_FrameTells p0 = some true := by
  unfold L06_FrameTells
  by_cases h : 600 < (p0.length : Int)
  · rw [if_pos h, awake6]; rfl
  · rw [if_neg h, size_eq _ (by omega), Option.bind_some, rsize_eq _ (by omega), Option.bind_some, pack_eq _ (by omega), Option.bind_some, rpack_eq _ (by omega), Option.bind_some, if_neg (by simp), if_neg (by simp)]
    have e1 : (some (decide ((sizeF p0).2 ≠ (sizeF p0).2))) = some false := by simp
    rw [e1, Option.bind_some, if_neg (by decide), next_eq _ (by omega), Option.bind_some, rnext_eq _ (by omega), Option.bind_some, if_neg (by simp), split_eq _ (by omega), Option.bind_some, rsplit_eq _ (by omega), Option.bind_some, same_eq _ _ (by have := split_len _ p0 (Nat.le_refl _); omega), Option.bind_some, if_pos (by simp), if_pos rfl, if_pos rfl, awake6]
    rfl

/-- Behind a frame stands what stood there. -/
theorem at_app {a : List UInt8} (b : List UInt8) {i : Nat} (h : i < a.length) : at_ (a ++ b) i = at_ a i := by
  unfold at_; rw [List.getElem?_append_left h]
theorem size_app {a : List UInt8} (b : List UInt8) (h0 : a ≠ []) (h : (sizeF a).2 ≠ 3) : sizeF (a ++ b) = sizeF a := by
  have hl : a.length ≠ 0 := fun q => h0 (List.eq_nil_of_length_eq_zero q)
  have e0 := at_app b (show 0 < a.length by omega)
  by_cases h1 : at_ a 0 ≠ 1
  · rw [sizeF_5 (s := a) (.inr h1), sizeF_5 (.inr (by rw [e0]; exact h1))]
  · have h1 := Decidable.not_not.1 h1
    by_cases h3 : a.length < 3
    · rw [sizeF_3 hl h1 h3] at h; exact absurd rfl h
    · have e1 := at_app b (show 1 < a.length by omega)
      have e2 := at_app b (show 2 < a.length by omega)
      have hl2 : 3 ≤ (a ++ b).length := by simp; omega
      by_cases h6 : 2000 < at_ a 1 * 256 + at_ a 2
      · rw [sizeF_6 (s := a) h1 (by omega) h6, sizeF_6 (by rw [e0]; exact h1) hl2 (by rw [e1, e2]; exact h6)]
      · rw [sizeF_0 (s := a) h1 (by omega) h6, sizeF_0 (by rw [e0]; exact h1) hl2 (by rw [e1, e2]; exact h6), e1, e2]
theorem next_app {a : List UInt8} (b : List UInt8) (h : (nextF a).2.2 ≠ 3) : nextF (a ++ b) = ((nextF a).1, (if (nextF a).2.2 = 0 then (nextF a).2.1 ++ b else []), (nextF a).2.2) := by
  by_cases h0 : a = []
  · subst h0; exact absurd rfl h
  · have hab : a ++ b ≠ [] := by simp [h0]
    have hx : ¬ ((sizeF a).2 = 3 ∨ ((sizeF a).2 = 0 ∧ (a.length : Int) < (sizeF a).1)) := by
      intro q; apply h; unfold nextF; rw [if_neg h0, if_pos q]
    have hs := size_app b h0 (fun q => hx (.inl q))
    have hy : ¬ ((sizeF a).2 = 3 ∨ ((sizeF a).2 = 0 ∧ ((a ++ b).length : Int) < (sizeF a).1)) := by
      rintro (q | q)
      · exact hx (.inl q)
      · refine hx (.inr ⟨q.1, ?_⟩); have := q.2; rw [List.length_append] at this; omega
    unfold nextF
    rw [if_neg hab, if_neg h0, hs, if_neg hy, if_neg hx]
    by_cases h2 : (sizeF a).2 ≠ 0
    · rw [if_pos h2, if_pos h2]
      show _ = (([] : List UInt8), (if (sizeF a).2 = 0 then [] ++ b else []), (sizeF a).2)
      rw [if_neg h2]
    · rw [if_neg h2, if_neg h2]
      have h2' := Decidable.not_not.1 h2
      obtain ⟨_, _, n, hn, hsn, he⟩ := size_ok h2'
      have hle : n + 6 ≤ a.length := by
        have := fun q => hx (.inr ⟨h2', q⟩)
        rw [he] at this
        have : ¬ (a.length : Int) < (n : Int) + 6 := this
        omega
      have e6 : (sizeF a).1.toNat = n + 6 := by rw [he]; show ((n : Int) + 6).toNat = _; omega
      have hb : bodyF (a ++ b) = bodyF a := by
        unfold bodyF; rw [hs, e6, List.take_append_of_le_length (by omega)]
      rw [hb, e6, List.take_append_of_le_length hle, List.drop_append_of_le_length hle]
      by_cases hp : pack (bodyF a) ≠ a.take (n + 6)
      · rw [if_pos hp, if_pos hp]; rfl
      · rw [if_neg hp, if_neg hp]; rfl
theorem cut_eq (b : List UInt8) : ∀ (k : Nat) (a : List UInt8), a.length ≤ k → splitF (a ++ b) = if (splitF a).2.2 = 0 then ((splitF a).1 ++ (splitF ((splitF a).2.1 ++ b)).1, (splitF ((splitF a).2.1 ++ b)).2) else splitF a := by
  intro k
  induction k with
  | zero =>
    intro a h
    have : a = [] := List.eq_nil_of_length_eq_zero (by omega)
    subst this
    have e : splitF [] = ([], [], 0) := by decide
    rw [e]; simp
  | succ k ih =>
    intro a h
    by_cases h3 : (nextF a).2.2 = 3
    · rw [split_3 h3]; simp
    · have hn := next_app b h3
      by_cases h0 : (nextF a).2.2 ≠ 0
      · have e1 := split_e h3 h0
        have e2 := split_e (s := a ++ b) (by rw [hn]; exact h3) (by rw [hn]; exact h0)
        rw [e1, if_neg (show ¬ (([], [], (nextF a).2.2) : List (List UInt8) × List UInt8 × Int).2.2 = 0 from h0), e2, hn]
      · have h0' := Decidable.not_not.1 h0
        have hle := next_less h3 h0
        have hi := ih (nextF a).2.1 (by omega)
        have e2 := split_0 (s := a ++ b) (by rw [hn]; exact h0')
        rw [hn, if_pos h0'] at e2
        rw [e2, split_0 h0']
        show ((nextF a).1 :: (splitF ((nextF a).2.1 ++ b)).1, (splitF ((nextF a).2.1 ++ b)).2) = _
        rw [hi]
        by_cases hz : (splitF (nextF a).2.1).2.2 = 0
        · rw [if_pos hz, if_pos hz]; rfl
        · rw [if_neg hz, if_neg hz]
theorem split_left : ∀ (k : Nat) (a : List UInt8), a.length ≤ k → (splitF a).2.1.length ≤ a.length ∧ ((splitF a).2.2 ≠ 0 → (splitF a).2.1 = []) := by
  intro k
  induction k with
  | zero =>
    intro a h
    have : a = [] := List.eq_nil_of_length_eq_zero (by omega)
    subst this; decide
  | succ k ih =>
    intro a h
    by_cases h3 : (nextF a).2.2 = 3
    · rw [split_3 h3]; exact ⟨Nat.le_refl _, fun q => absurd rfl q⟩
    · by_cases h0 : (nextF a).2.2 ≠ 0
      · rw [split_e h3 h0]; exact ⟨Nat.zero_le _, fun _ => rfl⟩
      · have hle := next_less h3 h0
        obtain ⟨i1, i2⟩ := ih (nextF a).2.1 (by omega)
        rw [split_0 (Decidable.not_not.1 h0)]
        exact ⟨by show (splitF (nextF a).2.1).2.1.length ≤ _; omega, i2⟩
theorem FrameCuts_true (p0 : List UInt8) (ok0 : okS p0) (p1 : Int) (ok1 : (Lit.int .i64 p1).wf = true) : L06_FrameCuts p0 p1 = some true := by
  unfold L06_FrameCuts
  by_cases h : (decide (600 < (p0.length : Int)) || (decide (p1 < 0) || decide ((p0.length : Int) < p1))) = true
  · rw [if_pos h, awake6]; rfl
  · rw [if_neg h]
    have hh : ¬ (600 < (p0.length : Int) ∨ p1 < 0 ∨ (p0.length : Int) < p1) := by simpa using h
    obtain ⟨m, rfl⟩ : ∃ m : Nat, p1 = m := ⟨p1.toNat, by omega⟩
    have htl : (p0.take m).length = m := by rw [List.length_take]; omega
    have hc := cut_eq (p0.drop m) _ (p0.take m) (Nat.le_refl _)
    rw [List.take_append_drop] at hc
    have l1 := split_len _ (p0.take m) (Nat.le_refl _)
    obtain ⟨l2, l3⟩ := split_left _ (p0.take m) (Nat.le_refl _)
    have l4 := split_len _ p0 (Nat.le_refl _)
    rw [split_eq _ (by omega), Option.bind_some, subl_is (by omega), Option.bind_some, Int.toNat_natCast, show (0 : Int).toNat = 0 from rfl, List.drop_zero, split_eq _ (by omega), Option.bind_some]
    by_cases hz : (splitF (p0.take m)).2.2 = 0
    · rw [if_pos hz] at hc
      have hdl : (p0.drop m).length = p0.length - m := List.length_drop
      have l5 := split_len _ ((splitF (p0.take m)).2.1 ++ p0.drop m) (Nat.le_refl _)
      rw [List.length_append] at l5
      rw [if_neg (by simp [hz]), subl_is (by omega), Option.bind_some, Int.toNat_natCast, Int.toNat_natCast, List.take_length, app_is (by omega), Option.bind_some, split_eq _ (by rw [List.length_append]; omega), Option.bind_some, app_is (by simp; omega), Option.bind_some, app_is (by simp; omega), Option.bind_some, List.nil_append, same_eq _ _ (by rw [List.length_append]; omega), Option.bind_some, hc, if_pos (by simp), if_pos rfl, if_pos rfl, awake6]
      rfl
    · rw [if_neg hz] at hc
      rw [if_pos hz, hc, if_pos rfl, same_eq _ _ (by omega), Option.bind_some, if_pos (by simp), if_pos (l3 hz), awake6]
      rfl
theorem hd_at (n : Nat) (t : List UInt8) (h : n ≤ 2000) : at_ (hd n ++ t) 0 = 1 ∧ at_ (hd n ++ t) 1 * 256 + at_ (hd n ++ t) 2 = n := by
  refine ⟨rfl, ?_⟩
  have hv := val_be 2 (n : Int)
  obtain ⟨a, b, e⟩ : ∃ a b, be 2 (n : Int) = [a, b] := ⟨_, _, rfl⟩
  unfold hd
  rw [e] at hv ⊢
  show (a.toNat : Int) * 256 + (b.toNat : Int) = n
  have : val [a, b] = (a.toNat : Int) * 256 + (b.toNat : Int) := by simp [val]
  rw [← this, hv]; omega
theorem size_hd (n : Nat) (t : List UInt8) (h : n ≤ 2000) : sizeF (hd n ++ t) = ((n : Int) + 6, 0) := by
  obtain ⟨a0, a1⟩ := hd_at n t h
  rw [sizeF_0 a0 (by rw [List.length_append, hd_len]; omega) (by rw [a1]; omega), a1]
theorem pack_is {b : List UInt8} (h : b.length ≤ 2000) : pack b = hd b.length ++ (b ++ b3 (reg reg1 (hd b.length ++ b))) := by
  unfold pack sealed; rw [if_neg (by omega), List.append_assoc]
theorem next_pack (b t : List UInt8) (h : b.length ≤ 2000) : nextF (pack b ++ t) = (b, t, 0) := by
  have hp := pack_is h
  have hl := pack_len h
  have hs : sizeF (pack b ++ t) = ((b.length : Int) + 6, 0) := by rw [hp, List.append_assoc]; exact size_hd _ _ h
  have e6 : ((b.length : Int) + 6).toNat = b.length + 6 := by omega
  have ht : (pack b ++ t).take (b.length + 6) = pack b := List.take_left' hl
  have hb : bodyF (pack b ++ t) = b := by
    unfold bodyF; rw [hs]
    have e3 : ((b.length : Int) + 6).toNat - 3 = b.length + 3 := by omega
    show List.drop 3 (List.take (((b.length : Int) + 6).toNat - 3) (pack b ++ t)) = b
    rw [e3, hp, ← List.append_assoc, List.append_assoc (hd b.length ++ b), List.take_left' (by rw [List.length_append, hd_len]; omega)]
    exact List.drop_left' (hd_len _)
  unfold nextF
  have hne : pack b ++ t ≠ [] := by
    intro q; have := congrArg List.length q; rw [List.length_append, hl] at this; simp at this
  rw [if_neg hne, hs, if_neg (by rintro (q | q); exact absurd q (by simp); have := q.2; rw [List.length_append, hl] at this; omega), if_neg (by simp), hb]
  show (if pack b ≠ (pack b ++ t).take ((b.length : Int) + 6).toNat then _ else _) = _
  rw [e6, ht, if_neg (by simp)]
  show (b, (pack b ++ t).drop ((b.length : Int) + 6).toNat, 0) = _
  rw [e6, List.drop_left' hl]
theorem next_part (b : List UInt8) (h : b.length ≤ 2000) (k : Nat) (hk : k < b.length + 6) : (nextF ((pack b).take k)).2.2 = 3 := by
  have hp := pack_is h
  have hl := pack_len h
  by_cases h0 : k = 0
  · subst h0; rfl
  · have htl : ((pack b).take k).length = k := by rw [List.length_take]; omega
    have hne : (pack b).take k ≠ [] := by intro q; rw [q] at htl; simp at htl; omega
    have ea : ∀ i, i < k → at_ ((pack b).take k) i = at_ (pack b) i := by
      intro i hi; unfold at_; rw [List.getElem?_take_of_lt hi]
    obtain ⟨a0, a1⟩ := hd_at b.length (b ++ b3 (reg reg1 (hd b.length ++ b))) h
    rw [← hp] at a0 a1
    unfold nextF
    rw [if_neg hne]
    by_cases h3 : k < 3
    · rw [if_pos (.inl (by rw [sizeF_3 (by omega) (by rw [ea 0 (by omega)]; exact a0) (by omega)]))]
    · have hs : sizeF ((pack b).take k) = ((b.length : Int) + 6, 0) := by
        rw [sizeF_0 (by rw [ea 0 (by omega)]; exact a0) (by omega) (by rw [ea 1 (by omega), ea 2 (by omega), a1]; omega), ea 1 (by omega), ea 2 (by omega), a1]
      rw [if_pos (.inr (by rw [hs, htl]; exact ⟨rfl, by show (k : Int) < (b.length : Int) + 6; omega⟩))]
def packs (l : List (List UInt8)) : List UInt8 := (l.map pack).flatten
theorem packs_len : ∀ (l : List (List UInt8)), (∀ b ∈ l, b.length ≤ 200) → (packs l).length ≤ 206 * l.length
  | [], _ => by simp [packs]
  | b :: l, h => by
    have h1 := h b (by simp)
    have h2 := packs_len l fun x hx => h x (by simp [hx])
    have : packs (b :: l) = pack b ++ packs l := rfl
    rw [this, List.length_append, pack_len (by omega), List.length_cons]; omega
theorem split_packs (t : List UInt8) (ht : (nextF t).2.2 = 3) : ∀ (l : List (List UInt8)), (∀ b ∈ l, b.length ≤ 200) → splitF (packs l ++ t) = (l, t, 0)
  | [], _ => split_3 ht
  | b :: l, h => by
    have h1 := h b (by simp)
    have e : packs (b :: l) ++ t = pack b ++ (packs l ++ t) := by show (pack b ++ packs l) ++ t = _; rw [List.append_assoc]
    have hn := next_pack b (packs l ++ t) (by omega)
    have h2 := split_packs t ht l fun x hx => h x (by simp [hx])
    rw [e, split_0 (by rw [hn]), hn]
    show (b :: (splitF (packs l ++ t)).1, (splitF (packs l ++ t)).2) = _
    rw [h2]
theorem frames_eq (l : List (List UInt8)) (hl : l.length ≤ 12) (h : ∀ b ∈ l, b.length ≤ 200) : L06_frames l = some (packs l) := by
  unfold L06_frames
  have hlo : loopW (L06_frames_l1 l) (([] : List UInt8), 0) = some (packs l) := by
    refine loopW_is (fun s => ∃ k : Nat, k ≤ l.length ∧ s = (packs (l.take k), (k : Int))) (fun s => l.length - s.2.toNat) _ ?_ _ ⟨0, by omega, rfl⟩
    rintro s ⟨k, hk, rfl⟩
    by_cases hkl : k < l.length
    · left
      have h1 : l[k]? = some l[k] := List.getElem?_eq_getElem hkl
      have hb := h l[k] (List.getElem_mem hkl)
      have hpl := packs_len (l.take k) fun x hx => h x (List.mem_of_mem_take hx)
      have hkt : (l.take k).length = k := by rw [List.length_take]; omega
      refine ⟨(packs (l.take (k + 1)), ((k + 1 : Nat) : Int)), ?_, ⟨k + 1, by omega, rfl⟩, by simp; omega⟩
      rw [L06_frames_l1, if_pos (by omega), ix_nat h1, Option.bind_some, pack_eq _ (by omega), Option.bind_some, app_is (by rw [pack_len (by omega)]; omega), Option.bind_some, w64_id (by omega), List.take_add_one, h1]
      have e : packs (l.take k ++ [l[k]]) = packs (l.take k) ++ pack l[k] := by
        unfold packs; rw [List.map_append, List.flatten_append]; simp only [List.map_cons, List.map_nil, List.flatten_cons, List.flatten_nil, List.append_nil]
      show _ = some (Sum.inl (packs (l.take k ++ [l[k]]), _))
      rw [e]; rfl
    · right
      have : k = l.length := by omega
      subst this
      rw [L06_frames_l1, if_neg (by omega), List.take_length]
  rw [hlo]; rfl
theorem FrameBack_true (p0 : List (List UInt8)) (ok0 : okL okS p0) (p1 : List UInt8) (ok1 : okS p1) (p2 : Int) (ok2 : (Lit.int .i64 p2).wf = true) : L06_FrameBack p0 p1 p2 = some true := by
  unfold L06_FrameBack
  by_cases h : (decide (12 < (p0.length : Int)) || (decide (200 < (p1.length : Int)) || decide (p2 < 0))) = true
  · rw [if_pos h, awake6]; rfl
  · rw [if_neg h]
    have hh : ¬ (12 < (p0.length : Int) ∨ 200 < (p1.length : Int) ∨ p2 < 0) := by simpa using h
    by_cases ha : ∀ b ∈ p0, b.length ≤ 200
    · have hlo : loopW (L06_FrameBack_l1 p0) 0 = some (.inl ()) := by
        refine loopW_is (fun s => ∃ k : Nat, k ≤ p0.length ∧ s = (k : Int)) (fun s => p0.length - s.toNat) _ ?_ _ ⟨0, by omega, rfl⟩
        rintro s ⟨k, hk, rfl⟩
        by_cases hkl : k < p0.length
        · left
          have h1 : p0[k]? = some p0[k] := List.getElem?_eq_getElem hkl
          have hb := ha p0[k] (List.getElem_mem hkl)
          refine ⟨((k + 1 : Nat) : Int), ?_, ⟨k + 1, by omega, rfl⟩, by simp; omega⟩
          rw [L06_FrameBack_l1, if_pos (by omega), ix_nat h1, Option.bind_some, if_neg (by omega), w64_id (by omega)]; rfl
        · right
          rw [L06_FrameBack_l1, if_neg (by omega)]
      rw [hlo, orR_inl, pack_eq _ (by omega), Option.bind_some]
      have hl := pack_len (b := p1) (by omega)
      by_cases hn : ((pack p1).length : Int) ≤ p2
      · rw [if_pos hn, awake6]; rfl
      · obtain ⟨n, rfl⟩ : ∃ n : Nat, p2 = n := ⟨p2.toNat, by omega⟩
        have hpl := packs_len p0 ha
        have hnt : ((pack p1).take n).length = n := by rw [List.length_take]; omega
        rw [if_neg hn, subl_is (by omega), Option.bind_some, Int.toNat_natCast, show (0 : Int).toNat = 0 from rfl, List.drop_zero, frames_eq p0 (by omega) ha, Option.bind_some, app_is (by omega), Option.bind_some, split_eq _ (by rw [List.length_append]; omega), Option.bind_some, split_packs _ (next_part p1 (by omega) n (by omega)) p0 ha, same_eq _ _ (by show p0.length ≤ _; omega), Option.bind_some, if_pos (by simp), Option.bind_some, if_pos rfl, if_pos rfl, awake6]
        rfl
    · have hlo : ∃ e, loopW (L06_FrameBack_l1 p0) 0 = some e ∧ e = .inr true := by
        refine loopW_ex (fun s => ∃ k : Nat, k ≤ p0.length ∧ s = (k : Int) ∧ ∀ b ∈ p0.take k, b.length ≤ 200) (fun s => p0.length - s.toNat) _ ?_ _ ⟨0, by omega, rfl, by simp⟩
        rintro s ⟨k, hk, rfl, hp⟩
        by_cases hkl : k < p0.length
        · have h1 : p0[k]? = some p0[k] := List.getElem?_eq_getElem hkl
          rw [L06_FrameBack_l1, if_pos (by omega), ix_nat h1, Option.bind_some]
          by_cases hb : 200 < (p0[k].length : Int)
          · right
            rw [if_pos hb, awake6]; exact ⟨_, rfl, rfl⟩
          · left
            refine ⟨((k + 1 : Nat) : Int), ?_, ⟨k + 1, by omega, rfl, ?_⟩, by simp; omega⟩
            · rw [if_neg hb, w64_id (by omega)]; rfl
            · intro b hb'
              rw [List.take_add_one, h1, List.mem_append] at hb'
              rcases hb' with q | q
              · exact hp b q
              · have : b = p0[k] := by simpa using q
                subst this; omega
        · have : k = p0.length := by omega
          subst this
          rw [List.take_length] at hp
          exact absurd hp ha
      obtain ⟨e, he, rfl⟩ := hlo
      rw [he]; rfl
theorem FrameFinds_true (p0 : List UInt8) (ok0 : okS p0) (p1 : Int) (ok1 : (Lit.int .i64 p1).wf = true) (p2 : Int) (ok2 : (Lit.int .u8 p2).wf = true) (p3 : List UInt8) (ok3 : okS p3) : L06_FrameFinds p0 p1 p2 p3 = some true := by
  have h2 := okU8 ok2
  unfold L06_FrameFinds
  rw [pack_eq', Option.bind_some]
  by_cases h : (decide (500 < (p0.length : Int)) || (decide (500 < (p3.length : Int)) || (decide (p1 < 3) || (decide (((pack p0).length : Int) ≤ p1) || decide (p2 = 0))))) = true
  · rw [if_pos h, awake6]; rfl
  · rw [if_neg h]
    have hh : ¬ (500 < (p0.length : Int) ∨ 500 < (p3.length : Int) ∨ p1 < 3 ∨ ((pack p0).length : Int) ≤ p1 ∨ p2 = 0) := by simpa using h
    have hl := pack_len (b := p0) (by omega)
    obtain ⟨m, rfl⟩ : ∃ m : Nat, p1 = m := ⟨p1.toNat, by omega⟩
    obtain ⟨n, hn⟩ : ∃ n : Nat, m + 1 + n = (pack p0).length := ⟨(pack p0).length - m - 1, by omega⟩
    have hx : strOf ([p2] : List Int) = [UInt8.ofNat p2.toNat] := rfl
    generalize hX : UInt8.ofNat p2.toNat = x at hx
    have hx0 : x ≠ 0 := by
      intro q
      have := congrArg UInt8.toNat (hX.trans q)
      rw [UInt8.toNat_ofNat'] at this
      have e0 : (0 : UInt8).toNat = 0 := rfl
      omega
    rw [hx, chg_eq (pack p0) m n [x] (by omega) (by simpa using hn), Option.bind_some]
    have hcl : (List.zipWith (· ^^^ ·) (pack p0) (mask m n [x])).length = p0.length + 6 := by simp [mask]; omega
    have hcx := reg_xor (pack p0) (mask m n [x]) reg1 0#24 (by simp [mask]; omega)
    rw [BitVec.xor_zero] at hcx
    have hca : ∀ i, i < 3 → at_ (List.zipWith (· ^^^ ·) (pack p0) (mask m n [x])) i = at_ (pack p0) i := by
      intro i hi
      have h1 : (pack p0)[i]? = some (pack p0)[i] := List.getElem?_eq_getElem (by omega)
      have h2 := mask_get m n [x] i (by simp; omega)
      rw [if_neg (by omega)] at h2
      unfold at_; rw [List.getElem?_zipWith, h1, h2]; simp
    generalize hC : List.zipWith (· ^^^ ·) (pack p0) (mask m n [x]) = c at hcl hcx hca
    have hnx : nextF (c ++ p3) = ([], [], 4) := by
      obtain ⟨a0, a1⟩ := hd_at p0.length (p0 ++ b3 (reg reg1 (hd p0.length ++ p0))) (by omega)
      rw [← pack_is (by omega)] at a0 a1
      have hs : sizeF (c ++ p3) = ((p0.length : Int) + 6, 0) := by
        have q0 := at_app p3 (show 0 < c.length by omega)
        have q1 := at_app p3 (show 1 < c.length by omega)
        have q2 := at_app p3 (show 2 < c.length by omega)
        rw [hca 0 (by omega)] at q0
        rw [hca 1 (by omega)] at q1
        rw [hca 2 (by omega)] at q2
        rw [sizeF_0 (by rw [q0]; exact a0) (by rw [List.length_append]; omega) (by rw [q1, q2, a1]; omega), q1, q2, a1]
      have e6 : ((p0.length : Int) + 6).toNat = p0.length + 6 := by omega
      have hne : c ++ p3 ≠ [] := by
        intro q; have := congrArg List.length q; rw [List.length_append, hcl] at this; simp at this
      unfold nextF
      rw [if_neg hne, hs, if_neg (by rintro (q | q); exact absurd q (by simp); have := q.2; rw [List.length_append, hcl] at this; omega), if_neg (by simp)]
      show (if pack (bodyF (c ++ p3)) ≠ (c ++ p3).take ((p0.length : Int) + 6).toNat then _ else _) = _
      rw [e6, List.take_left' hcl, if_pos]
      intro hp
      have hr : reg reg1 c = 0#24 := by
        rw [← hp]
        unfold pack at hp ⊢
        split at hp
        · rw [← hp] at hcl; simp at hcl
        · rw [if_neg (by assumption)]; exact sealed_reg _
      have hs0 : reg reg1 (pack p0) = 0#24 := by unfold pack; rw [if_neg (by omega)]; exact sealed_reg _
      rw [hr, hs0, BitVec.zero_xor] at hcx
      exact hx0 (one_byte m n x hcx.symm)
    rw [app_is (by omega), Option.bind_some, next_eq _ (by rw [List.length_append]; omega), Option.bind_some, hnx, if_pos rfl, if_pos rfl, if_pos rfl, awake6]
    rfl
end Go.Proofs.YtjfgabdfikjloaaDoor
