/- Layer 5: the four statements, in plain words. Conditions: none. -/
import Derived.Test.YtnifdmdnifjilaaDoorMK
namespace Go.Proofs.YtnifdmdnifjilaaDoor
set_option linter.unusedVariables false
set_option linter.unusedSimpArgs false
open Go Go.RowKit

theorem xor_u8 (a b : UInt8) : xorI .u8 (a.toNat : Int) (b.toNat : Int) = ((a ^^^ b).toNat : Int) := by
  have ha := a.toNat_lt
  have hb := b.toNat_lt
  have hl : a.toNat ^^^ b.toNat < 2 ^ 8 := Nat.xor_lt_two_pow ha hb
  show IntKind.u8.wrap ((BitVec.ofInt 8 (a.toNat : Int) ^^^ BitVec.ofInt 8 (b.toNat : Int)).toNat : Int) = _
  rw [BitVec.toNat_xor, BitVec.toNat_ofInt, BitVec.toNat_ofInt, wu8, UInt8.toNat_xor]
  have e1 : ((a.toNat : Int) % ((2 ^ 8 : Nat) : Int)).toNat = a.toNat := by omega
  have e2 : ((b.toNat : Int) % ((2 ^ 8 : Nat) : Int)).toNat = b.toNat := by omega
  rw [e1, e2]; omega
theorem str_nat : ∀ (l : List UInt8), strOf (l.map fun b => (b.toNat : Int)) = l
  | [] => rfl
  | a :: l => by
    show UInt8.ofNat ((a.toNat : Int).toNat) :: strOf (l.map fun b => (b.toNat : Int)) = a :: l
    rw [str_nat l, Int.toNat_natCast, UInt8.ofNat_toNat]
def mask (m n : Nat) (x : List UInt8) : List UInt8 := List.replicate m 0 ++ x ++ List.replicate n 0
theorem mask_get (m n : Nat) (x : List UInt8) (k : Nat) (hk : k < m + x.length + n) : (mask m n x)[k]? = some (if m ≤ k ∧ k - m < x.length then x[k - m]?.getD 0 else 0) := by
  unfold mask
  by_cases h1 : k < m
  · rw [List.append_assoc, List.getElem?_append_left (by simpa using h1), if_neg (by omega)]; simp [h1]
  · by_cases h2 : k - m < x.length
    · rw [List.append_assoc, List.getElem?_append_right (by simp; omega), List.getElem?_append_left (by simpa using h2), if_pos ⟨by omega, h2⟩]
      simp [List.getElem?_eq_getElem h2]
    · rw [List.getElem?_append_right (by simp; omega), if_neg (by omega)]
      have : k - (m + x.length) < n := by omega
      simp [this]
theorem chg_eq (l : List UInt8) (m n : Nat) (x : List UInt8) (hl : l.length ≤ 100000000) (hm : m + x.length + n = l.length) : r05_Changed l (m : Int) x = some (List.zipWith (· ^^^ ·) l (mask m n x)) := by
  have hz : (List.zipWith (· ^^^ ·) l (mask m n x)).length = l.length := by simp [mask]; omega
  generalize hZ : List.zipWith (· ^^^ ·) l (mask m n x) = z at hz
  have hlo : loopW (r05_Changed_l1 l (m : Int) x) (([] : List Int), 0) = some (z.map fun b => (b.toNat : Int)) := by
    refine loopW_is (fun s => ∃ k : Nat, k ≤ l.length ∧ s = ((z.take k).map (fun b => (b.toNat : Int)), (k : Int))) (fun s => l.length - s.2.toNat) _ ?_ _ ⟨0, by omega, rfl⟩
    rintro s ⟨k, hk, rfl⟩
    by_cases hkl : k < l.length
    · left
      refine ⟨((z.take (k + 1)).map (fun b => (b.toNat : Int)), ((k + 1 : Nat) : Int)), ?_, ⟨k + 1, by omega, rfl⟩, by simp; omega⟩
      obtain ⟨a, ha⟩ : ∃ a, l[k]? = some a := ⟨_, List.getElem?_eq_getElem hkl⟩
      have hmk := mask_get m n x k (by omega)
      have hzk : z[k]? = some (a ^^^ (if m ≤ k ∧ k - m < x.length then x[k - m]?.getD 0 else 0)) := by
        rw [← hZ, List.getElem?_zipWith, ha, hmk]
      have hmid : (if (decide ((m : Int) ≤ (k : Int)) && decide ((w64 ((k : Int) - (m : Int))) < (x.length : Int))) = true then (ix x (w64 ((k : Int) - (m : Int)))).bind fun x6 => some (xorI .u8 (a.toNat : Int) (x6.toNat : Int)) else some (a.toNat : Int)) = some (((a ^^^ (if m ≤ k ∧ k - m < x.length then x[k - m]?.getD 0 else 0)).toNat : Nat) : Int) := by
        have hw : w64 ((k : Int) - (m : Int)) = (k : Int) - (m : Int) := w64_id (by omega)
        rw [hw]
        by_cases hc : m ≤ k ∧ k - m < x.length
        · rw [if_pos (by simp; omega), if_pos hc]
          obtain ⟨y, hy⟩ : ∃ y, x[k - m]? = some y := ⟨_, List.getElem?_eq_getElem hc.2⟩
          rw [show (k : Int) - (m : Int) = ((k - m : Nat) : Int) by omega, ix_nat hy, Option.bind_some, xor_u8, hy]; rfl
        · rw [if_neg (by simp; omega), if_neg hc]; simp
      rw [r05_Changed_l1, if_pos (by omega), ix_nat ha, Option.bind_some, hmid, Option.bind_some, app_is (by simp; omega), Option.bind_some, w64_id (by omega), List.take_add_one, hzk]
      simp
    · right
      have : k = l.length := by omega
      subst this
      rw [r05_Changed_l1, if_neg (by omega), ← hz, List.take_length]
  unfold r05_Changed
  rw [hlo, Option.bind_some, str_nat]
theorem okU32 {n : Int} (h : (Lit.int .u32 n).wf = true) : 0 ≤ n ∧ n < 4294967296 := by
  have a1 : IntKind.u32.min = 0 := rfl
  have a2 : IntKind.u32.max = 4294967295 := rfl
  simp only [Lit.wf, Bool.and_eq_true, decide_eq_true_eq] at h
  omega
theorem okU8 {n : Int} (h : (Lit.int .u8 n).wf = true) : 0 ≤ n ∧ n < 256 := by
  have a1 : IntKind.u8.min = 0 := rfl
  have a2 : IntKind.u8.max = 255 := rfl
  simp only [Lit.wf, Bool.and_eq_true, decide_eq_true_eq] at h
  omega
theorem sealed_len (l : List UInt8) : (sealed l).length = l.length + 3 := by simp [sealed, b3]
theorem sealed_reg (l : List UInt8) : reg reg1 (sealed l) = 0#24 := by
  unfold sealed; rw [reg_app, reg_seal]
theorem opn_reg {l : List UInt8} (h : (opn l).2 = true) : reg reg1 l = 0#24 := by
  unfold opn at h
  split at h
  · simp at h
  · split at h
    · rename_i h2; rw [← h2]; exact sealed_reg _
    · simp at h

theorem CrcTells_true (p0 : List UInt8) (ok0 : okS p0) (p1 : Int) (ok1 : (Lit.int .u32 p1).wf = true) : L05_CrcTells p0 p1 = some true := by
  have h1 := okU32 ok1
  unfold L05_CrcTells
  by_cases h : 2000 < (p0.length : Int)
  · rw [if_pos h, awake5]; rfl
  · rw [if_neg h, open_eq _ (by omega), Option.bind_some, ropen_eq _ (by omega), Option.bind_some]
    have e : (decide ((opn p0).2 ≠ (if p0.length < 3 then (([] : List UInt8), false) else (p0.take (p0.length - 3), decide (sealed (p0.take (p0.length - 3)) = p0))).2) || (bif (opn p0).2 then decide ((opn p0).1 ≠ (if p0.length < 3 then (([] : List UInt8), false) else (p0.take (p0.length - 3), decide (sealed (p0.take (p0.length - 3)) = p0))).1) else decide ((opn p0).1 ≠ ([] : List UInt8)))) = false := by
      unfold opn
      by_cases h3 : p0.length < 3
      · simp [h3]
      · by_cases h4 : sealed (p0.take (p0.length - 3)) = p0
        · simp only [if_neg h3, if_pos h4]; simp [h4]
        · simp only [if_neg h3, if_neg h4]; simp [h4]
    rw [e]
    simp only [Bool.false_eq_true, if_false]
    rw [sum_eq _ (by omega), Option.bind_some, rsum_eq _ (by omega), Option.bind_some, if_pos rfl, more_eq _ h1 _ (by omega), Option.bind_some, rmore_eq _ h1 _ (by omega), Option.bind_some, if_pos rfl, seal_eq _ (by omega), Option.bind_some, rseal_eq _ (by omega), Option.bind_some, if_pos rfl, awake5]
    rfl
theorem reg0_nat (c : BitVec 24) : reg0 (c.toNat : Int) = c := by
  unfold reg0; rw [Int.toNat_natCast]; simp
theorem CrcGoes_true (p0 : List UInt8) (ok0 : okS p0) (p1 : List UInt8) (ok1 : okS p1) : L05_CrcGoes p0 p1 = some true := by
  unfold L05_CrcGoes
  by_cases h : (decide (2000 < (p0.length : Int)) || decide (2000 < (p1.length : Int))) = true
  · rw [if_pos h, awake5]; rfl
  · rw [if_neg h]
    have hl : ¬ (2000 < (p0.length : Int) ∨ 2000 < (p1.length : Int)) := by simpa using h
    have hs := sealed_len p0
    have hc := (reg reg1 p0).isLt
    rw [seal_eq _ (by omega), Option.bind_some, open_eq _ (by omega), Option.bind_some, open_seal, sum_eq _ (by omega), Option.bind_some, more_eq _ (by omega) _ (by omega), Option.bind_some, app_is (by omega), Option.bind_some, sum_eq _ (by simp; omega), Option.bind_some, reg0_nat, reg_app, if_pos rfl, if_pos rfl, if_pos rfl, awake5]
    rfl
theorem CrcLinear_true (p0 : List UInt8) (ok0 : okS p0) (p1 : List UInt8) (ok1 : okS p1) (p2 : Int) (ok2 : (Lit.int .u32 p2).wf = true) (p3 : Int) (ok3 : (Lit.int .u32 p3).wf = true) : L05_CrcLinear p0 p1 p2 p3 = some true := by
  have h2 := okU32 ok2
  have h3 := okU32 ok3
  unfold L05_CrcLinear
  by_cases h : (decide ((p0.length : Int) ≠ (p1.length : Int)) || decide (500 < (p0.length : Int))) = true
  · rw [if_pos h, awake5]; rfl
  · rw [if_neg h]
    have hl : ¬ ((p0.length : Int) ≠ (p1.length : Int) ∨ 500 < (p0.length : Int)) := by simpa using h
    have hlen : p0.length = p1.length := by omega
    have hch := chg_eq p0 0 0 p1 (by omega) (by omega)
    rw [show ((0 : Nat) : Int) = 0 from rfl] at hch
    have hm : mask 0 0 p1 = p1 := by simp [mask]
    rw [hm] at hch
    obtain ⟨a, rfl⟩ : ∃ a : Nat, p2 = a := ⟨p2.toNat, by omega⟩
    obtain ⟨b, rfl⟩ : ∃ b : Nat, p3 = b := ⟨p3.toNat, by omega⟩
    have hx : xorI .u32 (a : Int) (b : Int) = ((a ^^^ b : Nat) : Int) := xor_u32 a b (by omega) (by omega)
    have hxl : a ^^^ b < 2 ^ 32 := Nat.xor_lt_two_pow (by omega) (by omega)
    have hr : reg0 ((a ^^^ b : Nat) : Int) = reg0 (a : Int) ^^^ reg0 (b : Int) := by
      unfold reg0
      apply BitVec.eq_of_toNat_eq
      simp only [Int.toNat_natCast, BitVec.toNat_xor, BitVec.toNat_ofNat]
      exact Nat.xor_mod_two_pow
    have hzl : (List.zipWith (· ^^^ ·) p0 p1).length ≤ 1000000000 := by simp; omega
    have hA := (reg (reg0 (a : Int)) p0).isLt
    have hB := (reg (reg0 (b : Int)) p1).isLt
    rw [more_eq _ h2 _ (by omega), Option.bind_some, more_eq _ h3 _ (by omega), Option.bind_some, hch, Option.bind_some, hx, more_eq _ (by omega) _ hzl, Option.bind_some, hr, reg_xor _ _ _ _ hlen, xor_u32 _ _ (by omega) (by omega), BitVec.toNat_xor, if_pos rfl, awake5]
    rfl
theorem CrcFinds_true (p0 : List UInt8) (ok0 : okS p0) (p1 : Int) (ok1 : (Lit.int .i64 p1).wf = true) (p2 : Int) (ok2 : (Lit.int .u8 p2).wf = true) (p3 : Int) (ok3 : (Lit.int .u8 p3).wf = true) (p4 : Int) (ok4 : (Lit.int .u8 p4).wf = true) : L05_CrcFinds p0 p1 p2 p3 p4 = some true := by
  have h2 := okU8 ok2
  have h3 := okU8 ok3
  have h4 := okU8 ok4
  unfold L05_CrcFinds
  by_cases h : (decide (2000 < (p0.length : Int)) || (decide (p2 = 0) && (decide (p3 = 0) && decide (p4 = 0)))) = true
  · rw [if_pos h, awake5]; rfl
  · rw [if_neg h]
    have hl : ¬ (2000 < (p0.length : Int) ∨ (p2 = 0 ∧ p3 = 0 ∧ p4 = 0)) := by simpa using h
    have hs := sealed_len p0
    rw [seal_eq _ (by omega), Option.bind_some, w64_id (by omega)]
    by_cases hat : (decide (p1 < 0) || decide (((sealed p0).length : Int) - 3 < p1)) = true
    · rw [if_pos hat, awake5]; rfl
    · rw [if_neg hat]
      have hat' : ¬ (p1 < 0 ∨ ((sealed p0).length : Int) - 3 < p1) := by simpa using hat
      obtain ⟨m, rfl⟩ : ∃ m : Nat, p1 = m := ⟨p1.toNat, by omega⟩
      have hx : strOf ([p2, p3, p4] : List Int) = [UInt8.ofNat p2.toNat, UInt8.ofNat p3.toNat, UInt8.ofNat p4.toNat] := rfl
      obtain ⟨n, hn⟩ : ∃ n : Nat, m + 3 + n = (sealed p0).length := ⟨(sealed p0).length - m - 3, by omega⟩
      rw [hx, chg_eq (sealed p0) m n _ (by omega) (by simpa using hn), Option.bind_some, open_eq _ (by simp; omega), Option.bind_some]
      have hf : (opn (List.zipWith (· ^^^ ·) (sealed p0) (mask m n [UInt8.ofNat p2.toNat, UInt8.ofNat p3.toNat, UInt8.ofNat p4.toNat]))).2 = false := by
        cases hq : (opn (List.zipWith (· ^^^ ·) (sealed p0) (mask m n [UInt8.ofNat p2.toNat, UInt8.ofNat p3.toNat, UInt8.ofNat p4.toNat]))).2 with
        | false => rfl
        | true =>
          exfalso
          have hr := opn_reg hq
          have hxr := reg_xor (sealed p0) (mask m n [UInt8.ofNat p2.toNat, UInt8.ofNat p3.toNat, UInt8.ofNat p4.toNat]) reg1 0#24 (by simp [mask]; omega)
          rw [BitVec.xor_zero, hr, sealed_reg, BitVec.zero_xor] at hxr
          obtain ⟨b1, b2, b3⟩ := burst m n _ _ _ hxr.symm
          have z : ∀ v : Int, 0 ≤ v ∧ v < 256 → UInt8.ofNat v.toNat = 0 → v = 0 := by
            intro v hv h0
            have := congrArg UInt8.toNat h0
            rw [UInt8.toNat_ofNat'] at this
            have e0 : (0 : UInt8).toNat = 0 := rfl
            omega
          exact hl (.inr ⟨z _ h2 b1, z _ h3 b2, z _ h4 b3⟩)
      rw [hf]
      simp only [Bool.not_false, if_true]
      rw [awake5]; rfl
end Go.Proofs.YtnifdmdnifjilaaDoor
