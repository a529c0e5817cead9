/- Layer 8: meetings. Conditions: none. -/
import Derived.Test.YtmlaadalggngkaaDoorM08
namespace Go.Proofs.YtmlaadalggngkaaDoor
set_option linter.unusedVariables false
set_option linter.unusedSimpArgs false
open Go Go.RowKit
/-! ### Meetings -/
def orN (x y : Int) : Int := ((x.toNat ||| y.toNat : Nat) : Int)
abbrev orP (a b : P4) : P4 := (orN a.1 b.1, orN a.2.1 b.2.1, orN a.2.2.1 b.2.2.1, orN a.2.2.2 b.2.2.2)
theorem orI_eq {x y : Int} (hx : By x) (hy : By y) : orI .i64 x y = orN x y := by
  obtain ⟨n, rfl⟩ : ∃ n : Nat, x = (n : Int) := ⟨x.toNat, by have := hx.1; omega⟩
  obtain ⟨m, rfl⟩ : ∃ n : Nat, y = (n : Int) := ⟨y.toNat, by have := hy.1; omega⟩
  have h1 := hx.2
  have h2 := hy.2
  unfold orN
  rw [or_n (by omega) (by omega), Int.toNat_natCast, Int.toNat_natCast]
theorem tb_or (x y : Int) (i : Nat) : tb (orN x y) i = (tb x i || tb y i) := by
  unfold orN tb
  rw [Int.toNat_natCast, Nat.testBit_or]
theorem or_top {x y : Int} {f : Nat} (hf : f < 4) (hx : 0 ≤ x ∧ x ≤ r07_Top (f : Int)) (hy : 0 ≤ y ∧ y ≤ r07_Top (f : Int)) : 0 ≤ orN x y ∧ orN x y ≤ r07_Top (f : Int) := by
  unfold orN
  rcases topB hf with e | e
  · rw [e] at hx hy ⊢
    have : x.toNat ||| y.toNat < 2 ^ 8 := Nat.or_lt_two_pow (by omega) (by omega)
    omega
  · rw [e] at hx hy ⊢
    have : x.toNat ||| y.toNat < 2 ^ 4 := Nat.or_lt_two_pow (by omega) (by omega)
    omega
theorem p4_or (x y : P4) {k : Nat} (hk : k < 4) : p4 (orP x y) k = orN (p4 x k) (p4 y k) := by
  have : k = 0 ∨ k = 1 ∨ k = 2 ∨ k = 3 := by omega
  rcases this with rfl | rfl | rfl | rfl <;> rfl
theorem p4_ext {x y : P4} (h : ∀ k, k < 4 → p4 x k = p4 y k) : x = y := by
  obtain ⟨a, b, c, d⟩ := x
  obtain ⟨a', b', c', d'⟩ := y
  have h0 : a = a' := h 0 (by decide)
  have h1 : b = b' := h 1 (by decide)
  have h2 : c = c' := h 2 (by decide)
  have h3 : d = d' := h 3 (by decide)
  subst h0 h1 h2 h3; rfl
theorem put_self (v : P4) {k : Nat} (hk : k < 4) : put4 v (k : Int) (p4 v k) = v := by
  have : k = 0 ∨ k = 1 ∨ k = 2 ∨ k = 3 := by omega
  rcases this with rfl | rfl | rfl | rfl <;> rfl
theorem put_put (v : P4) {k : Nat} (hk : k < 4) (x y : Int) : put4 (put4 v (k : Int) x) (k : Int) y = put4 v (k : Int) y := by
  have : k = 0 ∨ k = 1 ∨ k = 2 ∨ k = 3 := by omega
  rcases this with rfl | rfl | rfl | rfl <;> rfl
theorem p4_put (v : P4) {k : Nat} (hk : k < 4) (x : Int) : p4 (put4 v (k : Int) x) k = x := by
  have : k = 0 ∨ k = 1 ∨ k = 2 ∨ k = 3 := by omega
  rcases this with rfl | rfl | rfl | rfl <;> rfl
theorem ext_by {x y : Int} (hx : By x) (hy : By y) (h : ∀ i : Nat, i < 8 → tb x i = tb y i) : x = y := by
  have h1 := hx.1
  have h2 := hx.2
  have h3 := hy.1
  have h4 := hy.2
  have := ext8 (x := x.toNat) (y := y.toNat) (by omega) (by omega) h
  omega
abbrev cb (a b : Mt) (f i : Nat) : Prop := tb (p4 a.2.2 f) i = true ∧ tb (p4 b.2.2 f) i = true ∧ tb (p4 a.2.1 f) i ≠ tb (p4 b.2.1 f) i
abbrev Cl (a b : Mt) (f : Nat) : Prop := ∃ i : Nat, i < 8 ∧ cb a b f i
abbrev PC (a b : Mt) : Prop := a.1 ≠ -1 ∧ b.1 ≠ -1 ∧ a.1 ≠ b.1
abbrev Clash (a b : Mt) : Prop := PC a b ∨ ∃ f : Nat, f < 4 ∧ Cl a b f
abbrev meetM (a b : Mt) : Mt := ((if a.1 = -1 then b.1 else a.1), orP a.2.1 b.2.1, orP a.2.2 b.2.2)
abbrev zeroM : Mt := (0, (0, 0, 0, 0), (0, 0, 0, 0))
theorem cl_nz {va vb ma mb : Int} (h1 : By va) (h2 : By vb) (h3 : By ma) (h4 : By mb) : (andI .i64 (andI .i64 (xorI .i64 va vb) ma) mb ≠ 0) ↔ ∃ i : Nat, i < 8 ∧ (tb ma i = true ∧ tb mb i = true ∧ tb va i ≠ tb vb i) := by
  obtain ⟨va, rfl⟩ : ∃ n : Nat, va = (n : Int) := ⟨va.toNat, by have := h1.1; omega⟩
  obtain ⟨vb, rfl⟩ : ∃ n : Nat, vb = (n : Int) := ⟨vb.toNat, by have := h2.1; omega⟩
  obtain ⟨ma, rfl⟩ : ∃ n : Nat, ma = (n : Int) := ⟨ma.toNat, by have := h3.1; omega⟩
  obtain ⟨mb, rfl⟩ : ∃ n : Nat, mb = (n : Int) := ⟨mb.toNat, by have := h4.1; omega⟩
  have a1 := h1.2
  have a2 := h2.2
  have a3 := h3.2
  have a4 := h4.2
  have l1 : va ^^^ vb < 2 ^ 8 := Nat.xor_lt_two_pow (by omega) (by omega)
  have l2 : (va ^^^ vb) &&& ma < 2 ^ 8 := Nat.and_lt_two_pow _ (by omega)
  have l3 : (va ^^^ vb) &&& ma &&& mb < 2 ^ 8 := Nat.and_lt_two_pow _ (by omega)
  rw [xor_n (by omega) (by omega), and_n l1 (by omega), and_n l2 (by omega), nz8 l3]
  constructor
  · rintro ⟨i, hi, h⟩
    refine ⟨i, hi, ?_⟩
    simp only [Nat.testBit_and, Nat.testBit_xor, tb, Int.toNat_natCast] at h ⊢
    cases h1 : ma.testBit i <;> cases h2 : mb.testBit i <;> cases h3 : va.testBit i <;> cases h4 : vb.testBit i <;> simp_all
  · rintro ⟨i, hi, h⟩
    refine ⟨i, hi, ?_⟩
    simp only [Nat.testBit_and, Nat.testBit_xor, tb, Int.toNat_natCast] at h ⊢
    cases h1 : ma.testBit i <;> cases h2 : mb.testBit i <;> cases h3 : va.testBit i <;> cases h4 : vb.testBit i <;> simp_all
abbrev T8 := Int × Int × Int × Int × Int × Int × Int × Int
abbrev t8 (v m : P4) : T8 := (v.1, v.2.1, v.2.2.1, v.2.2.2, m)
/-- A loop over the four fields that joins, or finds a conflict. -/
theorem meet_loop {a b : Mt} {S : (Int × T8) → Option ((Int × T8) ⊕ (T8 ⊕ (Mt × Bool)))}
    (hs : ∀ k, k < 4 → ∀ v m : P4, p4 v k = p4 a.2.1 k → p4 m k = p4 a.2.2 k → S ((k : Int), t8 v m) = some (if Cl a b k then .inr (.inr (zeroM, false)) else .inl (((k + 1 : Nat) : Int), t8 (put4 v (k : Int) (orN (p4 a.2.1 k) (p4 b.2.1 k))) (put4 m (k : Int) (orN (p4 a.2.2 k) (p4 b.2.2 k))))))
    (he : ∀ v m : P4, S (4, t8 v m) = some (.inr (.inl (t8 v m)))) :
    loopW S (0, t8 a.2.1 a.2.2) = some (if ∃ f : Nat, f < 4 ∧ Cl a b f then .inr (zeroM, false) else .inl (t8 (orP a.2.1 b.2.1) (orP a.2.2 b.2.2))) := by
  have s0 := hs 0 (by decide) a.2.1 a.2.2 rfl rfl
  have s1 := hs 1 (by decide) (orN a.2.1.1 b.2.1.1, a.2.1.2) (orN a.2.2.1 b.2.2.1, a.2.2.2) rfl rfl
  have s2 := hs 2 (by decide) (orN a.2.1.1 b.2.1.1, orN a.2.1.2.1 b.2.1.2.1, a.2.1.2.2) (orN a.2.2.1 b.2.2.1, orN a.2.2.2.1 b.2.2.2.1, a.2.2.2.2) rfl rfl
  have s3 := hs 3 (by decide) (orN a.2.1.1 b.2.1.1, orN a.2.1.2.1 b.2.1.2.1, orN a.2.1.2.2.1 b.2.1.2.2.1, a.2.1.2.2.2) (orN a.2.2.1 b.2.2.1, orN a.2.2.2.1 b.2.2.2.1, orN a.2.2.2.2.1 b.2.2.2.2.1, a.2.2.2.2.2) rfl rfl
  by_cases c0 : Cl a b 0
  · rw [if_pos ⟨0, by decide, c0⟩]
    rw [if_pos c0] at s0
    exact loopW_end s0
  rw [if_neg c0] at s0
  by_cases c1 : Cl a b 1
  · rw [if_pos ⟨1, by decide, c1⟩]
    rw [if_pos c1] at s1
    exact (loopW_go s0).trans (loopW_end s1)
  rw [if_neg c1] at s1
  by_cases c2 : Cl a b 2
  · rw [if_pos ⟨2, by decide, c2⟩]
    rw [if_pos c2] at s2
    exact (loopW_go s0).trans ((loopW_go s1).trans (loopW_end s2))
  rw [if_neg c2] at s2
  by_cases c3 : Cl a b 3
  · rw [if_pos ⟨3, by decide, c3⟩]
    rw [if_pos c3] at s3
    exact (loopW_go s0).trans ((loopW_go s1).trans ((loopW_go s2).trans (loopW_end s3)))
  rw [if_neg c3] at s3
  rw [if_neg (by
    rintro ⟨f, hf, h⟩
    have : f = 0 ∨ f = 1 ∨ f = 2 ∨ f = 3 := by omega
    rcases this with rfl | rfl | rfl | rfl
    · exact c0 h
    · exact c1 h
    · exact c2 h
    · exact c3 h)]
  exact (loopW_go s0).trans ((loopW_go s1).trans ((loopW_go s2).trans ((loopW_go s3).trans (loopW_end (he (orP a.2.1 b.2.1) (orP a.2.2 b.2.2))))))
abbrev meetR (a b : Mt) : Mt × Bool := if Clash a b then (zeroM, false) else (meetM a b, true)
theorem meet_fin {a b : Mt} {S : (Int × T8) → Option ((Int × T8) ⊕ (T8 ⊕ (Mt × Bool)))}
    (h : loopW S (0, t8 a.2.1 a.2.2) = some (if ∃ f : Nat, f < 4 ∧ Cl a b f then .inr (zeroM, false) else .inl (t8 (orP a.2.1 b.2.1) (orP a.2.2 b.2.2)))) :
    ((if a.1 = (-1) then some b.1 else some a.1).bind fun x1 => (if (decide (b.1 ≠ (-1)) && decide (x1 ≠ b.1)) = true then some ((0, (0, 0, 0, 0), (0, 0, 0, 0)), false) else orR (loopW S (0, a.2.1.1, a.2.1.2.1, a.2.1.2.2.1, a.2.1.2.2.2, a.2.2.1, a.2.2.2.1, a.2.2.2.2.1, a.2.2.2.2.2)) fun (x2, x3, x4, x5, x6, x7, x8, x9) => some ((x1, (x2, x3, x4, x5), (x6, x7, x8, x9)), true))) = some (meetR a b) := by
  have h' : loopW S (0, a.2.1.1, a.2.1.2.1, a.2.1.2.2.1, a.2.1.2.2.2, a.2.2.1, a.2.2.2.1, a.2.2.2.2.1, a.2.2.2.2.2) = _ := h
  have hp : (if a.1 = (-1) then some b.1 else some a.1) = some (if a.1 = -1 then b.1 else a.1) := by split <;> rfl
  rw [hp, Option.bind_some, h']
  by_cases c : PC a b
  · rw [if_pos (by rw [if_neg c.1]; simpa using c.2), show meetR a b = (zeroM, false) from if_pos (.inl c)]
  · rw [if_neg (by
      intro hn
      apply c
      simp only [Bool.and_eq_true, decide_eq_true_eq] at hn
      by_cases ca : a.1 = -1
      · rw [if_pos ca] at hn; exact absurd rfl hn.2
      · rw [if_neg ca] at hn; exact ⟨ca, hn.1, hn.2⟩)]
    by_cases c2 : ∃ f : Nat, f < 4 ∧ Cl a b f
    · rw [if_pos c2, show meetR a b = (zeroM, false) from if_pos (.inr c2)]; rfl
    · rw [if_neg c2, show meetR a b = (meetM a b, true) from if_neg (fun h => h.elim c c2)]; rfl
theorem meet_eq {a b : Mt} (ha : Good a) (hb : Good b) : match_Meet a b = some (meetR a b) := by
  unfold match_Meet
  exact meet_fin (meet_loop (fun k hk v m hv hm => by
    obtain ⟨g1, g2⟩ := good_by ha hk
    obtain ⟨g3, g4⟩ := good_by hb hk
    show match_Meet_l1 b ((k : Int), v.1, v.2.1, v.2.2.1, v.2.2.2, m.1, m.2.1, m.2.2.1, m.2.2.2) = _
    rw [match_Meet_l1, if_pos (by omega), ix4 v hk, Option.bind_some, ix4 b.2.1 hk, Option.bind_some, ix4 m hk, Option.bind_some, ix4 b.2.2 hk, Option.bind_some]
    simp only [Option.bind_some]
    rw [hv, hm, w64_id (by omega), orI_eq g1 g3, orI_eq g2 g4]
    have hi := cl_nz g1 g3 g2 g4
    by_cases c : andI .i64 (andI .i64 (xorI .i64 (p4 a.2.1 k) (p4 b.2.1 k)) (p4 a.2.2 k)) (p4 b.2.2 k) ≠ 0
    · rw [if_pos c, if_pos (hi.1 c)]
    · rw [if_neg c, if_neg (fun h => c (hi.2 h))]; rfl) (fun v m => by
    show match_Meet_l1 b (4, v.1, v.2.1, v.2.2.1, v.2.2.2, m.1, m.2.1, m.2.2.1, m.2.2.2) = _
    rw [match_Meet_l1, if_neg (by decide)]))
/-! ### The reference's meeting, bit by bit -/
theorem pow_set : ∀ x : Fin 256, ∀ i : Fin 8, x.val.testBit i.val = false → x.val ||| 2 ^ i.val = x.val + 2 ^ i.val := by decide +kernel
theorem pow_in : ∀ x : Fin 256, ∀ i : Fin 8, x.val.testBit i.val = true → x.val ||| 2 ^ i.val = x.val := by decide +kernel
theorem low_set : ∀ x : Fin 256, ∀ i : Fin 8, x.val.testBit i.val = true → x.val % 2 ^ (i.val + 1) = x.val % 2 ^ i.val ||| 2 ^ i.val := by decide +kernel
theorem low_clear : ∀ x : Fin 256, ∀ i : Fin 8, x.val.testBit i.val = false → x.val % 2 ^ (i.val + 1) = x.val % 2 ^ i.val := by decide +kernel
theorem step_num {x y i : Nat} (hx : x < 256) (hy : y < 256) (hi : i < 8) : (x ||| y % 2 ^ (i + 1)) = if y.testBit i = true ∧ x.testBit i = false then (x ||| y % 2 ^ i) + 2 ^ i else (x ||| y % 2 ^ i) := by
  have hz : y % 2 ^ i < 256 := Nat.lt_of_le_of_lt (Nat.mod_le _ _) hy
  have hw : x ||| y % 2 ^ i < 2 ^ 8 := Nat.or_lt_two_pow hx hz
  cases h1 : y.testBit i
  · rw [if_neg (fun h => by cases h.1), low_clear ⟨y, hy⟩ ⟨i, hi⟩ h1]
  · have h3 := low_set ⟨y, hy⟩ ⟨i, hi⟩ h1
    simp only at h3
    rw [h3]
    cases h2 : x.testBit i
    · rw [if_pos ⟨rfl, rfl⟩, ← Nat.or_assoc]
      exact pow_set ⟨x ||| y % 2 ^ i, hw⟩ ⟨i, hi⟩ (by simp [h2])
    · have h4 := pow_in ⟨x, hx⟩ ⟨i, hi⟩ h2
      simp only at h4
      rw [if_neg (fun h => by cases h.2), Nat.or_comm (y % 2 ^ i), ← Nat.or_assoc, h4]
def lo (x y : Int) (i : Nat) : Int := ((x.toNat ||| y.toNat % 2 ^ i : Nat) : Int)
theorem lo0 {x y : Int} (hx : By x) : lo x y 0 = x := by
  have := hx.1
  unfold lo
  rw [Nat.pow_zero, Nat.mod_one, Nat.or_zero]; omega
theorem lo8 {x y : Int} (hy : By y) : lo x y 8 = orN x y := by
  have := hy.1
  have := hy.2
  unfold lo orN
  rw [Nat.mod_eq_of_lt (by omega)]
theorem lo_bd {x y : Int} (hx : By x) (hy : By y) (i : Nat) : By (lo x y i) := by
  have h1 := hx.1
  have h2 := hx.2
  have h3 := hy.1
  have h4 := hy.2
  have : x.toNat ||| y.toNat % 2 ^ i < 2 ^ 8 := Nat.or_lt_two_pow (by omega) (Nat.lt_of_le_of_lt (Nat.mod_le _ _) (by omega))
  unfold lo
  constructor <;> omega
theorem lo_step {x y : Int} (hx : By x) (hy : By y) {i : Nat} (hi : i < 8) : lo x y (i + 1) = if tb y i = true ∧ tb x i = false then lo x y i + ((2 ^ i : Nat) : Int) else lo x y i := by
  have h1 := hx.1
  have h2 := hx.2
  have h3 := hy.1
  have h4 := hy.2
  unfold lo
  rw [step_num (by omega) (by omega) hi]
  by_cases c : y.toNat.testBit i = true ∧ x.toNat.testBit i = false
  · rw [if_pos c, if_pos c]; simp
  · rw [if_neg c, if_neg c]
theorem rmeet_bit {a b : Mt} (ha : Good a) (hb : Good b) {k : Nat} (hk : k < 4) {i : Nat} (hi : i < 8) (v m : P4) (hv : p4 v k = lo (p4 a.2.1 k) (p4 b.2.1 k) i) (hm : p4 m k = lo (p4 a.2.2 k) (p4 b.2.2 k) i) :
    r08_Meet_l2 a b (k : Int) (((2 ^ i : Nat) : Int), (i : Int), t8 v m) = some (if cb a b k i then .inr (.inr (.inr (.inr (zeroM, false)))) else .inl (((2 ^ (i + 1) : Nat) : Int), ((i + 1 : Nat) : Int), t8 (put4 v (k : Int) (lo (p4 a.2.1 k) (p4 b.2.1 k) (i + 1))) (put4 m (k : Int) (lo (p4 a.2.2 k) (p4 b.2.2 k) (i + 1))))) := by
  obtain ⟨g1, g2⟩ := good_by ha hk
  obtain ⟨g3, g4⟩ := good_by hb hk
  have ga := (ha.2 k hk).2.2 i hi
  have gb := (hb.2 k hk).2.2 i hi
  have l1 := lo_step g1 g3 hi
  have l2 := lo_step g2 g4 hi
  have b1 := lo_bd g1 g3 i
  have b2 := lo_bd g2 g4 i
  have hp : 2 ^ i ≤ 2 ^ 7 := Nat.pow_le_pow_right (by decide) (by omega)
  have hq : 2 ^ (i + 1) = 2 ^ i * 2 := Nat.pow_succ ..
  rw [hq]
  generalize 2 ^ i = q at hp l1 l2
  show r08_Meet_l2 a b (k : Int) ((q : Int), (i : Int), v.1, v.2.1, v.2.2.1, v.2.2.2, m.1, m.2.1, m.2.2.1, m.2.2.2) = _
  rw [r08_Meet_l2, if_pos (by omega), ix4 b.2.2 hk, Option.bind_some, bit_eq g4 hi, Option.bind_some, ix4 a.2.2 hk, ix4 a.2.1 hk, ix4 b.2.1 hk, ix4 v hk, ix4 m hk]
  simp only [Option.bind_some]
  rw [bit_eq g2 hi, bit_eq g1 hi, bit_eq g3 hi, bit_eq g4 hi]
  simp only [Option.bind_some]
  rw [hv, hm, w64_id (x := (q : Int) * 2) (by omega), w64_id (x := (i : Int) + 1) (by omega)]
  generalize lo (p4 a.2.1 k) (p4 b.2.1 k) i = V at *
  generalize lo (p4 a.2.2 k) (p4 b.2.2 k) i = M at *
  have sv := put_self v hk
  have sm := put_self m hk
  rw [hv] at sv
  rw [hm] at sm
  have o1 := b1.1
  have o2 := b1.2
  have o3 := b2.1
  have o4 := b2.2
  by_cases c1 : tb (p4 b.2.2 k) i = true
  · by_cases c2 : tb (p4 a.2.2 k) i = true
    · have e2 : lo (p4 a.2.2 k) (p4 b.2.2 k) (i + 1) = M := by rw [l2, if_neg (fun h => by rw [c2] at h; cases h.2)]
      by_cases c3 : tb (p4 a.2.1 k) i = tb (p4 b.2.1 k) i
      · have e1 : lo (p4 a.2.1 k) (p4 b.2.1 k) (i + 1) = V := by rw [l1, if_neg (fun h => by rw [c3, h.1] at h; cases h.2)]
        rw [if_neg (show ¬ cb a b k i from fun h => h.2.2 c3), e1, e2, sv, sm]
        rw [c1, c2, c3]
        simp
      · rw [if_pos (show cb a b k i from ⟨c2, c1, c3⟩), c1, c2]
        by_cases c4 : tb (p4 a.2.1 k) i = true <;> by_cases c5 : tb (p4 b.2.1 k) i = true <;> simp_all
    · have c2' : tb (p4 a.2.2 k) i = false := by simpa using c2
      have c4 : tb (p4 a.2.1 k) i = false := by
        cases h : tb (p4 a.2.1 k) i
        · rfl
        · exact absurd (ga h) c2
      have e2 : lo (p4 a.2.2 k) (p4 b.2.2 k) (i + 1) = M + (q : Int) := by rw [l2, if_pos ⟨c1, c2'⟩]
      rw [if_neg (show ¬ cb a b k i from fun h => c2 h.1), e2, c1, c2', c4]
      by_cases c5 : tb (p4 b.2.1 k) i = true
      · have e1 : lo (p4 a.2.1 k) (p4 b.2.1 k) (i + 1) = V + (q : Int) := by rw [l1, if_pos ⟨c5, c4⟩]
        rw [e1, c5, if_pos rfl, w64_id (x := (q : Int) * 1) (by omega), w64_id (x := V + (q : Int) * 1) (by omega), w64_id (x := M + (q : Int)) (by omega), Int.mul_one]
        simp
      · have c5' : tb (p4 b.2.1 k) i = false := by simpa using c5
        have e1 : lo (p4 a.2.1 k) (p4 b.2.1 k) (i + 1) = V := by rw [l1, if_neg (fun h => by rw [c5'] at h; cases h.1)]
        rw [e1, c5', if_neg (show ¬ (false = true) by decide), w64_id (x := (q : Int) * 0) (by omega), w64_id (x := V + (q : Int) * 0) (by omega), w64_id (x := M + (q : Int)) (by omega), Int.mul_zero, Int.add_zero]
        simp
  · have c1' : tb (p4 b.2.2 k) i = false := by simpa using c1
    have c5 : tb (p4 b.2.1 k) i = false := by
      cases h : tb (p4 b.2.1 k) i
      · rfl
      · exact absurd (gb h) c1
    have e1 : lo (p4 a.2.1 k) (p4 b.2.1 k) (i + 1) = V := by rw [l1, if_neg (fun h => by rw [c5] at h; cases h.1)]
    have e2 : lo (p4 a.2.2 k) (p4 b.2.2 k) (i + 1) = M := by rw [l2, if_neg (fun h => by rw [c1'] at h; cases h.1)]
    rw [if_neg (show ¬ cb a b k i from fun h => c1 h.2.1), e1, e2, sv, sm, c1']
    simp
theorem rmeet_field {a b : Mt} (ha : Good a) (hb : Good b) {k : Nat} (hk : k < 4) (v m : P4) (hv : p4 v k = p4 a.2.1 k) (hm : p4 m k = p4 a.2.2 k) :
    loopW (r08_Meet_l2 a b (k : Int)) (1, 0, t8 v m) = some (if Cl a b k then .inr (.inr (.inr (zeroM, false))) else .inl (t8 (put4 v (k : Int) (orN (p4 a.2.1 k) (p4 b.2.1 k))) (put4 m (k : Int) (orN (p4 a.2.2 k) (p4 b.2.2 k))))) := by
  obtain ⟨g1, g2⟩ := good_by ha hk
  obtain ⟨g3, g4⟩ := good_by hb hk
  have key : ∀ (d i : Nat), i + d = 8 → ∀ v m : P4, p4 v k = lo (p4 a.2.1 k) (p4 b.2.1 k) i → p4 m k = lo (p4 a.2.2 k) (p4 b.2.2 k) i →
      loopW (r08_Meet_l2 a b (k : Int)) (((2 ^ i : Nat) : Int), (i : Int), t8 v m) = some (if ∃ j : Nat, j < 8 ∧ (i ≤ j ∧ cb a b k j) then .inr (.inr (.inr (zeroM, false))) else .inl (t8 (put4 v (k : Int) (orN (p4 a.2.1 k) (p4 b.2.1 k))) (put4 m (k : Int) (orN (p4 a.2.2 k) (p4 b.2.2 k))))) := by
    intro d
    induction d with
    | zero =>
      intro i hi v m hv hm
      obtain rfl : i = 8 := by omega
      rw [if_neg (by rintro ⟨j, h1, h2, _⟩; omega), ← lo8 g3, ← lo8 g4, ← hv, ← hm, put_self v hk, put_self m hk]
      refine loopW_end ?_
      show r08_Meet_l2 a b (k : Int) (((2 ^ 8 : Nat) : Int), ((8 : Nat) : Int), v.1, v.2.1, v.2.2.1, v.2.2.2, m.1, m.2.1, m.2.2.1, m.2.2.2) = _
      rw [r08_Meet_l2, if_neg (by decide)]
    | succ d ih =>
      intro i hi v m hv hm
      have hs := rmeet_bit ha hb hk (i := i) (by omega) v m hv hm
      by_cases c : cb a b k i
      · rw [if_pos c] at hs
        rw [if_pos ⟨i, by omega, Nat.le_refl _, c⟩]
        exact loopW_end hs
      · rw [if_neg c] at hs
        rw [loopW_go hs, ih (i + 1) (by omega) _ _ (p4_put v hk _) (p4_put m hk _), put_put v hk, put_put m hk]
        by_cases c2 : ∃ j : Nat, j < 8 ∧ (i + 1 ≤ j ∧ cb a b k j)
        · rw [if_pos c2, if_pos (by obtain ⟨j, h1, h2, h3⟩ := c2; exact ⟨j, h1, by omega, h3⟩)]
        · rw [if_neg c2, if_neg (by
            rintro ⟨j, h1, h2, h3⟩
            have : i ≠ j := fun e => c (e ▸ h3)
            exact c2 ⟨j, h1, by omega, h3⟩)]
  have h := key 8 0 rfl v m (by rw [lo0 g1, hv]) (by rw [lo0 g2, hm])
  have h' : loopW (r08_Meet_l2 a b (k : Int)) (1, 0, t8 v m) = _ := h
  rw [h']
  by_cases c : Cl a b k
  · rw [if_pos c, if_pos (by obtain ⟨j, h1, h2⟩ := c; exact ⟨j, h1, by omega, h2⟩)]
  · rw [if_neg c, if_neg (by rintro ⟨j, h1, _, h2⟩; exact c ⟨j, h1, h2⟩)]
theorem rmeet_eq {a b : Mt} (ha : Good a) (hb : Good b) : r08_Meet a b = some (meetR a b) := by
  unfold r08_Meet
  exact meet_fin (meet_loop (fun k hk v m hv hm => by
    show r08_Meet_l1 a b ((k : Int), v.1, v.2.1, v.2.2.1, v.2.2.2, m.1, m.2.1, m.2.2.1, m.2.2.2) = _
    have hf := rmeet_field ha hb hk v m hv hm
    have hf' : loopW (r08_Meet_l2 a b (k : Int)) (1, 0, v.1, v.2.1, v.2.2.1, v.2.2.2, m.1, m.2.1, m.2.2.1, m.2.2.2) = _ := hf
    rw [r08_Meet_l1, if_pos (by omega), hf', w64_id (by omega)]
    by_cases c : Cl a b k
    · rw [if_pos c, if_pos c]; rfl
    · rw [if_neg c, if_neg c]; rfl) (fun v m => by
    show r08_Meet_l1 a b (4, v.1, v.2.1, v.2.2.1, v.2.2.2, m.1, m.2.1, m.2.2.1, m.2.2.2) = _
    rw [r08_Meet_l1, if_neg (by decide)]))
end Go.Proofs.YtmlaadalggngkaaDoor
