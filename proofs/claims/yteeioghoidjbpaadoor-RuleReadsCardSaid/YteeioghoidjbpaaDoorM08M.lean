/- Layer 10: meetings. Conditions: none. -/
import Derived.Test.YteeioghoidjbpaaDoorM08
namespace Go.Proofs.YteeioghoidjbpaaDoor
set_option linter.unusedVariables false
set_option linter.unusedSimpArgs false
open Go Go.RowKit
/-! ### Meetings -/
def orN (x y : Int) : Int := ((x.toNat ||| y.toNat : Nat) : Int)
abbrev orP (a b : P4) : P4 := (orN a.1 b.1, orN a.2.1 b.2.1, orN a.2.2.1 b.2.2.1, orN a.2.2.2 b.2.2.2)
theorem orI_eq {x y : Int} (hx : By x) (hy : By y) : orI .i64 x y = orN x y := by
  obtain ⟨n, rfl⟩ : ∃ n : Nat, x = (n : Int) := ⟨x.toNat, by have := hx.1; omega⟩
  obtain ⟨m, rfl⟩ : ∃ n : Nat, y = (n : Int) := ⟨y.toNat, by have := hy.1; omega⟩
  have h1 := hx.2
  have h2 := hy.2
  unfold orN
  rw [or_n (by omega) (by omega), Int.toNat_natCast, Int.toNat_natCast]
theorem tb_or (x y : Int) (i : Nat) : tb (orN x y) i = (tb x i || tb y i) := by
  unfold orN tb
  rw [Int.toNat_natCast, Nat.testBit_or]
theorem or_top {x y : Int} {f : Nat} (hf : f < 4) (hx : 0 ≤ x ∧ x ≤ r07_Top (f : Int)) (hy : 0 ≤ y ∧ y ≤ r07_Top (f : Int)) : 0 ≤ orN x y ∧ orN x y ≤ r07_Top (f : Int) := by
  unfold orN
  rcases topB hf with e | e
  · rw [e] at hx hy ⊢
    have : x.toNat ||| y.toNat < 2 ^ 8 := Nat.or_lt_two_pow (by omega) (by omega)
    omega
  · rw [e] at hx hy ⊢
    have : x.toNat ||| y.toNat < 2 ^ 4 := Nat.or_lt_two_pow (by omega) (by omega)
    omega
theorem p4_or (x y : P4) {k : Nat} (hk : k < 4) : p4 (orP x y) k = orN (p4 x k) (p4 y k) := by
  have : k = 0 ∨ k = 1 ∨ k = 2 ∨ k = 3 := by omega
  rcases this with rfl | rfl | rfl | rfl <;> rfl
theorem p4_ext {x y : P4} (h : ∀ k, k < 4 → p4 x k = p4 y k) : x = y := by
  obtain ⟨a, b, c, d⟩ := x
  obtain ⟨a', b', c', d'⟩ := y
  have h0 : a = a' := h 0 (by decide)
  have h1 : b = b' := h 1 (by decide)
  have h2 : c = c' := h 2 (by decide)
  have h3 : d = d' := h 3 (by decide)
  subst h0 h1 h2 h3; rfl
theorem put_self (v : P4) {k : Nat} (hk : k < 4) : put4 v (k : Int) (p4 v k) = v := by
  have : k = 0 ∨ k = 1 ∨ k = 2 ∨ k = 3 := by omega
  rcases this with rfl | rfl | rfl | rfl <;> rfl
theorem put_put (v : P4) {k : Nat} (hk : k < 4) (x y : Int) : put4 (put4 v (k : Int) x) (k : Int) y = put4 v (k : Int) y := by
  have : k = 0 ∨ k = 1 ∨ k = 2 ∨ k = 3 := by omega
  rcases this with rfl | rfl | rfl | rfl <;> rfl
theorem p4_put (v : P4) {k : Nat} (hk : k < 4) (x : Int) : p4 (put4 v (k : Int) x) k = x := by
  have : k = 0 ∨ k = 1 ∨ k = 2 ∨ k = 3 := by omega
  rcases this with rfl | rfl | rfl | rfl <;> rfl
theorem ext_by {x y : Int} (hx : By x) (hy : By y) (h : ∀ i : Nat, i < 8 → tb x i = tb y i) : x = y := by
  have h1 := hx.1
  have h2 := hx.2
  have h3 := hy.1
  have h4 := hy.2
  have := ext8 (x := x.toNat) (y := y.toNat) (by omega) (by omega) h
  omega
abbrev cb (a b : Mt) (f i : Nat) : Prop := tb (p4 a.2.2 f) i = true ∧ tb (p4 b.2.2 f) i = true ∧ tb (p4 a.2.1 f) i ≠ tb (p4 b.2.1 f) i
abbrev Cl (a b : Mt) (f : Nat) : Prop := ∃ i : Nat, i < 8 ∧ cb a b f i
abbrev PC (a b : Mt) : Prop := a.1 ≠ -1 ∧ b.1 ≠ -1 ∧ a.1 ≠ b.1
abbrev Clash (a b : Mt) : Prop := PC a b ∨ ∃ f : Nat, f < 4 ∧ Cl a b f
abbrev meetM (a b : Mt) : Mt := ((if a.1 = -1 then b.1 else a.1), orP a.2.1 b.2.1, orP a.2.2 b.2.2)
abbrev zeroM : Mt := (0, (0, 0, 0, 0), (0, 0, 0, 0))
theorem cl_nz {va vb ma mb : Int} (h1 : By va) (h2 : By vb) (h3 : By ma) (h4 : By mb) : (andI .i64 (andI .i64 (xorI .i64 va vb) ma) mb ≠ 0) ↔ ∃ i : Nat, i < 8 ∧ (tb ma i = true ∧ tb mb i = true ∧ tb va i ≠ tb vb i) := by
  obtain ⟨va, rfl⟩ : ∃ n : Nat, va = (n : Int) := ⟨va.toNat, by have := h1.1; omega⟩
  obtain ⟨vb, rfl⟩ : ∃ n : Nat, vb = (n : Int) := ⟨vb.toNat, by have := h2.1; omega⟩
  obtain ⟨ma, rfl⟩ : ∃ n : Nat, ma = (n : Int) := ⟨ma.toNat, by have := h3.1; omega⟩
  obtain ⟨mb, rfl⟩ : ∃ n : Nat, mb = (n : Int) := ⟨mb.toNat, by have := h4.1; omega⟩
  have a1 := h1.2
  have a2 := h2.2
  have a3 := h3.2
  have a4 := h4.2
  have l1 : va ^^^ vb < 2 ^ 8 := Nat.xor_lt_two_pow (by omega) (by omega)
  have l2 : (va ^^^ vb) &&& ma < 2 ^ 8 := Nat.and_lt_two_pow _ (by omega)
  have l3 : (va ^^^ vb) &&& ma &&& mb < 2 ^ 8 := Nat.and_lt_two_pow _ (by omega)
  rw [xor_n (by omega) (by omega), and_n l1 (by omega), and_n l2 (by omega), nz8 l3]
  constructor
  · rintro ⟨i, hi, h⟩
    refine ⟨i, hi, ?_⟩
    simp only [Nat.testBit_and, Nat.testBit_xor, tb, Int.toNat_natCast] at h ⊢
    cases h1 : ma.testBit i <;> cases h2 : mb.testBit i <;> cases h3 : va.testBit i <;> cases h4 : vb.testBit i <;> simp_all
  · rintro ⟨i, hi, h⟩
    refine ⟨i, hi, ?_⟩
    simp only [Nat.testBit_and, Nat.testBit_xor, tb, Int.toNat_natCast] at h ⊢
    cases h1 : ma.testBit i <;> cases h2 : mb.testBit i <;> cases h3 : va.testBit i <;> cases h4 : vb.testBit i <;> simp_all
abbrev T8 := Int × Int × Int × Int × Int × Int × Int × Int
abbrev t8 (v m : P4) : T8 := (v.1, v.2.1, v.2.2.1, v.2.2.2, m)
/-- A loop over the four fields that joins, or finds a conflict. -/
theorem meet_loop {a b : Mt} {S : (Int × T8) → Option ((Int × T8) ⊕ (T8 ⊕ (Mt × Bool)))}
    (hs : ∀ k, k < 4 → ∀ v m : P4, p4 v k = p4 a.2.1 k → p4 m k = p4 a.2.2 k → S ((k : Int), t8 v m) = some (if Cl a b k then .inr (.inr (zeroM, false)) else .inl (((k + 1 : Nat) : Int), t8 (put4 v (k : Int) (orN (p4 a.2.1 k) (p4 b.2.1 k))) (put4 m (k : Int) (orN (p4 a.2.2 k) (p4 b.2.2 k))))))
    (he : ∀ v m : P4, S (4, t8 v m) = some (.inr (.inl (t8 v m)))) :
    loopW S (0, t8 a.2.1 a.2.2) = some (if ∃ f : Nat, f < 4 ∧ Cl a b f then .inr (zeroM, false) else .inl (t8 (orP a.2.1 b.2.1) (orP a.2.2 b.2.2))) := by
  have s0 := hs 0 (by decide) a.2.1 a.2.2 rfl rfl
  have s1 := hs 1 (by decide) (orN a.2.1.1 b.2.1.1, a.2.1.2) (orN a.2.2.1 b.2.2.1, a.2.2.2) rfl rfl
  have s2 := hs 2 (by decide) (orN a.2.1.1 b.2.1.1, orN a.2.1.2.1 b.2.1.2.1, a.2.1.2.2) (orN a.2.2.1 b.2.2.1, orN a.2.2.2.1 b.2.2.2.1, a.2.2.2.2) rfl rfl
  have s3 := hs 3 (by decide) (orN a.2.1.1 b.2.1.1, orN a.2.1.2.1 b.2.1.2.1, orN a.2.1.2.2.1 b.2.1.2.2.1, a.2.1.2.2.2) (orN a.2.2.1 b.2.2.1, orN a.2.2.2.1 b.2.2.2.1, orN a.2.2.2.2.1 b.2.2.2.2.1, a.2.2.2.2.2) rfl rfl
  by_cases c0 : Cl a b 0
  · rw [if_pos ⟨0, by decide, c0⟩]
    rw [if_pos c0] at s0
    exact loopW_end s0
  rw [if_neg c0] at s0
  by_cases c1 : Cl a b 1
  · rw [if_pos ⟨1, by decide, c1⟩]
    rw [if_pos c1] at s1
    exact (loopW_go s0).trans (loopW_end s1)
  rw [if_neg c1] at s1
  by_cases c2 : Cl a b 2
  · rw [if_pos ⟨2, by decide, c2⟩]
    rw [if_pos c2] at s2
    exact (loopW_go s0).trans ((loopW_go s1).trans (loopW_end s2))
  rw [if_neg c2] at s2
  by_cases c3 : Cl a b 3
  · rw [if_pos ⟨3, by decide, c3⟩]
    rw [if_pos c3] at s3
    exact (loopW_go s0).trans ((loopW_go s1).trans ((loopW_go s2).trans (loopW_end s3)))
  rw [if_neg c3] at s3
  rw [if_neg (by
    rintro ⟨f, hf, h⟩
    have : f = 0 ∨ f = 1 ∨ f = 2 ∨ f = 3 := by omega
    rcases this with rfl | rfl | rfl | rfl
    · exact c0 h
    · exact c1 h
    · exact c2 h
    · exact c3 h)]
  exact (loopW_go s0).trans ((loopW_go s1).trans ((loopW_go s2).trans ((loopW_go s3).trans (loopW_end (he (orP a.2.1 b.2.1) (orP a.2.2 b.2.2))))))
abbrev meetR (a b : Mt) : Mt × Bool := if Clash a b then (zeroM, false) else (meetM a b, true)
theorem meet_fin {a b : Mt} {S : (Int × T8) → Option ((Int × T8) ⊕ (T8 ⊕ (Mt × Bool)))}
    (h : loopW S (0, t8 a.2.1 a.2.2) = some (if ∃ f : Nat, f < 4 ∧ Cl a b f then .inr (zeroM, false) else .inl (t8 (orP a.2.1 b.2.1) (orP a.2.2 b.2.2)))) :
    ((if a.1 = (-1) then some b.1 else some a.1).bind fun x1 => (if (decide (b.1 ≠ (-1)) && decide (x1 ≠ b.1)) = true then some ((0, (0, 0, 0, 0), (0, 0, 0, 0)), false) else orR (loopW S (0, a.2.1.1, a.2.1.2.1, a.2.1.2.2.1, a.2.1.2.2.2, a.2.2.1, a.2.2.2.1, a.2.2.2.2.1, a.2.2.2.2.2)) fun (x2, x3, x4, x5, x6, x7, x8, x9) => some ((x1, (x2, x3, x4, x5), (x6, x7, x8, x9)), true))) = some (meetR a b) := by
  have h' : loopW S (0, a.2.1.1, a.2.1.2.1, a.2.1.2.2.1, a.2.1.2.2.2, a.2.2.1, a.2.2.2.1, a.2.2.2.2.1, a.2.2.2.2.2) = _ := h
  have hp : (if a.1 = (-1) then some b.1 else some a.1) = some (if a.1 = -1 then b.1 else a.1) := by split <;> rfl
  rw [hp, Option.bind_some, h']
  by_cases c : PC a b
  · rw [if_pos (by rw [if_neg c.1]; simpa using c.2), show meetR a b = (zeroM, false) from if_pos (.inl c)]
  · rw [if_neg (by
      intro hn
      apply c
      simp only [Bool.and_eq_true, decide_eq_true_eq] at hn
      by_cases ca : a.1 = -1
      · rw [if_pos ca] at hn; exact absurd rfl hn.2
      · rw [if_neg ca] at hn; exact ⟨ca, hn.1, hn.2⟩)]
    by_cases c2 : ∃ f : Nat, f < 4 ∧ Cl a b f
    · rw [if_pos c2, show meetR a b = (zeroM, false) from if_pos (.inr c2)]; rfl
    · rw [if_neg c2, show meetR a b = (meetM a b, true) from if_neg (fun h => h.elim c c2)]; rfl
theorem meet_eq {a b : Mt} (ha : Good a) (hb : Good b) : match_Meet a b = some (meetR a b) := by
  unfold match_Meet
  exact meet_fin (meet_loop (fun k hk v m hv hm => by
    obtain ⟨g1, g2⟩ := good_by ha hk
    obtain ⟨g3, g4⟩ := good_by hb hk
    show match_Meet_l1 b ((k : Int), v.1, v.2.1, v.2.2.1, v.2.2.2, m.1, m.2.1, m.2.2.1, m.2.2.2) = _
    rw [match_Meet_l1, if_pos (by omega), ix4 v hk, Option.bind_some, ix4 b.2.1 hk, Option.bind_some, ix4 m hk, Option.bind_some, ix4 b.2.2 hk, Option.bind_some]
    simp only [Option.bind_some]
    rw [hv, hm, w64_id (by omega), orI_eq g1 g3, orI_eq g2 g4]
    have hi := cl_nz g1 g3 g2 g4
    by_cases c : andI .i64 (andI .i64 (xorI .i64 (p4 a.2.1 k) (p4 b.2.1 k)) (p4 a.2.2 k)) (p4 b.2.2 k) ≠ 0
    · rw [if_pos c, if_pos (hi.1 c)]
    · rw [if_neg c, if_neg (fun h => c (hi.2 h))]; rfl) (fun v m => by
    show match_Meet_l1 b (4, v.1, v.2.1, v.2.2.1, v.2.2.2, m.1, m.2.1, m.2.2.1, m.2.2.2) = _
    rw [match_Meet_l1, if_neg (by decide)]))
/-! ### The reference's meeting, bit by bit -/
theorem pow_set : ∀ x : Fin 256, ∀ i : Fin 8, x.val.testBit i.val = false → x.val ||| 2 ^ i.val = x.val + 2 ^ i.val := by decide +kernel
theorem pow_in : ∀ x : Fin 256, ∀ i : Fin 8, x.val.testBit i.val = true → x.val ||| 2 ^ i.val = x.val := by decide +kernel
theorem low_set : ∀ x : Fin 256, ∀ i : Fin 8, x.val.testBit i.val = true → x.val % 2 ^ (i.val + 1) = x.val % 2 ^ i.val ||| 2 ^ i.val := by decide +kernel
theorem low_clear : ∀ x : Fin 256, ∀ i : Fin 8, x.val.testBit i.val = false → x.val % 2 ^ (i.val + 1) = x.val % 2 ^ i.val := by decide +kernel
theorem step_num {x y i : Nat} (hx : x < 256) (hy : y < 256) (hi : i < 8) : (x ||| y % 2 ^ (i + 1)) = if y.testBit i = true ∧ x.testBit i = false then (x ||| y % 2 ^ i) + 2 ^ i else (x ||| y % 2 ^ i) := by
  have hz : y % 2 ^ i < 256 := Nat.lt_of_le_of_lt (Nat.mod_le _ _) hy
  have hw : x ||| y % 2 ^ i < 2 ^ 8 := Nat.or_lt_two_pow hx hz
  cases h1 : y.testBit i
  · rw [if_neg (fun h => by cases h.1), low_clear ⟨y, hy⟩ ⟨i, hi⟩ h1]
  · have h3 := low_set ⟨y, hy⟩ ⟨i, hi⟩ h1
    simp only at h3
    rw [h3]
    cases h2 : x.testBit i
    · rw [if_pos ⟨rfl, rfl⟩, ← Nat.or_assoc]
      exact pow_set ⟨x ||| y % 2 ^ i, hw⟩ ⟨i, hi⟩ (by simp [h2])
    · have h4 := pow_in ⟨x, hx⟩ ⟨i, hi⟩ h2
      simp only at h4
      rw [if_neg (fun h => by cases h.2), Nat.or_comm (y % 2 ^ i), ← Nat.or_assoc, h4]
def lo (x y : Int) (i : Nat) : Int := ((x.toNat ||| y.toNat % 2 ^ i : Nat) : Int)
theorem lo0 {x y : Int} (hx : By x) : lo x y 0 = x := by
  have := hx.1
  unfold lo
  rw [Nat.pow_zero, Nat.mod_one, Nat.or_zero]; omega
theorem lo8 {x y : Int} (hy : By y) : lo x y 8 = orN x y := by
  have := hy.1
  have := hy.2
  unfold lo orN
  rw [Nat.mod_eq_of_lt (by omega)]
theorem lo_bd {x y : Int} (hx : By x) (hy : By y) (i : Nat) : By (lo x y i) := by
  have h1 := hx.1
  have h2 := hx.2
  have h3 := hy.1
  have h4 := hy.2
  have : x.toNat ||| y.toNat % 2 ^ i < 2 ^ 8 := Nat.or_lt_two_pow (by omega) (Nat.lt_of_le_of_lt (Nat.mod_le _ _) (by omega))
  unfold lo
  constructor <;> omega
theorem lo_step {x y : Int} (hx : By x) (hy : By y) {i : Nat} (hi : i < 8) : lo x y (i + 1) = if tb y i = true ∧ tb x i = false then lo x y i + ((2 ^ i : Nat) : Int) else lo x y i := by
  have h1 := hx.1
  have h2 := hx.2
  have h3 := hy.1
  have h4 := hy.2
  unfold lo
  rw [step_num (by omega) (by omega) hi]
  by_cases c : y.toNat.testBit i = true ∧ x.toNat.testBit i = false
  · rw [if_pos c, if_pos c]; simp
  · rw [if_neg c, if_neg c]
theorem rmeet_bit {a b : Mt} (ha : Good a) (hb : Good b) {k : Nat} (hk : k < 4) {i : Nat} (hi : i < 8) (v m : P4) (hv : p4 v k = lo (p4 a.2.1 k) (p4 b.2.1 k) i) (hm : p4 m k = lo (p4 a.2.2 k) (p4 b.2.2 k) i) :
    r08_Meet_l2 a b (k : Int) (((2 ^ i : Nat) : Int), (i : Int), t8 v m) = some (if cb a b k i then .inr (.inr (.inr (.inr (zeroM, false)))) else .inl (((2 ^ (i + 1) : Nat) : Int), ((i + 1 : Nat) : Int), t8 (put4 v (k : Int) (lo (p4 a.2.1 k) (p4 b.2.1 k) (i + 1))) (put4 m (k : Int) (lo (p4 a.2.2 k) (p4 b.2.2 k) (i + 1))))) := by
  obtain ⟨g1, g2⟩ := good_by ha hk
  obtain ⟨g3, g4⟩ := good_by hb hk
  have ga := (ha.2 k hk).2.2 i hi
  have gb := (hb.2 k hk).2.2 i hi
  have l1 := lo_step g1 g3 hi
  have l2 := lo_step g2 g4 hi
  have b1 := lo_bd g1 g3 i
  have b2 := lo_bd g2 g4 i
  have hp : 2 ^ i ≤ 2 ^ 7 := Nat.pow_le_pow_right (by decide) (by omega)
  have hq : 2 ^ (i + 1) = 2 ^ i * 2 := Nat.pow_succ ..
  rw [hq]
  generalize 2 ^ i = q at hp l1 l2
  show r08_Meet_l2 a b (k : Int) ((q : Int), (i : Int), v.1, v.2.1, v.2.2.1, v.2.2.2, m.1, m.2.1, m.2.2.1, m.2.2.2) = _
  rw [r08_Meet_l2, if_pos (by omega), ix4 b.2.2 hk, Option.bind_some, bit_eq g4 hi, Option.bind_some, ix4 a.2.2 hk, ix4 a.2.1 hk, ix4 b.2.1 hk, ix4 v hk, ix4 m hk]
  simp only [Option.bind_some]
  rw [bit_eq g2 hi, bit_eq g1 hi, bit_eq g3 hi, bit_eq g4 hi]
  simp only [Option.bind_some]
  rw [hv, hm, w64_id (x := (q : Int) * 2) (by omega), w64_id (x := (i : Int) + 1) (by omega)]
  generalize lo (p4 a.2.1 k) (p4 b.2.1 k) i = V at *
  generalize lo (p4 a.2.2 k) (p4 b.2.2 k) i = M at *
  have sv := put_self v hk
  have sm := put_self m hk
  rw [hv] at sv
  rw [hm] at sm
  have o1 := b1.1
  have o2 := b1.2
  have o3 := b2.1
  have o4 := b2.2
  by_cases c1 : tb (p4 b.2.2 k) i = true
  · by_cases c2 : tb (p4 a.2.2 k) i = true
    · have e2 : lo (p4 a.2.2 k) (p4 b.2.2 k) (i + 1) = M := by rw [l2, if_neg (fun h => by rw [c2] at h; cases h.2)]
      by_cases c3 : tb (p4 a.2.1 k) i = tb (p4 b.2.1 k) i
      · have e1 : lo (p4 a.2.1 k) (p4 b.2.1 k) (i + 1) = V := by rw [l1, if_neg (fun h => by rw [c3, h.1] at h; cases h.2)]
        rw [if_neg (show ¬ cb a b k i from fun h => h.2.2 c3), e1, e2, sv, sm]
        rw [c1, c2, c3]
        simp
      · rw [if_pos (show cb a b k i from ⟨c2, c1, c3⟩), c1, c2]
        by_cases c4 : tb (p4 a.2.1 k) i = true <;> by_cases c5 : tb (p4 b.2.1 k) i = true <;> simp_all
    · have c2' : tb (p4 a.2.2 k) i = false := by simpa using c2
      have c4 : tb (p4 a.2.1 k) i = false := by
        cases h : tb (p4 a.2.1 k) i
        · rfl
        · exact absurd (ga h) c2
      have e2 : lo (p4 a.2.2 k) (p4 b.2.2 k) (i + 1) = M + (q : Int) := by rw [l2, if_pos ⟨c1, c2'⟩]
      rw [if_neg (show ¬ cb a b k i from fun h => c2 h.1), e2, c1, c2', c4]
      by_cases c5 : tb (p4 b.2.1 k) i = true
      · have e1 : lo (p4 a.2.1 k) (p4 b.2.1 k) (i + 1) = V + (q : Int) := by rw [l1, if_pos ⟨c5, c4⟩]
        rw [e1, c5, if_pos rfl, w64_id (x := (q : Int) * 1) (by omega), w64_id (x := V + (q : Int) * 1) (by omega), w64_id (x := M + (q : Int)) (by omega), Int.mul_one]
        simp
      · have c5' : tb (p4 b.2.1 k) i = false := by simpa using c5
        have e1 : lo (p4 a.2.1 k) (p4 b.2.1 k) (i + 1) = V := by rw [l1, if_neg (fun h => by rw [c5'] at h; cases h.1)]
        rw [e1, c5', if_neg (show ¬ (false = true) by decide), w64_id (x := (q : Int) * 0) (by omega), w64_id (x := V + (q : Int) * 0) (by omega), w64_id (x := M + (q : Int)) (by omega), Int.mul_zero, Int.add_zero]
        simp
  · have c1' : tb (p4 b.2.2 k) i = false := by simpa using c1
    have c5 : tb (p4 b.2.1 k) i = false := by
      cases h : tb (p4 b.2.1 k) i
      · rfl
      · exact absurd (gb h) c1
    have e1 : lo (p4 a.2.1 k) (p4 b.2.1 k) (i + 1) = V := by rw [l1, if_neg (fun h => by rw [c5] at h; cases h.1)]
    have e2 : lo (p4 a.2.2 k) (p4 b.2.2 k) (i + 1) = M := by rw [l2, if_neg (fun h => by rw [c1'] at h; cases h.1)]
    rw [if_neg (show ¬ cb a b k i from fun h => c1 h.2.1), e1, e2, sv, sm, c1']
    simp
theorem rmeet_field {a b : Mt} (ha : Good a) (hb : Good b) {k : Nat} (hk : k < 4) (v m : P4) (hv : p4 v k = p4 a.2.1 k) (hm : p4 m k = p4 a.2.2 k) :
    loopW (r08_Meet_l2 a b (k : Int)) (1, 0, t8 v m) = some (if Cl a b k then .inr (.inr (.inr (zeroM, false))) else .inl (t8 (put4 v (k : Int) (orN (p4 a.2.1 k) (p4 b.2.1 k))) (put4 m (k : Int) (orN (p4 a.2.2 k) (p4 b.2.2 k))))) := by
  obtain ⟨g1, g2⟩ := good_by ha hk
  obtain ⟨g3, g4⟩ := good_by hb hk
  have key : ∀ (d i : Nat), i + d = 8 → ∀ v m : P4, p4 v k = lo (p4 a.2.1 k) (p4 b.2.1 k) i → p4 m k = lo (p4 a.2.2 k) (p4 b.2.2 k) i →
      loopW (r08_Meet_l2 a b (k : Int)) (((2 ^ i : Nat) : Int), (i : Int), t8 v m) = some (if ∃ j : Nat, j < 8 ∧ (i ≤ j ∧ cb a b k j) then .inr (.inr (.inr (zeroM, false))) else .inl (t8 (put4 v (k : Int) (orN (p4 a.2.1 k) (p4 b.2.1 k))) (put4 m (k : Int) (orN (p4 a.2.2 k) (p4 b.2.2 k))))) := by
    intro d
    induction d with
    | zero =>
      intro i hi v m hv hm
      obtain rfl : i = 8 := by omega
      rw [if_neg (by rintro ⟨j, h1, h2, _⟩; omega), ← lo8 g3, ← lo8 g4, ← hv, ← hm, put_self v hk, put_self m hk]
      refine loopW_end ?_
      show r08_Meet_l2 a b (k : Int) (((2 ^ 8 : Nat) : Int), ((8 : Nat) : Int), v.1, v.2.1, v.2.2.1, v.2.2.2, m.1, m.2.1, m.2.2.1, m.2.2.2) = _
      rw [r08_Meet_l2, if_neg (by decide)]
    | succ d ih =>
      intro i hi v m hv hm
      have hs := rmeet_bit ha hb hk (i := i) (by omega) v m hv hm
      by_cases c : cb a b k i
      · rw [if_pos c] at hs
        rw [if_pos ⟨i, by omega, Nat.le_refl _, c⟩]
        exact loopW_end hs
      · rw [if_neg c] at hs
        rw [loopW_go hs, ih (i + 1) (by omega) _ _ (p4_put v hk _) (p4_put m hk _), put_put v hk, put_put m hk]
        by_cases c2 : ∃ j : Nat, j < 8 ∧ (i + 1 ≤ j ∧ cb a b k j)
        · rw [if_pos c2, if_pos (by obtain ⟨j, h1, h2, h3⟩ := c2; exact ⟨j, h1, by omega, h3⟩)]
        · rw [if_neg c2, if_neg (by
            rintro ⟨j, h1, h2, h3⟩
            have : i ≠ j := fun e => c (e ▸ h3)
            exact c2 ⟨j, h1, by omega, h3⟩)]
  have h := key 8 0 rfl v m (by rw [lo0 g1, hv]) (by rw [lo0 g2, hm])
  have h' : loopW (r08_Meet_l2 a b (k : Int)) (1, 0, t8 v m) = _ := h
  rw [h']
  by_cases c : Cl a b k
  · rw [if_pos c, if_pos (by obtain ⟨j, h1, h2⟩ := c; exact ⟨j, h1, by omega, h2⟩)]
  · rw [if_neg c, if_neg (by rintro ⟨j, h1, _, h2⟩; exact c ⟨j, h1, h2⟩)]
theorem rmeet_eq {a b : Mt} (ha : Good a) (hb : Good b) : r08_Meet a b = some (meetR a b) := by
  unfold r08_Meet
  exact meet_fin (meet_loop (fun k hk v m hv hm => by
    show r08_Meet_l1 a b ((k : Int), v.1, v.2.1, v.2.2.1, v.2.2.2, m.1, m.2.1, m.2.2.1, m.2.2.2) = _
    have hf := rmeet_field ha hb hk v m hv hm
    have hf' : loopW (r08_Meet_l2 a b (k : Int)) (1, 0, v.1, v.2.1, v.2.2.1, v.2.2.2, m.1, m.2.1, m.2.2.1, m.2.2.2) = _ := hf
    rw [r08_Meet_l1, if_pos (by omega), hf', w64_id (by omega)]
    by_cases c : Cl a b k
    · rw [if_pos c, if_pos c]; rfl
    · rw [if_neg c, if_neg c]; rfl) (fun v m => by
    show r08_Meet_l1 a b (4, v.1, v.2.1, v.2.2.1, v.2.2.2, m.1, m.2.1, m.2.2.1, m.2.2.2) = _
    rw [r08_Meet_l1, if_neg (by decide)]))
def codeM (m : Mt) : List UInt8 := be 1 (m.1 + 1) ++ (be 1 m.2.1.1 ++ be 1 m.2.2.1) ++ (be 1 m.2.1.2.1 ++ be 1 m.2.2.2.1) ++ (be 1 m.2.1.2.2.1 ++ be 1 m.2.2.2.2.1) ++ (be 1 m.2.1.2.2.2 ++ be 1 m.2.2.2.2.2)
theorem code_step {m : Mt} (h : Good m) {k : Nat} (hk : k < 4) (o : List UInt8) (ho : o.length ≤ 100) : match_Code_l1 m ((k : Int), o) = some (.inl (((k + 1 : Nat) : Int), o ++ (be 1 (p4 m.2.1 k) ++ be 1 (p4 m.2.2 k)))) := by
  obtain ⟨g1, g2⟩ := good_by h hk
  rw [match_Code_l1, if_pos (by omega), ix4 m.2.2 hk, Option.bind_some, ix4 m.2.1 hk, Option.bind_some, num_eq, Option.bind_some, num1 g1, app_is (by simp [be]; omega), Option.bind_some, num_eq, Option.bind_some, num1 g2, app_is (by simp [be]; omega), Option.bind_some, w64_id (by omega), List.append_assoc]; rfl
theorem code_eq {m : Mt} (h : Good m) : match_Code m = some (codeM m) := by
  have hp := h.1
  unfold match_Code codeM
  rw [w64_id (by omega), num_eq, Option.bind_some, num1 (by omega), app_is (by simp [be]), Option.bind_some, List.nil_append]
  have s0 := code_step h (k := 0) (by decide) (be 1 (m.1 + 1)) (by simp [be])
  have s1 := code_step h (k := 1) (by decide) (be 1 (m.1 + 1) ++ (be 1 m.2.1.1 ++ be 1 m.2.2.1)) (by simp [be])
  have s2 := code_step h (k := 2) (by decide) (be 1 (m.1 + 1) ++ (be 1 m.2.1.1 ++ be 1 m.2.2.1) ++ (be 1 m.2.1.2.1 ++ be 1 m.2.2.2.1)) (by simp [be])
  have s3 := code_step h (k := 3) (by decide) (be 1 (m.1 + 1) ++ (be 1 m.2.1.1 ++ be 1 m.2.2.1) ++ (be 1 m.2.1.2.1 ++ be 1 m.2.2.2.1) ++ (be 1 m.2.1.2.2.1 ++ be 1 m.2.2.2.2.1)) (by simp [be])
  have s4 : ∀ o, match_Code_l1 m (4, o) = some (.inr o) := fun o => by rw [match_Code_l1, if_neg (by decide)]
  have e : loopW (match_Code_l1 m) (0, be 1 (m.1 + 1)) = some (codeM m) := (loopW_go s0).trans ((loopW_go s1).trans ((loopW_go s2).trans ((loopW_go s3).trans (loopW_end (s4 _)))))
  rw [e, Option.bind_some, lenB_is (by unfold codeM; simp [be])]; rfl
theorem rcode_step {m : Mt} (h : Good m) {k : Nat} (hk : k < 4) (o : List UInt8) (ho : o.length ≤ 100) : r08_Code_l1 m (o, (k : Int)) = some (.inl (o ++ (be 1 (p4 m.2.1 k) ++ be 1 (p4 m.2.2 k)), ((k + 1 : Nat) : Int))) := by
  obtain ⟨g1, g2⟩ := good_by h hk
  rw [r08_Code_l1, if_pos (by omega), ix4 m.2.1 hk, Option.bind_some, rnum_eq _ _ (by have := g1.2; omega), Option.bind_some, num1 g1, app_is (by simp [be]; omega), Option.bind_some, ix4 m.2.2 hk, Option.bind_some, rnum_eq _ _ (by have := g2.2; omega), Option.bind_some, num1 g2, app_is (by simp [be]; omega), Option.bind_some, w64_id (by omega), List.append_assoc]; rfl
theorem rcode_eq {m : Mt} (h : Good m) : r08_Code m = some (codeM m) := by
  have hp := h.1
  unfold r08_Code codeM
  rw [w64_id (by omega), rnum_eq _ _ (by omega), Option.bind_some, num1 (by omega)]
  have s0 := rcode_step h (k := 0) (by decide) (be 1 (m.1 + 1)) (by simp [be])
  have s1 := rcode_step h (k := 1) (by decide) (be 1 (m.1 + 1) ++ (be 1 m.2.1.1 ++ be 1 m.2.2.1)) (by simp [be])
  have s2 := rcode_step h (k := 2) (by decide) (be 1 (m.1 + 1) ++ (be 1 m.2.1.1 ++ be 1 m.2.2.1) ++ (be 1 m.2.1.2.1 ++ be 1 m.2.2.2.1)) (by simp [be])
  have s3 := rcode_step h (k := 3) (by decide) (be 1 (m.1 + 1) ++ (be 1 m.2.1.1 ++ be 1 m.2.2.1) ++ (be 1 m.2.1.2.1 ++ be 1 m.2.2.2.1) ++ (be 1 m.2.1.2.2.1 ++ be 1 m.2.2.2.2.1)) (by simp [be])
  have s4 : ∀ o, r08_Code_l1 m (o, 4) = some (.inr o) := fun o => by rw [r08_Code_l1, if_neg (by decide)]
  have e : loopW (r08_Code_l1 m) (be 1 (m.1 + 1), 0) = some (codeM m) := (loopW_go s0).trans ((loopW_go s1).trans ((loopW_go s2).trans ((loopW_go s3).trans (loopW_end (s4 _)))))
  rw [e]; rfl
theorem num_byte (b : UInt8) (t : List UInt8) (ht : t.length ≤ 900000) : octet_Reader_Num (b :: t, 0) 1 = some ((b.toNat : Int), (t, 0)) := by
  rw [rnumR_eq _ _ (by simp; omega), preN_ok (by decide), show ((b :: t, 0) : List UInt8 × Int) = ([b] ++ t, 0) from rfl, takeR_app [b] t 1 rfl, val_one, w64_id (by have := b.toNat_lt; omega)]
theorem be1_byte {v : Int} (h : By v) : ∃ x : UInt8, be 1 v = [x] ∧ (x.toNat : Int) = v := by
  have h1 := h.1
  have h2 := h.2
  refine ⟨UInt8.ofNat (v % 256).toNat, rfl, ?_⟩
  rw [UInt8.toNat_ofNat_of_lt' (by show (v % 256).toNat < 256; omega)]; omega
theorem read_step8 {k : Nat} (hk : k < 4) (v m : P4) (x y : UInt8) (t : List UInt8) (ht : t.length ≤ 800000) :
    match_Read_l1 ((k : Int), v.1, v.2.1, v.2.2.1, v.2.2.2, m.1, m.2.1, m.2.2.1, m.2.2.2, x :: y :: t, 0) = some (.inl (((k + 1 : Nat) : Int), (put4 v (k : Int) (x.toNat : Int)).1, (put4 v (k : Int) (x.toNat : Int)).2.1, (put4 v (k : Int) (x.toNat : Int)).2.2.1, (put4 v (k : Int) (x.toNat : Int)).2.2.2, (put4 m (k : Int) (y.toNat : Int)).1, (put4 m (k : Int) (y.toNat : Int)).2.1, (put4 m (k : Int) (y.toNat : Int)).2.2.1, (put4 m (k : Int) (y.toNat : Int)).2.2.2, t, 0)) := by
  rw [match_Read_l1, if_pos (by omega), num_byte x (y :: t) (by simp; omega), Option.bind_some, ix4 v hk, Option.bind_some, num_byte y t (by omega), Option.bind_some, ix4 m hk, Option.bind_some, w64_id (by omega)]; rfl
theorem read_code8 {m : Mt} (h : Good m) : match_Read (octet_Open (codeM m)) = some (m, ([], 0)) := by
  have hp := h.1
  obtain ⟨c, ec, vc⟩ := be1_byte (v := m.1 + 1) (by constructor <;> omega)
  obtain ⟨x0, ex0, vx0⟩ : ∃ x : UInt8, be 1 m.2.1.1 = [x] ∧ (x.toNat : Int) = m.2.1.1 := be1_byte (good_by h (k := 0) (by decide)).1
  obtain ⟨y0, ey0, vy0⟩ : ∃ x : UInt8, be 1 m.2.2.1 = [x] ∧ (x.toNat : Int) = m.2.2.1 := be1_byte (good_by h (k := 0) (by decide)).2
  obtain ⟨x1, ex1, vx1⟩ : ∃ x : UInt8, be 1 m.2.1.2.1 = [x] ∧ (x.toNat : Int) = m.2.1.2.1 := be1_byte (good_by h (k := 1) (by decide)).1
  obtain ⟨y1, ey1, vy1⟩ : ∃ x : UInt8, be 1 m.2.2.2.1 = [x] ∧ (x.toNat : Int) = m.2.2.2.1 := be1_byte (good_by h (k := 1) (by decide)).2
  obtain ⟨x2, ex2, vx2⟩ : ∃ x : UInt8, be 1 m.2.1.2.2.1 = [x] ∧ (x.toNat : Int) = m.2.1.2.2.1 := be1_byte (good_by h (k := 2) (by decide)).1
  obtain ⟨y2, ey2, vy2⟩ : ∃ x : UInt8, be 1 m.2.2.2.2.1 = [x] ∧ (x.toNat : Int) = m.2.2.2.2.1 := be1_byte (good_by h (k := 2) (by decide)).2
  obtain ⟨x3, ex3, vx3⟩ : ∃ x : UInt8, be 1 m.2.1.2.2.2 = [x] ∧ (x.toNat : Int) = m.2.1.2.2.2 := be1_byte (good_by h (k := 3) (by decide)).1
  obtain ⟨y3, ey3, vy3⟩ : ∃ x : UInt8, be 1 m.2.2.2.2.2 = [x] ∧ (x.toNat : Int) = m.2.2.2.2.2 := be1_byte (good_by h (k := 3) (by decide)).2
  have hc : codeM m = [c, x0, y0, x1, y1, x2, y2, x3, y3] := by
    unfold codeM
    have e : ∀ a b c' d e' f g i j : List UInt8, a ++ (b ++ c') ++ (d ++ e') ++ (f ++ g) ++ (i ++ j) = a ++ (b ++ (c' ++ (d ++ (e' ++ (f ++ (g ++ (i ++ j))))))) := by intros; simp
    rw [e, ec, ex0, ey0, ex1, ey1, ex2, ey2, ex3, ey3]; rfl
  have s0 := read_step8 (k := 0) (by decide) (0, 0, 0, 0) (0, 0, 0, 0) x0 y0 [x1, y1, x2, y2, x3, y3] (by simp)
  have s1 := read_step8 (k := 1) (by decide) ((x0.toNat : Int), 0, 0, 0) ((y0.toNat : Int), 0, 0, 0) x1 y1 [x2, y2, x3, y3] (by simp)
  have s2 := read_step8 (k := 2) (by decide) ((x0.toNat : Int), (x1.toNat : Int), 0, 0) ((y0.toNat : Int), (y1.toNat : Int), 0, 0) x2 y2 [x3, y3] (by simp)
  have s3 := read_step8 (k := 3) (by decide) ((x0.toNat : Int), (x1.toNat : Int), (x2.toNat : Int), 0) ((y0.toNat : Int), (y1.toNat : Int), (y2.toNat : Int), 0) x3 y3 [] (by simp)
  have s4 : match_Read_l1 (4, (x0.toNat : Int), (x1.toNat : Int), (x2.toNat : Int), (x3.toNat : Int), (y0.toNat : Int), (y1.toNat : Int), (y2.toNat : Int), (y3.toNat : Int), [], 0) = some (.inr ((x0.toNat : Int), (x1.toNat : Int), (x2.toNat : Int), (x3.toNat : Int), (y0.toNat : Int), (y1.toNat : Int), (y2.toNat : Int), (y3.toNat : Int), [], 0)) := by rw [match_Read_l1, if_neg (by decide)]
  have e : loopW match_Read_l1 (0, 0, 0, 0, 0, 0, 0, 0, 0, [x0, y0, x1, y1, x2, y2, x3, y3], 0) = some ((x0.toNat : Int), (x1.toNat : Int), (x2.toNat : Int), (x3.toNat : Int), (y0.toNat : Int), (y1.toNat : Int), (y2.toNat : Int), (y3.toNat : Int), [], 0) :=
    (loopW_go s0).trans ((loopW_go s1).trans ((loopW_go s2).trans ((loopW_go s3).trans (loopW_end s4))))
  unfold match_Read octet_Open
  rw [hc, num_byte c _ (by simp), Option.bind_some]
  show (loopW match_Read_l1 (0, 0, 0, 0, 0, 0, 0, 0, 0, [x0, y0, x1, y1, x2, y2, x3, y3], 0)).bind _ = _
  rw [e, vc, vx0, vx1, vx2, vx3, vy0, vy1, vy2, vy3, Option.bind_some]
  have hm : ((w64 (m.1 + 1 - 1), (m.2.1.1, m.2.1.2.1, m.2.1.2.2.1, m.2.1.2.2.2), (m.2.2.1, m.2.2.2.1, m.2.2.2.2.1, m.2.2.2.2.2)) : Mt) = m := by
    rw [show m.1 + 1 - 1 = m.1 by omega, w64_id (by omega)]
  have hgi : I4 m.2.1 := by
    have g : ∀ k, k < 4 → i64 (p4 m.2.1 k) := fun k hk => by
      have := (good_by h hk).1
      have h1 := this.1
      have h2 := this.2
      constructor <;> omega
    exact ⟨g 0 (by decide), g 1 (by decide), g 2 (by decide), g 3 (by decide)⟩
  show ((match_Right (w64 (m.1 + 1 - 1), (m.2.1.1, m.2.1.2.1, m.2.1.2.2.1, m.2.1.2.2.2), (m.2.2.1, m.2.2.2.1, m.2.2.2.2.1, m.2.2.2.2.2))).bind _).bind _ = _
  rw [hm, right_eq hgi, decide_eq_true h]
  rfl
/-! ### Any bytes -/
theorem num_val {p : List UInt8 × Int} : ∃ v : Int, w64 (val (takeR (preN p 1) 1).1) = v ∧ By v := by
  have hl : (takeR (preN p 1) 1).1.length ≤ 1 := by
    unfold takeR
    split
    · simp
    · split
      · simp
      · split
        · simp
        · (simp; omega)
  generalize (takeR (preN p 1) 1).1 = l at hl
  have : l = [] ∨ ∃ b, l = [b] := by
    cases l with
    | nil => exact .inl rfl
    | cons b t => cases t with
      | nil => exact .inr ⟨b, rfl⟩
      | cons c t => simp at hl
  rcases this with rfl | ⟨b, rfl⟩
  · exact ⟨0, rfl, by decide⟩
  · have := b.toNat_lt
    rw [val_one, w64_id (by omega)]
    exact ⟨_, rfl, by constructor <;> omega⟩
theorem two_nums {p : List UInt8 × Int} {q : List UInt8 × Int × Int} (h : Rel p q) : ∃ (v : Int) (p1 : List UInt8 × Int) (q1 : List UInt8 × Int × Int), By v ∧ octet_Reader_Num p 1 = some (v, p1) ∧ r04_Reader_Num q 1 = some (v, q1) ∧ Rel p1 q1 := by
  have hpl := h.plen
  have h1 := rnumR_eq p 1 (by omega)
  obtain ⟨q1, h2, h3⟩ := rel_num h 1
  obtain ⟨v, hv, hb⟩ := num_val (p := p)
  rw [hv] at h1 h2
  exact ⟨v, _, q1, hb, h1, h2, h3⟩
theorem reads_loop8 : ∀ (d k : Nat), k + d = 4 → ∀ (v m : P4) (p : List UInt8 × Int) (q : List UInt8 × Int × Int), Rel p q → Bys v →
    ∃ (V M : P4) (p' : List UInt8 × Int) (q' : List UInt8 × Int × Int), loopW match_Read_l1 ((k : Int), v.1, v.2.1, v.2.2.1, v.2.2.2, m.1, m.2.1, m.2.2.1, m.2.2.2, p.1, p.2) = some (V.1, V.2.1, V.2.2.1, V.2.2.2, M.1, M.2.1, M.2.2.1, M.2.2.2, p'.1, p'.2) ∧ loopW r08_Read_l1 ((k : Int), q.1, q.2.1, q.2.2, v.1, v.2.1, v.2.2.1, v.2.2.2, m) = some (q'.1, q'.2.1, q'.2.2, V.1, V.2.1, V.2.2.1, V.2.2.2, M) ∧ Rel p' q' ∧ Bys V := by
  intro d
  induction d with
  | zero =>
    intro k hk v m p q h hv
    obtain rfl : k = 4 := by omega
    refine ⟨v, m, p, q, ?_, ?_, h, hv⟩
    · exact loopW_end (by rw [match_Read_l1, if_neg (by decide)])
    · exact loopW_end (by
        show r08_Read_l1 (((4 : Nat) : Int), q.1, q.2.1, q.2.2, v.1, v.2.1, v.2.2.1, v.2.2.2, m.1, m.2.1, m.2.2.1, m.2.2.2) = _
        rw [r08_Read_l1, if_neg (by decide)])
  | succ d ih =>
    intro k hk v m p q h hv
    have hk4 : k < 4 := by omega
    obtain ⟨x, p1, q1, hx, a1, a2, a3⟩ := two_nums h
    obtain ⟨y, p2, q2, hy, b1, b2, b3⟩ := two_nums a3
    have g1 : match_Read_l1 ((k : Int), v.1, v.2.1, v.2.2.1, v.2.2.2, m.1, m.2.1, m.2.2.1, m.2.2.2, p.1, p.2) = some (.inl (((k + 1 : Nat) : Int), (put4 v (k : Int) x).1, (put4 v (k : Int) x).2.1, (put4 v (k : Int) x).2.2.1, (put4 v (k : Int) x).2.2.2, (put4 m (k : Int) y).1, (put4 m (k : Int) y).2.1, (put4 m (k : Int) y).2.2.1, (put4 m (k : Int) y).2.2.2, p2.1, p2.2)) := by
      rw [match_Read_l1, if_pos (by omega), show ((p.1, p.2) : List UInt8 × Int) = p from rfl, a1, Option.bind_some, ix4 v hk4, Option.bind_some, b1, Option.bind_some, ix4 m hk4, Option.bind_some, w64_id (by omega)]; rfl
    have g2 : r08_Read_l1 ((k : Int), q.1, q.2.1, q.2.2, v.1, v.2.1, v.2.2.1, v.2.2.2, m) = some (.inl (((k + 1 : Nat) : Int), q2.1, q2.2.1, q2.2.2, (put4 v (k : Int) x).1, (put4 v (k : Int) x).2.1, (put4 v (k : Int) x).2.2.1, (put4 v (k : Int) x).2.2.2, put4 m (k : Int) y)) := by
      show r08_Read_l1 ((k : Int), q.1, q.2.1, q.2.2, v.1, v.2.1, v.2.2.1, v.2.2.2, m.1, m.2.1, m.2.2.1, m.2.2.2) = _
      rw [r08_Read_l1, if_pos (by omega), show ((q.1, q.2.1, q.2.2) : List UInt8 × Int × Int) = q from rfl, a2, Option.bind_some, ix4 v hk4, Option.bind_some, b2, Option.bind_some, ix4 m hk4, Option.bind_some, w64_id (by omega)]; rfl
    rw [loopW_go g1, loopW_go g2]
    refine ih (k + 1) (by omega) _ _ _ _ b3 (fun j hj => ?_)
    have hkc : k = 0 ∨ k = 1 ∨ k = 2 ∨ k = 3 := by omega
    have hjc : j = 0 ∨ j = 1 ∨ j = 2 ∨ j = 3 := by omega
    have v0 := hv 0 (by decide)
    have v1 := hv 1 (by decide)
    have v2 := hv 2 (by decide)
    have v3 := hv 3 (by decide)
    rcases hkc with rfl | rfl | rfl | rfl <;> rcases hjc with rfl | rfl | rfl | rfl <;> assumption
abbrev zeroM8 : Mt := (0, (0, 0, 0, 0), (0, 0, 0, 0))
theorem clash_symm {a b : Mt} (h : Clash a b) : Clash b a := by
  rcases h with ⟨c1, c2, c3⟩ | ⟨f, hf, i, hi, c1, c2, c3⟩
  · exact .inl ⟨c2, c1, fun e => c3 e.symm⟩
  · exact .inr ⟨f, hf, i, hi, c2, c1, fun e => c3 e.symm⟩
theorem orN_comm (x y : Int) : orN x y = orN y x := by unfold orN; rw [Nat.or_comm]
theorem meet_symm {a b : Mt} (h : ¬ Clash a b) : meetM a b = meetM b a := by
  have hp : (if a.1 = -1 then b.1 else a.1) = (if b.1 = -1 then a.1 else b.1) := by
    by_cases c1 : a.1 = -1
    · by_cases c2 : b.1 = -1
      · rw [if_pos c1, if_pos c2, c1, c2]
      · rw [if_pos c1, if_neg c2]
    · by_cases c2 : b.1 = -1
      · rw [if_neg c1, if_pos c2]
      · rw [if_neg c1, if_neg c2]
        exact Classical.byContradiction fun hn => h (.inl ⟨c1, c2, hn⟩)
  show ((if a.1 = -1 then b.1 else a.1), orP a.2.1 b.2.1, orP a.2.2 b.2.2) = ((if b.1 = -1 then a.1 else b.1), orP b.2.1 a.2.1, orP b.2.2 a.2.2)
  rw [hp]
  have e : ∀ x y : P4, orP x y = orP y x := fun x y => p4_ext fun k hk => by rw [p4_or _ _ hk, p4_or _ _ hk, orN_comm]
  rw [e a.2.1, e a.2.2]
theorem meetR_symm (a b : Mt) : meetR a b = meetR b a := by
  by_cases c : Clash a b
  · rw [show meetR a b = (zeroM, false) from if_pos c, show meetR b a = (zeroM, false) from if_pos (clash_symm c)]
  · rw [show meetR a b = (meetM a b, true) from if_neg c, show meetR b a = (meetM b a, true) from if_neg (fun h => c (clash_symm h)), meet_symm c]
theorem hit_meet {a b : Mt} (ha : Good a) (hb : Good b) (port : Int) (p : P4) : (Hit a port p ∧ Hit b port p) ↔ (¬ Clash a b ∧ Hit (meetM a b) port p) := by
  constructor
  · rintro ⟨⟨p1, h1⟩, ⟨p2, h2⟩⟩
    refine ⟨?_, ?_, ?_⟩
    · rintro (⟨c1, c2, c3⟩ | ⟨f, hf, i, hi, c1, c2, c3⟩)
      · exact c3 ((p1.resolve_left c1).trans (p2.resolve_left c2).symm)
      · exact c3 ((h1 f hf i hi c1).trans (h2 f hf i hi c2).symm)
    · show (if a.1 = -1 then b.1 else a.1) = -1 ∨ (if a.1 = -1 then b.1 else a.1) = port
      by_cases c : a.1 = -1
      · rw [if_pos c]; exact p2
      · rw [if_neg c]; exact p1
    · intro f hf i hi hm
      show tb (p4 (orP a.2.1 b.2.1) f) i = _
      have hm : tb (p4 (orP a.2.2 b.2.2) f) i = true := hm
      rw [p4_or _ _ hf, tb_or] at hm ⊢
      have a1 := h1 f hf i hi
      have a2 := h2 f hf i hi
      have a3 := (ha.2 f hf).2.2 i hi
      have a4 := (hb.2 f hf).2.2 i hi
      generalize tb (p4 a.2.1 f) i = va at *
      generalize tb (p4 b.2.1 f) i = vb at *
      generalize tb (p4 a.2.2 f) i = ma at *
      generalize tb (p4 b.2.2 f) i = mb at *
      generalize tb (p4 p f) i = pp at *
      revert hm a1 a2 a3 a4
      revert va vb ma mb pp
      decide
  · rintro ⟨hc, hp, h⟩
    have hp : (if a.1 = -1 then b.1 else a.1) = -1 ∨ (if a.1 = -1 then b.1 else a.1) = port := hp
    have hpp : (a.1 = -1 ∨ a.1 = port) ∧ (b.1 = -1 ∨ b.1 = port) := by
      by_cases c : a.1 = -1
      · rw [if_pos c] at hp; exact ⟨.inl c, hp⟩
      · rw [if_neg c] at hp
        refine ⟨hp, ?_⟩
        by_cases c2 : b.1 = -1
        · exact .inl c2
        · have : a.1 = b.1 := Classical.byContradiction fun hn => hc (.inl ⟨c, c2, hn⟩)
          exact .inr (this ▸ hp.resolve_left c)
    have hcl : ∀ f : Nat, f < 4 → ∀ i : Nat, i < 8 → ¬ cb a b f i := fun f hf i hi hcb => hc (.inr ⟨f, hf, i, hi, hcb⟩)
    have hh : ∀ f : Nat, f < 4 → ∀ i : Nat, i < 8 → (tb (p4 a.2.2 f) i = true → tb (p4 a.2.1 f) i = tb (p4 p f) i) ∧ (tb (p4 b.2.2 f) i = true → tb (p4 b.2.1 f) i = tb (p4 p f) i) := by
      intro f hf i hi
      have h0 : tb (p4 (orP a.2.2 b.2.2) f) i = true → tb (p4 (orP a.2.1 b.2.1) f) i = tb (p4 p f) i := h f hf i hi
      rw [p4_or _ _ hf, p4_or _ _ hf, tb_or, tb_or] at h0
      have a1 : ¬ (tb (p4 a.2.2 f) i = true ∧ tb (p4 b.2.2 f) i = true ∧ tb (p4 a.2.1 f) i ≠ tb (p4 b.2.1 f) i) := hcl f hf i hi
      have a3 := (ha.2 f hf).2.2 i hi
      have a4 := (hb.2 f hf).2.2 i hi
      generalize tb (p4 a.2.1 f) i = va at *
      generalize tb (p4 b.2.1 f) i = vb at *
      generalize tb (p4 a.2.2 f) i = ma at *
      generalize tb (p4 b.2.2 f) i = mb at *
      generalize tb (p4 p f) i = pp at *
      cases va <;> cases vb <;> cases ma <;> cases mb <;> cases pp <;> simp_all
    exact ⟨⟨hpp.1, fun f hf i hi => (hh f hf i hi).1⟩, ⟨hpp.2, fun f hf i hi => (hh f hf i hi).2⟩⟩
theorem good_meet {a b : Mt} (ha : Good a) (hb : Good b) : Good (meetM a b) := by
  refine ⟨?_, fun f hf => ?_⟩
  · show -1 ≤ (if a.1 = -1 then b.1 else a.1) ∧ (if a.1 = -1 then b.1 else a.1) ≤ 7
    split
    · exact hb.1
    · exact ha.1
  · show FOk f (p4 (orP a.2.1 b.2.1) f) (p4 (orP a.2.2 b.2.2) f)
    rw [p4_or _ _ hf, p4_or _ _ hf]
    obtain ⟨x1, x2, x3⟩ := ha.2 f hf
    obtain ⟨y1, y2, y3⟩ := hb.2 f hf
    refine ⟨or_top hf x1 y1, or_top hf x2 y2, fun i hi h => ?_⟩
    rw [tb_or] at h ⊢
    rcases (show tb (p4 a.2.1 f) i = true ∨ tb (p4 b.2.1 f) i = true by simpa using h) with h | h
    · rw [x3 i hi h]; rfl
    · rw [y3 i hi h, Bool.or_true]
theorem good_i4 {m : Mt} (h : Good m) : I4 m.2.1 := by
  have g : ∀ k, k < 4 → i64 (p4 m.2.1 k) := fun k hk => by
    have := (good_by h hk).1
    have h1 := this.1
    have h2 := this.2
    constructor <;> omega
  exact ⟨g 0 (by decide), g 1 (by decide), g 2 (by decide), g 3 (by decide)⟩
def ofM (f v : Int) : Mt := if 0 ≤ f ∧ f < 4 ∧ 0 ≤ v ∧ v ≤ r07_Top f then (-1, put4 (0, 0, 0, 0) f v, put4 (0, 0, 0, 0) f (r07_Top f)) else match_Any
theorem of_eq (f v : Int) : match_Of f v = some (ofM f v) := by
  unfold match_Of ofM
  rw [top_eq]
  by_cases h : 0 ≤ f ∧ f < 4 ∧ 0 ≤ v ∧ v ≤ r07_Top f
  · obtain ⟨x, hx, _⟩ := ix4' (0, 0, 0, 0) ⟨h.1, h.2.1⟩
    have hx' : ix ([match_Any.2.1.1, match_Any.2.1.2.1, match_Any.2.1.2.2.1, match_Any.2.1.2.2.2] : List Int) f = some x := hx
    have hx2 : ix ([match_Any.2.2.1, match_Any.2.2.2.1, match_Any.2.2.2.2.1, match_Any.2.2.2.2.2] : List Int) f = some x := hx
    rw [if_neg (by omega), if_neg (by omega), if_neg (by omega)]
    simp only [Option.bind_some]
    rw [decide_eq_false (by omega), if_neg (by decide), hx', hx2, if_pos h]; rfl
  · have hb : (if f < 0 then some true else (if 4 ≤ f then some true else (if v < 0 then some true else (some (r07_Top f)).bind fun x2 => some (decide (x2 < v))))) = some true := by
      by_cases c1 : f < 0
      · rw [if_pos c1]
      · rw [if_neg c1]
        by_cases c2 : 4 ≤ f
        · rw [if_pos c2]
        · rw [if_neg c2]
          by_cases c3 : v < 0
          · rw [if_pos c3]
          · rw [if_neg c3, Option.bind_some, decide_eq_true (by
              refine Classical.byContradiction fun hn => h ⟨by omega, by omega, by omega, by omega⟩)]
    rw [hb, if_neg h]; rfl
theorem rof_eq (f v : Int) : r08_Of f v = some (ofM f v) := by
  unfold r08_Of ofM
  by_cases h : 0 ≤ f ∧ f < 4 ∧ 0 ≤ v ∧ v ≤ r07_Top f
  · obtain ⟨x, hx, _⟩ := ix4' (0, 0, 0, 0) ⟨h.1, h.2.1⟩
    have hx' : ix ([0, 0, 0, 0] : List Int) f = some x := hx
    rw [if_pos (by simpa using h), hx', if_pos h]; rfl
  · rw [if_neg (by simpa using h), if_neg h]; rfl
end Go.Proofs.YteeioghoidjbpaaDoor
