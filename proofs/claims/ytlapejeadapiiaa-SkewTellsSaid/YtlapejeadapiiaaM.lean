/- Layer 15: spans, estimates; the four statements, in plain words. Conditions: none. -/
import Derived.Test.YtlapejeadapiiaaMK
namespace Go.Proofs.Ytlapejeadapiiaa
set_option linter.unusedVariables false
set_option linter.unusedSimpArgs false
open Go Go.RowKit

theorem bindT {o : Option Bool} (h : o = some true) : (o.bind fun x => some x) = some true := by rw [h]; rfl
/-! ### The reference's drift -/
theorem rflr (p : Int) (h : -1152921504606846976 ≤ p ∧ p ≤ 1152921504606846976) : r01_Floor p 1000 = some (p / 1000) := by
  unfold r01_Floor
  have hd : dvI .i64 p 1000 = some (Int.tdiv p 1000) := by
    unfold dvI
    rw [if_neg (by decide)]
    have : IntKind.i64.wrap (p.tdiv 1000) = p.tdiv 1000 := w64_id (by rcases tdm p with ⟨h0, e1, e2⟩ | ⟨h0, e1, e2⟩ <;> rw [e1] <;> omega)
    rw [this]
  rw [hd, Option.bind_some]
  rcases tdm p with ⟨h0, e1, e2⟩ | ⟨h0, e1, e2⟩
  · rw [e1, w64_id (by omega), if_neg (by omega), Option.bind_some]
  · rw [e1, w64_id (x := -(-p / 1000) * 1000) (by omega)]
    by_cases h1 : (-p) % 1000 = 0
    · rw [if_neg (by omega), Option.bind_some]; congr 1; omega
    · rw [if_pos (by omega), Option.bind_some, w64_id (by omega)]; congr 1; omega
theorem rdrift_eq (s m : Int) (hs : -9223372036854775808 ≤ s) (hm : -9223372036854775808 ≤ m) : r14_Drift s m = some (drf s m) := by
  unfold r14_Drift
  by_cases h : s < 0 ∨ m < 0
  · rw [if_pos (by simpa using h)]
    unfold drf
    rcases h with h | h
    · rw [show min (max s 0) 1099511627776 = 0 by omega]; simp
    · rw [show min (max m 0) 1000 = 0 by omega]; simp
  · rw [if_neg (by simpa using h)]
    have e1 : (if 1099511627776 < s then some 1099511627776 else some s) = some (min (max s 0) 1099511627776) := by
      by_cases hc : 1099511627776 < s
      · rw [if_pos hc]; congr 1; omega
      · rw [if_neg hc]; congr 1; omega
    have e2 : (if 1000 < m then some 1000 else some m) = some (min (max m 0) 1000) := by
      by_cases hc : 1000 < m
      · rw [if_pos hc]; congr 1; omega
      · rw [if_neg hc]; congr 1; omega
    rw [e1, Option.bind_some, e2, Option.bind_some]
    have hb := mul_bd (a := min (max s 0) 1099511627776) (b := min (max m 0) 1000) (x := 1099511627776) (y := 1000) (by omega) (by omega)
    have h2 := drf_bd s m
    unfold drf at *
    rw [Int.neg_mul, Int.mul_comm (min (max m 0) 1000)] at *
    generalize (min (max s 0) 1099511627776 * min (max m 0) 1000) = t at *
    rw [w64_id (x := t) (by omega), w64_id (x := 0 - t) (by omega), rflr _ (by omega), Option.bind_some, w64_id (by omega), show 0 - t = -t by omega]
    congr 1; omega
theorem drf_mono {a b m : Int} (h : a ≤ b) : drf a m ≤ drf b m := by
  unfold drf
  have hm : min (max m 0) 1000 * min (max a 0) 1099511627776 ≤ min (max m 0) 1000 * min (max b 0) 1099511627776 := Int.mul_le_mul_of_nonneg_left (by omega) (by omega)
  rw [Int.neg_mul, Int.neg_mul]
  generalize min (max m 0) 1000 * min (max a 0) 1099511627776 = t at *
  generalize min (max m 0) 1000 * min (max b 0) 1099511627776 = u at *
  omega
theorem drf_add {a b m : Int} (ha : 0 ≤ a) (hb : 0 ≤ b) (h : a + b ≤ 1099511627776) : drf (a + b) m ≤ drf a m + drf b m := by
  unfold drf
  rw [show min (max a 0) 1099511627776 = a by omega, show min (max b 0) 1099511627776 = b by omega, show min (max (a + b) 0) 1099511627776 = a + b by omega, Int.mul_add, Int.neg_mul, Int.neg_mul]
  generalize min (max m 0) 1000 * a = t at *
  generalize min (max m 0) 1000 * b = u at *
  omega
theorem drf_zero {a m : Int} (h : a ≤ 0) : drf a m = 0 := by
  unfold drf
  rw [show min (max a 0) 1099511627776 = 0 by omega]; simp
/-- At most half as much, rounded up. -/
theorem drf_half {k m : Int} (hk : 0 ≤ k) (hm : m ≤ 500) : 2 * drf k m ≤ k + 1 := by
  unfold drf
  have h1 : min (max m 0) 1000 * min (max k 0) 1099511627776 ≤ 500 * min (max k 0) 1099511627776 := Int.mul_le_mul_of_nonneg_right (by omega) (by omega)
  rw [Int.neg_mul]
  generalize min (max m 0) 1000 * min (max k 0) 1099511627776 = t at *
  omega

/-! ### Spans -/
def lim (n : Int) : Int := min (max n (-4503599627370496)) 4503599627370496
def cln (p : Int × Int) : Int × Int := if lim p.2 < lim p.1 then (1, 0) else (lim p.1, lim p.2)
def wid (p : Int × Int) (d : Int) : Int × Int := if lim p.2 < lim p.1 then (1, 0) else (lim (lim p.1 - d), lim (lim p.2 + d))
def mtS (p q : Int × Int) : Int × Int := cln (max p.1 q.1, min p.2 q.2)
def mdS (p : Int × Int) : Int := if p.2 < p.1 then 0 else p.1 + (p.2 - p.1) / 2
def hfS (p : Int × Int) : Int := if p.2 < p.1 then 0 else p.2 - mdS p
theorem lim_bd (n : Int) : -4503599627370496 ≤ lim n ∧ lim n ≤ 4503599627370496 := by unfold lim; omega
theorem lim_in {n : Int} (h : -4503599627370496 ≤ n ∧ n ≤ 4503599627370496) : lim n = n := by unfold lim; omega
theorem lim_lim (n : Int) : lim (lim n) = lim n := lim_in (lim_bd n)
theorem clean_eq (p : Int × Int) : span_Clean p = cln p := rfl
theorem near_eq (n : Int) : r02_Near n = lim n := by
  unfold r02_Near lim
  split
  · omega
  · split <;> omega
theorem rclean_eq (p : Int × Int) : r02_Clean p = cln p := by unfold r02_Clean cln; simp only [near_eq]
theorem rempty_eq (p : Int × Int) : r02_Empty p = decide (lim p.2 < lim p.1) := by unfold r02_Empty; simp only [near_eq]
/-- A span as it counts. -/
def Cl_ (p : Int × Int) : Prop := p = (1, 0) ∨ (p.1 ≤ p.2 ∧ -4503599627370496 ≤ p.1 ∧ p.2 ≤ 4503599627370496)
theorem cln_Cl (p : Int × Int) : Cl_ (cln p) := by
  unfold cln Cl_
  have h1 := lim_bd p.1
  have h2 := lim_bd p.2
  split
  · exact .inl rfl
  · exact .inr ⟨by simp only; omega, by simp only; omega, by simp only; omega⟩
theorem wid_Cl (p : Int × Int) {d : Int} (hd : 0 ≤ d) : Cl_ (wid p d) := by
  unfold wid Cl_
  split
  · exact .inl rfl
  · refine .inr ⟨?_, ?_, ?_⟩ <;> simp only [lim] at * <;> omega
theorem Cl_.cln {p : Int × Int} (h : Cl_ p) : Go.Proofs.Ytlapejeadapiiaa.cln p = p := by
  unfold Go.Proofs.Ytlapejeadapiiaa.cln
  rcases h with rfl | ⟨h1, h2, h3⟩
  · rfl
  · rw [lim_in (n := p.1) (by omega), lim_in (n := p.2) (by omega), if_neg (by omega)]
theorem Cl_.emp {p : Int × Int} (h : Cl_ p) : (lim p.2 < lim p.1) ↔ p.2 < p.1 := by
  rcases h with rfl | ⟨h1, h2, h3⟩
  · decide
  · rw [lim_in (n := p.1) (by omega), lim_in (n := p.2) (by omega)]
theorem Cl_.one {p : Int × Int} (h : Cl_ p) : (p.1 = 1 ∧ p.2 = 0) ↔ p.2 < p.1 := by
  rcases h with rfl | ⟨h1, h2, h3⟩
  · decide
  · omega
theorem Cl_.eq {p : Int × Int} (h : Cl_ p) (he : p.2 < p.1) : p = (1, 0) := by
  rcases h with rfl | ⟨h1, h2, h3⟩
  · rfl
  · omega
theorem empty_eq {p : Int × Int} (h : Cl_ p) : span_Empty p = decide (p.2 < p.1) := by
  unfold span_Empty
  rw [clean_eq, h.cln]
  exact decide_eq_decide.2 h.one
theorem widen_eq (p : Int × Int) {d : Int} (hd : 0 ≤ d ∧ d ≤ 1099511627776) : span_Widen p d = wid p d := by
  unfold span_Widen
  have e : span_limited (max d 0) = d := by unfold span_limited; omega
  rw [e, w64_id (by omega)]
  unfold span_moved wid
  rw [clean_eq]
  have hc := cln_Cl p
  by_cases h : lim p.2 < lim p.1
  · have e2 : cln p = (1, 0) := by unfold cln; rw [if_pos h]
    rw [e2, if_pos h]; rfl
  · have e2 : cln p = (lim p.1, lim p.2) := by unfold cln; rw [if_neg h]
    rw [e2, if_neg h]
    have h1 := lim_bd p.1
    have h2 := lim_bd p.2
    rw [if_neg (by show ¬ (lim p.1 = 1 ∧ lim p.2 = 0); omega)]
    simp only
    rw [w64_id (by omega), w64_id (by omega), clean_eq]
    unfold cln
    rw [show lim p.1 + (0 - d) = lim p.1 - d by omega, if_neg]
    simp only [lim] at *
    omega
theorem rwiden_eq (p : Int × Int) {d : Int} (hd : 0 ≤ d ∧ d ≤ 1099511627776) : r02_Widen p d = some (wid p d) := by
  unfold r02_Widen
  have e : r02_Near d = d := by rw [near_eq]; exact lim_in (by omega)
  rw [e, if_neg (by omega), Option.bind_some, w64_id (by omega)]
  unfold r02_Moved wid
  rw [rempty_eq]
  simp only [rclean_eq, decide_eq_true_eq]
  by_cases h : lim p.2 < lim p.1
  · rw [if_pos h, if_pos h]; unfold cln; rw [if_pos h]
  · rw [if_neg h, if_neg h]
    have e2 : cln p = (lim p.1, lim p.2) := by unfold cln; rw [if_neg h]
    have h1 := lim_bd p.1
    have h2 := lim_bd p.2
    rw [e2, e, near_eq, lim_in (n := 0 - d) (by omega)]
    simp only
    rw [w64_id (by omega), w64_id (by omega)]
    unfold cln
    rw [show lim p.1 + (0 - d) = lim p.1 - d by omega, if_neg]
    simp only [lim] at *
    omega
theorem rmeet_eq {p q : Int × Int} (hp : Cl_ p) (hq : Cl_ q) : r02_Meet p q = some (mtS q p) := by
  unfold r02_Meet mtS
  simp only [rclean_eq, hp.cln, hq.cln]
  have e1 : (if p.1 < q.1 then some q.1 else some p.1) = some (max q.1 p.1) := by split <;> congr 1 <;> omega
  have e2 : (if q.2 < p.2 then some q.2 else some p.2) = some (min q.2 p.2) := by split <;> congr 1 <;> omega
  rw [e1, Option.bind_some, e2, Option.bind_some]
theorem noth : span_Nothing.1 = 1 ∧ span_Nothing.2 = 0 := ⟨rfl, rfl⟩
theorem mid_eq {p : Int × Int} (h : Cl_ p) : span_Mid p = mdS p := by
  unfold span_Mid mdS
  rw [clean_eq, h.cln, noth.1, noth.2]
  by_cases he : p.2 < p.1
  · rw [if_pos he, if_pos (h.one.2 he)]
  · rw [if_neg he, if_neg (fun h' => he (h.one.1 h'))]
    rcases h with rfl | ⟨h1, h2, h3⟩
    · exact absurd (by decide) he
    · rw [w64_id (x := p.2 - p.1) (by omega), Int.tdiv_eq_ediv_of_nonneg (by omega), w64_id (x := (p.2 - p.1) / 2) (by omega), w64_id (by omega)]
theorem half_eq {p : Int × Int} (h : Cl_ p) : span_Half p = hfS p := by
  unfold span_Half hfS
  rw [clean_eq, h.cln, mid_eq h, noth.1, noth.2]
  by_cases he : p.2 < p.1
  · rw [if_pos he, if_pos (h.one.2 he)]
  · rw [if_neg he, if_neg (fun h' => he (h.one.1 h'))]
    unfold mdS
    rw [if_neg he]
    rcases h with rfl | ⟨h1, h2, h3⟩
    · exact absurd (by decide) he
    · rw [w64_id (by omega)]
theorem rmid_eq {p : Int × Int} (h : Cl_ p) : r02_Mid p = some (mdS p) := by
  unfold r02_Mid mdS
  rw [rempty_eq]
  simp only [rclean_eq, h.cln, decide_eq_true_eq, h.emp]
  by_cases he : p.2 < p.1
  · rw [if_pos he, if_pos he]
  · rw [if_neg he, if_neg he]
    rcases h with rfl | ⟨h1, h2, h3⟩
    · exact absurd (by decide) he
    · rw [w64_id (x := p.1 + p.2) (by omega)]
      have ht : (0 ≤ p.1 + p.2 ∧ Int.tdiv (p.1 + p.2) 2 = (p.1 + p.2) / 2) ∨ (p.1 + p.2 < 0 ∧ Int.tdiv (p.1 + p.2) 2 = -((-(p.1 + p.2)) / 2)) := by
        rcases Int.lt_or_le (p.1 + p.2) 0 with h | h
        · right
          have e1 : Int.tdiv (p.1 + p.2) 2 = -(Int.tdiv (-(p.1 + p.2)) 2) := by rw [Int.neg_tdiv]; simp
          rw [e1, Int.tdiv_eq_ediv_of_nonneg (by omega)]; exact ⟨h, rfl⟩
        · left; exact ⟨h, Int.tdiv_eq_ediv_of_nonneg h⟩
      generalize Int.tdiv (p.1 + p.2) 2 = u at *
      rw [w64_id (x := u) (by omega), w64_id (x := u * 2) (by omega)]
      by_cases h4 : p.1 + p.2 < u * 2
      · rw [if_pos h4, Option.bind_some, w64_id (by omega)]; congr 1; omega
      · rw [if_neg h4, Option.bind_some]; congr 1; omega

/-! ### Estimates -/
abbrev Es := Bool × (Int × Int) × Int
theorem minus_eq {a b : Int} (h : -4611686018427387904 ≤ a - b ∧ a - b ≤ 4611686018427387904) : skew_minus a b = a - b := by
  unfold skew_minus
  rw [w64_id (by omega), if_neg (by rw [Bool.and_eq_true, decide_eq_true_eq, decide_eq_true_eq]; omega), if_neg (by rw [Bool.and_eq_true, decide_eq_true_eq, decide_eq_true_eq]; omega)]
def T50 (n : Int) : Prop := -1125899906842624 ≤ n ∧ n ≤ 1125899906842624
def frS (t1 t2 t4 m : Int) : Int × Int := wid (t2 - t4, t2 - t1) (drf (t4 - t1) m)
def onS (e : Es) (t m : Int) : Int × Int := if e.1 = true then wid e.2.1 (drf (max (t - e.2.2) (e.2.2 - t)) m) else (1, 0)
theorem fresh_eq {t1 t2 t4 m : Int} (h1 : T50 t1) (h2 : T50 t2) (h4 : T50 t4) : skew_Fresh t1 t2 t4 m = some (frS t1 t2 t4 m) := by
  unfold T50 at *
  unfold skew_Fresh frS
  rw [minus_eq (by omega), minus_eq (by omega), minus_eq (by omega), drift_eq, Option.bind_some, widen_eq _ (drf_bd _ _)]
theorem rfresh_eq {t1 t2 t4 m : Int} (h1 : T50 t1) (h2 : T50 t2) (h4 : T50 t4) (hm : -9223372036854775808 ≤ m) : r15_Fresh t1 t2 t4 m = some (frS t1 t2 t4 m) := by
  unfold T50 at *
  unfold r15_Fresh frS
  rw [w64_id (by omega), rdrift_eq _ _ (by omega) hm, Option.bind_some, w64_id (by omega), w64_id (by omega), rwiden_eq _ (drf_bd _ _), Option.bind_some]
theorem on_eq {e : Es} {t m : Int} (h1 : T50 t) (h2 : T50 e.2.2) : skew_On e t m = some (onS e t m) := by
  unfold T50 at *
  unfold skew_On onS
  cases he : e.1 with
  | false => rfl
  | true =>
    rw [minus_eq (by omega), minus_eq (by omega), drift_eq]
    simp only [Bool.not_true, Bool.false_eq_true, if_false, if_true, Option.bind_some]
    rw [widen_eq _ (drf_bd _ _)]
theorem ron_eq {e : Es} {t m : Int} (h1 : T50 t) (h2 : T50 e.2.2) (hm : -9223372036854775808 ≤ m) : r15_On e t m = some (onS e t m) := by
  unfold T50 at *
  unfold r15_On onS
  cases he : e.1 with
  | false => rfl
  | true =>
    rw [w64_id (by omega)]
    have e1 : (if t - e.2.2 < 0 then some (w64 (0 - (t - e.2.2))) else some (t - e.2.2)) = some (max (t - e.2.2) (e.2.2 - t)) := by
      split
      · rw [w64_id (by omega)]; congr 1; omega
      · congr 1; omega
    simp only [Bool.not_true, Bool.false_eq_true, if_false, if_true]
    rw [e1, Option.bind_some, rdrift_eq _ _ (by omega) hm, Option.bind_some, rwiden_eq _ (drf_bd _ _), Option.bind_some]
theorem onS_Cl (e : Es) (t m : Int) : Cl_ (onS e t m) := by
  unfold onS; split
  · exact wid_Cl _ (drf_bd _ _).1
  · exact .inl rfl
theorem frS_Cl (t1 t2 t4 m : Int) : Cl_ (frS t1 t2 t4 m) := wid_Cl _ (drf_bd _ _).1
def badS (e : Es) (t1 t2 t4 : Int) : Prop := t1 < 0 ∨ t4 < t1 ∨ 1099511627776 < t4 ∨ t2 < -1125899906842624 ∨ 1125899906842624 < t2 ∨ (e.1 = true ∧ t4 < e.2.2)
def newS (e : Es) (t1 t2 t4 m : Int) : Int × Int := if e.1 = true then mtS (frS t1 t2 t4 m) (onS e t4 m) else frS t1 t2 t4 m
theorem newS_Cl (e : Es) (t1 t2 t4 m : Int) : Cl_ (newS e t1 t2 t4 m) := by
  unfold newS; split
  · exact cln_Cl _
  · exact frS_Cl _ _ _ _
instance (e : Es) (t1 t2 t4 : Int) : Decidable (badS e t1 t2 t4) := by unfold badS; infer_instance
def mt (e : Es) (t1 t2 t4 m : Int) : Es × Int :=
  if badS e t1 t2 t4 then (e, 2) else if (newS e t1 t2 t4 m).2 < (newS e t1 t2 t4 m).1 then (e, 16) else ((true, newS e t1 t2 t4 m, t4), 0)
theorem meet_eq {e : Es} {t1 t2 t4 m : Int} (h1 : T50 t1) (h2 : T50 t2) (h4 : T50 t4) (he : T50 e.2.2) : skew_Meet e t1 t2 t4 m = some (mt e t1 t2 t4 m) := by
  unfold skew_Meet mt
  by_cases hb : badS e t1 t2 t4
  · rw [if_pos hb, if_pos (by unfold badS at hb; simpa using hb)]
  · rw [if_neg hb, if_neg (by unfold badS at hb; simpa using hb), fresh_eq h1 h2 h4, Option.bind_some]
    have hcl := newS_Cl e t1 t2 t4 m
    unfold newS at *
    obtain ⟨b, s, at'⟩ := e
    cases b with
    | true =>
      simp only [if_true] at *
      rw [on_eq (e := (true, s, at')) h4 he, Option.bind_some, Option.bind_some]
      have e1 : ((span_Meet (frS t1 t2 t4 m) (onS (true, s, at') t4 m)).1, (span_Meet (frS t1 t2 t4 m) (onS (true, s, at') t4 m)).2) = mtS (frS t1 t2 t4 m) (onS (true, s, at') t4 m) := rfl
      simp only [e1, empty_eq hcl, decide_eq_true_eq]
      split <;> rfl
    | false =>
      simp only [Bool.false_eq_true, if_false] at *
      rw [Option.bind_some]
      have e1 : ((frS t1 t2 t4 m).1, (frS t1 t2 t4 m).2) = frS t1 t2 t4 m := rfl
      simp only [e1, empty_eq hcl, decide_eq_true_eq]
      split <;> rfl
theorem rmeetE_eq {e : Es} {t1 t2 t4 m : Int} (h1 : T50 t1) (h2 : T50 t2) (h4 : T50 t4) (he : T50 e.2.2) (hm : -9223372036854775808 ≤ m) : r15_Meet e t1 t2 t4 m = some (mt e t1 t2 t4 m) := by
  unfold r15_Meet mt
  by_cases hb : badS e t1 t2 t4
  · rw [if_pos hb, if_pos (by
      unfold badS at hb
      simp only [Bool.or_eq_true, Bool.and_eq_true, decide_eq_true_eq]
      rcases hb with h | h | h | h | h | h <;> simp [h])]
  · rw [if_neg hb, if_neg (by
      intro h
      apply hb
      unfold badS
      simp only [Bool.or_eq_true, Bool.and_eq_true, decide_eq_true_eq] at h
      rcases h with h | h | h | h | h | h <;> simp [h]), rfresh_eq h1 h2 h4 hm, Option.bind_some]
    have hcl := newS_Cl e t1 t2 t4 m
    unfold newS at *
    obtain ⟨b, s, at'⟩ := e
    cases b with
    | true =>
      simp only [if_true] at *
      rw [ron_eq (e := (true, s, at')) h4 he hm, Option.bind_some, rmeet_eq (onS_Cl _ _ _) (frS_Cl _ _ _ _), Option.bind_some, Option.bind_some]
      have e1 : ((mtS (frS t1 t2 t4 m) (onS (true, s, at') t4 m)).1, (mtS (frS t1 t2 t4 m) (onS (true, s, at') t4 m)).2) = mtS (frS t1 t2 t4 m) (onS (true, s, at') t4 m) := rfl
      simp only [e1, rempty_eq, hcl.emp, decide_eq_true_eq]
      split <;> rfl
    | false =>
      simp only [Bool.false_eq_true, if_false] at *
      rw [Option.bind_some]
      have e1 : ((frS t1 t2 t4 m).1, (frS t1 t2 t4 m).2) = frS t1 t2 t4 m := rfl
      simp only [e1, rempty_eq, hcl.emp, decide_eq_true_eq]
      split <;> rfl
def aimS (e : Es) (t m : Int) : Int × Int × Bool := if e.1 = false ∨ t < 0 ∨ 1099511627776 < t then (0, 0, false) else (t + mdS (onS e t m), hfS (onS e t m), true)
theorem mdS_bd {p : Int × Int} (h : Cl_ p) : -4503599627370496 ≤ mdS p ∧ mdS p ≤ 4503599627370496 ∧ 0 ≤ hfS p ∧ (p.1 ≤ p.2 → p.1 ≤ mdS p ∧ mdS p + hfS p = p.2 ∧ mdS p - p.1 ≤ hfS p) := by
  unfold hfS mdS
  rcases h with rfl | ⟨h1, h2, h3⟩
  · decide
  · rw [if_neg (by omega), if_neg (by omega)]; omega
theorem aim_eq {e : Es} {t m : Int} (h1 : T50 t) (he : T50 e.2.2) : skew_Aim e t m = some (aimS e t m) := by
  unfold skew_Aim aimS
  by_cases hb : e.1 = false ∨ t < 0 ∨ 1099511627776 < t
  · rw [if_pos hb, if_pos (by simpa using hb)]
  · have hcl := onS_Cl e t m
    have hbd := mdS_bd hcl
    rw [if_neg hb, if_neg (by simpa using hb), on_eq h1 he, Option.bind_some, mid_eq hcl, half_eq hcl, w64_id (by omega)]
theorem raim_eq {e : Es} {t m : Int} (h1 : T50 t) (he : T50 e.2.2) (hm : -9223372036854775808 ≤ m) : r15_Aim e t m = some (aimS e t m) := by
  unfold r15_Aim aimS
  by_cases hb : e.1 = false ∨ t < 0 ∨ 1099511627776 < t
  · rw [if_pos hb, if_pos (by simpa using hb)]
  · have hcl := onS_Cl e t m
    have hbd := mdS_bd hcl
    rw [if_neg hb, if_neg (by simpa using hb), ron_eq h1 he hm, Option.bind_some, rmid_eq hcl, Option.bind_some]
    simp only [rempty_eq, hcl.emp, decide_eq_true_eq, rclean_eq, hcl.cln]
    unfold hfS
    by_cases hx : (onS e t m).2 < (onS e t m).1
    · rw [if_pos hx, if_pos hx]; unfold mdS; rw [if_pos hx]; simp
    · rw [if_neg hx, if_neg hx, w64_id (by omega)]
      have := hbd.2.2.2 (by omega)
      unfold hfS at this
      rw [if_neg hx] at this
      have h0 := hbd.2.2.1
      unfold hfS at h0
      rw [if_neg hx] at h0
      rcases hcl with hq | hq
      · rw [hq] at hx; exact absurd (by decide) hx
      · rw [w64_id (by omega)]
def missS (h : Int) : Int := 2 * min (max h 0) 1073741824 + 2
theorem miss_eq (h : Int) : skew_Miss h = missS h := by
  unfold skew_Miss missS
  rw [w64_id (x := 2 * _) (by omega), w64_id (by omega)]
theorem rmiss_eq (h : Int) : r15_Miss h = some (missS h) := by
  unfold r15_Miss missS
  have e1 : (if h < 0 then some 0 else some h) = some (max h 0) := by split <;> congr 1 <;> omega
  have e2 : (if 1073741824 < max h 0 then some 1073741824 else some (max h 0)) = some (min (max h 0) 1073741824) := by split <;> congr 1 <;> omega
  rw [e1, Option.bind_some, e2, Option.bind_some, w64_id (x := min (max h 0) 1073741824 + min (max h 0) 1073741824) (by omega), w64_id (by omega)]
  congr 1; omega
theorem awake15 : L15_awake = some true := by
  unfold L15_awake
  rw [meet_eq (by unfold T50; decide) (by unfold T50; decide) (by unfold T50; decide) (by unfold T50; decide), Option.bind_some]
  have e1 : mt (false, (0, 0), 0) 10 27 14 0 = ((true, (13, 17), 14), 0) := by decide +kernel
  rw [e1, aim_eq (by unfold T50; decide) (by unfold T50; decide), Option.bind_some, miss_eq]
  decide +kernel

theorem SkewTells_true (p0 : Es) (ok0 : okP okT (okP (okP (fun n => (Lit.int .i64 n).wf = true) (fun n => (Lit.int .i64 n).wf = true)) (fun n => (Lit.int .i64 n).wf = true)) p0) (p1 : Int) (ok1 : (Lit.int .i64 p1).wf = true) (p2 : Int) (ok2 : (Lit.int .i64 p2).wf = true) (p3 : Int) (ok3 : (Lit.int .i64 p3).wf = true)
    (p4 : Int) (ok4 : (Lit.int .i64 p4).wf = true) (p5 : Int) (ok5 : (Lit.int .i64 p5).wf = true) : L15_SkewTells p0 p1 p2 p3 p4 p5 = some true := by
  unfold L15_SkewTells
  have hm := (wf_i64 ok5).1
  obtain ⟨e, h1, h2⟩ := loopW_ex (step := L15_SkewTells_l1 p0 p1 p2 p3 p4) (fun s => ∃ k : Nat, k ≤ 5 ∧ s = (k : Int) ∧ ∀ x ∈ [p0.2.2, p1, p2, p3, p4].take k, T50 x) (fun s => 5 - s.toNat)
    (fun e => e = .inr true ∨ (e = .inl () ∧ ∀ x ∈ [p0.2.2, p1, p2, p3, p4], T50 x)) (by
      rintro s ⟨k, hk, rfl, hb⟩
      rw [L15_SkewTells_l1]
      have hlen : ([p0.2.2, p1, p2, p3, p4] : List Int).length = 5 := rfl
      by_cases hkl : k < 5
      · obtain ⟨x, hx⟩ : ∃ x, ([p0.2.2, p1, p2, p3, p4] : List Int)[k]? = some x := ⟨_, List.getElem?_eq_getElem (by omega)⟩
        rw [if_pos (by rw [hlen]; omega), ix_nat hx]
        simp only [Option.bind_some]
        have e1 : (if x < -1125899906842624 then some true else some (decide (1125899906842624 < x))) = some (decide (x < -1125899906842624 ∨ 1125899906842624 < x)) := by
          by_cases h : x < -1125899906842624 <;> simp [h]
        rw [e1, Option.bind_some]
        by_cases hb2 : x < -1125899906842624 ∨ 1125899906842624 < x
        · right
          exact ⟨_, by rw [if_pos (by simpa using hb2), awake15]; rfl, .inl rfl⟩
        · left
          refine ⟨((k + 1 : Nat) : Int), by rw [if_neg (by simpa using hb2), w64_id (by omega)]; rfl, ⟨k + 1, by omega, rfl, ?_⟩, by simp; omega⟩
          intro y hy
          rw [List.take_add_one, hx] at hy
          rcases List.mem_append.1 hy with hy | hy
          · exact hb y hy
          · simp at hy; subst hy; unfold T50; omega
      · right
        have : k = 5 := by omega
        subst this
        exact ⟨_, by rw [if_neg (by rw [hlen]; omega)], .inr ⟨rfl, hb⟩⟩) 0 ⟨0, by omega, rfl, by simp⟩
  unfold orR
  rw [h1]
  rcases h2 with rfl | ⟨rfl, hT⟩
  · rfl
  · have t0 := hT p0.2.2 (by simp)
    have t1 := hT p1 (by simp)
    have t2 := hT p2 (by simp)
    have t3 := hT p3 (by simp)
    have t4 := hT p4 (by simp)
    have e0 : ((L15_mine p0).1, ((L15_mine p0).2.1.1, (L15_mine p0).2.1.2), (L15_mine p0).2.2) = p0 := rfl
    simp only [Option.bind_some, e0, meet_eq t1 t2 t3 t0, rmeetE_eq t1 t2 t3 t0 hm, on_eq t4 t0, ron_eq t4 t0 hm, fresh_eq t1 t2 t3, rfresh_eq t1 t2 t3 hm, aim_eq t4 t0, raim_eq t4 t0 hm, miss_eq, rmiss_eq]
    have hl : ∀ p, L15_like p p = true := fun p => by unfold L15_like; simp
    simp [L15_mine, hl, awake15]

/-! ### Exchanges with a clock -/
/-- The estimate holds of the clock. -/
structure Held (M : Int) (x : Es) (c : Cl) : Prop where
  no : x.1 = false → x = (false, (0, 0), 0)
  yes : x.1 = true → ∃ cs, Inv M cs ∧ Stp M cs c ∧ cs.1 = x.2.2 ∧ x.2.1.1 ≤ apt cs 0 ∧ apt cs 0 ≤ x.2.1.2 ∧ -4398046511104 ≤ x.2.1.1 ∧ x.2.1.2 ≤ 4398046511104
theorem apt_bd {M : Int} {c : Cl} (h : Inv M c) (i : Int) : -550831602688 ≤ apt c i ∧ apt c i ≤ 550831602688 := by
  unfold apt
  cases hx : ix c.2.2 i with
  | none => simp only; omega
  | some x =>
    have he := h.el x (ix_mem hx)
    have hm := h.mc
    simp only
    omega
theorem Held.stp {M : Int} {x : Es} {c d : Cl} (h : Held M x c) (hs : Stp M c d) : Held M x d :=
  ⟨h.no, fun hx => by
    obtain ⟨cs, h1, h2, h3⟩ := h.yes hx
    exact ⟨cs, h1, h2.trans hs, h3⟩⟩
theorem Held.at50 {M : Int} {x : Es} {c : Cl} (h : Held M x c) : T50 x.2.2 := by
  unfold T50
  cases hb : x.1 with
  | false => rw [h.no hb]; decide
  | true =>
    obtain ⟨cs, h1, h2, h3, _⟩ := h.yes hb
    have := h1.r0
    have := h1.r1
    omega
/-- The offset lies in the estimate, at any later time. -/
theorem Held.on {M : Int} {x : Es} {c : Cl} (h : Held M x c) (hc : Inv M c) (hx : x.1 = true) {t : Int} (ht : c.1 ≤ t) (ht2 : t ≤ 1099511627776) :
    ∃ D, D = drf (t - x.2.2) M ∧ onS x t M = (x.2.1.1 - D, x.2.1.2 + D) ∧ x.2.2 ≤ c.1 ∧ 0 ≤ D ∧ D ≤ 1099511627776 ∧ x.2.1.1 - D ≤ apt c 0 ∧ apt c 0 ≤ x.2.1.2 + D ∧ x.2.1.1 ≤ x.2.1.2 ∧ -4398046511104 ≤ x.2.1.1 ∧ x.2.1.2 ≤ 4398046511104 := by
  obtain ⟨cs, h1, h2, h3, h4, h5, h6, h7⟩ := h.yes hx
  have hr := h2.r
  have ha := h2.apt h1 hc 0
  have hb := apt_bd h1 0
  have hmo : drf (c.1 - cs.1) M ≤ drf (t - x.2.2) M := drf_mono (by omega)
  have hD := drf_bd (t - x.2.2) M
  refine ⟨_, rfl, ?_, by omega, hD.1, hD.2, by omega, by omega, by omega, h6, h7⟩
  unfold onS wid
  rw [if_pos hx, show max (t - x.2.2) (x.2.2 - t) = t - x.2.2 by omega, lim_in (n := x.2.1.1) (by omega), lim_in (n := x.2.1.2) (by omega), if_neg (by omega), lim_in (by omega), lim_in (by omega)]
/-- An exchange: it meets, and holds. -/
theorem Held.meet {M : Int} {x : Es} {c : Cl} (h : Held M x c) (hc : Inv M c) (ex : ∃ y, ix c.2.2 0 = some y) (n m : Int) :
    mt x c.1 (rdd (tickS c n) 0) (tickS (tickS c n) m).1 M = ((true, newS x c.1 (rdd (tickS c n) 0) (tickS (tickS c n) m).1 M, (tickS (tickS c n) m).1), 0) ∧ Held M (true, newS x c.1 (rdd (tickS c n) 0) (tickS (tickS c n) m).1 M, (tickS (tickS c n) m).1) (tickS (tickS c n) m) ∧ T50 (rdd (tickS c n) 0) := by
  have h1 := tick_inv hc n
  have h2 := tick_inv h1 m
  have s1 := tick_stp hc n
  have s2 := tick_stp h1 m
  have r1 := s1.r
  have r2 := s2.r
  have c0 := hc.r0
  have c1 := hc.r1
  have d0 := h1.r1
  have d1 := h2.r1
  have a1 := apt_bd h1 0
  have a2 := apt_bd h2 0
  have ha := s2.apt h1 h2 0
  have hrd : rdd (tickS c n) 0 = (tickS c n).1 + apt (tickS c n) 0 := by
    obtain ⟨y, hy⟩ := ex
    rcases s1.el 0 with ⟨e1, _⟩ | ⟨_, z, _, e2, _⟩
    · rw [hy] at e1; cases e1
    · unfold rdd apt; rw [e2]
  have hh := h.stp (s1.trans s2)
  generalize hC2 : tickS (tickS c n) m = c2 at *
  generalize hC1 : tickS c n = c1' at *
  have hon := fun hx => hh.on h2 hx (Int.le_refl c2.1) d1
  have hD := drf_bd (c2.1 - c.1) M
  have hmo : drf (c2.1 - c1'.1) M ≤ drf (c2.1 - c.1) M := drf_mono (by omega)
  have hfr : frS c.1 (rdd c1' 0) c2.1 M = (rdd c1' 0 - c2.1 - drf (c2.1 - c.1) M, rdd c1' 0 - c.1 + drf (c2.1 - c.1) M) := by
    unfold frS wid
    simp only
    rw [lim_in (n := rdd c1' 0 - c2.1) (by omega), lim_in (n := rdd c1' 0 - c.1) (by omega), if_neg (by omega), lim_in (by omega), lim_in (by omega)]
  generalize drf (c2.1 - c.1) M = D at *
  generalize drf (c2.1 - c1'.1) M = D' at *
  have hnew : (newS x c.1 (rdd c1' 0) c2.1 M).1 ≤ apt c2 0 ∧ apt c2 0 ≤ (newS x c.1 (rdd c1' 0) c2.1 M).2 ∧ -4398046511104 ≤ (newS x c.1 (rdd c1' 0) c2.1 M).1 ∧ (newS x c.1 (rdd c1' 0) c2.1 M).2 ≤ 4398046511104 := by
    unfold newS
    rw [hfr]
    cases hx : x.1 with
    | false => simp only [Bool.false_eq_true, if_false]; omega
    | true =>
      obtain ⟨E, _, e2, e3, e4, e5, e6, e7, e8, e9, e10⟩ := hon hx
      rw [e2]
      simp only [if_true]
      unfold mtS cln
      simp only
      rw [lim_in (n := max _ _) (by omega), lim_in (n := min _ _) (by omega), if_neg (by omega)]
      simp only
      omega
  have hbad : ¬ badS x c.1 (rdd c1' 0) c2.1 := by
    unfold badS
    have : x.1 = true → x.2.2 ≤ c2.1 := fun hx => by
      obtain ⟨E, _, e2, e3, _⟩ := hon hx
      exact e3
    rintro (h | h | h | h | h | ⟨h, h'⟩)
    · omega
    · omega
    · omega
    · omega
    · omega
    · have := this h; omega
  refine ⟨?_, ⟨fun h => (by cases h), fun _ => ⟨c2, h2, Stp.refl _ _, rfl, hnew⟩⟩, ?_⟩
  · unfold mt
    rw [if_neg hbad, if_neg (by omega)]
  · unfold T50; omega

theorem kind2 (n a b : Int) : (if n = a then some true else some (decide (n = b))) = some (decide (n = a ∨ n = b)) := by
  by_cases h0 : n = a <;> simp [h0]
theorem ex_stp {M : Int} {c d : Cl} (hs : Stp M c d) (h : ∃ y, ix c.2.2 0 = some y) : ∃ y, ix d.2.2 0 = some y := by
  obtain ⟨y, hy⟩ := h
  rcases hs.el 0 with ⟨e1, _⟩ | ⟨_, z, _, e2, _⟩
  · rw [hy] at e1; cases e1
  · exact ⟨z, e2⟩
theorem played_eq (p0 p1 : Int) (p2 : List (Int × Int × Int)) : L15_played p0 p1 p2 = some (.inr ()) ∨ ∃ c x, L15_played p0 p1 p2 = some (.inl (c, x, true)) ∧ Inv p1 c ∧ Held p1 x c ∧ ∃ y, ix c.2.2 0 = some y := by
  unfold L15_played
  rcases new_eq [p0] p1 with h | ⟨h, hI, _⟩
  · left; rw [h]; rfl
  · right
    rw [h, Option.bind_some]
    simp only [altS]
    obtain ⟨e, h1, h2⟩ := loopW_ex (step := L15_played_l1 p1 p2)
      (fun s => ∃ (k : Nat) (x : Es) (c : Cl), k ≤ p2.length ∧ Inv p1 c ∧ Held p1 x c ∧ (∃ y, ix c.2.2 0 = some y) ∧ s = ((k : Int), x.1, x.2.1.1, x.2.1.2, x.2.2, c.1, c.2.1, c.2.2)) (fun s => p2.length - s.1.toNat)
      (fun e => ∃ (x : Es) (c : Cl), Inv p1 c ∧ Held p1 x c ∧ (∃ y, ix c.2.2 0 = some y) ∧ e = .inl (x.1, x.2.1.1, x.2.1.2, x.2.2, c.1, c.2.1, c.2.2)) (by
        rintro s ⟨k, ⟨xb, ⟨xl, xh⟩, xa⟩, ⟨a, b, c⟩, hk, hI, hH, hy, rfl⟩
        rw [L15_played_l1]
        by_cases hkl : k < p2.length ∧ k < 30
        · left
          rw [if_pos (by simp; omega)]
          have hg : p2[k]? = some p2[k] := List.getElem?_eq_getElem hkl.1
          generalize hd : p2[k] = d at *
          have fin : ∀ (x : Es) (c' : Cl), Inv p1 c' → Held p1 x c' → (∃ y, ix c'.2.2 0 = some y) → ∀ body, body = some (Sum.inl (x.1, x.2.1.1, x.2.1.2, x.2.2, c'.1, c'.2.1, c'.2.2)) →
              ∃ s', orR body (fun (x19, x20, x21, x22, x23, x24, x25) => some (Sum.inl (w64 ((k : Int) + 1), x19, x20, x21, x22, x23, x24, x25))) = (some (Sum.inl s') : Option ((Int × Bool × Int × Int × Int × Int × Int × (List (Int × Int × Int))) ⊕ ((Bool × Int × Int × Int × Int × Int × (List (Int × Int × Int))) ⊕ (((Int × Int × (List (Int × Int × Int))) × (Bool × (Int × Int) × Int) × Bool) ⊕ Unit)))) ∧ (∃ (k : Nat) (x : Es) (c : Cl), k ≤ p2.length ∧ Inv p1 c ∧ Held p1 x c ∧ (∃ y, ix c.2.2 0 = some y) ∧ s' = ((k : Int), x.1, x.2.1.1, x.2.1.2, x.2.2, c.1, c.2.1, c.2.2)) ∧ p2.length - s'.1.toNat < p2.length - (k : Int).toNat := by
            intro x c' hI' hH' hy' body hb
            refine ⟨(((k + 1 : Nat) : Int), x.1, x.2.1.1, x.2.1.2, x.2.2, c'.1, c'.2.1, c'.2.2), ?_, ⟨k + 1, x, c', by omega, hI', hH', hy', rfl⟩, by simp; omega⟩
            rw [hb]
            unfold orR
            simp only [Option.bind_some]
            rw [w64_id (by omega)]; rfl
          by_cases h1 : d.1 = 0 ∨ d.1 = 1
          · refine fin (xb, (xl, xh), xa) (tickS (a, b, c) d.2.1) (tick_inv hI _) (hH.stp (tick_stp hI _)) (ex_stp (tick_stp hI _) hy) _ ?_
            rw [ix_nat hg]
            simp only [Option.bind_some, kind2, tick_eq hI]
            rw [if_pos (by simpa using h1)]
          · by_cases h2 : d.1 = 2
            · refine fin (xb, (xl, xh), xa) (rateS (a, b, c) 0 d.2.1).2 (rate_inv hI _ _) (hH.stp (rate_stp hI _ _)) (ex_stp (rate_stp hI _ _) hy) _ ?_
              rw [ix_nat hg]
              simp only [Option.bind_some, kind2, rate_eq hI]
              rw [if_neg (by simpa using h1), if_pos h2]
            · by_cases h3 : d.1 = 3 ∨ d.1 = 4
              · have hm := hH.meet hI hy d.2.1 d.2.2
                have hI1 := tick_inv hI d.2.1
                have hI2 := tick_inv hI1 d.2.2
                have hs2 := (tick_stp hI d.2.1).trans (tick_stp hI1 d.2.2)
                refine fin _ (tickS (tickS (a, b, c) d.2.1) d.2.2) hI2 hm.2.1 (ex_stp hs2 hy) _ ?_
                rw [ix_nat hg]
                simp only [Option.bind_some, kind2, tick_eq hI, tick_eq hI1, read_eq hI1]
                rw [if_neg (by simpa using h1), if_neg h2, if_pos (by simpa using h3)]
                have t1 : T50 a := by have := hI.r0; have := hI.r1; unfold T50; simp only at *; omega
                have t4 : T50 (tickS (tickS (a, b, c) d.2.1) d.2.2).1 := by have := hI2.r0; have := hI2.r1; unfold T50; omega
                have e1 : clock_Clocks_Real (a, b, c) = a := rfl
                have e2 : clock_Clocks_Real (tickS (tickS (a, b, c) d.2.1) d.2.2) = (tickS (tickS (a, b, c) d.2.1) d.2.2).1 := rfl
                have t0 : T50 xa := hH.at50
                rw [e1, e2, meet_eq t1 hm.2.2 t4 t0, hm.1, Option.bind_some, if_neg (by simp)]
              · refine fin (xb, (xl, xh), xa) (a, b, c) hI hH hy _ ?_
                rw [ix_nat hg]
                simp only [Option.bind_some, kind2]
                rw [if_neg (by simpa using h1), if_neg h2, if_neg (by simpa using h3)]
        · right
          exact ⟨_, by rw [if_neg (by simp; omega)], (xb, (xl, xh), xa), (a, b, c), hI, hH, hy, rfl⟩) (0, false, 0, 0, 0, 0, p1, [p0].map f0) ⟨0, (false, (0, 0), 0), (0, p1, [p0].map f0), by omega, hI, ⟨fun _ => rfl, fun h => by cases h⟩, ⟨f0 p0, rfl⟩, rfl⟩
    obtain ⟨x, c, hI', hH', hy', rfl⟩ := h2
    exact ⟨c, x, by unfold orR; rw [h1]; rfl, hI', hH', hy'⟩

theorem SkewHolds_true (p0 : Int) (ok0 : (Lit.int .i64 p0).wf = true) (p1 : Int) (ok1 : (Lit.int .i64 p1).wf = true) (p2 : List (Int × Int × Int)) (ok2 : okL (okP (fun n => (Lit.int .i64 n).wf = true) (okP (fun n => (Lit.int .i64 n).wf = true) (fun n => (Lit.int .i64 n).wf = true))) p2) : L15_SkewHolds p0 p1 p2 = some true := by
  unfold L15_SkewHolds
  rcases played_eq p0 p1 p2 with h | ⟨c, x, h, hI, hH, hy⟩
  · rw [h, Option.bind_some]; simp only [altS]; exact bindT awake15
  · rw [h, Option.bind_some]
    simp only [altS, Bool.not_true, Bool.false_eq_true, if_false]
    have e1 : clock_Clocks_Real c = c.1 := rfl
    have tc : T50 c.1 := by have := hI.r0; have := hI.r1; unfold T50; omega
    rw [e1, on_eq tc hH.at50, Option.bind_some, empty_eq (onS_Cl _ _ _), apart_eq hI]
    cases hx : x.1 with
    | false =>
      have e2 : onS x c.1 p1 = (1, 0) := by unfold onS; rw [hx]; rfl
      rw [e2, if_pos (by decide)]
      simp only [Bool.not_false, if_true]
      rw [awake15]; rfl
    | true =>
      obtain ⟨D, _, e2, e3, e4, e5, e6, e7, e8, e9, e10⟩ := hH.on hI hx (Int.le_refl c.1) hI.r1
      have hb := apt_bd hI 0
      rw [e2, if_pos (by simp; omega)]
      simp only [Bool.not_true, Bool.false_eq_true, if_false, Option.bind_some]
      have hh : span_Has (x.2.1.1 - D, x.2.1.2 + D) (apt c 0) = true := by
        unfold span_Has
        rw [clean_eq]
        unfold cln span_limited
        simp only
        rw [lim_in (n := x.2.1.1 - D) (by omega), lim_in (n := x.2.1.2 + D) (by omega), if_neg (by omega)]
        simp; omega
      rw [if_pos hh, if_pos e3, awake15]; rfl

theorem rdd_ex {c : Cl} (h : ∃ y, ix c.2.2 0 = some y) : rdd c 0 = c.1 + apt c 0 := by
  obtain ⟨y, hy⟩ := h
  unfold rdd apt; rw [hy]
set_option maxRecDepth 100000 in
theorem SkewAims_true (p0 : Int) (ok0 : (Lit.int .i64 p0).wf = true) (p1 : Int) (ok1 : (Lit.int .i64 p1).wf = true) (p2 : List (Int × Int × Int)) (ok2 : okL (okP (fun n => (Lit.int .i64 n).wf = true) (okP (fun n => (Lit.int .i64 n).wf = true) (fun n => (Lit.int .i64 n).wf = true))) p2) (p3 : Int) (ok3 : (Lit.int .i64 p3).wf = true) (p4 : List Int) (ok4 : okL (fun n => (Lit.int .i64 n).wf = true) p4) : L15_SkewAims p0 p1 p2 p3 p4 = some true := by
  unfold L15_SkewAims
  rcases played_eq p0 p1 p2 with h | ⟨c, x, h, hI, hH, hy⟩
  · rw [h, Option.bind_some]; simp only [altS]; exact bindT awake15
  · rw [h, Option.bind_some]
    simp only [altS]
    have e1 : clock_Clocks_Real c = c.1 := rfl
    rw [e1]
    have c0 := hI.r0
    have c1 := hI.r1
    have m1 := hI.m1
    by_cases hc : x.1 = false ∨ p3 < 0 ∨ 400 < p3 ∨ 10 < (p4.length : Int) ∨ 549755813888 < c.1
    · rw [if_pos (by simpa using hc)]; exact bindT awake15
    · rw [if_neg (by simpa using hc), w64_id (by omega)]
      have hx : x.1 = true := by cases hx : x.1 with | true => rfl | false => exact absurd (.inl hx) hc
      rw [aim_eq (by unfold T50; omega) hH.at50, Option.bind_some]
      obtain ⟨D, hDd, e2, e3, e4, e5, e6, e7, e8, e9, e10⟩ := hH.on hI hx (t := c.1 + p3) (by omega) (by omega)
      have hcl := onS_Cl x (c.1 + p3) p1
      have hmd := mdS_bd hcl
      have ea : aimS x (c.1 + p3) p1 = (c.1 + p3 + mdS (onS x (c.1 + p3) p1), hfS (onS x (c.1 + p3) p1), true) := by
        unfold aimS; rw [if_neg (by rw [hx]; simp; omega)]
      rw [ea]
      simp only
      have hm2 := hmd.2.2.2 (by rw [e2]; simp only; omega)
      rw [e2] at hm2 hmd ⊢
      simp only at hm2
      generalize mdS (x.2.1.1 - D, x.2.1.2 + D) = mid at *
      generalize hfS (x.2.1.1 - D, x.2.1.2 + D) = half at *
      by_cases hh : 200 < half
      · rw [if_pos (by simpa using hh)]; simp [awake15]
      · rw [if_neg (by simpa using hh), read_eq hI, Option.bind_some, miss_eq, rdd_ex hy]
        have hms : missS half = 2 * half + 2 := by unfold missS; omega
        rw [hms]
        by_cases hr : c.1 + p3 + mid ≤ c.1 + apt c 0
        · rw [if_pos hr, w64_id (by omega), if_pos (by omega), awake15]; rfl
        · rw [if_neg hr]
          -- the offset at any time to come
          have hoff : ∀ d, Inv p1 d → Stp p1 c d → (d.1 ≤ c.1 + p3 → mid - half ≤ apt d 0 ∧ apt d 0 ≤ mid + half) ∧ (c.1 + p3 ≤ d.1 → mid - half - drf (d.1 - (c.1 + p3)) p1 ≤ apt d 0) := by
            intro d hd hs
            refine ⟨fun hle => ?_, fun hle => ?_⟩
            · obtain ⟨D2, f1, f2, f3, f4, f5, f6, f7, f8, f9, f10⟩ := (hH.stp hs).on hd hx (t := c.1 + p3) hle (by omega)
              have : D2 = D := by rw [f1, hDd]
              subst this
              omega
            · obtain ⟨D2, f1, f2, f3, f4, f5, f6, f7, f8, f9, f10⟩ := (hH.stp hs).on hd hx (t := d.1) (Int.le_refl _) hd.r1
              have hsum : D2 ≤ D + drf (d.1 - (c.1 + p3)) p1 := by
                rw [f1, hDd, show d.1 - x.2.2 = (c.1 + p3 - x.2.2) + (d.1 - (c.1 + p3)) by omega]
                have g1 := hd.r1
                have g2 : 0 ≤ x.2.2 := by
                  obtain ⟨cs, k1, k2, k3, _⟩ := hH.yes hx
                  rw [← k3]; exact k1.r0
                exact drf_add (by omega) (by omega) (by omega)
              omega
          have hlate : ∀ d, Inv p1 d → Stp p1 c d → d.1 = c.1 + p3 + (2 * half + 1) → c.1 + p3 + mid ≤ d.1 + apt d 0 := by
            intro d hd hs he
            have h1 := (hoff d hd hs).2 (by omega)
            have h2 := drf_half (k := 2 * half + 1) (m := p1) (by omega) m1
            rw [show d.1 - (c.1 + p3) = 2 * half + 1 by omega] at h1
            omega
          obtain ⟨e, g1, g2⟩ := loopW_ex (step := L15_SkewAims_l1 p3 p4 (c, x, true) (c.1 + p3 + mid, half, true))
            (fun s => ∃ (n : Nat) (d : Cl), Inv p1 d ∧ Stp p1 c d ∧ d.1 = c.1 + n ∧ d.1 ≤ c.1 + p3 + (2 * half + 1) ∧ s = ((n : Int), d.1, d.2.1, d.2.2)) (fun s => (10000 - s.1).toNat)
            (fun e => ∃ d : Cl, Inv p1 d ∧ Stp p1 c d ∧ c.1 + p3 + mid ≤ d.1 + apt d 0 ∧ d.1 ≤ c.1 + p3 + (2 * half + 1) ∧ e = (d.1, d.2.1, d.2.2)) (by
              rintro s ⟨n, ⟨da, db, dc⟩, hd, hs, hn, hle, rfl⟩
              simp only at hn hle
              have hdy := ex_stp hs hy
              have hab := apt_bd hd 0
              rw [L15_SkewAims_l1]
              simp only
              rw [miss_eq, hms, w64_id (x := 2 * (2 * half + 2)) (by omega), w64_id (x := 400 + _) (by omega), if_pos (by omega), read_eq hd, Option.bind_some, rdd_ex hdy, e1, w64_id (x := c.1 + p3) (by omega), w64_id (x := c.1 + p3 + (2 * half + 2)) (by omega)]
              simp only
              by_cases hq : da + apt (da, db, dc) 0 < c.1 + p3 + mid
              · left
                have hne : da ≠ c.1 + p3 + (2 * half + 1) := fun he => by have := hlate _ hd hs he; simp only at this; omega
                have e4 : clock_Clocks_Real (da, db, dc) = da := rfl
                rw [if_pos hq, e4, Option.bind_some, if_pos (by simp; omega)]
                obtain ⟨d2, hr2, hI2, hs2, hd1⟩ : ∃ d2 : Cl, (if 0 < (p4.length : Int) then (rmI (n : Int) (p4.length : Int)).bind fun x23 => (ix p4 x23).bind fun x24 => (clock_Clocks_Rate (da, db, dc) 0 x24).bind fun x25 => some (x25.2.1, x25.2.2.1, x25.2.2.2) else some (da, db, dc)) = some (d2.1, d2.2.1, d2.2.2) ∧ Inv p1 d2 ∧ Stp p1 (da, db, dc) d2 ∧ d2.1 = da := by
                  by_cases hl : 0 < (p4.length : Int)
                  · have hm1 : (n : Int).tmod (p4.length : Int) = (n : Int) % (p4.length : Int) := Int.tmod_eq_emod_of_nonneg (by omega)
                    have h3 := Int.emod_nonneg (n : Int) (show (p4.length : Int) ≠ 0 by omega)
                    have h4 := Int.emod_lt_of_pos (n : Int) hl
                    obtain ⟨r, hr, _⟩ := ix_getD h3 h4
                    refine ⟨(rateS (da, db, dc) 0 r).2, ?_, rate_inv hd _ _, rate_stp hd _ _, (rate_rdd (c := (da, db, dc)) 0 r 0).2.2⟩
                    unfold rmI
                    rw [if_pos hl, if_neg (by omega), Option.bind_some, hm1, hr, Option.bind_some, rate_eq hd, Option.bind_some]
                  · exact ⟨(da, db, dc), by rw [if_neg hl], hd, Stp.refl _ _, rfl⟩
                rw [hr2]
                simp only [Option.bind_some]
                have hI3 := tick_inv hI2 1
                have hs3 := tick_stp hI2 1
                have ht : (tickS d2 1).1 = da + 1 := by unfold tickS; rw [if_neg (by omega)]; simp only; omega
                refine ⟨(((n + 1 : Nat) : Int), (tickS d2 1).1, (tickS d2 1).2.1, (tickS d2 1).2.2), ?_, ⟨n + 1, tickS d2 1, hI3, hs.trans (hs2.trans hs3), by omega, by omega, rfl⟩, by simp only; omega⟩
                rw [show (d2.1, d2.2.1, d2.2.2) = d2 from rfl, tick_eq hI2, Option.bind_some, w64_id (by omega)]
                rfl
              · right
                exact ⟨_, by rw [if_neg hq, Option.bind_some, if_neg (by simp)], (da, db, dc), hd, hs, by simp only; omega, hle, rfl⟩) (0, c.1, c.2.1, c.2.2) ⟨0, c, hI, Stp.refl _ _, by omega, by omega, rfl⟩
          obtain ⟨⟨da, db, dc⟩, hd, hs, hq, hle, rfl⟩ := g2
          rw [g1, Option.bind_some]
          simp only at hq hle ⊢
          have hdy := ex_stp hs hy
          have hof := hoff _ hd hs
          simp only at hof
          have e4 : clock_Clocks_Real (da, db, dc) = da := rfl
          rw [read_eq hd, Option.bind_some, rdd_ex hdy, if_pos hq, e4, w64_id (x := c.1 + p3 - _) (by omega), if_pos (by
            rcases Int.lt_or_le (c.1 + p3) da with h | h
            · omega
            · have := hof.1 h; omega), w64_id (by omega), if_pos (by omega), awake15]
          rfl

theorem SkewAgain_true (p0 : Es) (ok0 : okP okT (okP (okP (fun n => (Lit.int .i64 n).wf = true) (fun n => (Lit.int .i64 n).wf = true)) (fun n => (Lit.int .i64 n).wf = true)) p0) (p1 : Int) (ok1 : (Lit.int .i64 p1).wf = true) (p2 : Int) (ok2 : (Lit.int .i64 p2).wf = true) (p3 : Int) (ok3 : (Lit.int .i64 p3).wf = true)
    (p4 : Int) (ok4 : (Lit.int .i64 p4).wf = true) : L15_SkewAgain p0 p1 p2 p3 p4 = some true := by
  unfold L15_SkewAgain
  by_cases hb : p0.2.2 < 0 ∨ 1099511627776 < p0.2.2 ∨ p3 < 0 ∨ 1099511627776 < p3 ∨ p1 < 0 ∨ p3 < p1 ∨ p2 < -1125899906842624 ∨ 1125899906842624 < p2
  · rw [if_pos (by simpa using hb)]; exact bindT awake15
  · rw [if_neg (by simpa using hb)]
    have e0 : ((L15_mine p0).1, ((L15_mine p0).2.1.1, (L15_mine p0).2.1.2), (L15_mine p0).2.2) = p0 := rfl
    have t0 : T50 p0.2.2 := by unfold T50; omega
    have t1 : T50 p1 := by unfold T50; omega
    have t2 : T50 p2 := by unfold T50; omega
    have t3 : T50 p3 := by unfold T50; omega
    rw [e0, meet_eq t1 t2 t3 t0, Option.bind_some]
    have hcl := newS_Cl p0 p1 p2 p3 p4
    by_cases hb2 : badS p0 p1 p2 p3
    · have e1 : mt p0 p1 p2 p3 p4 = (p0, 2) := by unfold mt; rw [if_pos hb2]
      rw [e1, if_pos (by simp)]
      simp [L15_mine, awake15]
    · by_cases hn : (newS p0 p1 p2 p3 p4).2 < (newS p0 p1 p2 p3 p4).1
      · have e1 : mt p0 p1 p2 p3 p4 = (p0, 16) := by unfold mt; rw [if_neg hb2, if_pos hn]
        rw [e1, if_pos (by simp)]
        simp [L15_mine, awake15]
      · have e1 : mt p0 p1 p2 p3 p4 = ((true, newS p0 p1 p2 p3 p4, p3), 0) := by unfold mt; rw [if_neg hb2, if_neg hn]
        rw [e1, if_neg (by simp)]
        simp only
        rw [meet_eq (e := (true, newS p0 p1 p2 p3 p4, p3)) t1 t2 t3 t3, Option.bind_some]
        have hfc := frS_Cl p1 p2 p3 p4
        have hoc := onS_Cl p0 p3 p4
        have hlo : (newS p0 p1 p2 p3 p4).1 ≤ (newS p0 p1 p2 p3 p4).2 := by omega
        -- the new one lies in both
        have hin : (frS p1 p2 p3 p4).1 ≤ (newS p0 p1 p2 p3 p4).1 ∧ (newS p0 p1 p2 p3 p4).2 ≤ (frS p1 p2 p3 p4).2 ∧ (p0.1 = true → (onS p0 p3 p4).1 ≤ (newS p0 p1 p2 p3 p4).1 ∧ (newS p0 p1 p2 p3 p4).2 ≤ (onS p0 p3 p4).2) := by
          unfold newS at *
          cases hx : p0.1 with
          | false => rw [hx] at hlo; simp at *
          | true =>
            rw [hx] at hlo hcl
            simp only [if_true] at *
            unfold mtS cln at *
            simp only at *
            by_cases hc : lim (min (frS p1 p2 p3 p4).2 (onS p0 p3 p4).2) < lim (max (frS p1 p2 p3 p4).1 (onS p0 p3 p4).1)
            · rw [if_pos hc] at hlo; simp at hlo
            · rw [if_neg hc] at hlo ⊢
              simp only [lim] at *
              rcases hfc with hf | hf <;> rcases hoc with ho | ho
              · rw [hf, ho] at *; simp only at *; omega
              · rw [hf] at *; simp only at *; omega
              · rw [ho] at *; simp only at *; omega
              · omega
        have hnb : -4503599627370496 ≤ (newS p0 p1 p2 p3 p4).1 ∧ (newS p0 p1 p2 p3 p4).2 ≤ 4503599627370496 := by
          rcases hcl with hq | hq
          · rw [hq] at hlo; simp at hlo
          · exact hq.2
        generalize hN : newS p0 p1 p2 p3 p4 = N at *
        have hon : onS (true, N, p3) p3 p4 = N := by
          unfold onS wid
          simp only [if_true]
          rw [drf_zero (by omega), lim_in (n := N.1) (by omega), lim_in (n := N.2) (by omega), if_neg (by omega), Int.sub_zero, Int.add_zero, lim_in (n := N.1) (by omega), lim_in (n := N.2) (by omega)]
        have hsub : ∀ q : Int × Int, q.1 ≤ N.1 → N.2 ≤ q.2 → mtS q N = N ∧ mtS N q = N := by
          intro q h1 h2
          unfold mtS cln
          rw [show max q.1 N.1 = N.1 by omega, show min q.2 N.2 = N.2 by omega, show max N.1 q.1 = N.1 by omega, show min N.2 q.2 = N.2 by omega]
          simp only
          rw [lim_in (n := N.1) (by omega), lim_in (n := N.2) (by omega), if_neg (by omega)]
          exact ⟨rfl, rfl⟩
        have hnew : newS (true, N, p3) p1 p2 p3 p4 = N := by
          unfold newS
          simp only [if_true]
          rw [hon]; exact (hsub _ hin.1 hin.2.1).1
        have hb3 : ¬ badS (true, N, p3) p1 p2 p3 := by unfold badS; simp; omega
        have e2 : mt (true, N, p3) p1 p2 p3 p4 = ((true, N, p3), 0) := by unfold mt; rw [if_neg hb3, hnew, if_neg (by omega)]
        have hw : ∀ q : Int × Int, q.1 ≤ N.1 → N.2 ≤ q.2 → span_Within N q = true := by
          intro q h1 h2
          unfold span_Within
          have e5 : span_Meet N q = mtS N q := rfl
          rw [e5, (hsub q h1 h2).2, clean_eq, hcl.cln]
          simp
        rw [e2, if_neg (by simp), fresh_eq t1 t2 t3, on_eq t3 t0]
        simp only [Option.bind_some]
        rw [if_pos (hw _ hin.1 hin.2.1)]
        cases hx : p0.1 with
        | false => simp [awake15]
        | true =>
          have := hin.2.2 hx
          rw [if_pos (hw _ this.1 this.2)]
          simp [awake15]
end Go.Proofs.Ytlapejeadapiiaa
