/- Layer 14: three statements, in plain words. Conditions: none. -/
import Derived.Test.YthmpfhjdodfchaaMK
namespace Go.Proofs.Ythmpfhjdodfchaa
set_option linter.unusedVariables false
set_option linter.unusedSimpArgs false
open Go Go.RowKit

theorem awake14 : L14_awake = some true := by
  unfold L14_awake
  rcases new_eq [7] 500 with h | ⟨h, hI, _⟩
  · exfalso
    have hl : loopW (clock_New_l1 [7]) (0, []) = some (.inl [(7, 0, 0)]) := loopW_iff.2 ⟨2, by rfl⟩
    unfold clock_New at h
    rw [if_neg (by decide), hl] at h
    cases h
  · rw [h, Option.bind_some]
    simp only [altS]
    rw [rate_eq hI, Option.bind_some]
    have hI2 := rate_inv hI 0 (-500)
    rw [tick_eq hI2, Option.bind_some]
    have hI3 := tick_inv hI2 3
    rw [apart_eq hI3, read_eq hI3, drift_eq]
    decide +kernel
def deedS (c : Cl) (d : Int × Int × Int) : Cl := if d.1 = 0 ∨ d.1 = 1 ∨ d.1 = 2 then tickS c d.2.2 else if d.1 = 3 then (rateS c d.2.1 d.2.2).2 else c
theorem kind3 (n : Int) : (if n = 0 then some true else (if n = 1 then some true else some (decide (n = 2)))) = some (decide (n = 0 ∨ n = 1 ∨ n = 2)) := by
  by_cases h0 : n = 0
  · simp [h0]
  · by_cases h1 : n = 1 <;> simp [h0, h1]
theorem deed_eq {M a b : Int} {c : List Ck} (h : Inv M (a, b, c)) (l : List (Int × Int × Int)) (k : Nat) (x : Int × Int × Int) (hx : l[k]? = some x) :
    ((ix l (k : Int)).bind fun x22 => (if x22.1 = 0 then some true else (if x22.1 = 1 then some true else some (decide (x22.1 = 2)))).bind fun x23 => (if x23 = true then (ix l (k : Int)).bind fun x24 => (clock_Clocks_Tick (a, b, c) x24.2.2).bind fun x25 => some (x25.1, x25.2.1, x25.2.2) else (if x22.1 = 3 then (ix l (k : Int)).bind fun x26 => (ix l (k : Int)).bind fun x27 => (clock_Clocks_Rate (a, b, c) x26.2.1 x27.2.2).bind fun x28 => some (x28.2.1, x28.2.2.1, x28.2.2.2) else some (a, b, c)))) = some (deedS (a, b, c) x) := by
  unfold deedS
  rw [ix_nat hx]
  simp only [Option.bind_some, kind3, tick_eq h, rate_eq h]
  by_cases h1 : x.1 = 0 ∨ x.1 = 1 ∨ x.1 = 2
  · simp [h1]
  · by_cases h3 : x.1 = 3
    · simp [h3]
    · simp [h1, h3]
theorem deed_inv {M : Int} {c : Cl} (h : Inv M c) (x : Int × Int × Int) : Inv M (deedS c x) ∧ Stp M c (deedS c x) ∧ ∀ i, rdd c i ≤ rdd (deedS c x) i := by
  unfold deedS
  by_cases h1 : x.1 = 0 ∨ x.1 = 1 ∨ x.1 = 2
  · rw [if_pos h1]; exact ⟨tick_inv h _, tick_stp h _, tick_rdd h _⟩
  · rw [if_neg h1]
    by_cases h3 : x.1 = 3
    · rw [if_pos h3]; exact ⟨rate_inv h _ _, rate_stp h _ _, fun i => by rw [(rate_rdd _ _ _).1]; exact Int.le_refl _⟩
    · rw [if_neg h3]; exact ⟨h, Stp.refl M c, fun i => Int.le_refl _⟩
theorem apt_bd {M : Int} {c : Cl} (h : Inv M c) (i : Int) : -1100585369600 ≤ apt c i ∧ apt c i ≤ 1100585369600 := by
  unfold apt
  cases hx : ix c.2.2 i with
  | none => simp only; omega
  | some x =>
    have he := h.el x (ix_mem hx)
    have hm := h.mc
    simp only
    omega
theorem bindT {o : Option Bool} (h : o = some true) : (o.bind fun x => some x) = some true := by rw [h]; rfl

theorem ClockDrifts_true (p0 : List Int) (ok0 : okL (fun n => (Lit.int .i64 n).wf = true) p0) (p1 : Int) (ok1 : (Lit.int .i64 p1).wf = true) (p2 : List (Int × Int × Int)) (ok2 : okL (okP (fun n => (Lit.int .i64 n).wf = true) (okP (fun n => (Lit.int .i64 n).wf = true) (fun n => (Lit.int .i64 n).wf = true))) p2)
    (p3 : Int) (ok3 : (Lit.int .i64 p3).wf = true) (p4 : Int) (ok4 : (Lit.int .i64 p4).wf = true) : L14_ClockDrifts p0 p1 p2 p3 p4 = some true := by
  unfold L14_ClockDrifts
  rcases new_eq p0 p1 with h | ⟨h, hI, _⟩
  · rw [h, Option.bind_some]; exact bindT awake14
  · rw [h, Option.bind_some]
    simp only [altS]
    rw [apart_eq hI, Option.bind_some, read_eq hI, Option.bind_some]
    obtain ⟨e, h1, h2⟩ := loopW_ex (step := L14_ClockDrifts_l1 p1 p2 p3 p4)
      (fun s => ∃ (k : Nat) (cs c : Cl), k ≤ p2.length ∧ Inv p1 cs ∧ Inv p1 c ∧ Stp p1 cs c ∧ s = (cs.1, apt cs p3, rdd c p3, (k : Int), c.1, c.2.1, c.2.2)) (fun s => p2.length - s.2.2.2.1.toNat)
      (fun e => ∃ t, e = .inl t) (by
        rintro s ⟨k, cs, ⟨a, b, c⟩, hk, hIs, hI, hS, rfl⟩
        rw [L14_ClockDrifts_l1]
        by_cases hkl : k < p2.length ∧ k < 40
        · left
          have hg : p2[k]? = some p2[k] := List.getElem?_eq_getElem hkl.1
          obtain ⟨hI', hS', hR⟩ := deed_inv hI p2[k]
          have hd := deed_eq hI p2 k _ hg
          obtain ⟨a', b', c', he⟩ : ∃ a' b' c', deedS (a, b, c) p2[k] = (a', b', c') := ⟨_, _, _, rfl⟩
          rw [he] at hI' hS' hR hd
          have hR := hR p3
          obtain ⟨cs', hIs', hSs', hsn⟩ : ∃ cs', Inv p1 cs' ∧ Stp p1 cs' (a', b', c') ∧ (if (k : Int) = p4 then (clock_Clocks_Apart (a, b, c) p3).bind fun x18 => some ((clock_Clocks_Real (a, b, c)), x18) else some (cs.1, apt cs p3)) = some (cs'.1, apt cs' p3) := by
            by_cases h4 : (k : Int) = p4
            · exact ⟨(a, b, c), hI, hS', by rw [if_pos h4, apart_eq hI]; rfl⟩
            · exact ⟨cs, hIs, hS.trans hS', by rw [if_neg h4]⟩
          refine ⟨(cs'.1, apt cs' p3, rdd (a', b', c') p3, ((k + 1 : Nat) : Int), a', b', c'), ?_, ⟨k + 1, cs', (a', b', c'), by omega, hIs', hI', hSs', rfl⟩, by simp; omega⟩
          rw [if_pos (by simp; omega)]
          have ha := hSs'.apt hIs' hI' p3
          have b1 := apt_bd hIs' p3
          have b2 := apt_bd hI' p3
          have r1 : a ≤ a' := hS'.r
          have r2 : 0 ≤ cs'.1 := hIs'.r0
          have r3 : cs'.1 ≤ a' := hSs'.r
          have r4 : a' ≤ 1099511627776 := hI'.r1
          have hD := drf_bd (a' - cs'.1) p1
          simp only [hsn, hd, Option.bind_some]
          simp only [drift_eq, read_eq hI', apart_eq hI', Option.bind_some]
          have e1 : clock_Clocks_Real (a', b', c') = a' := rfl
          have e2 : clock_Clocks_Real (a, b, c) = a := rfl
          rw [e1, e2, w64_id (x := a' - cs'.1) (by omega), if_neg (by omega), if_neg (by omega), w64_id (x := apt (a', b', c') p3 - _) (by omega), w64_id (x := apt cs' p3 - _) (by omega), if_neg (by have := ha.1; simp only at this; omega)]
          have hno : ¬ (drf (a' - cs'.1) p1 < apt cs' p3 - apt (a', b', c') p3) := by have := ha.2; simp only at this; omega
          simp only [hno, decide_false, Option.bind_some, Bool.false_eq_true, if_false]
          rw [w64_id (by omega)]
          rfl
        · right
          exact ⟨.inl (a, b, c), by rw [if_neg (by simp; omega)], _, rfl⟩) (0, apt (0, p1, p0.map f0) p3, rdd (0, p1, p0.map f0) p3, 0, 0, p1, p0.map f0) ⟨0, (0, p1, p0.map f0), (0, p1, p0.map f0), by omega, hI, hI, Stp.refl _ _, rfl⟩
    obtain ⟨⟨t1, t2, t3⟩, rfl⟩ := h2
    unfold orR
    rw [h1]
    exact bindT awake14

theorem rflr (p : Int) (h : -1152921504606846976 ≤ p ∧ p ≤ 1152921504606846976) : r01_Floor p 1000 = some (p / 1000) := by
  unfold r01_Floor
  have hd : dvI .i64 p 1000 = some (Int.tdiv p 1000) := by
    unfold dvI
    rw [if_neg (by decide)]
    have : IntKind.i64.wrap (p.tdiv 1000) = p.tdiv 1000 := w64_id (by rcases tdm p with ⟨h0, e1, e2⟩ | ⟨h0, e1, e2⟩ <;> rw [e1] <;> omega)
    rw [this]
  rw [hd, Option.bind_some]
  rcases tdm p with ⟨h0, e1, e2⟩ | ⟨h0, e1, e2⟩
  · rw [e1, w64_id (by omega), if_neg (by omega), Option.bind_some]
  · rw [e1, w64_id (x := -(-p / 1000) * 1000) (by omega)]
    by_cases h1 : (-p) % 1000 = 0
    · rw [if_neg (by omega), Option.bind_some]; congr 1; omega
    · rw [if_pos (by omega), Option.bind_some, w64_id (by omega)]; congr 1; omega
theorem rdrift_eq (s m : Int) (hs : -9223372036854775808 ≤ s) (hm : -9223372036854775808 ≤ m) : r14_Drift s m = some (drf s m) := by
  unfold r14_Drift
  by_cases h : s < 0 ∨ m < 0
  · rw [if_pos (by simpa using h)]
    unfold drf
    rcases h with h | h
    · rw [show min (max s 0) 1099511627776 = 0 by omega]; simp
    · rw [show min (max m 0) 1000 = 0 by omega]; simp
  · rw [if_neg (by simpa using h)]
    have e1 : (if 1099511627776 < s then some 1099511627776 else some s) = some (min (max s 0) 1099511627776) := by
      by_cases hc : 1099511627776 < s
      · rw [if_pos hc]; congr 1; omega
      · rw [if_neg hc]; congr 1; omega
    have e2 : (if 1000 < m then some 1000 else some m) = some (min (max m 0) 1000) := by
      by_cases hc : 1000 < m
      · rw [if_pos hc]; congr 1; omega
      · rw [if_neg hc]; congr 1; omega
    rw [e1, Option.bind_some, e2, Option.bind_some]
    have hb := mul_bd (a := min (max s 0) 1099511627776) (b := min (max m 0) 1000) (x := 1099511627776) (y := 1000) (by omega) (by omega)
    have h2 := drf_bd s m
    unfold drf at *
    rw [Int.neg_mul, Int.mul_comm (min (max m 0) 1000)] at *
    generalize (min (max s 0) 1099511627776 * min (max m 0) 1000) = t at *
    rw [w64_id (x := t) (by omega), w64_id (x := 0 - t) (by omega), rflr _ (by omega), Option.bind_some, w64_id (by omega), show 0 - t = -t by omega]
    congr 1; omega
theorem ClockSpans_true (p0 : Int) (ok0 : (Lit.int .i64 p0).wf = true) (p1 : Int) (ok1 : (Lit.int .i64 p1).wf = true) (p2 : Int) (ok2 : (Lit.int .i64 p2).wf = true) : L14_ClockSpans p0 p1 p2 = some true := by
  unfold L14_ClockSpans
  have h0 := wf_i64 ok0
  have h1 := wf_i64 ok1
  have h2 := wf_i64 ok2
  rw [rdrift_eq _ _ h0.1 h2.1]
  simp only [drift_eq, Option.bind_some]
  have b0 := drf_bd p0 p2
  have b1 := drf_bd p1 p2
  rw [if_neg (by simp), if_neg (by omega)]
  have hmono : p0 ≤ p1 → ¬ drf p1 p2 < drf p0 p2 := by
    intro hle
    unfold drf
    have hm : min (max p2 0) 1000 * min (max p0 0) 1099511627776 ≤ min (max p2 0) 1000 * min (max p1 0) 1099511627776 := Int.mul_le_mul_of_nonneg_left (by omega) (by omega)
    rw [Int.neg_mul, Int.neg_mul]
    generalize min (max p2 0) 1000 * min (max p0 0) 1099511627776 = t at *
    generalize min (max p2 0) 1000 * min (max p1 0) 1099511627776 = u at *
    omega
  have e1 : (if p0 ≤ p1 then some (decide (drf p1 p2 < drf p0 p2)) else some false) = some false := by
    by_cases hle : p0 ≤ p1
    · rw [if_pos hle]; simp [hmono hle]
    · rw [if_neg hle]
  rw [e1, Option.bind_some, if_neg (by simp)]
  by_cases hc : p0 < 0 ∨ p1 < 0 ∨ 1073741824 < p0 ∨ 1073741824 < p1
  · rw [if_pos (by simpa using hc)]; exact bindT awake14
  · rw [if_neg (by simpa using hc), w64_id (x := p0 + p1) (by omega)]
    have b2 := drf_bd (p0 + p1) p2
    have hsum : drf (p0 + p1) p2 ≤ drf p0 p2 + drf p1 p2 ∧ drf p0 p2 + drf p1 p2 ≤ drf (p0 + p1) p2 + 1 := by
      unfold drf
      rw [show min (max p0 0) 1099511627776 = p0 by omega, show min (max p1 0) 1099511627776 = p1 by omega, show min (max (p0 + p1) 0) 1099511627776 = p0 + p1 by omega, Int.mul_add]
      rw [Int.neg_mul, Int.neg_mul]
      generalize min (max p2 0) 1000 * p0 = t at *
      generalize min (max p2 0) 1000 * p1 = u at *
      omega
    rw [w64_id (x := drf p0 p2 + drf p1 p2) (by omega), w64_id (x := drf (p0 + p1) p2 + 1) (by omega), if_pos hsum.1, if_pos hsum.2]
    rw [awake14]; rfl

theorem rate_len (c : Cl) (i r : Int) : (rateS c i r).2.2.2.length = c.2.2.length := by
  unfold rateS
  cases hx : ix c.2.2 i with
  | none => rfl
  | some x => simp only; split <;> simp [setAt]
theorem tick_len (c : Cl) (n : Int) : (tickS c n).2.2.length = c.2.2.length := by
  unfold tickS; split <;> simp
theorem tick_tick {M : Int} {c : Cl} (h : Inv M c) {a b : Int} (ha : 0 ≤ a) (hb : 0 ≤ b) : tickS (tickS c a) b = tickS c (a + b) := by
  have h0 := h.r0
  have h1 := h.r1
  unfold tickS
  rw [if_neg (by omega), if_neg (by omega), if_neg (by omega)]
  simp only [List.map_map]
  have e : min a (1099511627776 - c.1) + min b (1099511627776 - (c.1 + min a (1099511627776 - c.1))) = min (a + b) (1099511627776 - c.1) := by omega
  refine Prod.ext (by show _ = _; simp only; omega) (Prod.ext rfl ?_)
  simp only
  refine List.map_congr_left fun x _ => ?_
  simp only [Function.comp, adv]
  rw [← e, Int.add_mul]
  simp only [Prod.mk.injEq, true_and]
  omega
theorem ClockTicks_true (p0 : List Int) (ok0 : okL (fun n => (Lit.int .i64 n).wf = true) p0) (p1 : Int) (ok1 : (Lit.int .i64 p1).wf = true) (p2 : List Int) (ok2 : okL (fun n => (Lit.int .i64 n).wf = true) p2)
    (p3 : Int) (ok3 : (Lit.int .i64 p3).wf = true) (p4 : Int) (ok4 : (Lit.int .i64 p4).wf = true) : L14_ClockTicks p0 p1 p2 p3 p4 = some true := by
  unfold L14_ClockTicks
  rcases new_eq p0 p1 with h | ⟨h, hI, hl1⟩
  · rw [h]; exact bindT awake14
  · simp only [h, Option.bind_some, altS]
    have hlen : p0.length ≤ 8 := by have := hI.len; simpa using this
    by_cases hc : p3 < 0 ∨ p4 < 0 ∨ 1073741824 < p3 ∨ 1073741824 < p4
    · rw [if_pos (by simpa using hc)]; exact bindT awake14
    · rw [if_neg (by simpa using hc)]
      -- the rates
      obtain ⟨e, h1, h2⟩ := loopW_ex (step := L14_ClockTicks_l1 p0 p2)
        (fun s => ∃ (k : Nat) (c : Cl), k ≤ p0.length ∧ Inv p1 c ∧ c.1 = 0 ∧ c.2.2.length = p0.length ∧ s = ((k : Int), c.1, c.2.1, c.2.2, c.1, c.2.1, c.2.2)) (fun s => p0.length - s.1.toNat)
        (fun e => ∃ c : Cl, Inv p1 c ∧ c.1 = 0 ∧ c.2.2.length = p0.length ∧ e = .inl (c.1, c.2.1, c.2.2, c.1, c.2.1, c.2.2)) (by
          rintro s ⟨k, ⟨a, b, c⟩, hk, hI, h0, hl, rfl⟩
          rw [L14_ClockTicks_l1]
          by_cases hkl : k < p0.length ∧ k < p2.length
          · left
            have hg : p2[k]? = some p2[k] := List.getElem?_eq_getElem hkl.2
            refine ⟨(((k + 1 : Nat) : Int), (rateS (a, b, c) k p2[k]).2.1, (rateS (a, b, c) k p2[k]).2.2.1, (rateS (a, b, c) k p2[k]).2.2.2, (rateS (a, b, c) k p2[k]).2.1, (rateS (a, b, c) k p2[k]).2.2.1, (rateS (a, b, c) k p2[k]).2.2.2), ?_, ⟨k + 1, (rateS (a, b, c) k p2[k]).2, by omega, rate_inv hI _ _, ?_, by rw [rate_len]; exact hl, rfl⟩, by simp; omega⟩
            · rw [if_pos (by simp; omega), ix_nat hg]
              simp only [Option.bind_some, rate_eq hI]
              rw [if_neg (by simp), w64_id (by omega)]
              rfl
            · rw [(rate_rdd (c := (a, b, c)) (k : Int) p2[k] 0).2.2]; exact h0
          · right
            exact ⟨_, by rw [if_neg (by simp; omega)], (a, b, c), hI, h0, hl, rfl⟩) (0, 0, p1, p0.map f0, 0, p1, p0.map f0) ⟨0, (0, p1, p0.map f0), by omega, hI, rfl, by simp, rfl⟩
      obtain ⟨⟨a, b, c⟩, hI, h0, hl, rfl⟩ := h2
      simp only at h0 hl
      subst h0
      simp only [orR, h1, Option.bind_some]
      have hIa := tick_inv hI p3
      have hIb := tick_inv hIa p4
      rw [w64_id (by omega)]
      have hIy := tick_inv hI (p3 + p4)
      have heq := tick_tick hI (a := p3) (b := p4) (by omega) (by omega)
      simp only [tick_eq hI, tick_eq hIa, Option.bind_some, heq]
      have hyl : (tickS (0, b, c) (p3 + p4)).2.2.length = p0.length := by rw [tick_len]; exact hl
      have hyr : (tickS (0, b, c) (p3 + p4)).1 = p3 + p4 := by unfold tickS; rw [if_neg (by omega)]; simp only; omega
      generalize hY : tickS (0, b, c) (p3 + p4) = y at *
      -- read, and rates of nought
      obtain ⟨e, h3, h4⟩ := loopW_ex (step := L14_ClockTicks_l2 p0 y)
        (fun s => ∃ (k : Nat) (c : Cl), k ≤ p0.length ∧ Inv p1 c ∧ c.1 = y.1 ∧ c.2.2.length = p0.length ∧ (∀ i, rdd c i = rdd y i ∧ apt c i = apt y i) ∧ (∀ (j : Nat) x, j < k → c.2.2[j]? = some x → x.2.1 = 0) ∧ s = ((k : Int), c.1, c.2.1, c.2.2)) (fun s => p0.length - s.1.toNat)
        (fun e => ∃ c : Cl, Inv p1 c ∧ c.1 = y.1 ∧ c.2.2.length = p0.length ∧ (∀ i, rdd c i = rdd y i ∧ apt c i = apt y i) ∧ (∀ (j : Nat) x, c.2.2[j]? = some x → x.2.1 = 0) ∧ e = .inl (c.1, c.2.1, c.2.2)) (by
          rintro s ⟨k, ⟨a, b, c⟩, hk, hI, h0, hl, hR, hZ, rfl⟩
          simp only at h0 hl hR hZ
          rw [L14_ClockTicks_l2]
          by_cases hkl : k < p0.length
          · left
            obtain ⟨x, hx, _⟩ := ix_getD (l := c) (i := (k : Int)) (by omega) (by omega)
            have hr : rateS (a, b, c) k 0 = (0, (a, b, setAt c k (x.1, 0, x.2.2))) := by
              unfold rateS
              simp only [hx]
              have hm : b = p1 := hI.m
              have hm0 := hI.m0
              rw [if_neg (by omega)]
            have hI' := rate_inv hI k 0
            have hq := fun i => rate_rdd (c := (a, b, c)) k 0 i
            rw [hr] at hI' hq
            refine ⟨(((k + 1 : Nat) : Int), a, b, setAt c k (x.1, 0, x.2.2)), ?_, ⟨k + 1, (a, b, setAt c k (x.1, 0, x.2.2)), by omega, hI', h0, by simp [setAt, hl], fun i => ⟨((hq i).1).trans (hR i).1, ((hq i).2.1).trans (hR i).2⟩, ?_, rfl⟩, by simp; omega⟩
            · rw [if_pos (by omega)]
              simp only [read_eq hI, read_eq hIy, rate_eq hI, Option.bind_some, hr]
              rw [if_neg (by rw [(hR k).1]; simp)]
              simp only [Option.bind_some, ne_eq, not_true_eq_false, decide_false, Bool.false_eq_true, if_false]
              rw [w64_id (by omega)]; rfl
            · intro j z hj hz
              simp only [setAt, Int.toNat_natCast] at hz
              by_cases hjk : j = k
              · subst hjk
                rw [List.getElem?_set_self (by omega)] at hz
                cases hz; rfl
              · rw [List.getElem?_set_ne (by omega)] at hz
                exact hZ j z (by omega) hz
          · right
            have : k = p0.length := by omega
            subst this
            refine ⟨_, by rw [if_neg (by omega)], (a, b, c), hI, h0, hl, hR, fun j z hz => hZ j z ?_ hz, rfl⟩
            have := (List.getElem?_eq_some_iff.1 hz).1
            simp only at this
            omega) (0, y.1, y.2.1, y.2.2) ⟨0, y, by omega, hIy, rfl, hyl, fun i => ⟨rfl, rfl⟩, by intro j x hj; omega, rfl⟩
      obtain ⟨⟨a2, b2, c2⟩, hI2, h02, hl2, hR2, hZ2, rfl⟩ := h4
      simp only [h3, Option.bind_some, tick_eq hI2]
      have hIz := tick_inv hI2 p3
      have hap : ∀ i, apt (tickS (a2, b2, c2) p3) i = apt (a2, b2, c2) i := by
        intro i
        unfold tickS apt
        rw [if_neg (by omega)]
        simp only [ix_map]
        cases hx : ix c2 i with
        | none => rfl
        | some x =>
          have := hZ2 _ x (ix_lt hx).2.2
          simp [adv, this]
      have hzr : (tickS (a2, b2, c2) p3).1 = y.1 + p3 := by
        unfold tickS; rw [if_neg (by omega)]; simp only at h02 ⊢; omega
      have hl3 : loopW (L14_ClockTicks_l3 p0 y (tickS (a2, b2, c2) p3)) 0 = some (.inl ()) := by
        refine loopW_is (fun s => ∃ k : Nat, k ≤ p0.length ∧ s = (k : Int)) (fun s => p0.length - s.toNat) _ ?_ _ ⟨0, by omega, rfl⟩
        rintro s ⟨k, hk, rfl⟩
        rw [L14_ClockTicks_l3]
        by_cases hkl : k < p0.length
        · left
          refine ⟨((k + 1 : Nat) : Int), ?_, ⟨k + 1, by omega, rfl⟩, by simp; omega⟩
          rw [if_pos (by omega)]
          simp only [apart_eq hIz, apart_eq hIy, Option.bind_some]
          rw [if_neg (by rw [hap, (hR2 k).2]; simp), w64_id (by omega)]; rfl
        · right; rw [if_neg (by omega)]
      simp only [hl3, Option.bind_some]
      have e1 : clock_Clocks_Real (tickS (a2, b2, c2) p3) = y.1 + p3 := hzr
      have e2 : clock_Clocks_Real y = y.1 := rfl
      rw [e1, e2, w64_id (by omega), if_pos rfl, awake14]; rfl
end Go.Proofs.Ythmpfhjdodfchaa
