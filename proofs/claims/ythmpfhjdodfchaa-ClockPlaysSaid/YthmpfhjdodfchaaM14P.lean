/- Layer 14: clocks and those of the document. Conditions: none. -/
import Derived.Test.YthmpfhjdodfchaaMK
namespace Go.Proofs.Ythmpfhjdodfchaa
set_option linter.unusedVariables false
set_option linter.unusedSimpArgs false
open Go Go.RowKit
theorem awake14 : L14_awake = some true := by
  unfold L14_awake
  rcases new_eq [7] 500 with h | ⟨h, hI, _⟩
  · exfalso
    have hl : loopW (clock_New_l1 [7]) (0, []) = some (.inl [(7, 0, 0)]) := loopW_iff.2 ⟨2, by rfl⟩
    unfold clock_New at h
    rw [if_neg (by decide), hl] at h
    cases h
  · rw [h, Option.bind_some]
    simp only [altS]
    rw [rate_eq hI, Option.bind_some]
    have hI2 := rate_inv hI 0 (-500)
    rw [tick_eq hI2, Option.bind_some]
    have hI3 := tick_inv hI2 3
    rw [apart_eq hI3, read_eq hI3, drift_eq]
    decide +kernel
theorem kind3 (n : Int) : (if n = 0 then some true else (if n = 1 then some true else some (decide (n = 2)))) = some (decide (n = 0 ∨ n = 1 ∨ n = 2)) := by
  by_cases h0 : n = 0
  · simp [h0]
  · by_cases h1 : n = 1 <;> simp [h0, h1]
theorem bindT {o : Option Bool} (h : o = some true) : (o.bind fun x => some x) = some true := by rw [h]; rfl

theorem rflr (p : Int) (h : -1152921504606846976 ≤ p ∧ p ≤ 1152921504606846976) : r01_Floor p 1000 = some (p / 1000) := by
  unfold r01_Floor
  have hd : dvI .i64 p 1000 = some (Int.tdiv p 1000) := by
    unfold dvI
    rw [if_neg (by decide)]
    have : IntKind.i64.wrap (p.tdiv 1000) = p.tdiv 1000 := w64_id (by rcases tdm p with ⟨h0, e1, e2⟩ | ⟨h0, e1, e2⟩ <;> rw [e1] <;> omega)
    rw [this]
  rw [hd, Option.bind_some]
  rcases tdm p with ⟨h0, e1, e2⟩ | ⟨h0, e1, e2⟩
  · rw [e1, w64_id (by omega), if_neg (by omega), Option.bind_some]
  · rw [e1, w64_id (x := -(-p / 1000) * 1000) (by omega)]
    by_cases h1 : (-p) % 1000 = 0
    · rw [if_neg (by omega), Option.bind_some]; congr 1; omega
    · rw [if_pos (by omega), Option.bind_some, w64_id (by omega)]; congr 1; omega
theorem rdrift_eq (s m : Int) (hs : -9223372036854775808 ≤ s) (hm : -9223372036854775808 ≤ m) : r14_Drift s m = some (drf s m) := by
  unfold r14_Drift
  by_cases h : s < 0 ∨ m < 0
  · rw [if_pos (by simpa using h)]
    unfold drf
    rcases h with h | h
    · rw [show min (max s 0) 1099511627776 = 0 by omega]; simp
    · rw [show min (max m 0) 1000 = 0 by omega]; simp
  · rw [if_neg (by simpa using h)]
    have e1 : (if 1099511627776 < s then some 1099511627776 else some s) = some (min (max s 0) 1099511627776) := by
      by_cases hc : 1099511627776 < s
      · rw [if_pos hc]; congr 1; omega
      · rw [if_neg hc]; congr 1; omega
    have e2 : (if 1000 < m then some 1000 else some m) = some (min (max m 0) 1000) := by
      by_cases hc : 1000 < m
      · rw [if_pos hc]; congr 1; omega
      · rw [if_neg hc]; congr 1; omega
    rw [e1, Option.bind_some, e2, Option.bind_some]
    have hb := mul_bd (a := min (max s 0) 1099511627776) (b := min (max m 0) 1000) (x := 1099511627776) (y := 1000) (by omega) (by omega)
    have h2 := drf_bd s m
    unfold drf at *
    rw [Int.neg_mul, Int.mul_comm (min (max m 0) 1000)] at *
    generalize (min (max s 0) 1099511627776 * min (max m 0) 1000) = t at *
    rw [w64_id (x := t) (by omega), w64_id (x := 0 - t) (by omega), rflr _ (by omega), Option.bind_some, w64_id (by omega), show 0 - t = -t by omega]
    congr 1; omega
abbrev Rk := Int × Int × (Nat × List (Int × Int))
abbrev Rl := Int × Int × List Rk
def sm : List (Int × Int) → Int
  | [] => 0
  | p :: l => p.1 * p.2 + sm l
def sn : List (Int × Int) → Int
  | [] => 0
  | p :: l => p.1 + sn l
theorem sm_app : ∀ (l m : List (Int × Int)), sm (l ++ m) = sm l + sm m
  | [], m => by simp [sm]
  | p :: l, m => by rw [List.cons_append]; simp only [sm]; rw [sm_app l m]; omega
theorem sn_app : ∀ (l m : List (Int × Int)), sn (l ++ m) = sn l + sn m
  | [], m => by simp [sn]
  | p :: l, m => by rw [List.cons_append]; simp only [sn]; rw [sn_app l m]; omega
def Pok (M : Int) (l : List (Int × Int)) : Prop := ∀ p ∈ l, 0 ≤ p.1 ∧ -M ≤ p.2 ∧ p.2 ≤ M
theorem sm_bd {M : Int} (hM : 0 ≤ M) : ∀ {l : List (Int × Int)}, Pok M l → 0 ≤ sn l ∧ -(M * sn l) ≤ sm l ∧ sm l ≤ M * sn l
  | [], _ => by simp [sm, sn]
  | p :: l, h => by
    obtain ⟨h1, h2, h3⟩ := sm_bd hM (l := l) fun q hq => h q (List.mem_cons_of_mem _ hq)
    obtain ⟨g1, g2, g3⟩ := h p (List.mem_cons_self ..)
    obtain ⟨e1, e2⟩ := mul_sym g1 g2 g3
    simp only [sm, sn, Int.mul_add]
    omega
theorem Pok.take {M : Int} {l : List (Int × Int)} (h : Pok M l) (k : Nat) : Pok M (l.take k) := fun p hp => h p (List.mem_of_mem_take hp)
theorem sn_take {M : Int} {l : List (Int × Int)} (hM : 0 ≤ M) (h : Pok M l) (k : Nat) : sn (l.take k) ≤ sn l := by
  have e : sn l = sn (l.take k) + sn (l.drop k) := by rw [← sn_app, List.take_append_drop]
  have := (sm_bd hM (l := l.drop k) fun p hp => h p (List.mem_of_mem_drop hp)).1
  omega
/-- A clock of the program and one of the document. -/
structure Rc (M R : Int) (k : Nat) (x : Ck) (y : Rk) : Prop where
  a : y.1 = x.1
  b : y.2.1 = x.2.1
  fl : y.2.2.1 = 2
  s : sm y.2.2.2 = x.2.2
  len : y.2.2.2.length ≤ k
  ok : Pok M y.2.2.2
  n : sn y.2.2.2 ≤ R
structure Sim (M : Int) (k : Nat) (c : Cl) (d : Rl) : Prop where
  r : d.1 = c.1
  m : d.2.1 = c.2.1
  len : d.2.2.length = c.2.2.length
  el : ∀ (i : Nat) (x : Ck) (y : Rk), c.2.2[i]? = some x → d.2.2[i]? = some y → Rc M c.1 k x y
theorem Sim.get {M : Int} {k : Nat} {c : Cl} {d : Rl} (h : Sim M k c d) {i : Int} {x : Ck} (hx : ix c.2.2 i = some x) : ∃ y, ix d.2.2 i = some y ∧ Rc M c.1 k x y := by
  obtain ⟨h0, hk, hx'⟩ := ix_lt hx
  have hd : i.toNat < d.2.2.length := by rw [h.len]; exact hk
  refine ⟨d.2.2[i.toNat], ?_, h.el _ _ _ hx' (List.getElem?_eq_getElem hd)⟩
  unfold ix
  rw [if_pos h0]
  exact List.getElem?_eq_getElem hd
theorem rd12_2 : rd12 2 = some () := rfl
theorem own2_2 : own2 2 = some () := rfl
theorem rapart_eq {M : Int} {k : Nat} {c : Cl} {d : Rl} (hI : Inv M c) (h : Sim M k c d) (hk : k ≤ 1000) {i : Int} {x : Ck} (hx : ix c.2.2 i = some x) : r14_Clocks_Apart d i = some (apt c i) := by
  obtain ⟨y, hy, R⟩ := h.get hx
  have hmc := hI.mc
  have he := hI.el x (ix_mem hx)
  have hbd : ∀ j, -549755813888000 ≤ sm (y.2.2.2.take j) ∧ sm (y.2.2.2.take j) ≤ 549755813888000 := fun j => by
    have h1 := sm_bd hI.m0 (R.ok.take j)
    have h2 := sn_take hI.m0 R.ok j
    have h3 := Int.mul_le_mul_of_nonneg_left (Int.le_trans h2 R.n) hI.m0
    omega
  have hlen := R.len
  have hloop : loopW (r14_Clocks_Apart_l1 d i) (0, 0) = some (sm y.2.2.2) := by
    refine loopW_is (fun s => ∃ j : Nat, j ≤ y.2.2.2.length ∧ s = (sm (y.2.2.2.take j), (j : Int))) (fun s => y.2.2.2.length - s.2.toNat) _ ?_ _ ⟨0, by omega, by simp [sm]⟩
    rintro s ⟨j, hj, rfl⟩
    rw [r14_Clocks_Apart_l1, hy]
    simp only [Option.bind_some, R.fl, rd12_2]
    by_cases hjl : j < y.2.2.2.length
    · left
      have hg : y.2.2.2[j]? = some y.2.2.2[j] := List.getElem?_eq_getElem hjl
      have hs := hbd (j + 1)
      have hs0 := hbd j
      have hsn : sm (y.2.2.2.take (j + 1)) = sm (y.2.2.2.take j) + y.2.2.2[j].1 * y.2.2.2[j].2 := by
        rw [List.take_succ_eq_append_getElem hjl, sm_app]
        simp [sm]
      refine ⟨(sm (y.2.2.2.take (j + 1)), ((j + 1 : Nat) : Int)), ?_, ⟨j + 1, by omega, rfl⟩, by simp; omega⟩
      rw [if_pos (by omega), ix_nat hg]
      simp only [Option.bind_some]
      rw [w64_id (x := y.2.2.2[j].1 * y.2.2.2[j].2) (by omega), w64_id (x := sm _ + _) (by omega), w64_id (x := (j : Int) + 1) (by omega), hsn]
      rfl
    · right
      have : j = y.2.2.2.length := by omega
      subst this
      rw [if_neg (by omega), List.take_length]
  unfold r14_Clocks_Apart apt
  rw [hloop, hx]
  simp only [Option.bind_some]
  rw [hy, R.s]
  simp only [Option.bind_some]
  rw [rflr _ (by omega), Option.bind_some, R.a, w64_id (by omega)]
theorem is_eq {M : Int} {k : Nat} {c : Cl} {d : Rl} (h : Sim M k c d) (i : Int) : r14_Clocks_Is d i = clock_Clocks_has c i := by
  unfold r14_Clocks_Is clock_Clocks_has
  rw [h.len]
theorem rread_eq {M : Int} {k : Nat} {c : Cl} {d : Rl} (hI : Inv M c) (h : Sim M k c d) (hk : k ≤ 1000) (i : Int) : r14_Clocks_Read d i = some (rdd c i) := by
  unfold r14_Clocks_Read
  rw [is_eq h]
  unfold rdd
  by_cases hi : 0 ≤ i ∧ i < (c.2.2.length : Int)
  · obtain ⟨x, hx, _⟩ := ix_getD hi.1 hi.2
    have he := hI.el x (ix_mem hx)
    have hm := hI.mc
    have h0 := hI.r0
    have h1 := hI.r1
    rw [has_t hi, rapart_eq hI h hk hx]
    unfold apt
    rw [hx]
    simp only [Bool.not_true, Bool.false_eq_true, if_false, Option.bind_some]
    rw [h.r, w64_id (by omega)]
  · rw [has_f hi, ix_out hi]; rfl
theorem loop_mapL {α β : Type} (l : List α) (f : α → α) (step : (Int × List α) → Option ((Int × List α) ⊕ β)) (fin : List α → β) (hl : l.length ≤ 1000000000)
    (hs : ∀ (k : Nat) (m : List α) (x : α), k < l.length → m.length = l.length → m[k]? = some x → l[k]? = some x → step ((k : Int), m) = some (.inl (w64 ((k : Int) + 1), setAt m (k : Int) (f x))))
    (he : ∀ m, m.length = l.length → step ((l.length : Int), m) = some (.inr (fin m))) : loopW step (0, l) = some (fin (l.map f)) := by
  refine loopW_is (fun s => ∃ k : Nat, k ≤ l.length ∧ s = ((k : Int), (l.take k).map f ++ l.drop k)) (fun s => l.length - s.1.toNat) _ ?_ _ ⟨0, by omega, by simp⟩
  rintro s ⟨k, hk, rfl⟩
  have hml : ((l.take k).map f ++ l.drop k).length = l.length := by simp; omega
  by_cases hkl : k < l.length
  · left
    have hlen : ((l.take k).map f).length = k := by simp; omega
    have hg : l[k]? = some l[k] := List.getElem?_eq_getElem hkl
    have hm : ((l.take k).map f ++ l.drop k)[k]? = some l[k] := by
      rw [List.getElem?_append_right (by omega), hlen, Nat.sub_self, List.getElem?_drop]; exact hg
    refine ⟨(((k + 1 : Nat) : Int), (l.take (k + 1)).map f ++ l.drop (k + 1)), ?_, ⟨k + 1, by omega, rfl⟩, by simp; omega⟩
    rw [hs k _ _ hkl hml hm hg, w64_id (by omega)]
    have e1 : setAt ((l.take k).map f ++ l.drop k) (k : Int) (f l[k]) = (l.take (k + 1)).map f ++ l.drop (k + 1) := by
      unfold setAt
      rw [Int.toNat_natCast, List.set_append_right _ _ (by omega), hlen, Nat.sub_self, List.drop_eq_getElem_cons hkl, List.set_cons_zero, List.take_succ_eq_append_getElem hkl, List.map_append, List.append_assoc]
      rfl
    rw [e1]; rfl
  · right
    have : k = l.length := by omega
    subst this
    rw [he _ hml, List.take_length, List.drop_length, List.append_nil]
def advR (n : Int) (y : Rk) : Rk := (y.1, y.2.1, (2, y.2.2.2 ++ [(n, y.2.1)]))
theorem rtick_eq {M : Int} {k : Nat} {c : Cl} {d : Rl} (hI : Inv M c) (h : Sim M k c d) (hk : k ≤ 1000) (n : Int) : ∃ d', r14_Clocks_Tick d n = some d' ∧ Sim M (k + 1) (tickS c n) d' := by
  unfold r14_Clocks_Tick tickS
  by_cases hn : n < 0
  · rw [if_pos hn, if_pos hn]
    exact ⟨d, rfl, h.r, h.m, h.len, fun i x y h1 h2 => by
      have := h.el i x y h1 h2
      exact ⟨this.a, this.b, this.fl, this.s, by have := this.len; omega, this.ok, this.n⟩⟩
  · rw [if_neg hn, if_neg hn]
    have h0 := hI.r0
    have h1 := hI.r1
    have hlen := hI.len
    have e1 : (if (w64 (1099511627776 - d.1)) < n then some (w64 (1099511627776 - d.1)) else some n) = some (min n (1099511627776 - c.1)) := by
      rw [h.r, w64_id (by omega)]
      by_cases hc : 1099511627776 - c.1 < n
      · rw [if_pos hc]; congr 1; omega
      · rw [if_neg hc]; congr 1; omega
    rw [e1, Option.bind_some]
    obtain ⟨q, hq⟩ : ∃ q, q = min n (1099511627776 - c.1) := ⟨_, rfl⟩
    rw [← hq]
    have hq0 : 0 ≤ q ∧ q ≤ 1099511627776 - c.1 := by omega
    refine ⟨(w64 (d.1 + q), d.2.1, d.2.2.map (advR q)), ?_, ?_⟩
    · refine loop_mapL d.2.2 (advR q) (r14_Clocks_Tick_l1 d q) (fun m => (w64 (d.1 + q), d.2.1, m)) (by rw [h.len]; omega) (fun j m y hj hml hm hy => ?_) (fun m hml => ?_)
      · rw [r14_Clocks_Tick_l1]
        obtain ⟨x, hx⟩ : ∃ x, c.2.2[j]? = some x := ⟨_, List.getElem?_eq_getElem (by rw [← h.len]; exact hj)⟩
        have R := h.el j x y hx hy
        have hl := R.len
        have hjm : j < m.length := by omega
        rw [if_pos (by omega), ix_nat hm]
        simp only [Option.bind_some, R.fl, own2_2]
        rw [app_is (by simp; omega)]
        simp only [Option.bind_some]
        rw [ix_setAt (ix_nat hm)]
        simp only [Option.bind_some]
        rw [setAt_setAt]
        rfl
      · rw [r14_Clocks_Tick_l1, if_neg (by rw [hml]; omega)]
    · refine ⟨by show w64 (d.1 + q) = c.1 + q; rw [h.r, w64_id (by omega)], h.m, by simp [h.len], fun i x y hx hy => ?_⟩
      simp only [List.getElem?_map] at hx hy
      cases hx0 : c.2.2[i]? with
      | none => rw [hx0] at hx; cases hx
      | some x0 =>
        cases hy0 : d.2.2[i]? with
        | none => rw [hy0] at hy; cases hy
        | some y0 =>
          rw [hx0] at hx; rw [hy0] at hy
          simp only [Option.map_some, Option.some.injEq] at hx hy
          subst hx hy
          have R := h.el i x0 y0 hx0 hy0
          have he := hI.el x0 (List.mem_of_getElem? hx0)
          refine ⟨R.a, R.b, rfl, ?_, ?_, ?_, ?_⟩
          · show sm (y0.2.2.2 ++ [(q, y0.2.1)]) = x0.2.2 + q * x0.2.1
            rw [sm_app, R.s, R.b]; simp [sm]
          · have := R.len
            show (y0.2.2.2 ++ [(q, y0.2.1)]).length ≤ k + 1
            simp; exact this
          · intro p hp
            rcases List.mem_append.1 hp with hp | hp
            · exact R.ok p hp
            · rw [List.mem_singleton.1 hp]
              exact ⟨hq0.1, by rw [R.b]; exact he.2.2.1, by rw [R.b]; exact he.2.2.2.1⟩
          · have := R.n
            show sn (y0.2.2.2 ++ [(q, y0.2.1)]) ≤ c.1 + q
            rw [sn_app]; simp [sn]; exact this
theorem Sim.up {M : Int} {k : Nat} {c : Cl} {d : Rl} (h : Sim M k c d) : Sim M (k + 1) c d := ⟨h.r, h.m, h.len, fun i x y h1 h2 => by
  have := h.el i x y h1 h2
  exact ⟨this.a, this.b, this.fl, this.s, by have := this.len; omega, this.ok, this.n⟩⟩
theorem rrate_eq {M : Int} {k : Nat} {c : Cl} {d : Rl} (hI : Inv M c) (h : Sim M k c d) (i r : Int) (hr : -9223372036854775808 ≤ r ∧ r ≤ 9223372036854775807) : ∃ d', r14_Clocks_Rate d i r = some ((rateS c i r).1, d') ∧ Sim M (k + 1) (rateS c i r).2 d' := by
  unfold r14_Clocks_Rate rateS
  rw [is_eq h]
  by_cases hi : 0 ≤ i ∧ i < (c.2.2.length : Int)
  · obtain ⟨x, hx, _⟩ := ix_getD hi.1 hi.2
    obtain ⟨y, hy, R⟩ := h.get hx
    have hm := hI.m
    have hm0 := hI.m0
    have hm1 := hI.m1
    have hm2 := h.m
    rw [has_t hi, hx]
    simp only [Bool.not_true, Bool.false_eq_true, if_false]
    have hcond : (decide (d.2.1 < r) || (decide (d.2.1 < w64 (0 - r)) || decide (r < -500))) = decide (r < -c.2.1 ∨ c.2.1 < r) := by
      by_cases hmin : r = -9223372036854775808
      · subst hmin
        rw [show decide (-9223372036854775808 < -c.2.1 ∨ c.2.1 < -9223372036854775808) = true from decide_eq_true (by omega)]
        simp
      · rw [w64_id (by omega), hm2]
        by_cases hc : r < -c.2.1 ∨ c.2.1 < r
        · rw [decide_eq_true hc]
          simp; omega
        · rw [decide_eq_false hc]
          simp; omega
    rw [hcond]
    by_cases hc : r < -c.2.1 ∨ c.2.1 < r
    · rw [if_pos (decide_eq_true hc), if_pos hc]
      exact ⟨d, rfl, h.up⟩
    · rw [if_neg (by rw [decide_eq_false hc]; decide), if_neg hc, hy]
      simp only [Option.bind_some]
      refine ⟨_, rfl, h.r, h.m, by simp [setAt, h.len], fun j x' y' hx' hy' => ?_⟩
      obtain ⟨i0, ik, ig⟩ := ix_lt hx
      obtain ⟨_, jk, jg⟩ := ix_lt hy
      simp only [setAt] at hx' hy'
      by_cases hij : i.toNat = j
      · subst hij
        rw [List.getElem?_set_self ik] at hx'
        rw [List.getElem?_set_self jk] at hy'
        cases hx'; cases hy'
        exact ⟨R.a, rfl, R.fl, R.s, Nat.le_succ_of_le R.len, R.ok, R.n⟩
      · rw [List.getElem?_set_ne hij] at hx' hy'
        have := h.up.el j x' y' hx' hy'
        exact this
  · rw [has_f hi, ix_out hi]
    exact ⟨d, rfl, h.up⟩
theorem least_of {p : Nat → Prop} : (∃ n, p n) → ∃ n, p n ∧ ∀ m, m < n → ¬ p m := by
  rintro ⟨n, hn⟩
  induction n using Nat.strongRecOn with
  | _ n ih =>
    by_cases h : ∃ m, m < n ∧ p m
    · obtain ⟨m, h1, h2⟩ := h; exact ih m h1 h2
    · exact ⟨n, hn, fun m hm hp => h ⟨m, hm, hp⟩⟩
theorem rnew_eq (l : List Int) (M : Int) : (clock_New l M = some (.inr ()) ∧ r14_New l M = some (.inr ())) ∨ (clock_New l M = some (.inl (0, M, l.map f0)) ∧ r14_New l M = some (.inl (0, M, l.map fun s => (s, 0, (2, []))))) := by
  unfold clock_New r14_New
  by_cases hc : (l.length : Int) < 1 ∨ 8 < (l.length : Int) ∨ M < 0 ∨ 500 < M
  · left; rw [if_pos (by simpa using hc), if_pos (by simpa using hc)]; exact ⟨rfl, rfl⟩
  · rw [if_neg (by simpa using hc), if_neg (by simpa using hc)]
    by_cases hb : ∀ x ∈ l, -1048576 ≤ x ∧ x ≤ 1048576
    · right
      have e1 : loopW (clock_New_l1 l) (0, []) = some (.inl (l.map f0)) := by
        refine loopW_is (fun s => ∃ k : Nat, k ≤ l.length ∧ s = ((k : Int), (l.take k).map f0)) (fun s => l.length - s.1.toNat) _ ?_ _ ⟨0, by omega, by simp⟩
        rintro s ⟨k, hk, rfl⟩
        by_cases hkl : k < l.length
        · left
          have hg : l[k]? = some l[k] := List.getElem?_eq_getElem hkl
          have hx := hb _ (List.getElem_mem hkl)
          refine ⟨(((k + 1 : Nat) : Int), (l.take (k + 1)).map f0), ?_, ⟨k + 1, by omega, rfl⟩, by simp; omega⟩
          rw [clock_New_l1, if_pos (by omega), ix_nat hg, Option.bind_some, if_neg (by simp; omega), app_is (by simp; omega), Option.bind_some, w64_id (by omega), List.take_succ_eq_append_getElem hkl, List.map_append]
          rfl
        · right
          have : k = l.length := by omega
          subst this
          rw [clock_New_l1, if_neg (by omega), List.take_length]
      have e2 : loopW (r14_New_l1 l) (0, []) = some (.inl (l.map fun s => ((s, 0, (2, [])) : Rk))) := by
        refine loopW_is (fun s => ∃ k : Nat, k ≤ l.length ∧ s = ((k : Int), (l.take k).map fun s => ((s, 0, (2, [])) : Rk))) (fun s => l.length - s.1.toNat) _ ?_ _ ⟨0, by omega, by simp⟩
        rintro s ⟨k, hk, rfl⟩
        by_cases hkl : k < l.length
        · left
          have hg : l[k]? = some l[k] := List.getElem?_eq_getElem hkl
          have hx := hb _ (List.getElem_mem hkl)
          refine ⟨(((k + 1 : Nat) : Int), (l.take (k + 1)).map fun s => ((s, 0, (2, [])) : Rk)), ?_, ⟨k + 1, by omega, rfl⟩, by simp; omega⟩
          rw [r14_New_l1, if_pos (by omega), ix_nat hg]
          simp only [Option.bind_some]
          rw [if_neg (by omega)]
          simp only [Option.bind_some]
          rw [if_neg (by simp; omega), app_is (by simp; omega), Option.bind_some, w64_id (by omega), List.take_succ_eq_append_getElem hkl, List.map_append]
          rfl
        · right
          have : k = l.length := by omega
          subst this
          rw [r14_New_l1, if_neg (by omega), List.take_length]
      rw [e1, e2]
      exact ⟨rfl, rfl⟩
    · left
      obtain ⟨k, hk, hlow, hbad⟩ : ∃ k, ∃ hk : k < l.length, (∀ j, ∀ hj : j < k, -1048576 ≤ l[j] ∧ l[j] ≤ 1048576) ∧ (l[k] < -1048576 ∨ 1048576 < l[k]) := by
        have hex : ∃ k, ∃ hk : k < l.length, (l[k] < -1048576 ∨ 1048576 < l[k]) := by
          refine Classical.byContradiction fun hne => hb fun x hx => ?_
          obtain ⟨k, hk, rfl⟩ := List.getElem_of_mem hx
          refine Classical.byContradiction fun hq => hne ⟨k, hk, by omega⟩
        obtain ⟨k, ⟨hk, hbad⟩, hmin⟩ := least_of hex
        refine ⟨k, hk, fun j hj => ?_, hbad⟩
        have := hmin j hj
        refine Classical.byContradiction fun hq => this ⟨by omega, by omega⟩
      have e1 : loopW (clock_New_l1 l) (0, []) = some (.inr (.inr ())) := by
        refine loopW_is (fun s => ∃ j : Nat, j ≤ k ∧ s = ((j : Int), (l.take j).map f0)) (fun s => l.length - s.1.toNat) _ ?_ _ ⟨0, by omega, by simp⟩
        rintro s ⟨j, hj, rfl⟩
        have hjl : j < l.length := by omega
        have hg : l[j]? = some l[j] := List.getElem?_eq_getElem hjl
        rw [clock_New_l1, if_pos (by omega), ix_nat hg, Option.bind_some]
        by_cases hjk : j < k
        · left
          have hx := hlow j hjk
          refine ⟨(((j + 1 : Nat) : Int), (l.take (j + 1)).map f0), ?_, ⟨j + 1, by omega, rfl⟩, by simp; omega⟩
          rw [if_neg (by simp; omega), app_is (by simp; omega), Option.bind_some, w64_id (by omega), List.take_succ_eq_append_getElem hjl, List.map_append]
          rfl
        · right
          have : j = k := by omega
          subst this
          rw [if_pos (by simp; omega)]
      have e2 : loopW (r14_New_l1 l) (0, []) = some (.inr (.inr ())) := by
        refine loopW_is (fun s => ∃ j : Nat, j ≤ k ∧ s = ((j : Int), (l.take j).map fun s => ((s, 0, (2, [])) : Rk))) (fun s => l.length - s.1.toNat) _ ?_ _ ⟨0, by omega, by simp⟩
        rintro s ⟨j, hj, rfl⟩
        have hjl : j < l.length := by omega
        have hg : l[j]? = some l[j] := List.getElem?_eq_getElem hjl
        rw [r14_New_l1, if_pos (by omega), ix_nat hg]
        simp only [Option.bind_some]
        by_cases hjk : j < k
        · left
          have hx := hlow j hjk
          refine ⟨(((j + 1 : Nat) : Int), (l.take (j + 1)).map fun s => ((s, 0, (2, [])) : Rk)), ?_, ⟨j + 1, by omega, rfl⟩, by simp; omega⟩
          rw [if_neg (by omega)]
          simp only [Option.bind_some]
          rw [if_neg (by simp; omega), app_is (by simp; omega), Option.bind_some, w64_id (by omega), List.take_succ_eq_append_getElem hjl, List.map_append]
          rfl
        · right
          have : j = k := by omega
          subst this
          by_cases hlo : l[j] < -1048576
          · rw [if_pos hlo]; simp
          · rw [if_neg hlo]
            simp only [Option.bind_some]
            rw [if_pos (by simp; omega)]
      rw [e1, e2]
      exact ⟨rfl, rfl⟩
theorem sim0 (l : List Int) (M : Int) : Sim M 0 (0, M, l.map f0) (0, M, l.map fun s => (s, 0, (2, []))) :=
  ⟨rfl, rfl, by simp, fun i x y hx hy => by
    simp only [List.getElem?_map] at hx hy
    cases hl : l[i]? with
    | none => rw [hl] at hx; cases hx
    | some s =>
      rw [hl] at hx hy
      simp only [Option.map_some, Option.some.injEq] at hx hy
      subst hx hy
      exact ⟨rfl, rfl, rfl, rfl, by simp, fun p hp => by simp at hp, by simp [sn]⟩⟩
theorem kind3p {α : Type} (n : Int) (y : α) : (if n = 0 then some (true, y) else (if n = 1 then some (true, y) else some (decide (n = 2), y))) = some (decide (n = 0 ∨ n = 1 ∨ n = 2), y) := by
  by_cases h0 : n = 0
  · simp [h0]
  · by_cases h1 : n = 1 <;> simp [h0, h1]
theorem apt_out {c : Cl} {i : Int} (h : ¬ (0 ≤ i ∧ i < (c.2.2.length : Int))) : apt c i = 0 := by unfold apt; rw [ix_out h]
theorem ClockPlays_true (p0 : List Int) {A0 : Prop} (ok0 : A0) (p1 : Int) (ok1 : (Lit.int .i64 p1).wf = true) (p2 : List (Int × Int × Int)) (ok2 : okL (okP (fun n => (Lit.int .i64 n).wf = true) (okP (fun n => (Lit.int .i64 n).wf = true) (fun n => (Lit.int .i64 n).wf = true))) p2) :
    L14_ClockPlays p0 p1 p2 = some true := by
  unfold L14_ClockPlays
  rcases rnew_eq p0 p1 with ⟨h1, h2⟩ | ⟨h1, h2⟩
  · rw [h1, h2]
    simp only [Option.bind_some, altS]
    rw [awake14]; rfl
  · rcases new_eq p0 p1 with h | ⟨_, hI0, _⟩
    · rw [h] at h1; cases h1
    rw [h1, h2]
    simp only [Option.bind_some, altS]
    obtain ⟨e, h3, h4⟩ := loopW_ex (step := L14_ClockPlays_l1 p2)
      (fun s => ∃ (k : Nat) (c : Cl) (d : Rl), k ≤ p2.length ∧ k ≤ 60 ∧ Inv p1 c ∧ Sim p1 k c d ∧ s = ((k : Int), d.1, d.2.1, d.2.2, c.1, c.2.1, c.2.2)) (fun s => p2.length - s.1.toNat)
      (fun e => ∃ t, e = .inl t) (by
        rintro s ⟨k, ⟨a, b, c⟩, ⟨u, v, d⟩, hk, hk6, hI, hS, rfl⟩
        rw [L14_ClockPlays_l1]
        by_cases hkl : k < p2.length ∧ k < 60
        · left
          have hg : p2[k]? = some p2[k] := List.getElem?_eq_getElem hkl.1
          obtain ⟨x, hx⟩ : ∃ x, x = p2[k] := ⟨_, rfl⟩
          rw [← hx] at hg
          have hxi : ix p2 (k : Int) = some x := ix_nat hg
          have hok := ok2.2 x (List.mem_of_getElem? hg)
          obtain ⟨c', d', hdeed, hI', hS'⟩ : ∃ (c' : Cl) (d' : Rl), ((ix p2 (k : Int)).bind fun x26 => (if x26.1 = 0 then some (true, d) else (if x26.1 = 1 then some (true, d) else some (decide (x26.1 = 2), d))).bind fun (x27, x28) => (if x27 = true then (ix p2 (k : Int)).bind fun x29 => (clock_Clocks_Tick (a, b, c) x29.2.2).bind fun x30 => (ix p2 (k : Int)).bind fun x31 => (r14_Clocks_Tick (u, v, x28) x31.2.2).bind fun x32 => some ((.inl (x32.1, x32.2.1, x32.2.2, x30.1, x30.2.1, x30.2.2)) : (Int × Int × List Rk × Int × Int × List Ck) ⊕ ((Int × Int × Int × (List Rk) × Int × Int × (List Ck)) ⊕ ((Int × Int × (List Rk) × Int × Int × (List Ck)) ⊕ Bool))) else (if x26.1 = 3 then (ix p2 (k : Int)).bind fun x33 => (ix p2 (k : Int)).bind fun x34 => (ix p2 (k : Int)).bind fun x35 => (ix p2 (k : Int)).bind fun x36 => (clock_Clocks_Rate (a, b, c) x33.2.1 x34.2.2).bind fun x37 => (r14_Clocks_Rate (u, v, x28) x35.2.1 x36.2.2).bind fun x38 => (if x37.1 ≠ x38.1 then some (.inr (.inr (.inr false))) else some (.inl (x38.2.1, x38.2.2.1, x38.2.2.2, x37.2.1, x37.2.2.1, x37.2.2.2))) else some (.inl (u, v, x28, a, b, c))))) = some (.inl (d'.1, d'.2.1, d'.2.2, c'.1, c'.2.1, c'.2.2)) ∧ Inv p1 c' ∧ Sim p1 (k + 1) c' d' := by
            rw [hxi]
            simp only [Option.bind_some, kind3p]
            by_cases h1 : x.1 = 0 ∨ x.1 = 1 ∨ x.1 = 2
            · rw [if_pos (decide_eq_true h1), tick_eq hI, Option.bind_some]
              obtain ⟨d', hd, hS'⟩ := rtick_eq hI hS (by omega) x.2.2
              rw [hd, Option.bind_some]
              exact ⟨tickS (a, b, c) x.2.2, d', rfl, tick_inv hI _, hS'⟩
            · rw [if_neg (by rw [decide_eq_false h1]; decide)]
              by_cases h3 : x.1 = 3
              · rw [if_pos h3, rate_eq hI, Option.bind_some]
                obtain ⟨d', hd, hS'⟩ := rrate_eq hI hS x.2.1 x.2.2 (wf_i64 hok.2.2)
                rw [hd, Option.bind_some, if_neg (by simp)]
                exact ⟨(rateS (a, b, c) x.2.1 x.2.2).2, d', rfl, rate_inv hI _ _, hS'⟩
              · rw [if_neg h3]
                exact ⟨(a, b, c), (u, v, d), rfl, hI, hS.up⟩
          rw [if_pos (by simp; omega), hdeed]
          refine ⟨(((k + 1 : Nat) : Int), d'.1, d'.2.1, d'.2.2, c'.1, c'.2.1, c'.2.2), ?_, ⟨k + 1, c', d', by omega, by omega, hI', hS', rfl⟩, by simp; omega⟩
          obtain ⟨a', b', c'⟩ := c'
          obtain ⟨u', v', d'⟩ := d'
          unfold orR
          rw [Option.bind_some]
          simp only [hxi, Option.bind_some, read_eq hI', rread_eq hI' hS' (show k + 1 ≤ 1000 by omega), is_eq hS', apart_eq hI']
          have e1 : clock_Clocks_Real (a', b', c') = a' := rfl
          have e2 : u' = a' := hS'.r
          rw [e1, if_neg (by simp), if_neg (by rw [e2]; simp)]
          rw [show w64 ((k : Int) + 1) = ((k + 1 : Nat) : Int) from w64_id (by omega)]
          by_cases hi : 0 ≤ x.2.1 ∧ x.2.1 < (c'.length : Int)
          · have ht : clock_Clocks_has (a', b', c') x.2.1 = true := has_t (c := (a', b', c')) hi
            obtain ⟨z, hz, _⟩ := ix_getD hi.1 hi.2
            simp only [ht, if_true, rapart_eq hI' hS' (show k + 1 ≤ 1000 by omega) (show ix (a', b', c').2.2 x.2.1 = some z from hz), Option.bind_some, ne_eq, not_true, if_false, Bool.not_true, Bool.false_eq_true]
          · have ht : clock_Clocks_has (a', b', c') x.2.1 = false := has_f (c := (a', b', c')) hi
            have h0 : apt (a', b', c') x.2.1 = 0 := apt_out (c := (a', b', c')) hi
            simp only [ht, h0, Bool.false_eq_true, if_false, Bool.not_false, if_true, Option.bind_some, ne_eq, not_true, decide_false]
        · right
          exact ⟨.inl (u, v, d, a, b, c), by rw [if_neg (by simp; omega)], _, rfl⟩) (0, 0, p1, p0.map fun s => (s, 0, (2, [])), 0, p1, p0.map f0) ⟨0, (0, p1, p0.map f0), (0, p1, p0.map fun s => (s, 0, (2, []))), by omega, by omega, hI0, sim0 _ _, rfl⟩
    obtain ⟨⟨t1, t2, t3, t4, t5, t6⟩, rfl⟩ := h4
    unfold orR
    rw [h3, Option.bind_some]
    simp only []
    have o1 := (wf_i64 ok1).1
    rw [drift_eq, Option.bind_some, rdrift_eq _ _ o1 (by omega), Option.bind_some, if_pos rfl, awake14]
    rfl
end Go.Proofs.Ythmpfhjdodfchaa
