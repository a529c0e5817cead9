/- Clocks: what the functions answer, in plain words. Conditions: none. -/
import Derived.Test.YthmpfhjdodfchaaA1
import Derived.Test.YthmpfhjdodfchaaML
namespace Go.Proofs.Ythmpfhjdodfchaa
set_option linter.unusedVariables false
set_option linter.unusedSimpArgs false
open Go Go.RowKit

theorem tdm (n : Int) : (0 ≤ n ∧ Int.tdiv n 1000 = n / 1000 ∧ Int.tmod n 1000 = n % 1000) ∨ (n < 0 ∧ Int.tdiv n 1000 = -((-n) / 1000) ∧ Int.tmod n 1000 = -((-n) % 1000)) := by
  rcases Int.lt_or_le n 0 with h | h
  · right
    have e1 : Int.tdiv n 1000 = -(Int.tdiv (-n) 1000) := by rw [Int.neg_tdiv]; simp
    have e2 : Int.tmod n 1000 = -(Int.tmod (-n) 1000) := by rw [Int.neg_tmod]; simp
    rw [e1, e2, Int.tdiv_eq_ediv_of_nonneg (by omega), Int.tmod_eq_emod_of_nonneg (by omega)]
    exact ⟨h, rfl, rfl⟩
  · left
    rw [Int.tdiv_eq_ediv_of_nonneg h, Int.tmod_eq_emod_of_nonneg h]
    exact ⟨h, rfl, rfl⟩
theorem flr_eq {n : Int} (h : -4611686018427387904 ≤ n ∧ n ≤ 4611686018427387904) : clock_floorThousandth n = some (n / 1000) := by
  unfold clock_floorThousandth
  rcases tdm n with ⟨h0, e1, e2⟩ | ⟨h0, e1, e2⟩
  · rw [e1, e2, if_neg (by omega), Option.bind_some, w64_id (by omega)]
  · rw [e1, e2]
    by_cases h1 : (-n) % 1000 = 0
    · rw [if_neg (by omega), Option.bind_some, w64_id (by omega)]
      congr 1; omega
    · rw [if_pos (by omega), Option.bind_some, w64_id (x := -(-n / 1000)) (by omega), w64_id (by omega)]
      congr 1; omega
def drf (s m : Int) : Int := -((-(min (max m 0) 1000) * (min (max s 0) 1099511627776)) / 1000)
theorem mul_bd {a b x y : Int} (ha : 0 ≤ a ∧ a ≤ x) (hb : 0 ≤ b ∧ b ≤ y) : 0 ≤ a * b ∧ a * b ≤ x * y :=
  ⟨Int.mul_nonneg ha.1 hb.1, Int.mul_le_mul ha.2 hb.2 hb.1 (by omega)⟩
theorem drf_bd (s m : Int) : 0 ≤ drf s m ∧ drf s m ≤ 1099511627776 := by
  unfold drf
  have h := mul_bd (a := min (max m 0) 1000) (b := min (max s 0) 1099511627776) (x := 1000) (y := 1099511627776) (by omega) (by omega)
  rw [Int.neg_mul]
  generalize (min (max m 0) 1000 * min (max s 0) 1099511627776) = t at *
  omega
theorem drift_eq (s m : Int) : clock_Drift s m = some (drf s m) := by
  unfold clock_Drift
  have h := mul_bd (a := min (max m 0) 1000) (b := min (max s 0) 1099511627776) (x := 1000) (y := 1099511627776) (by omega) (by omega)
  have h2 := drf_bd s m
  unfold drf at *
  rw [w64_id (x := 0 - min (max m 0) 1000) (by omega), show 0 - min (max m 0) 1000 = -(min (max m 0) 1000) by omega]
  rw [Int.neg_mul] at *
  generalize (min (max m 0) 1000 * min (max s 0) 1099511627776) = t at *
  rw [w64_id (x := -t) (by omega), flr_eq (by omega), Option.bind_some, w64_id (by omega)]
  congr 1; omega

abbrev Ck := Int × Int × Int
abbrev Cl := Int × Int × List Ck
def f0 (x : Int) : Ck := (x, 0, 0)
structure Inv (M : Int) (c : Cl) : Prop where
  r0 : 0 ≤ c.1
  r1 : c.1 ≤ 1099511627776
  m : c.2.1 = M
  m0 : 0 ≤ M
  m1 : M ≤ 500
  len : c.2.2.length ≤ 8
  el : ∀ x ∈ c.2.2, -1048576 ≤ x.1 ∧ x.1 ≤ 1048576 ∧ -M ≤ x.2.1 ∧ x.2.1 ≤ M ∧ -(M * c.1) ≤ x.2.2 ∧ x.2.2 ≤ M * c.1
theorem Inv.mc {M : Int} {c : Cl} (h : Inv M c) : 0 ≤ M * c.1 ∧ M * c.1 ≤ 549755813888000 := mul_bd ⟨h.m0, h.m1⟩ ⟨h.r0, h.r1⟩
def apt (c : Cl) (i : Int) : Int := match ix c.2.2 i with | none => 0 | some x => x.1 + x.2.2 / 1000
def rdd (c : Cl) (i : Int) : Int := match ix c.2.2 i with | none => 0 | some x => c.1 + (x.1 + x.2.2 / 1000)
theorem ix_out {α : Type} {l : List α} {i : Int} (h : ¬ (0 ≤ i ∧ i < (l.length : Int))) : ix l i = none := by
  unfold ix
  split
  · exact List.getElem?_eq_none (by omega)
  · rfl
theorem ix_mem {α : Type} {l : List α} {i : Int} {x : α} (h : ix l i = some x) : x ∈ l := List.mem_of_getElem? (ix_lt h).2.2
theorem has_t {c : Cl} {i : Int} (h : 0 ≤ i ∧ i < (c.2.2.length : Int)) : clock_Clocks_has c i = true := by
  unfold clock_Clocks_has; simp [h.1, h.2]
theorem has_f {c : Cl} {i : Int} (h : ¬ (0 ≤ i ∧ i < (c.2.2.length : Int))) : clock_Clocks_has c i = false := by
  unfold clock_Clocks_has
  by_cases h1 : 0 ≤ i
  · simp [h1]; omega
  · simp [h1]
theorem apart_eq {M : Int} {c : Cl} (h : Inv M c) (i : Int) : clock_Clocks_Apart c i = some (apt c i) := by
  unfold clock_Clocks_Apart apt
  by_cases hi : 0 ≤ i ∧ i < (c.2.2.length : Int)
  · obtain ⟨x, hx, _⟩ := ix_getD hi.1 hi.2
    have he := h.el x (ix_mem hx)
    have hm := h.mc
    rw [has_t hi, hx]
    simp only [Bool.not_true, Bool.false_eq_true, if_false, Option.bind_some]
    rw [flr_eq (by omega), Option.bind_some, w64_id (by omega)]
  · rw [has_f hi, ix_out hi]; rfl
theorem read_eq {M : Int} {c : Cl} (h : Inv M c) (i : Int) : clock_Clocks_Read c i = some (rdd c i) := by
  unfold clock_Clocks_Read
  rw [apart_eq h]
  unfold rdd apt
  by_cases hi : 0 ≤ i ∧ i < (c.2.2.length : Int)
  · obtain ⟨x, hx, _⟩ := ix_getD hi.1 hi.2
    have he := h.el x (ix_mem hx)
    have hm := h.mc
    have h0 := h.r0
    have h1 := h.r1
    rw [has_t hi, hx]
    simp only [Bool.not_true, Bool.false_eq_true, if_false, Option.bind_some]
    rw [w64_id (by omega)]
  · rw [has_f hi, ix_out hi]; rfl
def adv (d : Int) (x : Ck) : Ck := (x.1, x.2.1, x.2.2 + d * x.2.1)
def tickS (c : Cl) (n : Int) : Cl := if n < 0 then c else (c.1 + min n (1099511627776 - c.1), c.2.1, c.2.2.map (adv (min n (1099511627776 - c.1))))
/-- A loop that turns each element of a row. -/
theorem loop_map {α β : Type} (l : List α) (f : α → α) (step : (Int × List α) → Option ((Int × List α) ⊕ β)) (fin : List α → β) (hl : l.length ≤ 1000000000)
    (hs : ∀ (k : Nat) (m : List α) (x : α), k < l.length → m[k]? = some x → l[k]? = some x → step ((k : Int), m) = some (.inl (w64 ((k : Int) + 1), setAt m (k : Int) (f x))))
    (he : ∀ m, step ((l.length : Int), m) = some (.inr (fin m))) : loopW step (0, l) = some (fin (l.map f)) := by
  refine loopW_is (fun s => ∃ k : Nat, k ≤ l.length ∧ s = ((k : Int), (l.take k).map f ++ l.drop k)) (fun s => l.length - s.1.toNat) _ ?_ _ ⟨0, by omega, by simp⟩
  rintro s ⟨k, hk, rfl⟩
  by_cases hkl : k < l.length
  · left
    have hlen : ((l.take k).map f).length = k := by simp; omega
    have hg : l[k]? = some l[k] := List.getElem?_eq_getElem hkl
    have hm : ((l.take k).map f ++ l.drop k)[k]? = some l[k] := by
      rw [List.getElem?_append_right (by omega), hlen, Nat.sub_self, List.getElem?_drop]; exact hg
    refine ⟨(((k + 1 : Nat) : Int), (l.take (k + 1)).map f ++ l.drop (k + 1)), ?_, ⟨k + 1, by omega, rfl⟩, by simp; omega⟩
    rw [hs k _ _ hkl hm hg, w64_id (by omega)]
    have e1 : setAt ((l.take k).map f ++ l.drop k) (k : Int) (f l[k]) = (l.take (k + 1)).map f ++ l.drop (k + 1) := by
      unfold setAt
      rw [Int.toNat_natCast, List.set_append_right _ _ (by omega), hlen, Nat.sub_self, List.drop_eq_getElem_cons hkl, List.set_cons_zero, List.take_succ_eq_append_getElem hkl, List.map_append, List.append_assoc]
      rfl
    rw [e1]; rfl
  · right
    have : k = l.length := by omega
    subst this
    rw [he, List.take_length, List.drop_length, List.append_nil]
theorem mul_sym {M d r : Int} (hd : 0 ≤ d) (h1 : -M ≤ r) (h2 : r ≤ M) : -(M * d) ≤ d * r ∧ d * r ≤ M * d := by
  have e1 := Int.mul_le_mul_of_nonneg_left h2 hd
  have e2 := Int.mul_le_mul_of_nonneg_left h1 hd
  rw [Int.mul_neg] at e2
  rw [Int.mul_comm M d]
  omega
theorem adv_bd {M : Int} {c : Cl} (h : Inv M c) {d : Int} (hd : 0 ≤ d ∧ d ≤ 1099511627776 - c.1) {x : Ck} (hx : x ∈ c.2.2) :
    -(M * d) ≤ d * x.2.1 ∧ d * x.2.1 ≤ M * d ∧ 0 ≤ M * d ∧ M * d ≤ 549755813888000 ∧ -(M * (c.1 + d)) ≤ x.2.2 + d * x.2.1 ∧ x.2.2 + d * x.2.1 ≤ M * (c.1 + d) := by
  have he := h.el x hx
  have h0 := h.r0
  have h1 := mul_sym hd.1 he.2.2.1 he.2.2.2.1
  have h2 := mul_bd (a := M) (b := d) (x := 500) (y := 1099511627776) ⟨h.m0, h.m1⟩ (by omega)
  rw [Int.mul_add]
  omega
theorem tick_eq {M : Int} {c : Cl} (h : Inv M c) (n : Int) : clock_Clocks_Tick c n = some (tickS c n) := by
  unfold clock_Clocks_Tick tickS
  by_cases hn : n < 0
  · rw [if_pos hn, if_pos hn]
  · rw [if_neg hn, if_neg hn]
    have h0 := h.r0
    have h1 := h.r1
    have hd : min n (w64 (1099511627776 - c.1)) = min n (1099511627776 - c.1) := by rw [w64_id (by omega)]
    refine loop_map c.2.2 (adv (min n (1099511627776 - c.1))) (clock_Clocks_Tick_l1 c n) (fun m => (c.1 + min n (1099511627776 - c.1), c.2.1, m)) (by have := h.len; omega) (fun k m x hk hm hx => ?_) (fun m => ?_)
    · rw [clock_Clocks_Tick_l1]
      have hb := adv_bd h (d := min n (1099511627776 - c.1)) (by omega) (List.mem_of_getElem? hx)
      have he := h.el x (List.mem_of_getElem? hx)
      have hmc := h.mc
      rw [if_pos (by omega), ix_nat hm, Option.bind_some, Option.bind_some, Option.bind_some, hd, w64_id (x := min n (1099511627776 - c.1) * x.2.1) (by omega), w64_id (x := x.2.2 + _) (by omega)]
      rfl
    · rw [clock_Clocks_Tick_l1, if_neg (by omega), hd, w64_id (by omega)]
theorem tick_inv {M : Int} {c : Cl} (h : Inv M c) (n : Int) : Inv M (tickS c n) := by
  unfold tickS
  by_cases hn : n < 0
  · rw [if_pos hn]; exact h
  · rw [if_neg hn]
    have h0 := h.r0
    have h1 := h.r1
    refine ⟨by show 0 ≤ c.1 + _; omega, by show c.1 + _ ≤ _; omega, h.m, h.m0, h.m1, by simpa using h.len, ?_⟩
    intro y hy
    obtain ⟨x, hx, rfl⟩ := List.mem_map.1 hy
    have hb := adv_bd h (d := min n (1099511627776 - c.1)) (by omega) hx
    have he := h.el x hx
    exact ⟨he.1, he.2.1, he.2.2.1, he.2.2.2.1, hb.2.2.2.2.1, hb.2.2.2.2.2⟩
def rateS (c : Cl) (i r : Int) : Int × Cl := match ix c.2.2 i with
  | none => (7, c)
  | some x => if r < -c.2.1 ∨ c.2.1 < r then (2, c) else (0, (c.1, c.2.1, setAt c.2.2 i (x.1, r, x.2.2)))
theorem rate_eq {M : Int} {c : Cl} (h : Inv M c) (i r : Int) : clock_Clocks_Rate c i r = some (rateS c i r) := by
  unfold clock_Clocks_Rate rateS
  by_cases hi : 0 ≤ i ∧ i < (c.2.2.length : Int)
  · obtain ⟨x, hx, _⟩ := ix_getD hi.1 hi.2
    have hm := h.m
    have hm0 := h.m0
    have hm1 := h.m1
    rw [has_t hi, hx]
    simp only [Bool.not_true, Bool.false_eq_true, if_false, Option.bind_some]
    rw [w64_id (by omega)]
    by_cases hr : r < -c.2.1 ∨ c.2.1 < r
    · rw [if_pos (by simp; omega), if_pos hr]
    · rw [if_neg (by simp; omega), if_neg hr]
  · rw [has_f hi, ix_out hi]; rfl
theorem rate_inv {M : Int} {c : Cl} (h : Inv M c) (i r : Int) : Inv M (rateS c i r).2 := by
  unfold rateS
  cases hx : ix c.2.2 i with
  | none => exact h
  | some x =>
    simp only
    by_cases hr : r < -c.2.1 ∨ c.2.1 < r
    · rw [if_pos hr]; exact h
    · rw [if_neg hr]
      refine ⟨h.r0, h.r1, h.m, h.m0, h.m1, by simpa [setAt] using h.len, ?_⟩
      intro y hy
      have hm := h.m
      rcases List.mem_or_eq_of_mem_set hy with hy | rfl
      · exact h.el y hy
      · have he := h.el x (ix_mem hx)
        simp only
        omega
theorem new_eq (l : List Int) (M : Int) : clock_New l M = some (.inr ()) ∨ (clock_New l M = some (.inl (0, M, l.map f0)) ∧ Inv M (0, M, l.map f0) ∧ 1 ≤ l.length) := by
  unfold clock_New
  by_cases hc : (l.length : Int) < 1 ∨ 8 < (l.length : Int) ∨ M < 0 ∨ 500 < M
  · left; rw [if_pos (by simpa using hc)]
  · rw [if_neg (by simpa using hc)]
    obtain ⟨e, h1, h2⟩ := loopW_ex (step := clock_New_l1 l) (fun s => ∃ k : Nat, k ≤ l.length ∧ s = ((k : Int), (l.take k).map f0) ∧ ∀ x ∈ l.take k, -1048576 ≤ x ∧ x ≤ 1048576) (fun s => l.length - s.1.toNat)
      (fun e => e = .inr (.inr ()) ∨ (e = .inl (l.map f0) ∧ ∀ x ∈ l, -1048576 ≤ x ∧ x ≤ 1048576)) (by
        rintro s ⟨k, hk, rfl, hb⟩
        by_cases hkl : k < l.length
        · have hg : l[k]? = some l[k] := List.getElem?_eq_getElem hkl
          rw [clock_New_l1, if_pos (by omega), ix_nat hg, Option.bind_some]
          by_cases hx : l[k] < -1048576 ∨ 1048576 < l[k]
          · right
            exact ⟨_, by rw [if_pos (by simpa using hx)], .inl rfl⟩
          · left
            refine ⟨(((k + 1 : Nat) : Int), (l.take (k + 1)).map f0), ?_, ⟨k + 1, by omega, rfl, ?_⟩, by simp; omega⟩
            · rw [if_neg (by simpa using hx), app_is (by simp; omega), Option.bind_some, w64_id (by omega), List.take_succ_eq_append_getElem hkl, List.map_append]
              rfl
            · intro x hm
              rw [List.take_succ_eq_append_getElem hkl] at hm
              rcases List.mem_append.1 hm with hm | hm
              · exact hb x hm
              · rw [List.mem_singleton.1 hm]; omega
        · right
          have : k = l.length := by omega
          subst this
          rw [List.take_length] at hb
          exact ⟨_, by rw [clock_New_l1, if_neg (by omega), List.take_length], .inr ⟨rfl, hb⟩⟩) (0, []) ⟨0, by omega, by simp, by simp⟩
    rw [h1]
    rcases h2 with rfl | ⟨rfl, hb⟩
    · left; rfl
    · right
      refine ⟨rfl, ⟨by simp, by simp, rfl, by omega, by omega, by simp; omega, ?_⟩, by omega⟩
      intro x hx
      obtain ⟨y, hy, rfl⟩ := List.mem_map.1 hx
      have := hb y hy
      simp only [f0]
      omega
/-- What comes behind. -/
structure Stp (M : Int) (c d : Cl) : Prop where
  r : c.1 ≤ d.1
  el : ∀ i, (ix c.2.2 i = none ∧ ix d.2.2 i = none) ∨ ∃ x y, ix c.2.2 i = some x ∧ ix d.2.2 i = some y ∧ y.1 = x.1 ∧ -(M * (d.1 - c.1)) ≤ y.2.2 - x.2.2 ∧ y.2.2 - x.2.2 ≤ M * (d.1 - c.1)
theorem Stp.refl (M : Int) (c : Cl) : Stp M c c := ⟨Int.le_refl _, fun i => by
  cases h : ix c.2.2 i with
  | none => exact .inl ⟨rfl, rfl⟩
  | some x => exact .inr ⟨x, x, rfl, rfl, rfl, by simp, by simp⟩⟩
theorem Stp.trans {M : Int} {c d e : Cl} (h : Stp M c d) (g : Stp M d e) : Stp M c e := ⟨Int.le_trans h.r g.r, fun i => by
  have e1 : M * (e.1 - c.1) = M * (e.1 - d.1) + M * (d.1 - c.1) := by rw [← Int.mul_add]; congr 1; omega
  rcases h.el i with ⟨h1, h2⟩ | ⟨x, y, h1, h2, h3, h4, h5⟩
  · rcases g.el i with ⟨g1, g2⟩ | ⟨x, y, g1, _⟩
    · exact .inl ⟨h1, g2⟩
    · rw [h2] at g1; cases g1
  · rcases g.el i with ⟨g1, g2⟩ | ⟨y', z, g1, g2, g3, g4, g5⟩
    · rw [h2] at g1; cases g1
    · rw [h2] at g1; cases g1
      exact .inr ⟨x, z, h1, g2, g3.trans h3, by omega, by omega⟩⟩
theorem ix_map {α β : Type} (f : α → β) (l : List α) (i : Int) : ix (l.map f) i = (ix l i).map f := by
  unfold ix; split <;> simp
theorem tick_stp {M : Int} {c : Cl} (h : Inv M c) (n : Int) : Stp M c (tickS c n) := by
  unfold tickS
  by_cases hn : n < 0
  · rw [if_pos hn]; exact Stp.refl M c
  · rw [if_neg hn]
    have h0 := h.r0
    have h1 := h.r1
    refine ⟨by show c.1 ≤ c.1 + _; omega, fun i => ?_⟩
    simp only [ix_map]
    cases hx : ix c.2.2 i with
    | none => exact .inl ⟨rfl, rfl⟩
    | some x =>
      have hb := adv_bd h (d := min n (1099511627776 - c.1)) (by omega) (ix_mem hx)
      refine .inr ⟨x, _, rfl, rfl, rfl, ?_, ?_⟩ <;> simp only [adv] <;> rw [show c.1 + min n (1099511627776 - c.1) - c.1 = min n (1099511627776 - c.1) by omega] <;> omega
theorem ix_set {α : Type} (l : List α) (i j : Int) (v x : α) (hi : ix l i = some x) : ix (setAt l i v) j = if i = j then some v else ix l j := by
  obtain ⟨h0, h1, _⟩ := ix_lt hi
  unfold ix setAt
  by_cases hj : 0 ≤ j
  · rw [if_pos hj]
    by_cases hij : i = j
    · subst hij; simp [h1]
    · rw [if_neg hij, if_pos hj, List.getElem?_set_ne (by omega)]
  · rw [if_neg hj, if_neg (by omega), if_neg hj]
theorem rate_stp {M : Int} {c : Cl} (h : Inv M c) (i r : Int) : Stp M c (rateS c i r).2 := by
  unfold rateS
  cases hx : ix c.2.2 i with
  | none => exact Stp.refl M c
  | some x =>
    simp only
    by_cases hr : r < -c.2.1 ∨ c.2.1 < r
    · rw [if_pos hr]; exact Stp.refl M c
    · rw [if_neg hr]
      refine ⟨Int.le_refl _, fun j => ?_⟩
      simp only [ix_set _ i j _ x hx]
      by_cases hij : i = j
      · subst hij
        rw [if_pos rfl]
        exact .inr ⟨x, _, hx, rfl, rfl, by simp, by simp⟩
      · rw [if_neg hij]
        have := (Stp.refl M c).el j
        simpa using this
theorem Stp.apt {M : Int} {c d : Cl} (hI : Inv M c) (hd : Inv M d) (h : Stp M c d) (i : Int) : apt d i - apt c i ≤ drf (d.1 - c.1) M ∧ apt c i - apt d i ≤ drf (d.1 - c.1) M := by
  have hb := drf_bd (d.1 - c.1) M
  have h0 := hI.m0
  have h1 := hI.m1
  have h2 := h.r
  have h3 := hI.r0
  have h4 := hd.r1
  unfold Go.Proofs.Ythmpfhjdodfchaa.apt
  rcases h.el i with ⟨e1, e2⟩ | ⟨x, y, e1, e2, e3, e4, e5⟩
  · rw [e1, e2]; simp only; omega
  · rw [e1, e2]
    simp only
    unfold drf
    rw [show min (max M 0) 1000 = M by omega, show min (max (d.1 - c.1) 0) 1099511627776 = d.1 - c.1 by omega, Int.neg_mul]
    generalize M * (d.1 - c.1) = t at *
    omega
theorem tick_rdd {M : Int} {c : Cl} (h : Inv M c) (n i : Int) : rdd c i ≤ rdd (tickS c n) i := by
  unfold tickS
  by_cases hn : n < 0
  · rw [if_pos hn]; exact Int.le_refl _
  · rw [if_neg hn]
    unfold rdd
    simp only [ix_map]
    have h0 := h.r0
    have h1 := h.r1
    have hm := h.m1
    cases hx : ix c.2.2 i with
    | none => exact Int.le_refl _
    | some x =>
      have hb := adv_bd h (d := min n (1099511627776 - c.1)) (by omega) (ix_mem hx)
      have h2 : M * min n (1099511627776 - c.1) ≤ 500 * min n (1099511627776 - c.1) := Int.mul_le_mul_of_nonneg_right hm (by omega)
      simp only [Option.map_some, adv]
      generalize M * min n (1099511627776 - c.1) = t at *
      generalize min n (1099511627776 - c.1) * x.2.1 = u at *
      omega
theorem rate_rdd {c : Cl} (j r i : Int) : rdd (rateS c j r).2 i = rdd c i ∧ apt (rateS c j r).2 i = apt c i ∧ (rateS c j r).2.1 = c.1 := by
  unfold rateS
  cases hx : ix c.2.2 j with
  | none => exact ⟨rfl, rfl, rfl⟩
  | some x =>
    simp only
    by_cases hr : r < -c.2.1 ∨ c.2.1 < r
    · rw [if_pos hr]; exact ⟨rfl, rfl, rfl⟩
    · rw [if_neg hr]
      unfold rdd apt
      simp only [ix_set _ j i _ x hx]
      by_cases hij : j = i
      · subst hij
        rw [if_pos rfl, hx]; exact ⟨rfl, rfl, trivial⟩
      · rw [if_neg hij]; exact ⟨rfl, rfl, trivial⟩
end Go.Proofs.Ythmpfhjdodfchaa
