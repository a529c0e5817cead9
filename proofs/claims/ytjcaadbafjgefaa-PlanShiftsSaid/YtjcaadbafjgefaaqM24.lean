/- Layer 24: plans. Conditions: none. -/
import Derived.Test.YtjcaadbafjgefaaqM23
import Derived.Test.YtjcaadbafjgefaaqMO
namespace Go.Proofs.Ytjcaadbafjgefaa
set_option linter.unusedVariables false
set_option linter.unusedSimpArgs false
open Go Go.RowKit
/-! ### Rounds and switches -/
theorem asc_is {L : List Int} (hl : L.length ≤ 1000000) (hs : L.Pairwise (· ≤ ·)) : ∃ R, level_ascending L = some R ∧ R.Pairwise (· < ·) ∧ ∀ x, x ∈ R ↔ x ∈ L := by
  obtain ⟨R, h1, h2, h3⟩ := compact_is hl hs
  exact ⟨R, by unfold level_ascending; rw [sort_same hl hs, Option.bind_some, h1]; rfl, h2, h3⟩
open Classical in
/-- The numbers below 64 that a test lets pass. -/
noncomputable def nums (P : Int → Prop) : List Int := ((List.range 64).map fun (n : Nat) => (n : Int)).filter fun x => decide (P x)
open Classical in
theorem nums_mem {P : Int → Prop} {x : Int} : x ∈ nums P ↔ (0 ≤ x ∧ x < 64) ∧ P x := by
  unfold nums
  rw [List.mem_filter, List.mem_map]
  constructor
  · rintro ⟨⟨n, h1, h2⟩, h3⟩
    have := List.mem_range.1 h1
    exact ⟨by omega, of_decide_eq_true h3⟩
  · rintro ⟨h1, h2⟩
    exact ⟨⟨x.toNat, List.mem_range.2 (by omega), by omega⟩, decide_eq_true h2⟩
theorem nums_rise {P : Int → Prop} : (nums P).Pairwise (· < ·) := by
  unfold nums
  refine List.Pairwise.filter _ ?_
  rw [List.pairwise_map]
  exact List.pairwise_lt_range.imp fun h => by omega
/-- The rounds of moves; the switches with moves in a round. -/
noncomputable def rsOf (L : List Mv) : List Int := nums fun n => ∃ m ∈ L, m.2.2.2 = n
noncomputable def swOf (L : List Mv) (n : Int) : List Int := nums fun i => ∃ m ∈ L, m.2.2.2 = n ∧ m.1 = i
theorem rounds_is {L : List Mv} (hl : L.length ≤ 64) (hs : L.Pairwise (fun x y => mvlt x y = true)) (hr : ∀ m ∈ L, 0 ≤ m.2.2.2 ∧ m.2.2.2 < 64) : level_Rounds L = some (rsOf L) := by
  obtain ⟨Q, h1, h2⟩ := loop_cnt L.length (fun (s : List Int) (k : Nat) => (s, (k : Int))) (level_Rounds_l1 L) id (fun Q k => Q = (L.take k).map (·.2.2.2))
    (fun Q k hk hI => by
      have hb : Q.length ≤ 64 := by rw [hI, List.length_map, List.length_take]; omega
      refine ⟨Q ++ [L[k].2.2.2], ?_, by rw [hI, List.take_succ_eq_append_getElem hk, List.map_append]; rfl⟩
      rw [level_Rounds_l1, if_pos (by omega), ix_nat (List.getElem?_eq_getElem hk), Option.bind_some, app_is (by simp; omega), Option.bind_some, w64_id (by omega)]; rfl)
    (fun Q _ => by rw [level_Rounds_l1, if_neg (by omega)]; rfl) [] (by simp)
  have e1 : loopW (level_Rounds_l1 L) ([], 0) = some Q := h2
  rw [List.take_length] at h1
  have hsq : Q.Pairwise (· ≤ ·) := by
    rw [h1, List.pairwise_map]
    exact hs.imp fun h => by rw [mvlt_iff] at h; omega
  obtain ⟨R, r1, r2, r3⟩ := asc_is (by rw [h1, List.length_map]; omega) hsq
  have : R = rsOf L := rise_ext r2 nums_rise fun x => by
    rw [r3, h1, rsOf, nums_mem, List.mem_map]
    constructor
    · rintro ⟨m, hm, e⟩; have := hr m hm; exact ⟨by omega, m, hm, e⟩
    · rintro ⟨_, m, hm, e⟩; exact ⟨m, hm, e⟩
  unfold level_Rounds
  rw [e1, Option.bind_some, r1, this]; rfl
theorem switches_is {L : List Mv} (hl : L.length ≤ 64) (hs : L.Pairwise (fun x y => mvlt x y = true)) (hr : ∀ m ∈ L, 0 ≤ m.1 ∧ m.1 < 64) (n : Int) : plan_switches L n = some (swOf L n) := by
  obtain ⟨Q, h1, h2⟩ := loop_cnt L.length (fun (s : List Int) (k : Nat) => (s, (k : Int))) (plan_switches_l1 L n) id (fun Q k => Q = ((L.take k).filter fun m => decide (m.2.2.2 = n)).map (·.1))
    (fun Q k hk hI => by
      have hb : Q.length ≤ 64 := by
        rw [hI, List.length_map]
        exact Nat.le_trans (List.length_filter_le _ _) (by rw [List.length_take]; omega)
      by_cases c : L[k].2.2.2 = n
      · refine ⟨Q ++ [L[k].1], ?_, by rw [hI, List.take_succ_eq_append_getElem hk, List.filter_append, List.map_append]; simp [c]⟩
        rw [plan_switches_l1, if_pos (by omega), ix_nat (List.getElem?_eq_getElem hk), Option.bind_some, if_pos c, app_is (by simp; omega), Option.bind_some, Option.bind_some, w64_id (by omega)]; rfl
      · refine ⟨Q, ?_, by rw [hI, List.take_succ_eq_append_getElem hk, List.filter_append, List.map_append]; simp [c]⟩
        rw [plan_switches_l1, if_pos (by omega), ix_nat (List.getElem?_eq_getElem hk), Option.bind_some, if_neg c, Option.bind_some, w64_id (by omega)]; rfl)
    (fun Q _ => by rw [plan_switches_l1, if_neg (by omega)]; rfl) [] (by simp)
  have e1 : loopW (plan_switches_l1 L n) ([], 0) = some Q := h2
  rw [List.take_length] at h1
  have hsq : Q.Pairwise (· ≤ ·) := by
    rw [h1, List.pairwise_map]
    refine List.Pairwise.imp_of_mem ?_ (hs.filter _)
    intro a b ha hb h
    have h1 := of_decide_eq_true (List.mem_filter.1 ha).2
    have h2 := of_decide_eq_true (List.mem_filter.1 hb).2
    rw [mvlt_iff] at h; omega
  have hql : Q.length ≤ 64 := by
    rw [h1, List.length_map]
    exact Nat.le_trans (List.length_filter_le _ _) hl
  obtain ⟨R, r1, r2, r3⟩ := compact_is (by omega) hsq
  have : R = swOf L n := rise_ext r2 nums_rise fun x => by
    rw [r3, h1, swOf, nums_mem, List.mem_map]
    constructor
    · rintro ⟨m, hm, e⟩
      obtain ⟨k1, k2⟩ := List.mem_filter.1 hm
      have := hr m k1
      exact ⟨by omega, m, k1, of_decide_eq_true k2, e⟩
    · rintro ⟨_, m, hm, e, e2⟩; exact ⟨m, List.mem_filter.2 ⟨hm, decide_eq_true e⟩, e2⟩
  unfold plan_switches
  rw [e1, Option.bind_some, sort_same (by omega) hsq, Option.bind_some, r1, this]; rfl
/-! ### Times -/
theorem slow_bd {t : Tp} (hok : OkT t) : ∃ s, topo_Slowest t = some s ∧ 0 ≤ s ∧ s ≤ 1000 := by
  have h8 := hok.1
  obtain ⟨s, h1, h2⟩ := loop_cnt t.2.1.length (fun (s : Int) (k : Nat) => (s, (k : Int))) (topo_Slowest_l1 t) id (fun s k => 0 ≤ s ∧ s ≤ 1000)
    (fun s k hk hI => by
      have hl := (hok.2.1 _ (List.getElem_mem hk)).2.2.2.1
      refine ⟨max s t.2.1[k].2.2.2.2.2, ?_, by omega⟩
      rw [topo_Slowest_l1, if_pos (by omega), ix_nat (List.getElem?_eq_getElem hk), Option.bind_some, w64_id (by omega)]; rfl)
    (fun s _ => by rw [topo_Slowest_l1, if_neg (by omega)]; rfl) 0 (by omega)
  have e1 : loopW (topo_Slowest_l1 t) (0, 0) = some s := h2
  exact ⟨s, by unfold topo_Slowest; rw [e1]; rfl, h1⟩
noncomputable def lifeOf (t : Tp) : Int := t.1 * (topo_Slowest t).getD 0
theorem life_is {t : Tp} (hok : OkT t) : plan_Life t = some (lifeOf t) ∧ 0 ≤ lifeOf t ∧ lifeOf t ≤ 8000 := by
  obtain ⟨s, e, h0, h1⟩ := slow_bd hok
  have h8 := hok.1
  have hL : lifeOf t = t.1 * s := by unfold lifeOf; rw [e]; rfl
  have b1 : 0 ≤ t.1 * s := Int.mul_nonneg (by omega) h0
  have b2 : t.1 * s ≤ 8 * 1000 := Int.mul_le_mul (by omega) h1 h0 (by omega)
  rw [hL]
  refine ⟨?_, b1, by omega⟩
  unfold plan_Life
  rw [e, Option.bind_some, w64_id (by omega)]
theorem gap_is {t : Tp} (hok : OkT t) {miss : Int} (hm : 0 ≤ miss ∧ miss ≤ 1048576) : plan_Gap t miss = some (2 * miss + lifeOf t + 1) := by
  obtain ⟨h1, h2, h3⟩ := life_is hok
  unfold plan_Gap
  rw [h1, Option.bind_some, w64_id (x := 2 * miss) (by omega), w64_id (x := 2 * miss + lifeOf t) (by omega), w64_id (by omega)]
/-! ### A chain of constraints -/
def chn (gap : Int) (n : Nat) : List (Int × Int × Int) := (List.range n).map fun (k : Nat) => ((k : Int), ((k + 1 : Nat) : Int), gap)
def tms (gap : Int) (n m : Nat) : List Int := (List.range n).map fun (k : Nat) => if k ≤ m then (k : Int) * gap else 0
theorem chn_get {gap : Int} {n k : Nat} (h : k < n) : ix (chn gap n) (k : Int) = some ((k : Int), ((k + 1 : Nat) : Int), gap) := ix_nat (by unfold chn; simp [h])
theorem tms_get {gap : Int} {n m k : Nat} (h : k < n) : ix (tms gap n m) (k : Int) = some (if k ≤ m then (k : Int) * gap else 0) := ix_nat (by unfold tms; simp [h])
theorem tms_set {gap : Int} {n m : Nat} (h : m + 1 < n) : setAt (tms gap n m) ((m + 1 : Nat) : Int) (((m + 1 : Nat) : Int) * gap) = tms gap n (m + 1) := by
  unfold setAt tms
  apply List.ext_getElem
  · simp
  · intro i h1 h2
    simp only [Int.toNat_natCast, List.length_set, List.length_map, List.length_range] at h1
    rw [List.getElem_set]
    by_cases c : m + 1 = i
    · subst c
      simp
    · simp only [Int.toNat_natCast, if_neg c, List.getElem_map, List.getElem_range]
      by_cases d : i ≤ m
      · rw [if_pos d, if_pos (by omega)]
      · rw [if_neg d, if_neg (by omega)]
theorem mul_bd {k gap : Int} {b : Int} (hk : 0 ≤ k ∧ k ≤ 64) (hg : 0 ≤ gap ∧ gap ≤ b) : 0 ≤ k * gap ∧ k * gap ≤ 64 * b :=
  ⟨Int.mul_nonneg hk.1 hg.1, Int.mul_le_mul hk.2 hg.2 hg.1 (by omega)⟩
theorem chain_one {gap : Int} (hg : 1 ≤ gap ∧ gap ≤ 1073741824) {n : Nat} (hn : 2 ≤ n) (hn2 : n ≤ 64) : ∀ (d i : Nat) (c : List Int) (ch : Bool), i + d = n - 1 → c.length = n → (0 < i → ch = true) →
    ∃ c', loopW (diff_solve_l2 (n : Int) (chn gap (n - 1)) 1) (ch, (i : Int), tms gap n i, c) = some (.inl (true, tms gap n (n - 1), c')) ∧ c'.length = n := by
  intro d
  have hlen : (chn gap (n - 1)).length = n - 1 := by unfold chn; simp
  induction d with
  | zero =>
    intro i c ch h1 h2 h3
    refine ⟨c, loopW_end ?_, h2⟩
    rw [diff_solve_l2, if_neg (by omega), h3 (by omega), show i = n - 1 by omega]
  | succ d ih =>
    intro i c ch h1 h2 h3
    have hb := mul_bd (k := (i : Int)) (gap := gap) (b := 1073741824) (by omega) (by omega)
    have hxi : ix (tms gap n i) (i : Int) = some ((i : Int) * gap) := by rw [tms_get (by omega), if_pos (Nat.le_refl _)]
    have hxj : ix (tms gap n i) ((i + 1 : Nat) : Int) = some 0 := by rw [tms_get (by omega), if_neg (by omega)]
    have hci : ix c ((i + 1 : Nat) : Int) = some (c[i + 1]'(by omega)) := ix_nat (List.getElem?_eq_getElem _)
    have hs : w64 ((i : Int) * gap + gap) = ((i + 1 : Nat) : Int) * gap := by
      rw [w64_id (by omega), show ((i + 1 : Nat) : Int) = (i : Int) + 1 by omega, Int.add_mul, Int.one_mul]
    have hpos : ¬ ((i + 1 : Nat) : Int) * gap ≤ 0 := by
      rw [show ((i + 1 : Nat) : Int) = (i : Int) + 1 by omega, Int.add_mul, Int.one_mul]; omega
    have hst : diff_solve_l2 (n : Int) (chn gap (n - 1)) 1 (ch, (i : Int), tms gap n i, c) = some (.inl (true, ((i + 1 : Nat) : Int), tms gap n (i + 1), setAt c ((i + 1 : Nat) : Int) (i : Int))) := by
      rw [diff_solve_l2, if_pos (by omega), chn_get (by omega), Option.bind_some]
      simp only []
      rw [hxi, Option.bind_some, hxj, Option.bind_some, hs, if_neg hpos, Option.bind_some, hci, Option.bind_some, if_neg (by omega), tms_set (by omega)]
      show some _ = _
      rw [w64_id (by omega)]; rfl
    rw [loopW_go hst]
    exact ih (i + 1) _ true (by omega) (by unfold setAt; simp [h2]) (fun _ => rfl)
theorem chain_two {gap : Int} (hg : 1 ≤ gap ∧ gap ≤ 1073741824) {n : Nat} (hn2 : n ≤ 64) (r : Int) (c : List Int) : ∀ (d i : Nat), i + d = n - 1 →
    loopW (diff_solve_l2 (n : Int) (chn gap (n - 1)) r) (false, (i : Int), tms gap n (n - 1), c) = some (.inl (false, tms gap n (n - 1), c)) := by
  intro d
  have hlen : (chn gap (n - 1)).length = n - 1 := by unfold chn; simp
  induction d with
  | zero => intro i h1; exact loopW_end (by rw [diff_solve_l2, if_neg (by omega)])
  | succ d ih =>
    intro i h1
    have hb := mul_bd (k := (i : Int)) (gap := gap) (b := 1073741824) (by omega) (by omega)
    have hxi : ix (tms gap n (n - 1)) (i : Int) = some ((i : Int) * gap) := by rw [tms_get (by omega), if_pos (by omega)]
    have hxj : ix (tms gap n (n - 1)) ((i + 1 : Nat) : Int) = some (((i + 1 : Nat) : Int) * gap) := by rw [tms_get (by omega), if_pos (by omega)]
    have hs : w64 ((i : Int) * gap + gap) = ((i + 1 : Nat) : Int) * gap := by
      rw [w64_id (by omega), show ((i + 1 : Nat) : Int) = (i : Int) + 1 by omega, Int.add_mul, Int.one_mul]
    have hst : diff_solve_l2 (n : Int) (chn gap (n - 1)) r (false, (i : Int), tms gap n (n - 1), c) = some (.inl (false, ((i + 1 : Nat) : Int), tms gap n (n - 1), c)) := by
      rw [diff_solve_l2, if_pos (by omega), chn_get (by omega), Option.bind_some]
      simp only []
      rw [hxi, Option.bind_some, hxj, Option.bind_some, hs, if_pos (Int.le_refl _)]
      show some _ = _
      rw [w64_id (by omega)]; rfl
    rw [loopW_go hst]
    exact ih (i + 1) (by omega)
theorem earliest_is {gap : Int} (hg : 1 ≤ gap ∧ gap ≤ 1073741824) {n : Nat} (hn1 : 1 ≤ n) (hn2 : n ≤ 64) : diff_Earliest (n : Int) (chn gap (n - 1)) = some (tms gap n (n - 1), true) := by
  have hlen : (chn gap (n - 1)).length = n - 1 := by unfold chn; simp
  have hright : diff_Right (n : Int) (chn gap (n - 1)) = some true := by
    unfold diff_Right
    rw [if_neg (by simp; omega)]
    have key : ∀ (d k : Nat), k + d = n - 1 → loopW (diff_Right_l1 (n : Int) (chn gap (n - 1))) (k : Int) = some (.inl ()) := by
      intro d
      induction d with
      | zero => intro k hk; exact loopW_end (by rw [diff_Right_l1, if_neg (by omega)])
      | succ d ih =>
        intro k hk
        have hst : diff_Right_l1 (n : Int) (chn gap (n - 1)) (k : Int) = some (.inl ((k + 1 : Nat) : Int)) := by
          rw [diff_Right_l1, if_pos (by omega), chn_get (by omega), Option.bind_some, if_neg (by simp; omega), w64_id (by omega)]; rfl
        rw [loopW_go hst]
        exact ih (k + 1) (by omega)
    rw [show loopW (diff_Right_l1 (n : Int) (chn gap (n - 1))) 0 = some (.inl ()) from key (n - 1) 0 (by omega)]; rfl
  have hz : List.replicate n (0 : Int) = tms gap n 0 := by
    unfold tms
    apply List.ext_getElem
    · simp
    · intro i h1 h2
      simp only [List.getElem_replicate, List.getElem_map, List.getElem_range]
      by_cases c : i ≤ 0
      · rw [if_pos c, show i = 0 by omega]; simp
      · rw [if_neg c]
  have hsolve : ∃ c, diff_solve (n : Int) (chn gap (n - 1)) = some (tms gap n (n - 1), c, -1) := by
    have fin : ∀ (r : Int) (c : List Int), diff_solve_l1 (n : Int) (chn gap (n - 1)) (r, tms gap n (n - 1), c) = some (.inr (tms gap n (n - 1), c, -1)) := fun r c => by
      rw [diff_solve_l1, show loopW (diff_solve_l2 (n : Int) (chn gap (n - 1)) r) (false, 0, tms gap n (n - 1), c) = _ from chain_two hg hn2 r c (n - 1) 0 (by omega)]; rfl
    unfold diff_solve
    rw [mk_is (by omega), Option.bind_some, Option.bind_some, Int.toNat_natCast]
    by_cases c1 : n = 1
    · refine ⟨List.replicate n 0, ?_⟩
      have h0 : List.replicate n (0 : Int) = tms gap n (n - 1) := by rw [hz, c1]
      conv => lhs; rw [h0]
      rw [loopW_end (fin 1 _)]; rw [← h0]; rfl
    · obtain ⟨c', e1, e2⟩ := chain_one hg (n := n) (by omega) hn2 (n - 1) 0 (List.replicate n 0) false (by omega) (by simp) (fun h => by omega)
      refine ⟨c', ?_⟩
      have hst : diff_solve_l1 (n : Int) (chn gap (n - 1)) (1, tms gap n 0, List.replicate n 0) = some (.inl (2, tms gap n (n - 1), c')) := by
        rw [diff_solve_l1, show loopW (diff_solve_l2 (n : Int) (chn gap (n - 1)) 1) (false, 0, tms gap n 0, List.replicate n 0) = _ from e1]; rfl
      show (loopW (diff_solve_l1 (n : Int) (chn gap (n - 1))) (1, List.replicate n 0, List.replicate n 0)).bind _ = _
      rw [show (1, List.replicate n (0 : Int), List.replicate n (0 : Int)) = ((1 : Int), tms gap n 0, List.replicate n (0 : Int)) by rw [hz], loopW_go hst, loopW_end (fin 2 c')]; rfl
  obtain ⟨c, hc⟩ := hsolve
  unfold diff_Earliest
  rw [hright, Option.bind_some, if_neg (by decide), hc, Option.bind_some, if_neg (by show ¬ (0 : Int) ≤ -1; decide)]
/-! ### The plan -/
abbrev Rd3 := Int × Int × List Int
noncomputable def rdsOf (L : List Mv) (first gap : Int) : List Rd3 := (List.range (rsOf L).length).map fun (k : Nat) => ((rsOf L).getD k 0, first + (k : Int) * gap, swOf L ((rsOf L).getD k 0))
theorem prounds_is {L : List Mv} (hl : L.length ≤ 64) (hs : L.Pairwise (fun x y => mvlt x y = true)) (hr : ∀ m ∈ L, (0 ≤ m.1 ∧ m.1 < 64) ∧ 0 ≤ m.2.2.2 ∧ m.2.2.2 < 64) (hne : L ≠ []) {first gap : Int} (hf : 0 ≤ first ∧ first ≤ 4398046511104) (hg : 1 ≤ gap ∧ gap ≤ 1073741824) :
    plan_rounds L first gap = some (rdsOf L first gap) ∧ 1 ≤ (rsOf L).length ∧ (rsOf L).length ≤ 64 := by
  have hn1 : 1 ≤ (rsOf L).length := by
    cases L with
    | nil => exact absurd rfl hne
    | cons m L =>
      have hm := hr m (List.mem_cons_self ..)
      have : m.2.2.2 ∈ rsOf (m :: L) := nums_mem.2 ⟨by omega, m, List.mem_cons_self .., rfl⟩
      exact List.length_pos_of_mem this
  have hn2 : (rsOf L).length ≤ 64 := by
    unfold rsOf nums
    exact Nat.le_trans (List.length_filter_le _ _) (by simp)
  refine ⟨?_, hn1, hn2⟩
  have hw : w64 (((rsOf L).length : Int) - 1) = (((rsOf L).length - 1 : Nat) : Int) := by rw [w64_id (by omega)]; omega
  unfold plan_rounds
  rw [rounds_is hl hs (fun m hm => (hr m hm).2), Option.bind_some]
  obtain ⟨C, c1, c2⟩ := loop_cnt ((rsOf L).length - 1) (fun (s : List (Int × Int × Int)) (k : Nat) => (s, (k : Int))) (plan_rounds_l1 gap (rsOf L)) id (fun C k => C = chn gap k)
    (fun C k hk hI => by
      have hcl : C.length = k := by rw [hI]; unfold chn; simp
      refine ⟨C ++ [((k : Int), ((k + 1 : Nat) : Int), gap)], ?_, by rw [hI]; unfold chn; rw [List.range_succ, List.map_append]; rfl⟩
      rw [plan_rounds_l1, hw, if_pos (by omega), w64_id (x := (k : Int) + 1) (by omega), app_is (by simp; omega), Option.bind_some]; rfl)
    (fun C _ => by rw [plan_rounds_l1, hw, if_neg (by omega)]; rfl) [] rfl
  rw [show loopW (plan_rounds_l1 gap (rsOf L)) ([], 0) = some C from c2, Option.bind_some, c1, earliest_is hg hn1 hn2, Option.bind_some]
  have htl : (tms gap (rsOf L).length ((rsOf L).length - 1)).length = (rsOf L).length := by unfold tms; simp
  obtain ⟨D, d1, d2⟩ := loop_cnt (rsOf L).length (fun (s : List Rd3) (k : Nat) => (s, (k : Int))) (plan_rounds_l2 L first (rsOf L) (tms gap (rsOf L).length ((rsOf L).length - 1), true)) id (fun D k => D = (List.range k).map fun (k : Nat) => ((rsOf L).getD k 0, first + (k : Int) * gap, swOf L ((rsOf L).getD k 0)))
    (fun D k hk hI => by
      have hdl : D.length = k := by rw [hI]; simp
      have hb := mul_bd (k := (k : Int)) (gap := gap) (b := 1073741824) (by omega) (by omega)
      have hrk : ix (rsOf L) (k : Int) = some ((rsOf L).getD k 0) := ix_nat (by rw [List.getD_eq_getElem?_getD, List.getElem?_eq_getElem hk]; rfl)
      refine ⟨D ++ [((rsOf L).getD k 0, first + (k : Int) * gap, swOf L ((rsOf L).getD k 0))], ?_, by rw [hI, List.range_succ, List.map_append]; rfl⟩
      rw [plan_rounds_l2, if_pos (by show (k : Int) < (((tms gap (rsOf L).length ((rsOf L).length - 1)).length : Nat) : Int); omega)]
      show (ix (tms gap (rsOf L).length ((rsOf L).length - 1)) (k : Int)).bind _ = _
      rw [tms_get hk, if_pos (by omega), Option.bind_some, hrk, Option.bind_some, Option.bind_some, switches_is hl hs (fun m hm => (hr m hm).1), Option.bind_some, w64_id (x := first + (k : Int) * gap) (by omega), app_is (by simp; omega), Option.bind_some, w64_id (by omega)]; rfl)
    (fun D _ => by rw [plan_rounds_l2, if_neg (by show ¬ (((rsOf L).length : Nat) : Int) < (((tms gap (rsOf L).length ((rsOf L).length - 1)).length : Nat) : Int); omega)]; rfl) [] rfl
  rw [show loopW (plan_rounds_l2 L first (rsOf L) (tms gap (rsOf L).length ((rsOf L).length - 1), true)) ([], 0) = some D from d2, d1]; rfl
abbrev Pln := List Mv × List Rd3 × Int × Int × Int × Int
abbrev nopl : Pln := ([], [], 0, 0, 0, 0)
abbrev ArgsOk (at_ miss lead : Int) : Prop := 0 ≤ at_ ∧ at_ ≤ 1099511627776 ∧ 0 ≤ miss ∧ miss ≤ 1048576 ∧ 0 ≤ lead ∧ lead ≤ 1048576
/-- The moves of a change, in order. -/
def MvsOf (t : Tp) (old now : Rt) (L : List Mv) : Prop := L.length ≤ 64 ∧ L.Pairwise (fun x y => mvlt x y = true) ∧ L.Pairwise MvNe ∧ ∀ m, m ∈ L ↔ IsMv t old now m
theorem IsMv.bd {t : Tp} {old now : Rt} (ho : GoodR t old) (hn : GoodR t now) {m : Mv} (h : IsMv t old now m) : (0 ≤ m.1 ∧ m.1 < 8) ∧ 1 ≤ m.2.2.2 ∧ m.2.2.2 < t.1 ∧ m.2.2.2 < 8 := by
  obtain ⟨q1, q2, q3, q4, l, q5, q6⟩ := h
  have h8 := hn.1.1.1
  have hin := q5.in_ hn.1.1 (fun s e => by rw [← Option.some.inj e]; exact q1)
  have hnd := nodup_short t.1.toNat (m.1 :: l) q5.nodup (fun x hx => by have := hin x hx; omega)
  rw [List.length_cons] at hnd
  refine ⟨by omega, ?_, by omega, by omega⟩
  cases q5 with
  | last hhome => exact absurd (home_old ho q1 q2 hhome) q4
  | go _ _ _ => rw [q6]; simp; omega
/-- What Make answers. -/
theorem make_is {t : Tp} {old now : Rt} (s1 : SmR old) (s2 : SmR now) (at_ miss lead : Int) :
    (¬ ArgsOk at_ miss lead ∧ plan_Make t old now at_ miss lead = some (nopl, 2)) ∨ (ArgsOk at_ miss lead ∧ ¬ (GoodR t old ∧ GoodR t now) ∧ plan_Make t old now at_ miss lead = some (nopl, 2)) ∨
    (ArgsOk at_ miss lead ∧ GoodR t old ∧ GoodR t now ∧ ∃ L, MvsOf t old now L ∧ level_Moves t old now = some (L, 0) ∧
      ((L = [] ∧ plan_Make t old now at_ miss lead = some (nopl, 7)) ∨ (L ≠ [] ∧ 1 ≤ (rsOf L).length ∧ (rsOf L).length ≤ 64 ∧
        plan_Make t old now at_ miss lead = some (if 1099511627776 < at_ + lead + miss + lifeOf t + 1 + (((rsOf L).length - 1 : Nat) : Int) * (2 * miss + lifeOf t + 1) + miss then (nopl, 11)
          else ((L, rdsOf L (at_ + lead + miss + lifeOf t + 1) (2 * miss + lifeOf t + 1), miss, lifeOf t, at_ + lead + 1, at_ + lead + miss + lifeOf t + 1 + (((rsOf L).length - 1 : Nat) : Int) * (2 * miss + lifeOf t + 1) + miss), 0))))) := by
  by_cases ca : ArgsOk at_ miss lead
  · by_cases cg : GoodR t old ∧ GoodR t now
    · right; right
      obtain ⟨L, e, hl, hs, hne, hm⟩ := moves23 s1.1 s1.2 s2.1 s2.2 cg.1 cg.2
      refine ⟨ca, cg.1, cg.2, L, ⟨hl, hs, hne, hm⟩, e, ?_⟩
      have hok := cg.1.1.1
      obtain ⟨l1, l2, l3⟩ := life_is hok
      by_cases cl : L = []
      · left
        refine ⟨cl, ?_⟩
        unfold plan_Make
        rw [if_neg (by simp; omega), e, Option.bind_some, if_neg (by show ¬ (0 : Int) ≠ 0; decide), if_pos (by rw [cl]; rfl)]
      · right
        have hbd : ∀ m ∈ L, (0 ≤ m.1 ∧ m.1 < 64) ∧ 0 ≤ m.2.2.2 ∧ m.2.2.2 < 64 := fun m h => by
          have := IsMv.bd cg.1 cg.2 ((hm m).1 h)
          omega
        obtain ⟨p1, p2, p3⟩ := prounds_is hl hs hbd cl (first := at_ + lead + miss + lifeOf t + 1) (gap := 2 * miss + lifeOf t + 1) (by omega) (by omega)
        refine ⟨cl, p2, p3, ?_⟩
        have hlp : 0 < L.length := List.length_pos_iff.2 cl
        have hb := mul_bd (k := (((rsOf L).length - 1 : Nat) : Int)) (gap := 2 * miss + lifeOf t + 1) (b := 4194304) (by omega) (by omega)
        have hrl : (rdsOf L (at_ + lead + miss + lifeOf t + 1) (2 * miss + lifeOf t + 1)).length = (rsOf L).length := by unfold rdsOf; simp
        have hlast : ix (rdsOf L (at_ + lead + miss + lifeOf t + 1) (2 * miss + lifeOf t + 1)) (((rsOf L).length - 1 : Nat) : Int) = some ((rsOf L).getD ((rsOf L).length - 1) 0, at_ + lead + miss + lifeOf t + 1 + (((rsOf L).length - 1 : Nat) : Int) * (2 * miss + lifeOf t + 1), swOf L ((rsOf L).getD ((rsOf L).length - 1) 0)) := by
          refine ix_nat ?_
          unfold rdsOf
          rw [List.getElem?_map, List.getElem?_range (by omega)]; rfl
        unfold plan_Make
        rw [if_neg (by simp; omega), e, Option.bind_some, if_neg (by show ¬ (0 : Int) ≠ 0; decide), if_neg (by show ¬ ((L.length : Nat) : Int) = 0; omega), l1, Option.bind_some, gap_is hok (by omega), Option.bind_some,
          w64_id (x := at_ + lead) (by omega), w64_id (x := at_ + lead + miss) (by omega), w64_id (x := at_ + lead + miss + lifeOf t) (by omega), w64_id (x := at_ + lead + miss + lifeOf t + 1) (by omega), p1, Option.bind_some, hrl,
          show w64 (((rsOf L).length : Int) - 1) = (((rsOf L).length - 1 : Nat) : Int) by rw [w64_id (by omega)]; omega, hlast, Option.bind_some]
        simp only []
        rw [w64_id (x := at_ + lead + miss + lifeOf t + 1 + (((rsOf L).length - 1 : Nat) : Int) * (2 * miss + lifeOf t + 1) + miss) (by omega), w64_id (x := at_ + lead + miss + lifeOf t + 1 - miss) (by omega), w64_id (x := at_ + lead + miss + lifeOf t + 1 - miss - lifeOf t) (by omega), show at_ + lead + miss + lifeOf t + 1 - miss - lifeOf t = at_ + lead + 1 by omega]
        split <;> rfl
    · right; left
      refine ⟨ca, cg, ?_⟩
      have : level_Moves t old now = some ([], 2) := by
        unfold level_Moves
        rw [good21 s1.1 s1.2, Option.bind_some]
        by_cases c1 : GoodR t old
        · rw [decide_eq_true c1, if_neg (by decide), good21 s2.1 s2.2, Option.bind_some, decide_eq_false (fun h => cg ⟨c1, h⟩), Option.bind_some, if_pos (by decide)]
        · rw [decide_eq_false c1, if_pos (by decide), Option.bind_some, if_pos rfl]
      unfold plan_Make
      rw [if_neg (by simp; omega), this]; rfl
  · left
    refine ⟨ca, ?_⟩
    unfold plan_Make
    rw [if_pos (by simp only [ArgsOk] at ca; simp; omega)]
end Go.Proofs.Ytjcaadbafjgefaa
