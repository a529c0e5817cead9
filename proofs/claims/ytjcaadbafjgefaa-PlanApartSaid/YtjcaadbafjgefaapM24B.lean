/- Layer 24: the statement. Conditions: none. -/
import Derived.Test.YtjcaadbafjgefaapM24
import Derived.Test.YtjcaadbafjgefaapEVB
namespace Go.Proofs.Ytjcaadbafjgefaa
set_option linter.unusedVariables false
set_option linter.unusedSimpArgs false
open Go Go.RowKit
theorem small23 (t : Tp) (r : Rt) (hl : r.length ≤ 9223372036854775807) : L23_Small t r = some (decide ((∀ row ∈ r, row.length ≤ 12) ∧ t.2.1.length ≤ 30 ∧ t.2.2.length ≤ 12 ∧ r.length ≤ 12)) := by
  unfold L23_Small
  rw [search_in r hl (L23_Small_l1 r) (fun row => ¬ row.length ≤ 12) false (fun k hk => by
    rw [L23_Small_l1, if_pos (by omega), ix_nat (List.getElem?_eq_getElem hk), Option.bind_some]
    by_cases c : r[k].length ≤ 12
    · rw [if_neg (by omega), if_neg (fun h => h c)]
    · rw [if_pos (by omega), if_pos c]) (by rw [L23_Small_l1, if_neg (by omega)])]
  by_cases c : ∃ row ∈ r, ¬ row.length ≤ 12
  · rw [if_pos c]
    show some false = _
    rw [decide_eq_false (fun h => by obtain ⟨row, hm, hn⟩ := c; exact hn (h.1 row hm))]
  · rw [if_neg c]
    show some _ = some _
    congr 1
    rw [Bool.eq_iff_iff]
    simp only [Bool.and_eq_true, decide_eq_true_eq]
    constructor
    · intro h
      exact ⟨fun row hm => Decidable.not_not.1 fun hn => c ⟨row, hm, hn⟩, by omega⟩
    · intro h; omega
theorem rds_get {L : List Mv} {first gap : Int} {k : Nat} (h : k < (rsOf L).length) : ix (rdsOf L first gap) (k : Int) = some ((rsOf L).getD k 0, first + (k : Int) * gap, swOf L ((rsOf L).getD k 0)) := by
  refine ix_nat ?_
  unfold rdsOf
  rw [List.getElem?_map, List.getElem?_range h]; rfl
theorem PlanApart_core (p0 : Tp) (p1 p2 : Rt) (hl1 : p1.length ≤ 9223372036854775807) (hl2 : p2.length ≤ 9223372036854775807) (p3 p4 p5 : Int) : L24_PlanApart p0 p1 p2 p3 p4 p5 = some true := by
  unfold L24_PlanApart
  rw [small23 p0 p1 hl1, small23 p0 p2 hl2, awake24, Option.bind_some]
  by_cases c1 : (∀ row ∈ p1, row.length ≤ 12) ∧ p0.2.1.length ≤ 30 ∧ p0.2.2.length ≤ 12 ∧ p1.length ≤ 12
  · rw [decide_eq_true c1, if_neg (by decide), Option.bind_some]
    by_cases c2 : (∀ row ∈ p2, row.length ≤ 12) ∧ p0.2.1.length ≤ 30 ∧ p0.2.2.length ≤ 12 ∧ p2.length ≤ 12
    · rw [decide_eq_true c2, Option.bind_some, if_neg (by decide)]
      have s1 : SmR p1 := ⟨c1.2.2.2, fun row hm => by have := c1.1 row hm; omega⟩
      have s2 : SmR p2 := ⟨c2.2.2.2, fun row hm => by have := c2.1 row hm; omega⟩
      rcases make_is s1 s2 p3 p4 p5 with ⟨_, e⟩ | ⟨_, _, e⟩ | ⟨ca, g1, g2, L, hL, _, ⟨_, e⟩ | ⟨hne, n1, n2, e⟩⟩
      · rw [e]; rfl
      · rw [e]; rfl
      · rw [e]; rfl
      · rw [e, Option.bind_some]
        obtain ⟨l1, l2, l3⟩ := life_is g1.1.1
        have hg : 1 ≤ 2 * p4 + lifeOf p0 + 1 ∧ 2 * p4 + lifeOf p0 + 1 ≤ 4194304 := by omega
        have hf : 0 ≤ p3 + p5 + p4 + lifeOf p0 + 1 ∧ p3 + p5 + p4 + lifeOf p0 + 1 ≤ 1099514000000 := by omega
        have hlp : 0 < L.length := List.length_pos_iff.2 hne
        have hfirst : p3 + p5 + p4 + lifeOf p0 + 1 = p3 + p5 + 1 + p4 + lifeOf p0 := by omega
        generalize hG : 2 * p4 + lifeOf p0 + 1 = gap at hg ⊢
        generalize hFi : p3 + p5 + p4 + lifeOf p0 + 1 = first at hf hfirst ⊢
        have hb := fun (k : Nat) (hk : k ≤ 64) => mul_bd (k := (k : Int)) (gap := gap) (b := 4194304) (by omega) (by omega)
        have hbN := hb ((rsOf L).length - 1) (by omega)
        have hrl : (rdsOf L first gap).length = (rsOf L).length := by unfold rdsOf; simp
        by_cases cT : 1099511627776 < first + (((rsOf L).length - 1 : Nat) : Int) * gap + p4
        · rw [if_pos cT]; rfl
        · rw [if_neg cT]
          simp only []
          rw [if_neg (by decide), hrl, if_neg (by omega), l1, Option.bind_some, if_neg (by simp), if_neg (by simp), show ix (rdsOf L first gap) 0 = _ from rds_get (k := 0) (by omega), Option.bind_some, Option.bind_some,
            w64_id (x := p3 + p5) (by omega), w64_id (x := p3 + p5 + lifeOf p0) (by omega), show first + ((0 : Nat) : Int) * gap = first by simp, w64_id (x := first - p4) (by omega), decide_eq_false (by omega), if_neg (by decide)]
          have hmono : ∀ j k : Nat, j < k → k < (rsOf L).length → (rsOf L).getD j 0 < (rsOf L).getD k 0 := fun j k hjk hk => by
            have := List.pairwise_iff_getElem.1 (nums_rise (P := fun n => ∃ m ∈ L, m.2.2.2 = n)) j k (by show j < (rsOf L).length; omega) hk hjk
            rw [List.getD_eq_getElem?_getD, List.getD_eq_getElem?_getD, List.getElem?_eq_getElem hk, List.getElem?_eq_getElem (show j < (rsOf L).length by omega)]
            exact this
          have hsw : ∀ k : Nat, k < (rsOf L).length → ¬ (((swOf L ((rsOf L).getD k 0)).length : Nat) : Int) = 0 := fun k hk h0 => by
            have hm : (rsOf L).getD k 0 ∈ rsOf L := by
              rw [List.getD_eq_getElem?_getD, List.getElem?_eq_getElem hk]; exact List.getElem_mem hk
            obtain ⟨_, m, h1, h2⟩ := nums_mem.1 hm
            have hbm := IsMv.bd g1 g2 ((hL.2.2.2 m).1 h1)
            have : m.1 ∈ swOf L ((rsOf L).getD k 0) := nums_mem.2 ⟨by omega, m, h1, h2, rfl⟩
            have := List.length_pos_of_mem this
            omega
          have hmul : ∀ k : Nat, ((k + 1 : Nat) : Int) * gap = (k : Int) * gap + gap := fun k => by
            rw [show ((k + 1 : Nat) : Int) = (k : Int) + 1 by omega, Int.add_mul, Int.one_mul]
          have hmulmono : ∀ j k : Nat, j ≤ k → (j : Int) * gap ≤ (k : Int) * gap := fun j k hjk => Int.mul_le_mul_of_nonneg_right (by omega) (by omega)
          generalize hTo : first + (((rsOf L).length - 1 : Nat) : Int) * gap + p4 = To at cT ⊢
          have key : ∀ (d k : Nat), k + d = (rsOf L).length → loopW (L24_PlanApart_l1 p4 ((L, rdsOf L first gap, p4, lifeOf p0, p3 + p5 + 1, To), 0)) (k : Int) = some (.inl ()) := by
            intro d
            induction d with
            | zero => intro k hk; exact loopW_end (by rw [L24_PlanApart_l1, if_neg (by show ¬ (k : Int) < (((rdsOf L first gap).length : Nat) : Int); omega)])
            | succ d ih =>
              intro k hk
              have hbk := hb k (by omega)
              have hle := hmulmono k ((rsOf L).length - 1) (by omega)
              have hprev : (if (0 : Int) < (k : Int) then (ix (rdsOf L first gap) (w64 ((k : Int) - 1))).bind fun x14 => (if (w64 (first + (k : Int) * gap - p4)) ≤ (w64 ((w64 (x14.2.1 + p4)) + lifeOf p0)) then some true else (ix (rdsOf L first gap) (w64 ((k : Int) - 1))).bind fun x15 => some (decide ((rsOf L).getD k 0 ≤ x15.1))) else some false) = some false := by
                by_cases c0 : 0 < k
                · have hbk1 := hb (k - 1) (by omega)
                  have hm1 := hmul (k - 1)
                  rw [show k - 1 + 1 = k by omega] at hm1
                  have := hmono (k - 1) k (by omega) (by omega)
                  rw [if_pos (by omega), w64s c0 (by omega), rds_get (by omega), Option.bind_some]
                  simp only []
                  rw [w64_id (x := first + (k : Int) * gap - p4) (by omega), w64_id (x := first + ((k - 1 : Nat) : Int) * gap + p4) (by omega), w64_id (by omega), if_neg (by omega), Option.bind_some, decide_eq_false (by omega)]
                · rw [if_neg (by omega)]
              have hst : L24_PlanApart_l1 p4 ((L, rdsOf L first gap, p4, lifeOf p0, p3 + p5 + 1, To), 0) (k : Int) = some (.inl ((k + 1 : Nat) : Int)) := by
                rw [L24_PlanApart_l1, if_pos (by show (k : Int) < (((rdsOf L first gap).length : Nat) : Int); omega)]
                show (ix (rdsOf L first gap) (k : Int)).bind _ = _
                rw [rds_get (by omega), Option.bind_some]
                show (if (0 : Int) < (k : Int) then (ix (rdsOf L first gap) (w64 ((k : Int) - 1))).bind fun x14 => (if (w64 (first + (k : Int) * gap - p4)) ≤ (w64 ((w64 (x14.2.1 + p4)) + lifeOf p0)) then some true else (ix (rdsOf L first gap) (w64 ((k : Int) - 1))).bind fun x15 => some (decide ((rsOf L).getD k 0 ≤ x15.1))) else some false).bind _ = _
                rw [hprev, Option.bind_some, if_neg (by decide)]
                simp only []
                rw [w64_id (x := first + (k : Int) * gap - p4) (by omega), w64_id (x := first + (k : Int) * gap - p4 - lifeOf p0) (by omega), w64_id (x := first + (k : Int) * gap + p4) (by omega), if_neg (by
                  unfold plan_Guarded
                  simp only [Bool.or_eq_true, Bool.not_eq_true', Bool.and_eq_false_iff, decide_eq_false_iff_not, decide_eq_true_eq]
                  have := hsw k (by omega)
                  omega), w64_id (by omega)]; rfl
              rw [loopW_go hst]
              exact ih (k + 1) (by omega)
          rw [show loopW (L24_PlanApart_l1 p4 ((L, rdsOf L first gap, p4, lifeOf p0, p3 + p5 + 1, To), 0)) 0 = some (.inl ()) from key (rsOf L).length 0 (by omega)]
          show ((if (!(plan_Guarded (L, rdsOf L first gap, p4, lifeOf p0, p3 + p5 + 1, To) (w64 (p3 + p5 + 1 - 1)))) = true then _ else _ : Option Bool)).bind _ = _
          rw [w64_id (x := p3 + p5 + 1 - 1) (by omega), if_pos (by unfold plan_Guarded; simp; omega), w64_id (x := To + 1) (by omega), if_pos (by unfold plan_Guarded; simp; omega), if_pos (by omega)]; rfl
    · rw [decide_eq_false c2, Option.bind_some, if_pos (by decide)]; rfl
  · rw [decide_eq_false c1, if_pos (by decide), Option.bind_some, if_pos rfl]; rfl
theorem PlanApart_true (p0 : Tp) {A : Prop} (_ : A) (p1 : Rt) (ok1 : okL (okL (fun n => (Lit.int .i64 n).wf = true)) p1) (p2 : Rt) (ok2 : okL (okL (fun n => (Lit.int .i64 n).wf = true)) p2) (p3 : Int) {B : Prop} (_ : B) (p4 : Int) {C : Prop} (_ : C) (p5 : Int) {D : Prop} (_ : D) : L24_PlanApart p0 p1 p2 p3 p4 p5 = some true := PlanApart_core p0 p1 p2 ok1.1 ok2.1 p3 p4 p5
end Go.Proofs.Ytjcaadbafjgefaa
