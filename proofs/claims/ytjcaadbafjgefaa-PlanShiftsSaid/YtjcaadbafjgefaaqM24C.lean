/- Layer 24: the statement. Conditions: none. -/
import Derived.Test.YtjcaadbafjgefaaqM24
import Derived.Test.YtjcaadbafjgefaaqEVC
namespace Go.Proofs.Ytjcaadbafjgefaa
set_option linter.unusedVariables false
set_option linter.unusedSimpArgs false
open Go Go.RowKit
theorem small23 (t : Tp) (r : Rt) (hl : r.length ≤ 9223372036854775807) : L23_Small t r = some (decide ((∀ row ∈ r, row.length ≤ 12) ∧ t.2.1.length ≤ 30 ∧ t.2.2.length ≤ 12 ∧ r.length ≤ 12)) := by
  unfold L23_Small
  rw [search_in r hl (L23_Small_l1 r) (fun row => ¬ row.length ≤ 12) false (fun k hk => by
    rw [L23_Small_l1, if_pos (by omega), ix_nat (List.getElem?_eq_getElem hk), Option.bind_some]
    by_cases c : r[k].length ≤ 12
    · rw [if_neg (by omega), if_neg (fun h => h c)]
    · rw [if_pos (by omega), if_pos c]) (by rw [L23_Small_l1, if_neg (by omega)])]
  by_cases c : ∃ row ∈ r, ¬ row.length ≤ 12
  · rw [if_pos c]
    show some false = _
    rw [decide_eq_false (fun h => by obtain ⟨row, hm, hn⟩ := c; exact hn (h.1 row hm))]
  · rw [if_neg c]
    show some _ = some _
    congr 1
    rw [Bool.eq_iff_iff]
    simp only [Bool.and_eq_true, decide_eq_true_eq]
    constructor
    · intro h
      exact ⟨fun row hm => Decidable.not_not.1 fun hn => c ⟨row, hm, hn⟩, by omega⟩
    · intro h; omega
theorem same21 {l : List Int} (hl : l.length ≤ 1000000000) : r13_Same l l = some true := by
  have key : ∀ (d k : Nat), k + d = l.length → loopW (r13_Same_l1 l l) (k : Int) = some (.inl ()) := by
    intro d
    induction d with
    | zero => intro k hk; exact loopW_end (by rw [r13_Same_l1, if_neg (by omega)])
    | succ d ih =>
      intro k hk
      have hg := List.getElem?_eq_getElem (show k < l.length by omega)
      have hst : r13_Same_l1 l l (k : Int) = some (.inl ((k + 1 : Nat) : Int)) := by
        rw [r13_Same_l1, if_pos (by omega), ix_nat hg, Option.bind_some, Option.bind_some, if_neg (fun h => h rfl), w64_id (by omega)]; rfl
      rw [loopW_go hst]
      exact ih (k + 1) (by omega)
  have h0 : loopW (r13_Same_l1 l l) 0 = some (.inl ()) := key l.length 0 (by omega)
  unfold r13_Same
  rw [if_neg (by omega), h0]; rfl
theorem rds_get {L : List Mv} {first gap : Int} {k : Nat} (h : k < (rsOf L).length) : ix (rdsOf L first gap) (k : Int) = some ((rsOf L).getD k 0, first + (k : Int) * gap, swOf L ((rsOf L).getD k 0)) := by
  refine ix_nat ?_
  unfold rdsOf
  rw [List.getElem?_map, List.getElem?_range h]; rfl
theorem nums_len {P : Int → Prop} : (nums P).length ≤ 64 := by
  have hn := (nums_rise (P := P)).imp (fun {a b} (h : a < b) => (Int.ne_of_lt h))
  exact nodup_short 64 _ hn (fun x hx => by have := (nums_mem.1 hx).1; omega)
/-- Plans of the same moves, one so much later. -/
theorem later_is {L : List Mv} (hL : L.length ≤ 64) (hr : (rsOf L).length ≤ 64) (f gap k m li fr tt : Int) (hg : 0 ≤ gap ∧ gap ≤ 4194304) (hf : 0 ≤ f ∧ f ≤ 1099514000000) (hk : 0 ≤ k ∧ k ≤ 524288) (hfr : 0 ≤ fr ∧ fr ≤ 1099514000000) (htt : 0 ≤ tt ∧ tt ≤ 1099514000000) :
    L24_later (L, rdsOf L f gap, m, li, fr, tt) (L, rdsOf L (f + k) gap, m, li, fr + k, tt + k) k = some true := by
  have hl1 : ∀ a, (rdsOf L a gap).length = (rsOf L).length := fun a => by unfold rdsOf; simp
  have k1 : ∀ (d i : Nat), i + d = L.length → loopW (L24_later_l1 (L, rdsOf L f gap, m, li, fr, tt) (L, rdsOf L (f + k) gap, m, li, fr + k, tt + k)) (i : Int) = some (.inl ()) := by
    intro d
    induction d with
    | zero => intro i hi; exact loopW_end (by rw [L24_later_l1, if_neg (by show ¬ (i : Int) < ((L.length : Nat) : Int); omega)])
    | succ d ih =>
      intro i hi
      have hst : L24_later_l1 (L, rdsOf L f gap, m, li, fr, tt) (L, rdsOf L (f + k) gap, m, li, fr + k, tt + k) (i : Int) = some (.inl ((i + 1 : Nat) : Int)) := by
        rw [L24_later_l1, if_pos (by show (i : Int) < ((L.length : Nat) : Int); omega)]
        simp only []
        rw [ix_nat (List.getElem?_eq_getElem (show i < L.length by omega)), Option.bind_some, Option.bind_some, if_neg (by simp), w64_id (by omega)]; rfl
      rw [loopW_go hst]
      exact ih (i + 1) (by omega)
  have k2 : ∀ (d i : Nat), i + d = (rsOf L).length → loopW (L24_later_l2 (L, rdsOf L f gap, m, li, fr, tt) (L, rdsOf L (f + k) gap, m, li, fr + k, tt + k) k) (i : Int) = some (.inl ()) := by
    intro d
    induction d with
    | zero => intro i hi; exact loopW_end (by rw [L24_later_l2, if_neg (by show ¬ (i : Int) < (((rdsOf L f gap).length : Nat) : Int); rw [hl1]; omega)])
    | succ d ih =>
      intro i hi
      have hb := mul_bd (k := (i : Int)) (gap := gap) (b := 4194304) (by omega) hg
      have hst : L24_later_l2 (L, rdsOf L f gap, m, li, fr, tt) (L, rdsOf L (f + k) gap, m, li, fr + k, tt + k) k (i : Int) = some (.inl ((i + 1 : Nat) : Int)) := by
        rw [L24_later_l2, if_pos (by show (i : Int) < (((rdsOf L f gap).length : Nat) : Int); rw [hl1]; omega)]
        simp only []
        rw [rds_get (show i < (rsOf L).length by omega), rds_get (show i < (rsOf L).length by omega), Option.bind_some, Option.bind_some, Option.bind_some, Option.bind_some, Option.bind_some, Option.bind_some]
        simp only []
        rw [w64_id (x := f + (i : Int) * gap + k) (by omega), if_neg (by omega), if_neg (by simp), same21 (l := swOf L ((rsOf L).getD i 0)) (Nat.le_trans nums_len (by decide)), Option.bind_some, Option.bind_some, if_neg (by decide), w64_id (by omega)]; rfl
      rw [loopW_go hst]
      exact ih (i + 1) (by omega)
  unfold L24_later
  simp only []
  rw [hl1, hl1, w64_id (x := fr + k) (by omega), w64_id (x := tt + k) (by omega), if_neg (by simp), show loopW (L24_later_l1 (L, rdsOf L f gap, m, li, fr, tt) (L, rdsOf L (f + k) gap, m, li, fr + k, tt + k)) 0 = some (.inl ()) from k1 L.length 0 (by omega),
    show loopW (L24_later_l2 (L, rdsOf L f gap, m, li, fr, tt) (L, rdsOf L (f + k) gap, m, li, fr + k, tt + k) k) 0 = some (.inl ()) from k2 (rsOf L).length 0 (by omega)]; rfl
/-- Of times and leads in the statement's range: no plan reaches too far. -/
theorem make_cases {t : Tp} {old now : Rt} (s1 : SmR old) (s2 : SmR now) (miss : Int) :
    (∀ a l, 0 ≤ a ∧ a ≤ 549756400000 → 0 ≤ l ∧ l ≤ 1048576 → plan_Make t old now a miss l = some (nopl, 2)) ∨
    (∀ a l, 0 ≤ a ∧ a ≤ 549756400000 → 0 ≤ l ∧ l ≤ 1048576 → plan_Make t old now a miss l = some (nopl, 7)) ∨
    ∃ L : List Mv, ∃ li : Int, L.length ≤ 64 ∧ 1 ≤ (rsOf L).length ∧ (rsOf L).length ≤ 64 ∧ (0 ≤ li ∧ li ≤ 8000) ∧ (0 ≤ miss ∧ miss ≤ 1048576) ∧
      ∀ a l, 0 ≤ a ∧ a ≤ 549756400000 → 0 ≤ l ∧ l ≤ 1048576 → plan_Make t old now a miss l = some ((L, rdsOf L (a + l + miss + li + 1) (2 * miss + li + 1), miss, li, a + l + 1, a + l + miss + li + 1 + (((rsOf L).length - 1 : Nat) : Int) * (2 * miss + li + 1) + miss), 0) := by
  by_cases cm : 0 ≤ miss ∧ miss ≤ 1048576
  · have hargs : ∀ a l : Int, 0 ≤ a ∧ a ≤ 549756400000 → 0 ≤ l ∧ l ≤ 1048576 → ArgsOk a miss l := fun a l h1 h2 => by unfold ArgsOk; omega
    by_cases cg : GoodR t old ∧ GoodR t now
    · rcases make_is s1 s2 0 miss 0 with ⟨h, _⟩ | ⟨_, h, _⟩ | ⟨_, _, _, L, hL, hm, hc⟩
      · exact absurd (hargs 0 0 (by omega) (by omega)) h
      · exact absurd cg h
      · obtain ⟨_, l2, l3⟩ := life_is cg.1.1.1
        have all := fun (a l : Int) (h1 : 0 ≤ a ∧ a ≤ 549756400000) (h2 : 0 ≤ l ∧ l ≤ 1048576) => ((make_is (t := t) s1 s2 a miss l).resolve_left (fun h => h.1 (hargs a l h1 h2))).resolve_left (fun h => h.2.1 cg)
        have hsame : ∀ {L' : List Mv}, level_Moves t old now = some (L', 0) → L' = L := fun h => by
          rw [hm] at h; exact (Prod.mk.inj (Option.some.inj h)).1.symm
        by_cases cl : L = []
        · right; left
          intro a l h1 h2
          obtain ⟨_, _, _, L', _, e, hc'⟩ := all a l h1 h2
          have := hsame e; subst this
          rcases hc' with ⟨_, h⟩ | ⟨h, _⟩
          · exact h
          · exact absurd cl h
        · right; right
          obtain ⟨_, n1, n2, _⟩ := hc.resolve_left (fun h => cl h.1)
          refine ⟨L, lifeOf t, hL.1, n1, n2, ⟨l2, l3⟩, cm, ?_⟩
          intro a l h1 h2
          obtain ⟨_, _, _, L', _, e, hc'⟩ := all a l h1 h2
          have := hsame e; subst this
          obtain ⟨_, _, _, h⟩ := hc'.resolve_left (fun h => cl h.1)
          have hb := mul_bd (k := (((rsOf L').length - 1 : Nat) : Int)) (gap := 2 * miss + lifeOf t + 1) (b := 4194304) (by omega) (by omega)
          rw [h, if_neg (by omega)]
    · left
      intro a l h1 h2
      rcases make_is (t := t) s1 s2 a miss l with ⟨_, e⟩ | ⟨_, _, e⟩ | ⟨_, h1, h2, _⟩
      · exact e
      · exact e
      · exact absurd ⟨h1, h2⟩ cg
  · left
    intro a l h1 h2
    rcases make_is (t := t) s1 s2 a miss l with ⟨_, e⟩ | ⟨h, _⟩ | ⟨h, _⟩
    · exact e
    · exact absurd (by unfold ArgsOk at h; omega) cm
    · exact absurd (by unfold ArgsOk at h; omega) cm
theorem PlanShifts_core (p0 : Tp) (p1 p2 : Rt) (hl1 : p1.length ≤ 9223372036854775807) (hl2 : p2.length ≤ 9223372036854775807) (p3 p4 p5 p6 : Int) : L24_PlanShifts p0 p1 p2 p3 p4 p5 p6 = some true := by
  unfold L24_PlanShifts
  rw [small23 p0 p1 hl1, small23 p0 p2 hl2, awake24, Option.bind_some, Option.bind_some]
  by_cases c1 : (∀ row ∈ p1, row.length ≤ 12) ∧ p0.2.1.length ≤ 30 ∧ p0.2.2.length ≤ 12 ∧ p1.length ≤ 12
  · rw [decide_eq_true c1, if_neg (by decide)]
    by_cases c2 : (∀ row ∈ p2, row.length ≤ 12) ∧ p0.2.1.length ≤ 30 ∧ p0.2.2.length ≤ 12 ∧ p2.length ≤ 12
    · rw [decide_eq_true c2, Option.bind_some, if_neg (by decide)]
      by_cases ca : (0 ≤ p3 ∧ p3 ≤ 549755813888) ∧ (0 ≤ p6 ∧ p6 ≤ 524288) ∧ (0 ≤ p5 ∧ p5 ≤ 524288)
      · rw [if_neg (by omega), if_neg (by omega), if_neg (by omega), if_neg (by omega), if_neg (by omega), Option.bind_some, decide_eq_false (by omega), if_neg (by decide), w64_id (x := p3 + p6) (by omega), w64_id (x := p5 + p6) (by omega)]
        have s1 : SmR p1 := ⟨c1.2.2.2, fun row hm => by have := c1.1 row hm; omega⟩
        have s2 : SmR p2 := ⟨c2.2.2.2, fun row hm => by have := c2.1 row hm; omega⟩
        rcases make_cases (t := p0) s1 s2 p4 with h | h | ⟨L, li, hL, n1, n2, hli, hmi, h⟩
        · rw [h p3 p5 (by omega) (by omega), h (p3 + p6) p5 (by omega) (by omega), h p3 (p5 + p6) (by omega) (by omega)]; rfl
        · rw [h p3 p5 (by omega) (by omega), h (p3 + p6) p5 (by omega) (by omega), h p3 (p5 + p6) (by omega) (by omega)]; rfl
        · have hb := mul_bd (k := (((rsOf L).length - 1 : Nat) : Int)) (gap := 2 * p4 + li + 1) (b := 4194304) (by omega) (by omega)
          have hl := later_is hL n2 (p3 + p5 + p4 + li + 1) (2 * p4 + li + 1) p6 p4 li (p3 + p5 + 1) (p3 + p5 + p4 + li + 1 + (((rsOf L).length - 1 : Nat) : Int) * (2 * p4 + li + 1) + p4) (by omega) (by omega) (by omega) (by omega) (by omega)
          rw [h p3 p5 (by omega) (by omega), h (p3 + p6) p5 (by omega) (by omega), h p3 (p5 + p6) (by omega) (by omega), Option.bind_some, Option.bind_some, Option.bind_some, if_neg (by simp), if_neg (by simp)]
          rw [show p3 + p6 + p5 + p4 + li + 1 = p3 + p5 + p4 + li + 1 + p6 by omega, show p3 + p6 + p5 + 1 = p3 + p5 + 1 + p6 by omega,
            show p3 + p5 + p4 + li + 1 + p6 + (((rsOf L).length - 1 : Nat) : Int) * (2 * p4 + li + 1) + p4 = p3 + p5 + p4 + li + 1 + (((rsOf L).length - 1 : Nat) : Int) * (2 * p4 + li + 1) + p4 + p6 by omega,
            show p3 + (p5 + p6) + p4 + li + 1 = p3 + p5 + p4 + li + 1 + p6 by omega, show p3 + (p5 + p6) + 1 = p3 + p5 + 1 + p6 by omega,
            show p3 + p5 + p4 + li + 1 + p6 + (((rsOf L).length - 1 : Nat) : Int) * (2 * p4 + li + 1) + p4 = p3 + p5 + p4 + li + 1 + (((rsOf L).length - 1 : Nat) : Int) * (2 * p4 + li + 1) + p4 + p6 by omega]
          simp only []
          rw [hl, Option.bind_some, if_pos rfl, Option.bind_some, if_pos rfl]; rfl
      · have hsk : (if p3 < 0 then some true else (if 549755813888 < p3 then some true else (if p6 < 0 then some true else (if 524288 < p6 then some true else (if p5 < 0 then some true else some (decide (524288 < p5))))))) = some true := by
          split; · rfl
          split; · rfl
          split; · rfl
          split; · rfl
          split; · rfl
          rw [decide_eq_true (by omega)]
        rw [hsk, Option.bind_some, if_pos rfl]
    · rw [decide_eq_false c2, Option.bind_some, if_pos (by decide)]; rfl
  · rw [decide_eq_false c1, if_pos (by decide), Option.bind_some, if_pos rfl]; rfl
theorem PlanShifts_true (p0 : Tp) {A : Prop} (_ : A) (p1 : Rt) (ok1 : okL (okL (fun n => (Lit.int .i64 n).wf = true)) p1) (p2 : Rt) (ok2 : okL (okL (fun n => (Lit.int .i64 n).wf = true)) p2) (p3 : Int) {B : Prop} (_ : B) (p4 : Int) {C : Prop} (_ : C) (p5 : Int) {D : Prop} (_ : D) (p6 : Int) {E : Prop} (_ : E) : L24_PlanShifts p0 p1 p2 p3 p4 p5 p6 = some true := PlanShifts_core p0 p1 p2 ok1.1 ok2.1 p3 p4 p5 p6
end Go.Proofs.Ytjcaadbafjgefaa
