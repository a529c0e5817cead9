/- Layer 23: how far. Conditions: none. -/
import Derived.Test.YthiejmoddfenlaaM23
import Derived.Test.YthiejmoddfenlaaEV
namespace Go.Proofs.Ythiejmoddfenlaa
set_option linter.unusedVariables false
set_option linter.unusedSimpArgs false
open Go Go.RowKit
theorem before_is (a b : Mv) : L23_before a b = mvlt a b := by
  rw [Bool.eq_iff_iff, mvlt_iff]
  unfold L23_before
  by_cases c : a.2.2.2 ≠ b.2.2.2
  · rw [if_pos c]; simp only [decide_eq_true_eq]; omega
  · rw [if_neg c]; simp only [Bool.or_eq_true, Bool.and_eq_true, decide_eq_true_eq]; omega
theorem LevelFar_core (p0 : Tp) (p1 p2 : Rt) (hl1 : p1.length ≤ 9223372036854775807) (hl2 : p2.length ≤ 9223372036854775807) : L23_LevelFar p0 p1 p2 = some true := by
  unfold L23_LevelFar
  rw [small23 p0 p1 hl1, small23 p0 p2 hl2, awake23, Option.bind_some]
  by_cases c1 : (∀ row ∈ p1, row.length ≤ 12) ∧ p0.2.1.length ≤ 30 ∧ p0.2.2.length ≤ 12 ∧ p1.length ≤ 12
  · rw [decide_eq_true c1, if_neg (by decide), Option.bind_some]
    by_cases c2 : (∀ row ∈ p2, row.length ≤ 12) ∧ p0.2.1.length ≤ 30 ∧ p0.2.2.length ≤ 12 ∧ p2.length ≤ 12
    · rw [decide_eq_true c2, if_neg (by decide)]
      have hr1 := c1.2.2.2
      have hr2 := c2.2.2.2
      have hw1 : ∀ row ∈ p1, row.length ≤ 1000000000 := fun row hm => by have := c1.1 row hm; omega
      have hw2 : ∀ row ∈ p2, row.length ≤ 1000000000 := fun row hm => by have := c2.1 row hm; omega
      rw [rgood21 hr1 hw1, Option.bind_some]
      by_cases g1 : GoodR p0 p1
      · rw [decide_eq_true g1, if_neg (by decide), rgood21 hr2 hw2, Option.bind_some]
        by_cases g2 : GoodR p0 p2
        · rw [decide_eq_true g2, Option.bind_some, if_neg (by decide)]
          obtain ⟨L, e, hlen, hs, _, hm⟩ := moves23 hr1 hw1 hr2 hw2 g1 g2
          rw [e, Option.bind_some, if_neg (by show ¬ (0 : Int) ≠ 0; decide)]
          have h8 := g1.1.1.1
          have key : ∀ (d k : Nat), k + d = L.length → loopW (L23_LevelFar_l1 p0 p1 p2 (L, 0)) (k : Int) = some (.inl ()) := by
            intro d
            induction d with
            | zero => intro k hk; exact loopW_end (by rw [L23_LevelFar_l1, if_neg (by show ¬ (k : Int) < (L.length : Int); omega)])
            | succ d ih =>
              intro k hk
              have hkl : k < L.length := by omega
              have hg : ix L (k : Int) = some L[k] := ix_nat (List.getElem?_eq_getElem hkl)
              obtain ⟨q1, q2, q3, q4, l, q5, q6⟩ := (hm _).1 (List.getElem_mem hkl)
              have hbef : (if (0 : Int) < (k : Int) then (ix L (w64 ((k : Int) - 1))).bind fun x21 => some (!(L23_before x21 L[k])) else some false) = some false := by
                by_cases c0 : 0 < k
                · rw [if_pos (by omega), w64s c0 (by omega), ix_nat (List.getElem?_eq_getElem (show k - 1 < L.length by omega)), Option.bind_some, before_is]
                  have := List.pairwise_iff_getElem.1 hs (k - 1) k (by omega) hkl (by omega)
                  rw [this]; rfl
                · rw [if_neg (by omega)]
              generalize L[k] = m at hg q1 q2 q3 q4 q5 q6 hbef
              obtain ⟨F, f1, f2, f3⟩ := rfar21 g2.1 hr2 hw2 q2
              have hin := q5.in_ g2.1.1 (fun s e => by rw [← Option.some.inj e]; exact q1)
              have hnd := nodup_short p0.1.toNat (m.1 :: l) q5.nodup (fun x hx => by have := hin x hx; omega)
              rw [List.length_cons] at hnd
              have hfm := f3 _ _ q1 q5
              obtain ⟨row2, a1, _, a3, _⟩ := g2.1.port q1 q2
              obtain ⟨row1, b1, _, b3, _⟩ := g1.1.port q1 q2
              cases q5 with
              | last hhome => exact absurd (home_old g1 q1 q2 hhome) q4
              | go hnh hx hw =>
                rename_i v l2
                have hv := (nx_in g2.1.1 hx).2
                have hfv := f3 _ _ hv hw
                have hpe : (pe p0 m.1 (prt p2 m.1 m.2.1)).2.2.2 = true ∧ (pe p0 m.1 (prt p2 m.1 m.2.1)).1 = v := by
                  unfold nx at hx
                  by_cases c : (pe p0 m.1 (prt p2 m.1 m.2.1)).2.2.2 = true
                  · rw [if_pos c] at hx; exact ⟨c, Option.some.inj hx⟩
                  · rw [if_neg c] at hx; cases hx
                rw [List.length_cons] at q6 hnd hfm
                have hst : L23_LevelFar_l1 p0 p1 p2 (L, 0) (k : Int) = some (.inl ((k + 1 : Nat) : Int)) := by
                  rw [L23_LevelFar_l1, if_pos (by show (k : Int) < (L.length : Int); omega)]
                  show (ix L (k : Int)).bind _ = _
                  rw [hg, Option.bind_some, if_neg (by omega), if_neg (by omega), if_neg (by omega), if_neg (by omega), if_neg (by omega), if_neg (by omega), a1, Option.bind_some, a3, Option.bind_some, if_neg (by omega), b1, Option.bind_some, b3, Option.bind_some, decide_eq_false (by omega), Option.bind_some, if_neg (by decide), f1, Option.bind_some, q3, rpeer21, pe_eq g2.1.1, Option.bind_some, hfm, Option.bind_some, if_neg (by omega), if_neg (by rw [hpe.1]; decide), hpe.2, hfv, Option.bind_some, decide_eq_false (by rw [w64_id (by omega)]; omega), Option.bind_some, if_neg (by decide)]
                  show (if (0 : Int) < (k : Int) then (ix L (w64 ((k : Int) - 1))).bind fun x21 => some (!(L23_before x21 m)) else some false).bind _ = _
                  rw [hbef, Option.bind_some, if_neg (by decide), w64_id (by omega)]; rfl
                rw [loopW_go hst]
                exact ih (k + 1) (by omega)
          rw [show loopW (L23_LevelFar_l1 p0 p1 p2 (L, 0)) 0 = some (.inl ()) from key L.length 0 (by omega)]; rfl
        · rw [decide_eq_false g2, Option.bind_some, if_pos (by decide)]; rfl
      · rw [decide_eq_false g1, if_pos (by decide), Option.bind_some, if_pos rfl]; rfl
    · rw [decide_eq_false c2, if_pos (by decide), Option.bind_some, if_pos rfl]; rfl
  · rw [decide_eq_false c1, if_pos (by decide), Option.bind_some, if_pos rfl]; rfl
theorem LevelFar_true (p0 : Tp) {A : Prop} (_ : A) (p1 : Rt) (ok1 : okL (okL (fun n => (Lit.int .i64 n).wf = true)) p1) (p2 : Rt) (ok2 : okL (okL (fun n => (Lit.int .i64 n).wf = true)) p2) : L23_LevelFar p0 p1 p2 = some true := LevelFar_core p0 p1 p2 ok1.1 ok2.1
end Go.Proofs.Ythiejmoddfenlaa
