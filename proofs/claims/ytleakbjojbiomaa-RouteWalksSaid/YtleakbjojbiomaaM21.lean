/- Layer 21: walks end in walks. Conditions: none. -/
import Derived.Test.YtleakbjojbiomaaM21A
import Derived.Test.YtleakbjojbiomaaEV
namespace Go.Proofs.Ytleakbjojbiomaa
set_option linter.unusedVariables false
set_option linter.unusedSimpArgs false
open Go Go.RowKit
theorem small21 (t : Tp) (r : Rt) (hl : r.length ≤ 9223372036854775807) : L21_small t r = some (decide ((∀ row ∈ r, row.length ≤ 12) ∧ t.2.1.length ≤ 30 ∧ t.2.2.length ≤ 12 ∧ r.length ≤ 12)) := by
  unfold L21_small
  rw [search_in r hl (L21_small_l1 r) (fun row => ¬ row.length ≤ 12) false (fun k hk => by
    rw [L21_small_l1, if_pos (by omega), ix_nat (List.getElem?_eq_getElem hk), Option.bind_some]
    by_cases c : r[k].length ≤ 12
    · rw [if_neg (by omega), if_neg (fun h => h c)]
    · rw [if_pos (by omega), if_pos c]) (by rw [L21_small_l1, if_neg (by omega)])]
  by_cases c : ∃ row ∈ r, ¬ row.length ≤ 12
  · rw [if_pos c]
    show some false = _
    rw [decide_eq_false (fun h => by obtain ⟨row, hm, hn⟩ := c; exact hn (h.1 row hm))]
  · rw [if_neg c]
    show some _ = some _
    congr 1
    rw [Bool.eq_iff_iff]
    simp only [Bool.and_eq_true, decide_eq_true_eq]
    constructor
    · intro h
      exact ⟨fun row hm => Decidable.not_not.1 fun hn => c ⟨row, hm, hn⟩, by omega⟩
    · intro h; omega
theorem far21 {t : Tp} {r : Rt} (ho : RtOk t r) (hr : r.length ≤ 12) (hw : ∀ row ∈ r, row.length ≤ 1000000000) {h : Int} (hh : 0 ≤ h ∧ h < (t.2.2.length : Int)) :
    ∃ F, route_Far t r h = some F ∧ (F.length : Int) = t.1 ∧ ∀ s l, 0 ≤ s ∧ s < t.1 → Wy t r h (s :: l) → ix F s = some (l.length : Int) := by
  have hlen := ho.2.1
  obtain ⟨F, h1, h2⟩ := loop_cnt r.length (fun (s : List Int) (k : Nat) => (s, (k : Int))) (route_Far_l1 t r h) id (fun F k => F.length = k ∧ ∀ (s : Nat) l, s < k → Wy t r h ((s : Int) :: l) → F[s]? = some (l.length : Int))
    (fun F k hk hI => by
      obtain ⟨q, e, hq⟩ := walk21 ho (sw := (k : Int)) (h := h) (by omega) hh
      have hqb : q.1.length ≤ 8 := by
        rcases hq with ⟨_, a2, a3⟩ | ⟨_, a2, _⟩
        · exact Nat.le_trans (nodup_short t.1.toNat q.1 a2.nodup (fun x hx => by
            have := a2.in_ ho.1 (fun s e => by rw [a3] at e; rw [← Option.some.inj e]; omega) x hx
            omega)) (by have := ho.1.1; omega)
        · rw [a2]; simp
      refine ⟨F ++ [(q.1.length : Int) - 1], ?_, by rw [List.length_append, hI.1]; rfl, fun s l hs hw => ?_⟩
      · rw [route_Far_l1, if_pos (by omega), e, Option.bind_some, w64_id (by omega), app_is (by simp; omega), Option.bind_some, w64_id (by omega)]; rfl
      · by_cases c : s < k
        · rw [List.getElem?_append_left (by omega)]; exact hI.2 s l c hw
        · obtain rfl : s = k := by omega
          rw [List.getElem?_append_right (by omega), hI.1, Nat.sub_self, hq.of hw]
          simp)
    (fun F _ => by rw [route_Far_l1, if_neg (by omega)]; rfl) [] ⟨rfl, fun s l hs => by omega⟩
  have e1 : loopW (route_Far_l1 t r h) ([], 0) = some F := h2
  refine ⟨F, ?_, by omega, fun s l hs hw => ?_⟩
  · unfold route_Far
    rw [right21 hr hw, Option.bind_some, decide_eq_true ho, if_neg (by decide), if_neg (by omega), decide_eq_false (by omega), Option.bind_some, if_neg (by decide), e1]; rfl
  · obtain ⟨n, rfl⟩ : ∃ n : Nat, s = n := ⟨s.toNat, by omega⟩
    exact ix_nat (h1.2 n l (by omega) hw)
theorem same21 {l : List Int} (hl : l.length ≤ 1000000000) : r13_Same l l = some true := by
  have key : ∀ (d k : Nat), k + d = l.length → loopW (r13_Same_l1 l l) (k : Int) = some (.inl ()) := by
    intro d
    induction d with
    | zero => intro k hk; exact loopW_end (by rw [r13_Same_l1, if_neg (by omega)])
    | succ d ih =>
      intro k hk
      have hg := List.getElem?_eq_getElem (show k < l.length by omega)
      have hst : r13_Same_l1 l l (k : Int) = some (.inl ((k + 1 : Nat) : Int)) := by
        rw [r13_Same_l1, if_pos (by omega), ix_nat hg, Option.bind_some, Option.bind_some, if_neg (fun h => h rfl), w64_id (by omega)]; rfl
      rw [loopW_go hst]
      exact ih (k + 1) (by omega)
  have h0 : loopW (r13_Same_l1 l l) 0 = some (.inl ()) := key l.length 0 (by omega)
  unfold r13_Same
  rw [if_neg (by omega), h0]; rfl
theorem RouteWalks_core (p0 : Tp) (p1 : Rt) (hl : p1.length ≤ 9223372036854775807) (p2 p3 : Int) : L21_RouteWalks p0 p1 p2 p3 = some true := by
  unfold L21_RouteWalks
  rw [small21 p0 p1 hl, Option.bind_some, awake21]
  by_cases c0 : (∀ row ∈ p1, row.length ≤ 12) ∧ p0.2.1.length ≤ 30 ∧ p0.2.2.length ≤ 12 ∧ p1.length ≤ 12
  · rw [decide_eq_true c0, if_neg (by decide)]
    have hr := c0.2.2.2
    have hw : ∀ row ∈ p1, row.length ≤ 1000000000 := fun row hm => by have := c0.1 row hm; omega
    by_cases c : RtOk p0 p1 ∧ (0 ≤ p2 ∧ p2 < p0.1) ∧ (0 ≤ p3 ∧ p3 < (p0.2.2.length : Int))
    · obtain ⟨ho, hs, hh⟩ := c
      obtain ⟨q, e, hq⟩ := Walk21 ho hr hw hs hh
      rw [e, Option.bind_some]
      rcases hq with ⟨h1, h2, h3⟩ | ⟨h1, h2, h3⟩
      · rw [if_neg (by omega)]
        obtain ⟨F, f1, f2, f3⟩ := far21 ho hr hw hh
        rw [f1, Option.bind_some]
        obtain ⟨l, el⟩ : ∃ l, q.1 = p2 :: l := by
          cases hq1 : q.1 with
          | nil => rw [hq1] at h3; cases h3
          | cons a l => rw [hq1] at h3; rw [Option.some.inj h3]; exact ⟨l, rfl⟩
        have hin := h2.in_ ho.1 (fun s e => by rw [h3] at e; rw [← Option.some.inj e]; exact hs)
        have hle : (q.1.length : Int) ≤ p0.1 := by
          have := nodup_short p0.1.toNat q.1 h2.nodup (fun x hx => by have := hin x hx; omega)
          omega
        have h8 := ho.1.1
        obtain ⟨z, hz1, hz2⟩ := h2.end_
        have hpos : 0 < q.1.length := by rw [el]; simp
        have hlast : ix q.1 (w64 ((q.1.length : Int) - 1)) = some z := by
          rw [w64_id (by omega), show ((q.1.length : Int) - 1) = ((q.1.length - 1 : Nat) : Int) by omega]
          exact ix_nat (by rw [← List.getLast?_eq_getElem?]; exact hz1)
        have hhost : ix p0.2.2 p3 = some (z, prt p1 z p3) := by
          obtain ⟨n, hn⟩ : ∃ n : Nat, p3 = n := ⟨p3.toNat, by omega⟩
          unfold home at hz2
          rw [hn] at hz2 ⊢
          exact ix_nat hz2
        rw [if_neg (by omega), if_neg (by omega), if_neg (by omega)]
        rw [show ix q.1 0 = some p2 from ix_nat (k := 0) (by rw [el]; rfl), Option.bind_some, if_neg (by simp), hlast, Option.bind_some, hhost, Option.bind_some, Option.bind_some, if_neg (by simp)]
        have key : ∀ (d k : Nat), k + d = q.1.length → loopW (L21_RouteWalks_l1 p0 p1 p3 q F) (k : Int) = some (.inl ()) := by
          intro d
          induction d with
          | zero => intro k hk; exact loopW_end (by rw [L21_RouteWalks_l1, if_neg (by omega)])
          | succ d ih =>
            intro k hk
            have hk2 : k < q.1.length := by omega
            have hg := List.getElem?_eq_getElem hk2
            have hd : q.1.drop k = q.1[k] :: q.1.drop (k + 1) := List.drop_eq_getElem_cons hk2
            have hwy := Wy.tail (a := q.1.take k) (b := q.1.drop k) (by rw [List.take_append_drop]; exact h2) (by rw [hd]; exact List.cons_ne_nil _ _)
            rw [hd] at hwy
            have hkin := hin _ (List.getElem_mem hk2)
            obtain ⟨q2, e2, hq2⟩ := Walk21 ho hr hw hkin hh
            have hq2' := hq2.of hwy
            rw [← hd] at hq2'
            have hf := f3 _ _ hkin hwy
            have hst : L21_RouteWalks_l1 p0 p1 p3 q F (k : Int) = some (.inl ((k + 1 : Nat) : Int)) := by
              rw [L21_RouteWalks_l1, if_pos (by omega), ix_nat hg, Option.bind_some, e2, Option.bind_some, hq2', if_neg (fun h => h rfl), subl_is (by omega), Option.bind_some]
              rw [show (((q.1.take ((q.1.length : Int)).toNat).drop ((k : Int)).toNat)) = q.1.drop k by simp]
              rw [same21 (by simp; omega), Option.bind_some, if_neg (by decide), Option.bind_some, hf, Option.bind_some, decide_eq_false (by rw [w64_id (x := (q.1.length : Int) - 1) (by omega), w64_id (by omega), List.length_drop]; omega), Option.bind_some, if_neg (by decide), w64_id (by omega)]; rfl
            rw [loopW_go hst]
            exact ih (k + 1) (by omega)
        rw [show loopW (L21_RouteWalks_l1 p0 p1 p3 q F) 0 = some (.inl ()) from key q.1.length 0 (by omega)]; rfl
      · rw [if_pos (by omega), h2]; rfl
    · have : route_Walk p0 p1 p2 p3 = some ([], 2) := by
        unfold route_Walk
        rw [right21 hr hw, Option.bind_some]
        by_cases c1 : RtOk p0 p1
        · rw [decide_eq_true c1, if_neg (by decide)]
          by_cases c2 : p2 < 0
          · rw [if_pos c2, Option.bind_some, if_pos rfl]
          rw [if_neg c2]
          by_cases c3 : p0.1 ≤ p2
          · rw [if_pos c3, Option.bind_some, if_pos rfl]
          rw [if_neg c3]
          by_cases c4 : p3 < 0
          · rw [if_pos c4, Option.bind_some, if_pos rfl]
          rw [if_neg c4, decide_eq_true (Int.not_lt.1 fun h5 => c ⟨c1, by omega, by omega⟩), Option.bind_some, if_pos rfl]
        · rw [decide_eq_false c1, if_pos (by decide), Option.bind_some, if_pos rfl]
      rw [this]; rfl
  · rw [decide_eq_false c0, if_pos (by decide)]; rfl
theorem RouteWalks_true (p0 : Tp) {A : Prop} (_ : A) (p1 : Rt) (ok1 : okL (okL (fun n => (Lit.int .i64 n).wf = true)) p1) (p2 : Int) {C : Prop} (_ : C) (p3 : Int) {D : Prop} (_ : D) : L21_RouteWalks p0 p1 p2 p3 = some true := RouteWalks_core p0 p1 ok1.1 p2 p3
end Go.Proofs.Ytleakbjojbiomaa
