/- Layer 42: who goes the walk. Conditions: none. -/
import Derived.Test.YtflaelbmglmmcaaeM42B
namespace Go.Proofs.Ytflaelbmglmmcaa
set_option linter.unusedVariables false
set_option linter.unusedSimpArgs false
open Go Go.RowKit
def came : Nat → List Int → List Ev
  | _, [] => []
  | i, w :: ws => (2, (i : Int), 0, w, 0, 0) :: came (i + 1) ws
theorem FD : ∀ (i : Nat) (ws : List Int), (came i ws).map (fun e => e.2.2.2.1) = ws
  | _, [] => rfl
  | i, w :: ws => by rw [came, List.map_cons, FD (i + 1) ws]
theorem IE : ∀ (i : Nat) (ws : List Int), ∀ e ∈ came i ws, e.1 = 2 ∧ e.2.2.1 = 0
  | _, [], e, h => by cases h
  | i, w :: ws, e, h => by
    rw [came] at h
    rcases List.mem_cons.1 h with rfl | h
    · exact ⟨rfl, rfl⟩
    · exact IE (i + 1) ws e h
theorem MI (i : Nat) (ws : List Int) : (came i ws).length = ws.length := by
  have := congrArg List.length (FD i ws)
  rw [List.length_map] at this; exact this
theorem Jh (q : List Int × Int) (hq : q.1.length ≤ 1000) : ∀ (X : List Int) (k : Nat) (acc : List Ev), q.1.drop k = X → k ≤ q.1.length → acc.length + X.length ≤ 100000 → AQ (Cm q) (acc, (k : Int)) = some (acc ++ came k X)
  | [], k, acc, hX, hk, ha => by
    have : q.1.length ≤ k := List.drop_eq_nil_iff.1 hX
    rw [A1 (by rw [Cm, if_neg (by omega)])]; simp [came]
  | w :: X, k, acc, hX, hk, ha => by
    have hg : q.1[k]? = some w := by rw [← List.head?_drop, hX]; rfl
    have hlt := (List.getElem?_eq_some_iff.1 hg).1
    have hd : q.1.drop (k + 1) = X := by rw [← List.tail_drop, hX]; rfl
    rw [List.length_cons] at ha
    rw [B8 (s' := (acc ++ [(2, (k : Int), 0, w, 0, 0)], ((k + 1 : Nat) : Int))) (by
      rw [Cm, if_pos (by omega), A9 hg, Option.bind_some, Ek (by simp; omega), Option.bind_some, BE (by omega)]; rfl), Jh q hq X (k + 1) _ hd (by omega) (by simp; omega), came]
    simp
theorem J0 : ∀ l : List Ev, (∀ e ∈ l, e.1 ≠ 8 ∧ e.1 ≠ 9 ∧ e.1 ≠ 10) → Cr l = [] ∧ GR l = [] := fun l => by
  refine F1 (Q := fun l => (∀ e ∈ l, e.1 ≠ 8 ∧ e.1 ≠ 9 ∧ e.1 ≠ 10) → Cr l = [] ∧ GR l = []) (fun _ => ⟨rfl, rfl⟩) (fun l e ih h => ?_) l
  have he := h e (List.mem_append_right _ (List.mem_singleton.2 rfl))
  rw [GX l e he, Lv l e he]
  exact ih fun x hx => h x (List.mem_append_left _ hx)
abbrev I5 (p : Int) (ws : List Int) (en ho la : Int) : Tr := (0, p, p, 0, ws, en, ho, la)
theorem K0 (p : Int) : ∀ E : List Ev, (∀ e ∈ E, e.1 = 2 ∧ e.2.2.1 = 0) → ∃ la, tr ((1, 0, 0, 0, p, p) :: E) = [I5 p (E.map fun e => e.2.2.2.1) 0 0 la] := fun E => by
  refine F1 (Q := fun E => (∀ e ∈ E, e.1 = 2 ∧ e.2.2.1 = 0) → ∃ la, tr ((1, 0, 0, 0, p, p) :: E) = [I5 p (E.map fun e => e.2.2.2.1) 0 0 la]) (fun _ => ⟨0, ?_⟩) (fun E e ih h => ?_) E
  · rfl
  · obtain ⟨la, h1⟩ := ih fun x hx => h x (List.mem_append_left _ hx)
    obtain ⟨e1, e2⟩ := h e (List.mem_append_right _ (List.mem_singleton.2 rfl))
    refine ⟨e.2.1, ?_⟩
    have hlo : lo [I5 p (E.map fun e => e.2.2.2.1) 0 0 la] e.2.2.1 ([I5 p (E.map fun e => e.2.2.2.1) 0 0 la] : List Tr).length = ((0 : Nat) : Int) := by
      have := Jw [] (I5 p (E.map fun e => e.2.2.2.1) 0 0 la) e.2.2.1
      rw [List.nil_append, if_pos ⟨e2.symm, rfl⟩] at this; exact this
    rw [show (1, 0, 0, 0, p, p) :: (E ++ [e]) = ((1, 0, 0, 0, p, p) :: E) ++ [e] from rfl, GV, h1, IG (k := 0) (t := I5 p (E.map fun e => e.2.2.2.1) 0 0 la) (by omega) (.inl e1) hlo rfl]
    unfold FM
    rw [if_pos e1, List.map_append]
    rfl
theorem M8 (p n : Int) (E : List Ev) (hE : ∀ e ∈ E, e.1 = 2 ∧ e.2.2.1 = 0) : tr ((1, 0, 0, 0, p, p) :: (E ++ [(3, n, 0, 0, p, 0)])) = [I5 p (E.map fun e => e.2.2.2.1) 3 p n] := by
  obtain ⟨la, h1⟩ := K0 p E hE
  have hlo : lo [I5 p (E.map fun e => e.2.2.2.1) 0 0 la] 0 ([I5 p (E.map fun e => e.2.2.2.1) 0 0 la] : List Tr).length = ((0 : Nat) : Int) := by
    have := Jw [] (I5 p (E.map fun e => e.2.2.2.1) 0 0 la) 0
    rw [List.nil_append, if_pos ⟨rfl, rfl⟩] at this; exact this
  rw [show (1, 0, 0, 0, p, p) :: (E ++ [(3, n, 0, 0, p, 0)]) = ((1, 0, 0, 0, p, p) :: E) ++ [(3, n, 0, 0, p, 0)] from rfl, GV, h1, IG (k := 0) (t := I5 p (E.map fun e => e.2.2.2.1) 0 0 la) (show ¬ ((3 : Int) = 1) by decide) (.inr (.inl rfl)) hlo rfl]
  rfl
theorem Ih {t : Tp} {r : Rt} {s h : Int} {w ws : List Int} (hw : Ca t r s h = some (s :: w, 0)) (hl : ws.length ≤ 1000) {x : Tr} (h1 : x.2.2.2.2.1 = s :: ws) (h2 : x.2.2.1 = h) (h3 : x.2.2.2.2.2.1 ≠ 0 ∨ ws.length = w.length) : BS t [r] 0 x = some (decide (s :: ws = s :: w)) := by
  unfold BS
  rw [if_neg (by simp), show ix [r] 0 = some r from rfl, Option.bind_some, h1, show ix (s :: ws) 0 = some s from rfl, Option.bind_some, h2, hw, Option.bind_some, if_neg (fun h => h rfl)]
  have hc : ¬ (decide (x.2.2.2.2.2.1 = 0) && decide (((s :: ws).length : Int) < ((s :: w).length : Int))) = true := by
    rw [Bool.and_eq_true, decide_eq_true_eq, decide_eq_true_eq]
    rintro ⟨a, b⟩
    rcases h3 with h3 | h3
    · exact h3 a
    · simp only [List.length_cons] at b; omega
  simp only
  rw [if_neg hc, Option.bind_some, Ic (by simp; omega)]; rfl
theorem Kf {t : Tp} {r : Rt} {s h : Int} {w : List Int} (hw : Ca t r s h = some (s :: w, 0)) (hn : (s :: w).Nodup) (hl : w.length ≤ 1000) {en hst la : Int} (h4 : en ≠ 4) (h3 : ¬ (en = 3 ∧ hst ≠ h)) : Lr t [r] [] [] (I5 h (s :: w) en hst la) = [] := by
  have hf := Ih (x := I5 h (s :: w) en hst la) hw hl rfl rfl (.inr rfl)
  have ho : Gb t [r] [] [] (I5 h (s :: w) en hst la) = false := by
    unfold Gb
    rw [if_neg (show ¬ (s :: w) = [] by simp), if_neg (show ¬ (([] : List G3).any (LT 0)) = true by decide), show HB [] (I5 h (s :: w) en hst la).2.2.2.1 = 0 from rfl, hf]; simp
  unfold Lr
  rw [ho, if_neg (show ¬ ¬ (s :: w).Nodup from fun h => h hn), if_neg (show ¬ en = 4 from h4), if_neg (show ¬ (en = 3 ∧ hst ≠ h) from h3), if_neg (by decide)]; rfl
theorem Od {α : Type} (a b c d : List α) : a ++ (b ++ (c ++ d)) = (a ++ (b ++ c)) ++ d := by simp
theorem LJ {t : Tp} {r : Rt} {s h : Int} {w ws : List Int} (hw : Ca t r s h = some (s :: w, 0)) (hl : ws.length ≤ 1000) (hne : ws ≠ w) {en hst la : Int} (h0 : en ≠ 0) : ∃ B, Lr t [r] [] [] (I5 h (s :: ws) en hst la) = B ++ [(4, 0)] := by
  have hf := Ih (x := I5 h (s :: ws) en hst la) hw hl rfl rfl (.inl h0)
  have hoth : Gb t [r] [] [] (I5 h (s :: ws) en hst la) = true := by
    unfold Gb
    rw [if_neg (show ¬ (s :: ws) = [] by simp), if_neg (show ¬ (([] : List G3).any (LT 0)) = true by decide), show HB [] (I5 h (s :: ws) en hst la).2.2.2.1 = 0 from rfl, hf]; simp [hne]
  unfold Lr
  rw [hoth, if_pos (c := true = true) rfl]
  exact ⟨_, Od _ _ _ [((4 : Int), (0 : Int))]⟩
theorem HM (p0 : Tp) {A0 : Prop} (_ : A0) (p1 : Rt) (ok1 : MU (MU (fun n => (Lit.int .i64 n).wf = true)) p1) (p2 : Int) {A2 : Prop} (_ : A2) (p3 : Int) {A3 : Prop} (_ : A3) (p4 : Int) {A4 : Prop} (_ : A4) (p5 : Int) {A5 : Prop} (_ : A5) : D4 p0 p1 p2 p3 p4 p5 = some true := by
  have hcond : ∃ c, ((EO p0 p1).bind fun x2 => (if (!x2) = true then some true else (Fv p0 p1).bind fun x3 => (if (!x3) = true then some true else (if p2 < 0 then some true else (if (p0.2.2.length : Int) ≤ p2 then some true else (if p3 < 0 then some true else some (decide (p0.1 ≤ p3)))))))) = some c ∧ (c = false → Jo p1 ∧ Ja p0 p1 ∧ (0 ≤ p2 ∧ p2 < (p0.2.2.length : Int)) ∧ (0 ≤ p3 ∧ p3 < p0.1)) := by
    rw [Nj p0 p1 ok1.1, Option.bind_some]
    by_cases c1 : (∀ row ∈ p1, row.length ≤ 12) ∧ p0.2.1.length ≤ 30 ∧ p0.2.2.length ≤ 12 ∧ p1.length ≤ 12
    · have hS : Jo p1 := ⟨c1.2.2.2, fun row hm => by have := c1.1 row hm; omega⟩
      rw [decide_eq_true c1, if_neg (by decide), NB hS.1 hS.2, Option.bind_some]
      by_cases c2 : Ja p0 p1
      · rw [decide_eq_true c2, if_neg (by decide)]
        by_cases c3 : p2 < 0
        · rw [if_pos c3]; exact ⟨true, rfl, fun h => by cases h⟩
        · rw [if_neg c3]
          by_cases c4 : (p0.2.2.length : Int) ≤ p2
          · rw [if_pos c4]; exact ⟨true, rfl, fun h => by cases h⟩
          · rw [if_neg c4]
            by_cases c5 : p3 < 0
            · rw [if_pos c5]; exact ⟨true, rfl, fun h => by cases h⟩
            · rw [if_neg c5]
              exact ⟨_, rfl, fun h => ⟨hS, c2, ⟨by omega, by omega⟩, ⟨by omega, by have := of_decide_eq_false h; omega⟩⟩⟩
      · rw [decide_eq_false c2, if_pos (by decide)]; exact ⟨true, rfl, fun h => by cases h⟩
    · rw [decide_eq_false c1, if_pos (by decide)]; exact ⟨true, rfl, fun h => by cases h⟩
  obtain ⟨c, hc, hK⟩ := hcond
  unfold D4
  rw [hc, Option.bind_some, Nz]
  cases c with
  | true => rw [if_pos rfl]; rfl
  | false =>
    rw [if_neg (by decide)]
    obtain ⟨hS, hG, hh, hs⟩ := hK rfl
    have ho := hG.1
    obtain ⟨w, hw⟩ := hG.2 p3 p2 hs hh
    obtain ⟨q, e1, hq⟩ := L9 ho hS.1 hS.2 hs hh
    obtain ⟨q', e2, hq'⟩ := Jx ho hS.1 hS.2 hs hh
    have hq1 := hq.of hw
    have hq2 := hq'.of hw
    subst hq1
    subst hq2
    have hn : (p3 :: w).Nodup := hw.nodup
    have hin := hw.in_ ho.1 (fun s e => by cases e; exact hs)
    have htl : (p1.length : Int) = p0.1 := ho.2.1
    have hlen : (p3 :: w).length ≤ 12 := Nat.le_trans (Ff p0.1.toNat (p3 :: w) hn (fun x hx => by have := hin x hx; omega)) (by have := hS.1; omega)
    have hwl : w.length ≤ 11 := by rw [List.length_cons] at hlen; omega
    have hRs : GO [p1] := ⟨by simp, fun r hr => by rw [List.mem_singleton.1 hr]; exact hS⟩
    rw [e2, Option.bind_some]
    have hl1 := Jh (p3 :: w, 0) (by show (p3 :: w).length ≤ 1000; omega) (p3 :: w) 0 [(1, 0, 0, 0, p2, p2)] rfl (Nat.zero_le _) (by simp; omega)
    have hl1 : AQ (Cm (p3 :: w, 0)) ([(1, 0, 0, 0, p2, p2)], 0) = some ([(1, 0, 0, 0, p2, p2)] ++ came 0 (p3 :: w)) := hl1
    have hcl := MI 0 (p3 :: w)
    rw [hl1, Option.bind_some]
    simp only
    rw [Ek (by rw [List.length_append, hcl]; simp; omega), Option.bind_some]
    obtain ⟨n, hnn⟩ : ∃ n : Int, ((p3 :: w).length : Int) = n := ⟨_, rfl⟩
    obtain ⟨L, hL⟩ : ∃ L : List Ev, L = [(1, 0, 0, 0, p2, p2)] ++ came 0 (p3 :: w) ++ [(3, n, 0, 0, p2, 0)] := ⟨_, rfl⟩
    rw [hnn, ← hL]
    have hLe : L = (1, 0, 0, 0, p2, p2) :: (came 0 (p3 :: w) ++ [(3, n, 0, 0, p2, 0)]) := by rw [hL]; rfl
    have hLl : L.length = (p3 :: w).length + 2 := by rw [hLe, List.length_cons, List.length_append, hcl]; simp
    have hca := IE 0 (p3 :: w)
    -- what a packet's events are found to be
    have calm : ∀ E : List Ev, (∀ e ∈ E, e.1 = 2 ∧ e.2.2.1 = 0) → Cr ((1, 0, 0, 0, p2, p2) :: (E ++ [(3, n, 0, 0, p2, 0)])) = [] ∧ GR ((1, 0, 0, 0, p2, p2) :: (E ++ [(3, n, 0, 0, p2, 0)])) = [] := fun E hE => J0 _ fun e he => by
      rcases List.mem_cons.1 he with rfl | he
      · exact ⟨by show (1 : Int) ≠ 8; decide, by show (1 : Int) ≠ 9; decide, by show (1 : Int) ≠ 10; decide⟩
      · rcases List.mem_append.1 he with he | he
        · have := (hE e he).1; omega
        · rw [List.mem_singleton.1 he]; exact ⟨by show (3 : Int) ≠ 8; decide, by show (3 : Int) ≠ 9; decide, by show (3 : Int) ≠ 10; decide⟩
    have chk : ∀ E : List Ev, (∀ e ∈ E, e.1 = 2 ∧ e.2.2.1 = 0) → E.length ≤ 50 → BN p0 [p1] ((1, 0, 0, 0, p2, p2) :: (E ++ [(3, n, 0, 0, p2, 0)])) = some (Lr p0 [p1] [] [] (I5 p2 (E.map fun e => e.2.2.2.1) 3 p2 n)) := fun E hE hl => by
      rw [JU p0 hRs (by simp; omega)]
      unfold KE
      rw [(calm E hE).1, (calm E hE).2, M8 p2 n E hE]; simp
    have k1 : BN p0 [p1] L = some [] := by
      rw [hLe, chk _ hca (by rw [hcl]; omega), FD, Kf e1 hn (by omega) (by decide) (fun h => h.2 rfl)]
    have k2 : ∃ z, Hc L 0 (DH ((L.length : Int) - 1)) = some z ∧ BN p0 [p1] z = some [] := by
      refine ⟨(1, 0, 0, 0, p2, p2) :: came 0 (p3 :: w), ?_, ?_⟩
      · rw [BE (by omega), Lj (by omega), show ((L.length : Int) - 1).toNat = ((1, 0, 0, 0, p2, p2) :: came 0 (p3 :: w) : List Ev).length by rw [List.length_cons, hcl]; omega, hL]
        show some ((((1, 0, 0, 0, p2, p2) :: came 0 (p3 :: w) : List Ev) ++ [(3, n, 0, 0, p2, 0)]).take _ |>.drop 0) = _
        rw [List.take_left' rfl]; rfl
      · obtain ⟨la, ht⟩ := K0 p2 (came 0 (p3 :: w)) hca
        obtain ⟨q1, q2⟩ := J0 ((1, 0, 0, 0, p2, p2) :: came 0 (p3 :: w)) fun e he => by
          rcases List.mem_cons.1 he with rfl | he
          · exact ⟨by show (1 : Int) ≠ 8; decide, by show (1 : Int) ≠ 9; decide, by show (1 : Int) ≠ 10; decide⟩
          · have := (hca e he).1; omega
        rw [JU p0 hRs (by rw [List.length_cons, hcl]; omega)]
        unfold KE
        rw [q1, q2, ht, FD]
        have := Kf (en := 0) (hst := 0) (la := la) e1 hn (by omega) (by decide) (fun h => by cases h.1)
        rw [List.flatMap_cons, this]; rfl
    obtain ⟨z, z1, z2⟩ := k2
    rw [k1, Option.bind_some, if_neg (by decide), z1, Option.bind_some, z2, Option.bind_some, Option.bind_some, if_neg (by decide)]
    by_cases c4 : p4 < 2 ∨ ((p3 :: w).length : Int) < p4
    · have : ((if p4 < 2 then some true else (if n < p4 then some true else (ix L p4).bind fun x17 => some (decide (x17.2.2.2.1 = p5)))) : Option Bool) = some true := by
        by_cases a : p4 < 2
        · rw [if_pos a]
        · rw [if_neg a, if_pos (by omega)]
      rw [this, Option.bind_some, if_pos rfl]; rfl
    · obtain ⟨k, hk⟩ : ∃ k : Nat, p4 = ((k + 1 : Nat) : Int) := ⟨(p4 - 1).toNat, by omega⟩
      have hk1 : 1 ≤ k := by omega
      have hk2 : k < (p3 :: w).length := by omega
      obtain ⟨ek, hek⟩ : ∃ ek, (came 0 (p3 :: w))[k]? = some ek := ⟨_, List.getElem?_eq_getElem (by rw [hcl]; exact hk2)⟩
      have hekw : (p3 :: w)[k]? = some ek.2.2.2.1 := by
        have := congrArg (fun l => l[k]?) (FD 0 (p3 :: w))
        simp only [List.getElem?_map, hek] at this
        exact this.symm
      have hLk : L[k + 1]? = some ek := by
        rw [hLe, List.getElem?_cons_succ, List.getElem?_append_left (by rw [hcl]; exact hk2)]; exact hek
      rw [if_neg (by omega), if_neg (by omega), hk, A9 hLk, Option.bind_some, Option.bind_some]
      by_cases c5 : ek.2.2.2.1 = p5
      · rw [if_pos (decide_eq_true c5)]; rfl
      · rw [if_neg (by rw [decide_eq_true_eq]; exact c5), Option.bind_some]
        have hm := IE 0 (p3 :: w) ek (List.mem_of_getElem? hek)
        obtain ⟨v, hv⟩ : ∃ v : Ev, v = (ek.1, ek.2.1, ek.2.2.1, p5, ek.2.2.2.2.1, ek.2.2.2.2.2) := ⟨_, rfl⟩
        rw [← hv]
        have hset : Ax L ((k + 1 : Nat) : Int) v = (1, 0, 0, 0, p2, p2) :: ((came 0 (p3 :: w)).set k v ++ [(3, n, 0, 0, p2, 0)]) := by
          unfold Ax
          rw [Int.toNat_natCast, hLe, List.set_cons_succ, List.set_append_left _ _ (by rw [hcl]; exact hk2)]
        have hE : ∀ e ∈ (came 0 (p3 :: w)).set k v, e.1 = 2 ∧ e.2.2.1 = 0 := fun e he => by
          rcases List.mem_or_eq_of_mem_set he with he | rfl
          · exact hca e he
          · rw [hv]; exact hm
        obtain ⟨j, rfl⟩ : ∃ j, k = j + 1 := ⟨k - 1, by omega⟩
        have hmap : ((came 0 (p3 :: w)).set (j + 1) v).map (fun e => e.2.2.2.1) = p3 :: w.set j p5 := by
          rw [List.map_set, FD, hv]; rfl
        have hne : w.set j p5 ≠ w := fun h => by
          have h1 : w[j]? = some ek.2.2.2.1 := by rw [List.getElem?_cons_succ] at hekw; exact hekw
          have hj := (List.getElem?_eq_some_iff.1 h1).1
          have h2 : (w.set j p5)[j]? = some p5 := by rw [List.getElem?_set_self hj]
          rw [h, h1] at h2
          exact c5 (Option.some.inj h2)
        obtain ⟨B, hB⟩ := LJ (en := 3) (hst := p2) (la := n) e1 (ws := w.set j p5) (by rw [List.length_set]; omega) hne (by decide)
        rw [hset, chk _ hE (by rw [List.length_set, hcl]; omega), hmap, hB, Option.bind_some]
        have hBl : ((B ++ [((4 : Int), (0 : Int))]).length : Int) = B.length + 1 := by simp
        have hbnd := Lm p0 [p1] [] [] (I5 p2 (p3 :: w.set j p5) 3 p2 n)
        rw [hB, List.length_append, List.length_singleton] at hbnd
        rw [hBl, if_pos (by omega), BE (by omega), show (B.length : Int) + 1 - 1 = ((B.length : Nat) : Int) by omega, A9 (x := ((4 : Int), (0 : Int))) (by simp), Option.bind_some, if_pos ⟨rfl, rfl⟩]; rfl
end Go.Proofs.Ytflaelbmglmmcaa
