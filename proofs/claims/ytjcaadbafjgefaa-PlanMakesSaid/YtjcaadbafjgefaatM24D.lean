/- Layer 24: the statement. Conditions: none. -/
import Derived.Test.YtjcaadbafjgefaatM24
import Derived.Test.YtjcaadbafjgefaatM21R
import Derived.Test.YtjcaadbafjgefaatEVD
namespace Go.Proofs.Ytjcaadbafjgefaa
set_option linter.unusedVariables false
set_option linter.unusedSimpArgs false
open Go Go.RowKit
theorem OX (t : Tp) (r : Rt) (hl : r.length ≤ 9223372036854775807) : HU t r = some (decide ((∀ row ∈ r, row.length ≤ 12) ∧ t.2.1.length ≤ 30 ∧ t.2.2.length ≤ 12 ∧ r.length ≤ 12)) := by
  unfold HU
  rw [HV r hl (GA r) (fun row => ¬ row.length ≤ 12) false (fun k hk => by
    rw [GA, if_pos (by omega), Cl (List.getElem?_eq_getElem hk), Option.bind_some]
    by_cases c : r[k].length ≤ 12
    · rw [if_neg (by omega), if_neg (fun h => h c)]
    · rw [if_pos (by omega), if_pos c]) (by rw [GA, if_neg (by omega)])]
  by_cases c : ∃ row ∈ r, ¬ row.length ≤ 12
  · rw [if_pos c]
    show some false = _
    rw [decide_eq_false (fun h => by obtain ⟨row, hm, hn⟩ := c; exact hn (h.1 row hm))]
  · rw [if_neg c]
    show some _ = some _
    congr 1
    rw [Bool.eq_iff_iff]
    simp only [Bool.and_eq_true, decide_eq_true_eq]
    constructor
    · intro h
      exact ⟨fun row hm => Decidable.not_not.1 fun hn => c ⟨row, hm, hn⟩, by omega⟩
    · intro h; omega
theorem RU {l : List Int} (hl : l.length ≤ 1000000000) : Jf l l = some true := by
  have key : ∀ (d k : Nat), k + d = l.length → AE (Ft l l) (k : Int) = some (.inl ()) := by
    intro d
    induction d with
    | zero => intro k hk; exact AF (by rw [Ft, if_neg (by omega)])
    | succ d ih =>
      intro k hk
      have hg := List.getElem?_eq_getElem (show k < l.length by omega)
      have hst : Ft l l (k : Int) = some (.inl ((k + 1 : Nat) : Int)) := by
        rw [Ft, if_pos (by omega), Cl hg, Option.bind_some, Option.bind_some, if_neg (fun h => h rfl), Az (by omega)]; rfl
      rw [Bm hst]
      exact ih (k + 1) (by omega)
  have h0 : AE (Ft l l) 0 = some (.inl ()) := key l.length 0 (by omega)
  unfold Jf
  rw [if_neg (by omega), h0]; rfl
theorem Ob {P : Int → Prop} : (NO P).length ≤ 64 := by
  have hn := (IC (P := P)).imp (fun {a b} (h : a < b) => (Int.ne_of_lt h))
  exact Gj 64 _ hn (fun x hx => by have := (Ez.1 hx).1; omega)
theorem QA {L : List Mv} {first gap : Int} {k : Nat} (h : k < (Cz L).length) : ix (Gh L first gap) (k : Int) = some ((Cz L).getD k 0, first + (k : Int) * gap, I6 L ((Cz L).getD k 0)) := by
  refine Cl ?_
  unfold Gh
  rw [List.getElem?_map, List.getElem?_range h]; rfl
theorem LP {α : Type} {r : α → α → Prop} (asy : ∀ a b, r a b → ¬ r b a) : ∀ {A B : List α}, A.Pairwise r → B.Pairwise r → (∀ x, x ∈ A ↔ x ∈ B) → A = B
  | [], [], _, _, _ => rfl
  | [], b :: B, _, _, h => by have := (h b).2 (List.mem_cons_self ..); cases this
  | a :: A, [], _, _, h => by have := (h a).1 (List.mem_cons_self ..); cases this
  | a :: A, b :: B, ha, hb, h => by
    rw [List.pairwise_cons] at ha hb
    have e : a = b := by
      rcases List.mem_cons.1 ((h a).1 (List.mem_cons_self ..)) with e | e
      · exact e
      · rcases List.mem_cons.1 ((h b).2 (List.mem_cons_self ..)) with e2 | e2
        · exact e2.symm
        · exact absurd (ha.1 _ e2) (asy _ _ (hb.1 _ e))
    subst e
    rw [LP asy ha.2 hb.2 fun x => ?_]
    constructor
    · intro hx
      rcases List.mem_cons.1 ((h x).1 (List.mem_cons_of_mem _ hx)) with e | e
      · subst e; exact absurd (ha.1 _ hx) (asy _ _ (ha.1 _ hx))
      · exact e
    · intro hx
      rcases List.mem_cons.1 ((h x).2 (List.mem_cons_of_mem _ hx)) with e | e
      · subst e; exact absurd (hb.1 _ hx) (asy _ _ (hb.1 _ hx))
      · exact e
abbrev TR (m : Mv) (n s h : Int) : Prop := m.2.2.2 < n ∨ m.2.2.2 = n ∧ (m.1 < s ∨ m.1 = s ∧ m.2.1 < h)
abbrev RM (t : Tp) (old now : Rt) (L : List Mv) (n s h : Nat) : Prop := L.length ≤ n * 64 + s * 8 + h ∧ L.Pairwise (fun x y => AX x y = true) ∧ ∀ m, m ∈ L ↔ JF t old now m ∧ TR m (n : Int) (s : Int) (h : Int)
theorem QB {t : Tp} {old now : Rt} (ho : D7 t old) (hn : D7 t now) (hr : now.length ≤ 12) (hw : ∀ row ∈ now, row.length ≤ 1000000000) {n s : Nat} (hn8 : n < 8) (hs : (s : Int) < t.1) {L : List Mv} (hI : RM t old now L n s 0) :
    ∃ L', AE (EV t old now (n : Int) (s : Int)) (L, 0) = some L' ∧ RM t old now L' n s t.2.2.length := by
  have h8 := ho.1.1.1
  obtain ⟨L', h1, h2⟩ := DO t.2.2.length (fun (L : List Mv) (k : Nat) => (L, (k : Int))) (EV t old now (n : Int) (s : Int)) id (fun L k => RM t old now L n s k) (fun L k hk hI => by
    obtain ⟨hl, hp, hm⟩ := hI
    have hst : 0 ≤ (s : Int) ∧ (s : Int) < t.1 := by omega
    have hht : 0 ≤ (k : Int) ∧ (k : Int) < (t.2.2.length : Int) := by omega
    obtain ⟨l, hwy⟩ := hn.2 (s : Int) (k : Int) hst hht
    obtain ⟨row1, a1, _, a3, _⟩ := hn.1.port hst hht
    obtain ⟨row2, b1, _, b3, _⟩ := ho.1.port hst hht
    obtain ⟨q, e, hq⟩ := O9 hn.1 hr hw hst hht
    have hq1 : q.1 = (s : Int) :: l := by
      rcases hq with ⟨_, q2, q3⟩ | ⟨_, _, q3⟩
      · exact q2.det hwy (by rw [q3]; rfl)
      · exact absurd hwy (q3 l)
    have hcond : (if (q.1.length : Int) = AA ((n : Int) + 1) then (ix old (s : Int)).bind fun x16 => (ix x16 (k : Int)).bind fun x17 => (ix now (s : Int)).bind fun x18 => (ix x18 (k : Int)).bind fun x19 => some (decide (x17 ≠ x19)) else some false) = some (decide (l.length = n ∧ Ig now (s : Int) (k : Int) ≠ Ig old (s : Int) (k : Int))) := by
      rw [hq1, Az (by omega), List.length_cons]
      by_cases c : l.length = n
      · rw [if_pos (by omega), b1, Option.bind_some, b3, Option.bind_some, a1, Option.bind_some, a3, Option.bind_some]
        congr 1
        rw [decide_eq_decide]
        exact ⟨fun h => ⟨c, fun h2 => h h2.symm⟩, fun h h2 => h.2 h2.symm⟩
      · rw [if_neg (by omega), decide_eq_false (fun h => c h.1)]
    have hstep : EV t old now (n : Int) (s : Int) (L, (k : Int)) = (if decide (l.length = n ∧ Ig now (s : Int) (k : Int) ≠ Ig old (s : Int) (k : Int)) = true then some (.inl (L ++ [((s : Int), (k : Int), Ig now (s : Int) (k : Int), (n : Int))], ((k + 1 : Nat) : Int))) else some (.inl (L, ((k + 1 : Nat) : Int)))) := by
      rw [EV, if_pos (by omega), e, Option.bind_some, hcond, Option.bind_some]
      split
      · rw [a1, Option.bind_some, a3, Option.bind_some, Gf (by simp; omega), Option.bind_some, Option.bind_some, Az (by omega)]; rfl
      · rw [Option.bind_some, Az (by omega)]; rfl
    by_cases c : l.length = n ∧ Ig now (s : Int) (k : Int) ≠ Ig old (s : Int) (k : Int)
    · have hmv : JF t old now ((s : Int), (k : Int), Ig now (s : Int) (k : Int), (n : Int)) := ⟨hst, hht, rfl, c.2, l, hwy, by show (n : Int) = _; omega⟩
      refine ⟨_, by rw [hstep, decide_eq_true c, if_pos rfl], by simp; omega, ?_, ?_⟩
      · rw [List.pairwise_append]
        refine ⟨hp, List.pairwise_singleton _ _, fun a ha b hb => ?_⟩
        rw [List.mem_singleton.1 hb, HZ]
        exact ((hm a).1 ha).2
      · intro m
        rw [List.mem_append, List.mem_singleton, hm m]
        constructor
        · rintro (⟨h1, h2⟩ | rfl)
          · exact ⟨h1, by omega⟩
          · exact ⟨hmv, by show (n : Int) < _ ∨ (n : Int) = _ ∧ ((s : Int) < _ ∨ (s : Int) = _ ∧ (k : Int) < _); omega⟩
        · rintro ⟨h1, h2⟩
          by_cases e : m.2.1 = (k : Int) ∧ m.1 = (s : Int) ∧ m.2.2.2 = (n : Int)
          · right
            exact Prod.ext e.2.1 (Prod.ext e.1 (Prod.ext (by rw [h1.2.2.1, e.1, e.2.1]) e.2.2))
          · left; exact ⟨h1, by omega⟩
    · refine ⟨_, by rw [hstep, decide_eq_false c, if_neg (by decide)], by omega, hp, fun m => ?_⟩
      rw [hm m]
      constructor
      · rintro ⟨h1, h2⟩; exact ⟨h1, by omega⟩
      · rintro ⟨h1, h2⟩
        refine ⟨h1, ?_⟩
        by_cases e : m.2.1 = (k : Int) ∧ m.1 = (s : Int) ∧ m.2.2.2 = (n : Int)
        · exfalso
          obtain ⟨_, _, _, p1, l2, p2, p3⟩ := h1
          rw [e.1, e.2.1] at p1 p2
          have hl2 : l2 = l := (List.cons.inj (p2.det hwy rfl)).2
          rw [e.2.2, hl2] at p3
          exact c ⟨by omega, p1⟩
        · omega) (fun L _ => by rw [EV, if_neg (by omega)]; rfl) L hI
  exact ⟨L', h2, h1⟩
theorem Q0 {t : Tp} {old now : Rt} (ho : D7 t old) (hn : D7 t now) (hr : now.length ≤ 12) (hw : ∀ row ∈ now, row.length ≤ 1000000000) {n : Nat} (hn8 : n < 8) {L : List Mv} (hI : RM t old now L n 0 0) :
    ∃ L', AE (FL t old now (n : Int)) (L, 0) = some L' ∧ RM t old now L' n t.1.toNat 0 := by
  have h8 := ho.1.1.1
  have hH := ho.1.1.2
  obtain ⟨L', h1, h2⟩ := DO t.1.toNat (fun (L : List Mv) (k : Nat) => (L, (k : Int))) (FL t old now (n : Int)) id (fun L k => RM t old now L n k 0) (fun L k hk hI => by
    obtain ⟨L', e, i1, i2, i3⟩ := QB ho hn hr hw hn8 (s := k) (by omega) hI
    refine ⟨L', by rw [FL, if_pos (by omega), e, Option.bind_some, Az (by omega)]; rfl, by omega, i2, fun m => ?_⟩
    rw [i3 m]
    constructor
    · rintro ⟨h1, h2⟩; exact ⟨h1, by omega⟩
    · rintro ⟨h1, h2⟩; exact ⟨h1, by have := h1.2.1; omega⟩) (fun L _ => by rw [FL, if_neg (by omega)]; rfl) L hI
  exact ⟨L', h2, h1⟩
theorem Og {t : Tp} {old now : Rt} (hr1 : old.length ≤ 12) (hw1 : ∀ row ∈ old, row.length ≤ 1000000000) (hr : now.length ≤ 12) (hw : ∀ row ∈ now, row.length ≤ 1000000000) :
    (¬ (D7 t old ∧ D7 t now) ∧ HT t old now = some ([], 2)) ∨ (D7 t old ∧ D7 t now ∧ ∃ L, HT t old now = some (L, 0) ∧ L.Pairwise (fun x y => AX x y = true) ∧ ∀ m, m ∈ L ↔ JF t old now m) := by
  unfold HT
  rw [O0 hr1 hw1, Option.bind_some]
  by_cases c1 : D7 t old
  · rw [decide_eq_true c1, if_neg (by decide), O0 hr hw, Option.bind_some]
    by_cases c2 : D7 t now
    · rw [decide_eq_true c2, Option.bind_some, if_neg (by decide)]
      right
      refine ⟨c1, c2, ?_⟩
      have h8 := c1.1.1.1
      obtain ⟨L', h1, h2⟩ := DO t.1.toNat (fun (L : List Mv) (k : Nat) => (L, (k : Int))) (FE t old now) id (fun L k => RM t old now L k 0 0) (fun L k hk hI => by
        obtain ⟨L', e, i1, i2, i3⟩ := Q0 c1 c2 hr hw (n := k) (by omega) hI
        refine ⟨L', by rw [FE, if_pos (by omega), e, Option.bind_some, Az (by omega)]; rfl, by omega, i2, fun m => ?_⟩
        rw [i3 m]
        constructor
        · rintro ⟨h1, h2⟩; exact ⟨h1, by omega⟩
        · rintro ⟨h1, h2⟩; exact ⟨h1, by have := h1.1; have := h1.2.1; omega⟩) (fun L _ => by rw [FE, if_neg (by omega)]; rfl) [] ⟨by simp, List.Pairwise.nil, fun m => ⟨fun h => by simp at h, fun ⟨h1, h2⟩ => by
          have := h1.1; have := h1.2.1; have := (JF.bd c1 c2 h1).2; omega⟩⟩
      refine ⟨L', by rw [show AE (FE t old now) ([], 0) = some L' from h2]; rfl, h1.2.1, fun m => ?_⟩
      rw [h1.2.2 m]
      exact ⟨fun h => h.1, fun h => ⟨h, by have := (JF.bd c1 c2 h).2; omega⟩⟩
    · left
      exact ⟨fun h => c2 h.2, by rw [decide_eq_false c2, Option.bind_some, if_pos (by decide)]⟩
  · left
    exact ⟨fun h => c1 h.1, by rw [decide_eq_false c1, if_pos (by decide), Option.bind_some, if_pos rfl]⟩
theorem R3 {t : Tp} (hok : NE t) : Jg t = some (CF t) := by
  obtain ⟨r, h1, h2⟩ := PB (t := t) hok.1.2.2.1
  have h := (LK hok).1
  unfold FH at h
  unfold Jg
  rw [h2]; rw [h1] at h; exact h
theorem Ta {t : Tp} {L : List Mv} (ht : 0 ≤ t.1 ∧ t.1 ≤ 64) (hl : L.length ≤ 1000) (hb : ∀ m ∈ L, 0 ≤ m.1 ∧ m.1 < t.1) (n : Int) : Kp t L n = some (I6 L n) := by
  have hin : ∀ k : Nat, ∃ c : Int, AE (Ge L n (k : Int)) (0, 0) = some c ∧ (0 < c ↔ ∃ m ∈ L, m.2.2.2 = n ∧ m.1 = (k : Int)) := fun k => by
    obtain ⟨c, h1, h2⟩ := DO L.length (fun (c : Int) (j : Nat) => (c, (j : Int))) (Ge L n (k : Int)) id (fun c j => (0 ≤ c ∧ c ≤ (j : Int)) ∧ (0 < c ↔ ∃ m ∈ L.take j, m.2.2.2 = n ∧ m.1 = (k : Int))) (fun c j hj hI => by
      obtain ⟨hI1, hI2⟩ := hI
      have hg := List.getElem?_eq_getElem hj
      have hix : ix L (j : Int) = some L[j] := Cl hg
      have htk : ∀ p : Mv → Prop, (∃ m ∈ L.take (j + 1), p m) ↔ (∃ m ∈ L.take j, p m) ∨ p L[j] := fun p => by
        rw [List.take_succ_eq_append_getElem hj]
        constructor
        · rintro ⟨m, hm, hp⟩
          rcases List.mem_append.1 hm with h | h
          · exact .inl ⟨m, h, hp⟩
          · rw [List.mem_singleton.1 h] at hp; exact .inr hp
        · rintro (⟨m, hm, hp⟩ | hp)
          · exact ⟨m, List.mem_append_left _ hm, hp⟩
          · exact ⟨_, List.mem_append_right _ (List.mem_singleton.2 rfl), hp⟩
      by_cases d : L[j].2.2.2 = n ∧ L[j].1 = (k : Int)
      · refine ⟨c + 1, ?_, by omega, ?_⟩
        · rw [Ge, if_pos (by omega), hix, Option.bind_some, if_pos d.2, Option.bind_some, decide_eq_true d.1, Option.bind_some, if_pos rfl, Option.bind_some, Az (by omega), Az (by omega)]; rfl
        · rw [htk]; exact ⟨fun _ => .inr d, fun _ => by omega⟩
      · refine ⟨c, ?_, by omega, ?_⟩
        · rw [Ge, if_pos (by omega), hix, Option.bind_some]
          by_cases d1 : L[j].1 = (k : Int)
          · rw [if_pos d1, Option.bind_some, decide_eq_false (fun h => d ⟨h, d1⟩), Option.bind_some, if_neg (by decide), Option.bind_some, Az (by omega)]; rfl
          · rw [if_neg d1, Option.bind_some, if_neg (by decide), Option.bind_some, Az (by omega)]; rfl
        · rw [htk, hI2]; exact ⟨fun h => .inl h, fun h => h.resolve_right d⟩) (fun c _ => by rw [Ge, if_neg (by omega)]; rfl) 0 (by simp)
    refine ⟨c, h2, ?_⟩
    have := h1.2
    rw [List.take_length] at this
    exact this
  obtain ⟨R, h1, h2⟩ := DO t.1.toNat (fun (R : List Int) (k : Nat) => (R, (k : Int))) (F6 t L n) id (fun R k => R.length ≤ k ∧ R.Pairwise (· < ·) ∧ ∀ x, x ∈ R ↔ x ∈ I6 L n ∧ x < (k : Int)) (fun R k hk hI => by
    obtain ⟨i1, i2, i3⟩ := hI
    obtain ⟨c, e, hc⟩ := hin k
    by_cases d : 0 < c
    · refine ⟨R ++ [(k : Int)], ?_, by simp; omega, ?_, fun x => ?_⟩
      · rw [F6, if_pos (by omega), e, Option.bind_some, if_pos d, Gf (by simp; omega), Option.bind_some, Option.bind_some, Az (by omega)]; rfl
      · rw [List.pairwise_append]
        refine ⟨i2, List.pairwise_singleton _ _, fun a ha b hb => ?_⟩
        rw [List.mem_singleton.1 hb]
        exact ((i3 a).1 ha).2
      · rw [List.mem_append, List.mem_singleton, i3 x]
        constructor
        · rintro (⟨h1, h2⟩ | rfl)
          · exact ⟨h1, by omega⟩
          · obtain ⟨m, m1, m2, m3⟩ := hc.1 d
            exact ⟨Ez.2 ⟨by omega, m, m1, m2, m3⟩, by omega⟩
        · rintro ⟨h1, h2⟩
          by_cases e : x = (k : Int)
          · exact .inr e
          · exact .inl ⟨h1, by omega⟩
    · refine ⟨R, ?_, by omega, i2, fun x => ?_⟩
      · rw [F6, if_pos (by omega), e, Option.bind_some, if_neg d, Option.bind_some, Az (by omega)]; rfl
      · rw [i3 x]
        constructor
        · rintro ⟨h1, h2⟩; exact ⟨h1, by omega⟩
        · rintro ⟨h1, h2⟩
          refine ⟨h1, ?_⟩
          by_cases e : x = (k : Int)
          · subst e
            obtain ⟨_, m, m1, m2, m3⟩ := Ez.1 h1
            exact absurd (hc.2 ⟨m, m1, m2, m3⟩) d
          · omega) (fun R _ => by rw [F6, if_neg (by omega)]; rfl) [] (by
    refine ⟨by simp, List.Pairwise.nil, fun x => ⟨fun h => by simp at h, fun ⟨h1, h2⟩ => ?_⟩⟩
    have := (Ez.1 h1).1; omega)
  have : R = I6 L n := Kd h1.2.1 IC fun x => by
    rw [h1.2.2 x]
    refine ⟨fun h => h.1, fun h => ⟨h, ?_⟩⟩
    obtain ⟨_, m, m1, m2, m3⟩ := Ez.1 h
    have := hb m m1; omega
  unfold Kp
  rw [show AE (F6 t L n) ([], 0) = some R from h2, this]; rfl
theorem Nm {t : Tp} {L : List Mv} {z : Int} (ht : 0 ≤ t.1 ∧ t.1 ≤ 8) (hl : L.length ≤ 64) (hb : ∀ m ∈ L, (0 ≤ m.1 ∧ m.1 < t.1) ∧ 0 ≤ m.2.2.2 ∧ m.2.2.2 < t.1) {first miss life : Int} (hf : 0 ≤ first ∧ first ≤ 1099514000000) (hm : 0 ≤ miss ∧ miss ≤ 1048576) (hli : 0 ≤ life ∧ life ≤ 8000) :
    AE (ES t miss (L, z) life) (first, 0, [], 0) = some (Gh L first (2 * miss + life + 1), if (Cz L).length = 0 then 0 else first + (((Cz L).length - 1 : Nat) : Int) * (2 * miss + life + 1) + miss) := by
  have hlen : (Cz L).length ≤ 64 := Ob
  have hrl : (Gh L first (2 * miss + life + 1)).length = (Cz L).length := by unfold Gh; simp
  generalize hG : 2 * miss + life + 1 = gap at hrl ⊢
  have hbk := fun (k : Nat) (hk : k ≤ 64) => Md (k := (k : Int)) (gap := gap) (b := 4194304) (by omega) (by omega)
  have hmul : ∀ k : Nat, ((k + 1 : Nat) : Int) * gap = (k : Int) * gap + gap := fun k => by
    rw [show ((k + 1 : Nat) : Int) = (k : Int) + 1 by omega, Int.add_mul, Int.one_mul]
  have hmono : ∀ j k : Nat, j < k → k < (Cz L).length → (Cz L).getD j 0 < (Cz L).getD k 0 := fun j k hjk hk => by
    have := List.pairwise_iff_getElem.1 (IC (P := fun n => ∃ m ∈ L, m.2.2.2 = n)) j k (by show j < (Cz L).length; omega) hk hjk
    rw [List.getD_eq_getElem?_getD, List.getD_eq_getElem?_getD, List.getElem?_eq_getElem hk, List.getElem?_eq_getElem (show j < (Cz L).length by omega)]
    exact this
  have hmemg : ∀ i, i < (Cz L).length → (Cz L).getD i 0 ∈ Cz L := fun i hi => by
    rw [List.getD_eq_getElem?_getD, List.getElem?_eq_getElem hi]; exact List.getElem_mem hi
  have hof : ∀ x, x ∈ Cz L → ∃ i, i < (Cz L).length ∧ (Cz L).getD i 0 = x := fun x hx => by
    obtain ⟨i, hi, e⟩ := List.getElem_of_mem hx
    exact ⟨i, hi, by rw [List.getD_eq_getElem?_getD, List.getElem?_eq_getElem hi]; exact e⟩
  obtain ⟨q, h1, h2⟩ := DO t.1.toNat (fun (q : Int × List SF × Int) (k : Nat) => (q.1, (k : Int), q.2.1, q.2.2)) (ES t miss (L, z) life) (fun q => (q.2.1, q.2.2))
    (fun q k => ∃ c : Nat, c ≤ (Cz L).length ∧ (∀ i, i < c → (Cz L).getD i 0 < (k : Int)) ∧ (∀ i, c ≤ i → i < (Cz L).length → (k : Int) ≤ (Cz L).getD i 0) ∧ q.1 = first + (c : Int) * gap ∧ q.2.1 = (Gh L first gap).take c ∧ q.2.2 = if c = 0 then 0 else first + ((c - 1 : Nat) : Int) * gap + miss) (fun q k hk hI => by
      obtain ⟨c, c1, c2, c3, q1, q2, q3⟩ := hI
      obtain ⟨qa, qb, qc⟩ := q
      simp only at q1 q2 q3
      subst q1 q2 q3
      have hb1 := hbk c (by omega)
      have hm1 := hmul c
      have hsw := Ta (t := t) (by omega) (by omega) (fun m hm => (hb m hm).1) (k : Int)
      by_cases d : c < (Cz L).length ∧ (Cz L).getD c 0 = (k : Int)
      · have hne : ¬ (((I6 L (k : Int)).length : Nat) : Int) = 0 := fun h0 => by
          have hm := hmemg c d.1
          rw [d.2] at hm
          obtain ⟨_, m, h1, h2⟩ := Ez.1 hm
          have hbm := hb m h1
          have : m.1 ∈ I6 L (k : Int) := Ez.2 ⟨by omega, m, h1, h2, rfl⟩
          have := List.length_pos_of_mem this
          omega
        refine ⟨(first + ((c + 1 : Nat) : Int) * gap, (Gh L first gap).take (c + 1), first + (c : Int) * gap + miss), ?_, c + 1, by omega, ?_, ?_, rfl, rfl, by simp⟩
        · have hcl : c < (Gh L first gap).length := by omega
          have hel : (Gh L first gap)[c] = ((k : Int), first + (c : Int) * gap, I6 L (k : Int)) := by
            have := QA (L := L) (first := first) (gap := gap) d.1
            rw [d.2] at this
            have h2 := (Cl (List.getElem?_eq_getElem hcl)).symm.trans this
            exact Option.some.inj h2
          rw [ES, if_pos (by omega)]
          simp only []
          rw [hsw, Option.bind_some, if_neg hne, Gf (by simp; omega), Option.bind_some, Option.bind_some]
          simp only []
          rw [Az (x := first + (c : Int) * gap + miss) (by omega), Az (x := first + (c : Int) * gap + miss + miss) (by omega), Az (x := first + (c : Int) * gap + miss + miss + life) (by omega), Az (x := first + (c : Int) * gap + miss + miss + life + 1) (by omega), Az (by omega), List.take_succ_eq_append_getElem hcl, hel,
            show first + (c : Int) * gap + miss + miss + life + 1 = first + ((c + 1 : Nat) : Int) * gap by omega]; rfl
        · intro i hi
          by_cases e : i = c
          · rw [e, d.2]; omega
          · have := c2 i (by omega); omega
        · intro i hi1 hi2
          have := hmono c i (by omega) hi2
          rw [d.2] at this; omega
      · have hno : ¬ (k : Int) ∈ Cz L := fun hm => by
          obtain ⟨i, i1, i2⟩ := hof _ hm
          by_cases e1 : i < c
          · have := c2 i e1; omega
          · by_cases e2 : i = c
            · subst e2; exact d ⟨i1, i2⟩
            · have h1 := hmono c i (by omega) i1
              have h2 := c3 c (by omega) (by omega)
              omega
        have hemp : I6 L (k : Int) = [] := by
          cases hs : I6 L (k : Int) with
          | nil => rfl
          | cons x l =>
            have : x ∈ I6 L (k : Int) := by rw [hs]; exact List.mem_cons_self ..
            obtain ⟨_, m, m1, m2, m3⟩ := Ez.1 this
            exact absurd (Ez.2 ⟨by omega, m, m1, m2⟩) hno
        refine ⟨(first + (c : Int) * gap, (Gh L first gap).take c, if c = 0 then 0 else first + ((c - 1 : Nat) : Int) * gap + miss), ?_, c, c1, fun i hi => by have := c2 i hi; omega, fun i i1 i2 => ?_, rfl, rfl, rfl⟩
        · rw [ES, if_pos (by omega)]
          simp only []
          rw [hsw, hemp, Option.bind_some, if_pos (by simp), Option.bind_some]
          simp only []
          rw [Az (by omega)]; rfl
        · have h1 := c3 i i1 i2
          have : (Cz L).getD i 0 ≠ (k : Int) := fun e => hno (e ▸ hmemg i i2)
          omega) (fun q _ => by
        rw [ES, if_neg (by omega)]) (first, [], 0) ⟨0, by omega, fun i h => by omega, fun i _ hi => by
          have := (Ez.1 (hmemg i hi)).1; omega, by simp, by simp, by simp⟩
  obtain ⟨c, c1, c2, c3, q1, q2, q3⟩ := h1
  have hc : c = (Cz L).length := by
    refine Nat.le_antisymm c1 (Nat.le_of_not_lt fun h => ?_)
    have h1 := c3 c (by omega) h
    obtain ⟨_, m, m1, m2⟩ := Ez.1 (hmemg c h)
    have := hb m m1
    omega
  subst hc
  rw [show AE (ES t miss (L, z) life) (first, 0, [], 0) = _ from h2, q2, q3, List.take_of_length_le (by omega)]
theorem Qf {t : Tp} {old now : Rt} (s1 : RX old) (s2 : RX now) (at_ miss lead : Int) : ∃ r, Dx t old now at_ miss lead = some r ∧ He t old now at_ miss lead = some r ∧ r.1.1.length ≤ 64 ∧ r.1.2.1.length ≤ 64 ∧ ∀ x ∈ r.1.2.1, x.2.2.length ≤ 64 := by
  have hz : (OR : RZ).1.length ≤ 64 ∧ (OR : RZ).2.1.length ≤ 64 ∧ ∀ x ∈ (OR : RZ).2.1, x.2.2.length ≤ 64 := by simp
  rcases Q4 (t := t) s1 s2 at_ miss lead with ⟨ca, e⟩ | ⟨ca, cg, e⟩ | ⟨ca, g1, g2, L, hL, _, hc⟩
  · refine ⟨_, e, ?_, hz⟩
    unfold He
    rw [if_pos (by simp only [KV] at ca; simp; omega)]
  · refine ⟨_, e, ?_, hz⟩
    rcases Og (t := t) s1.1 s1.2 s2.1 s2.2 with ⟨_, e2⟩ | ⟨h1, h2, _⟩
    · unfold He
      rw [if_neg (by simp; omega), e2]; rfl
    · exact absurd ⟨h1, h2⟩ cg
  · rcases Og (t := t) s1.1 s1.2 s2.1 s2.2 with ⟨h, _⟩ | ⟨_, _, L', e2, o2, m2⟩
    · exact absurd ⟨g1, g2⟩ h
    have hLL : L' = L := LP (r := fun x y => AX x y = true) (fun a b h1 h2 => by rw [HZ] at h1 h2; omega) o2 hL.2.1 fun x => by rw [m2 x, hL.2.2.2 x]
    subst hLL
    obtain ⟨l1, l2, l3⟩ := LK g1.1.1
    rcases hc with ⟨cl, e⟩ | ⟨cl, n1, n2, e⟩
    · refine ⟨_, e, ?_, hz⟩
      unfold He
      rw [if_neg (by simp; omega), e2, Option.bind_some, if_neg (by show ¬ (0 : Int) ≠ 0; decide), if_pos (by rw [cl]; rfl)]
    · refine ⟨_, e, ?_, ?_⟩
      · have hlp : 0 < L'.length := List.length_pos_iff.2 cl
        have h8 := g1.1.1.1
        have hr := Nm (t := t) (L := L') (z := 0) (first := at_ + lead + miss + CF t + 1) (miss := miss) (life := CF t) (by omega) hL.1 (fun m hm => by
          have := JF.bd g1 g2 ((hL.2.2.2 m).1 hm); have := ((hL.2.2.2 m).1 hm).1; omega) (by omega) (by omega) (by omega)
        rw [if_neg (by omega)] at hr
        unfold He
        rw [if_neg (by simp; omega), e2, Option.bind_some, if_neg (by show ¬ (0 : Int) ≠ 0; decide), if_neg (by show ¬ ((L'.length : Nat) : Int) = 0; omega), R3 g1.1.1, Option.bind_some,
          Az (x := at_ + lead) (by omega), Az (x := at_ + lead + miss) (by omega), Az (x := at_ + lead + miss + CF t) (by omega), Az (x := at_ + lead + miss + CF t + 1) (by omega), Az (x := at_ + lead + 1) (by omega), hr, Option.bind_some]
        simp only []
        split <;> rfl
      · split
        · exact hz
        · refine ⟨hL.1, ?_, fun x hx => ?_⟩
          · show (Gh L' _ _).length ≤ 64
            unfold Gh; simp; omega
          · have hx' : x ∈ Gh L' (at_ + lead + miss + CF t + 1) (2 * miss + CF t + 1) := hx
            unfold Gh at hx'
            obtain ⟨k, _, rfl⟩ := List.mem_map.1 hx'
            show (I6 L' _).length ≤ 64
            exact Ob
theorem QP {L : List Mv} (hl : L.length ≤ 1000) : Jh L = some L := by
  obtain ⟨R, h1, h2⟩ := DO L.length (fun (R : List Mv) (k : Nat) => (R, (k : Int))) (Gk L) id (fun R k => R = L.take k) (fun R k hk hI => by
    have hg : ix L (k : Int) = some L[k] := Cl (List.getElem?_eq_getElem hk)
    have hb : R.length ≤ 1000 := by rw [hI, List.length_take]; omega
    refine ⟨R ++ [L[k]], ?_, by rw [hI, List.take_succ_eq_append_getElem hk]⟩
    rw [Gk, if_pos (by omega), hg, Option.bind_some, Option.bind_some, Option.bind_some, Option.bind_some, Gf (by simp; omega), Option.bind_some, Az (by omega)]; rfl)
    (fun R _ => by rw [Gk, if_neg (by omega)]; rfl) [] (by simp)
  rw [List.take_length] at h1
  subst h1
  unfold Jh
  rw [show AE (Gk R) ([], 0) = some R from h2]; rfl
theorem Qs {L : List Mv} (hl : L.length ≤ 1000) : Ji L L = some true := by
  have k1 : ∀ (d i : Nat), i + d = L.length → AE (Fv L L) (i : Int) = some (.inl ()) := by
    intro d
    induction d with
    | zero => intro i hi; exact AF (by rw [Fv, if_neg (by omega)])
    | succ d ih =>
      intro i hi
      have hst : Fv L L (i : Int) = some (.inl ((i + 1 : Nat) : Int)) := by
        rw [Fv, if_pos (by omega), Cl (List.getElem?_eq_getElem (show i < L.length by omega)), Option.bind_some, Option.bind_some, if_neg (by simp), Az (by omega)]; rfl
      rw [Bm hst]
      exact ih (i + 1) (by omega)
  unfold Ji
  rw [QP hl, Option.bind_some, if_neg (by omega), show AE (Fv L L) 0 = some (.inl ()) from k1 L.length 0 (by omega)]; rfl
theorem QJ {p : RZ} (h1 : p.1.length ≤ 64) (h2 : p.2.1.length ≤ 64) (h3 : ∀ x ∈ p.2.1, x.2.2.length ≤ 64) : Jd p p = some true := by
  have k1 : ∀ (d i : Nat), i + d = p.2.1.length → AE (Fy p p) (i : Int) = some (.inl ()) := by
    intro d
    induction d with
    | zero => intro i hi; exact AF (by rw [Fy, if_neg (by omega)])
    | succ d ih =>
      intro i hi
      have hil : i < p.2.1.length := by omega
      have hs := h3 _ (List.getElem_mem hil)
      have hst : Fy p p (i : Int) = some (.inl ((i + 1 : Nat) : Int)) := by
        rw [Fy, if_pos (by omega), Cl (List.getElem?_eq_getElem hil), Option.bind_some, Option.bind_some, if_neg (by simp), Option.bind_some, Option.bind_some, if_neg (by simp), Option.bind_some, Option.bind_some, RU (by omega), Option.bind_some, Option.bind_some, if_neg (by decide), Az (by omega)]; rfl
      rw [Bm hst]
      exact ih (i + 1) (by omega)
  unfold Jd
  rw [Qs (by omega), Option.bind_some, if_neg (by decide), if_neg (by omega), if_neg (by simp), if_neg (by simp), if_neg (by simp), Option.bind_some, decide_eq_false (by simp), if_neg (by decide), show AE (Fy p p) 0 = some (.inl ()) from k1 p.2.1.length 0 (by omega)]; rfl
theorem Mc (p0 : Tp) (p1 p2 : Rt) (hl1 : p1.length ≤ 9223372036854775807) (hl2 : p2.length ≤ 9223372036854775807) (p3 p4 p5 : Int) : FW p0 p1 p2 p3 p4 p5 = some true := by
  unfold FW
  rw [OX p0 p1 hl1, OX p0 p2 hl2, QS, Option.bind_some, Option.bind_some]
  by_cases c1 : (∀ row ∈ p1, row.length ≤ 12) ∧ p0.2.1.length ≤ 30 ∧ p0.2.2.length ≤ 12 ∧ p1.length ≤ 12
  · rw [decide_eq_true c1, if_neg (by decide)]
    by_cases c2 : (∀ row ∈ p2, row.length ≤ 12) ∧ p0.2.1.length ≤ 30 ∧ p0.2.2.length ≤ 12 ∧ p2.length ≤ 12
    · rw [decide_eq_true c2, Option.bind_some, if_neg (by decide)]
      have s1 : RX p1 := ⟨c1.2.2.2, fun row hm => by have := c1.1 row hm; omega⟩
      have s2 : RX p2 := ⟨c2.2.2.2, fun row hm => by have := c2.1 row hm; omega⟩
      obtain ⟨r, e1, e2, b1, b2, b3⟩ := Qf (t := p0) s1 s2 p3 p4 p5
      rw [e1, e2, Option.bind_some, Option.bind_some, QJ b1 b2 b3, Option.bind_some, if_pos rfl, if_pos rfl]; rfl
    · rw [decide_eq_false c2, Option.bind_some, if_pos (by decide)]; rfl
  · rw [decide_eq_false c1, if_pos (by decide), Option.bind_some, if_pos rfl]; rfl
theorem Me (p0 : Tp) {A : Prop} (_ : A) (p1 : Rt) (ok1 : PN (PN (fun n => (Lit.int .i64 n).wf = true)) p1) (p2 : Rt) (ok2 : PN (PN (fun n => (Lit.int .i64 n).wf = true)) p2) (p3 : Int) {B : Prop} (_ : B) (p4 : Int) {C : Prop} (_ : C) (p5 : Int) {D : Prop} (_ : D) : FW p0 p1 p2 p3 p4 p5 = some true := Mc p0 p1 p2 ok1.1 ok2.1 p3 p4 p5
end Go.Proofs.Ytjcaadbafjgefaa
