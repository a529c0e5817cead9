/- Layer 42: what is found. Conditions: none. -/
import Derived.Test.YtflaelbmglmmcaadM21R
import Derived.Test.YtflaelbmglmmcaadM42X
namespace Go.Proofs.Ytflaelbmglmmcaa
set_option linter.unusedVariables false
set_option linter.unusedSimpArgs false
open Go Go.RowKit
def pr (e : Ev) (X : List G3) : List (Int × Int) := X.flatMap fun g => if g.1 = e.2.2.1 then [(e.2.2.2.2.1, g.2.2)] else []
def cm (G : List G3) (X : List Ev) : List (Int × Int) := X.flatMap fun e => if e.1 = 9 then pr e G else []
theorem I0 (e : Ev) (g : G3) (X : List G3) : pr e (g :: X) = (if g.1 = e.2.2.1 then [(e.2.2.2.2.1, g.2.2)] else []) ++ pr e X := by unfold pr; rw [List.flatMap_cons]
theorem IU (G : List G3) (e : Ev) (X : List Ev) : cm G (e :: X) = (if e.1 = 9 then pr e G else []) ++ cm G X := by unfold cm; rw [List.flatMap_cons]
theorem LL (e : Ev) : ∀ X : List G3, (pr e X).length ≤ X.length
  | [] => Nat.le_refl _
  | g :: X => by
    have := LL e X
    rw [I0, List.length_append, List.length_cons]
    by_cases c : g.1 = e.2.2.1
    · rw [if_pos c]; simp; omega
    · rw [if_neg c]; simp; omega
theorem Ng (G : List G3) (hG : G.length ≤ 1000) : ∀ X : List Ev, (cm G X).length ≤ 1000 * X.length
  | [] => Nat.le_refl _
  | e :: X => by
    have h1 := Ng G hG X
    have h2 := LL e G
    rw [IU, List.length_append, List.length_cons]
    by_cases c : e.1 = 9
    · rw [if_pos c]; omega
    · rw [if_neg c, List.length_nil]; omega
theorem LQ (G : List G3) (hG : G.length ≤ 1000) (e : Ev) : ∀ (X : List G3) (k : Nat) (C : List (Int × Int)), G.drop k = X → k ≤ G.length → C.length + X.length ≤ 1000000 → AM (Cq G e) ((k : Int), C) = some (C ++ pr e X)
  | [], k, C, hX, hk, hC => by
    have : G.length ≤ k := List.drop_eq_nil_iff.1 hX
    rw [A5 (by rw [Cq, if_neg (by omega)])]; simp [pr]
  | g :: X, k, C, hX, hk, hC => by
    have hg : G[k]? = some g := by rw [← List.head?_drop, hX]; rfl
    have hlt := (List.getElem?_eq_some_iff.1 hg).1
    have hd : G.drop (k + 1) = X := by rw [← List.tail_drop, hX]; rfl
    rw [List.length_cons] at hC
    by_cases c : g.1 = e.2.2.1
    · rw [BU (s' := (((k + 1 : Nat) : Int), C ++ [(e.2.2.2.2.1, g.2.2)])) (by
        rw [Cq, if_pos (by omega), A4 hg, Option.bind_some, if_pos c, Eu (by simp; omega), Option.bind_some, Option.bind_some, Bn (by omega)]; rfl), LQ G hG e X (k + 1) _ hd (by omega) (by simp; omega), I0, if_pos c, List.append_assoc]
    · rw [BU (s' := (((k + 1 : Nat) : Int), C)) (by
        rw [Cq, if_pos (by omega), A4 hg, Option.bind_some, if_neg c, Option.bind_some, Bn (by omega)]; rfl), LQ G hG e X (k + 1) _ hd (by omega) (by omega), I0, if_neg c, List.nil_append]
theorem LW (l : List Ev) (hl : l.length ≤ 200) (G : List G3) (hG : G.length ≤ 1000) : ∀ (X : List Ev) (k : Nat) (C : List (Int × Int)), l.drop k = X → k ≤ l.length → C.length + 1000 * X.length ≤ 500000 → AM (Cp l G) ((k : Int), C) = some (C ++ cm G X)
  | [], k, C, hX, hk, hC => by
    have : l.length ≤ k := List.drop_eq_nil_iff.1 hX
    rw [A5 (by rw [Cp, if_neg (by omega)])]; simp [cm]
  | e :: X, k, C, hX, hk, hC => by
    have hg : l[k]? = some e := by rw [← List.head?_drop, hX]; rfl
    have hlt := (List.getElem?_eq_some_iff.1 hg).1
    have hd : l.drop (k + 1) = X := by rw [← List.tail_drop, hX]; rfl
    have hpl := LL e G
    rw [List.length_cons] at hC
    by_cases c : e.1 = 9
    · have h2 := LQ G hG e G 0 C rfl (Nat.zero_le _) (by omega)
      have h2 : AM (Cq G e) (0, C) = some (C ++ pr e G) := h2
      rw [BU (s' := (((k + 1 : Nat) : Int), C ++ pr e G)) (by
        rw [Cp, if_pos (by omega), A4 hg, Option.bind_some, if_neg (fun h => h c), h2, Option.bind_some, Bn (by omega)]; rfl), LW l hl G hG X (k + 1) _ hd (by omega) (by rw [List.length_append]; omega), IU, if_pos c, List.append_assoc]
    · rw [BU (s' := (((k + 1 : Nat) : Int), C)) (by
        rw [Cp, if_pos (by omega), A4 hg, Option.bind_some, if_pos c, Option.bind_some, Bn (by omega)]; rfl), LW l hl G hG X (k + 1) _ hd (by omega) (by omega), IU, if_neg c, List.nil_append]
def Gf (l : List Ev) : List (Int × Int) := cm (Bb l) l
theorem Ky {l : List Ev} (hl : l.length ≤ 200) : Dr l = some (Bb l, Gf l) := by
  have hg := ES l
  have hb : ([] : List (Int × Int)).length + 1000 * l.length ≤ 500000 := by rw [List.length_nil]; omega
  have h1 := LW l hl (Bb l) (by omega) l 0 [] rfl (Nat.zero_le _) hb
  have h1 : AM (Cp l (Bb l)) (0, []) = some ([] ++ cm (Bb l) l) := h1
  unfold Dr Gf
  rw [Kc (by omega), Option.bind_some, h1, List.nil_append]; rfl
def Hj (C : List (Int × Int)) (at_ : Int) : Int := C.foldl (fun a c => if c.2 < at_ then c.1 else a) 0
theorem bwd_snoc' {α : Type} (l : List α) (e : α) : IL (l ++ [e]) = ((l.length : Int), e) :: IL l := by
  have := HS (l := l ++ [e]) (k := l.length) (x := e) (by simp)
  rw [List.take_of_length_le (by simp), List.take_left' rfl] at this; exact this
theorem Md (at_ : Int) (C : List (Int × Int)) : (D6 (Fm (Bo at_) (IL C) ()) fun _ => some 0) = some (Hj C at_) := by
  refine Jd (Q := fun C => (D6 (Fm (Bo at_) (IL C) ()) fun _ => some 0) = some (Hj C at_)) rfl ?_ C
  intro l a ih
  unfold Hj at ih ⊢
  rw [bwd_snoc', List.foldl_append]
  show D6 ((Bo at_ ((l.length : Int), a) ()).bind _) _ = some (if a.2 < at_ then a.1 else _)
  unfold Bo
  by_cases c : a.2 < at_
  · rw [if_pos c, if_pos c]; rfl
  · rw [if_neg c, if_neg c]; exact ih
theorem Lg (G : List G3) {C : List (Int × Int)} (hC : C.length ≤ 1000000) (at_ : Int) : Bq (G, C) at_ = some (Hj C at_) := by
  unfold Bq back
  show (if C.length ≤ 1000000000 then some (IL C) else none).bind _ = _
  rw [if_pos (by omega), Option.bind_some]
  exact Md at_ C
def Mg (r : Rt) : Prop := r.length ≤ 12 ∧ ∀ row ∈ r, row.length ≤ 1000000000
theorem NW (t : Tp) {r : Rt} (hr : Mg r) (sw h : Int) : ∃ q q', C4 t r sw h = some q ∧ Eo t r sw h = some q' ∧ ((q.2 = 0 ∧ q' = q) ∨ (q.2 ≠ 0 ∧ q'.2 ≠ 0)) := by
  by_cases c : Gx t r ∧ (0 ≤ sw ∧ sw < t.1) ∧ (0 ≤ h ∧ h < (t.2.2.length : Int))
  · obtain ⟨ho, hs, hh⟩ := c
    obtain ⟨q, e, hq⟩ := Po ho hr.1 hr.2 hs hh
    obtain ⟨q', e', hq'⟩ := Oz ho hr.1 hr.2 hs hh
    refine ⟨q, q', e, e', ?_⟩
    rcases hq with ⟨h1, h2, h3⟩ | ⟨h1, h2, h3⟩
    · obtain ⟨l, hl⟩ : ∃ l, q.1 = sw :: l := by
        cases hq1 : q.1 with
        | nil => rw [hq1] at h3; cases h3
        | cons a l => rw [hq1] at h3; cases h3; exact ⟨l, rfl⟩
      rw [hl] at h2
      have := hq'.of h2
      refine .inl ⟨h1, ?_⟩
      rw [this, ← hl, ← h1]
    · refine .inr ⟨by omega, fun h => ?_⟩
      rcases hq' with ⟨g1, g2, g3⟩ | ⟨g1, g2, g3⟩
      · cases hq1 : q'.1 with
        | nil => rw [hq1] at g3; cases g3
        | cons a l => rw [hq1] at g2 g3; cases g3; exact h3 l g2
      · omega
  · have hlen : Gx t r → (r.length : Int) = t.1 := fun ho => ho.2.1
    have e1 : C4 t r sw h = some ([], 2) := by
      unfold C4
      rw [Mz hr.1 hr.2, Option.bind_some]
      by_cases a : Gx t r
      · rw [decide_eq_true a, if_neg (by decide)]
        by_cases b1 : sw < 0
        · rw [if_pos b1]; rfl
        · rw [if_neg b1]
          by_cases b2 : t.1 ≤ sw
          · rw [if_pos b2]; rfl
          · rw [if_neg b2]
            by_cases b3 : h < 0
            · rw [if_pos b3]; rfl
            · rw [if_neg b3, decide_eq_true (by
                refine Classical.byContradiction fun b4 => c ⟨a, ⟨by omega, by omega⟩, ⟨by omega, by omega⟩⟩)]; rfl
      · rw [decide_eq_false a]; rfl
    have e2 : Eo t r sw h = some ([], 2) := by
      unfold Eo
      rw [Ly hr.1 hr.2, Option.bind_some]
      by_cases a : Gx t r
      · have hl := hlen a
        rw [decide_eq_true a, if_neg (by decide)]
        by_cases b1 : sw < 0
        · rw [if_pos b1]; rfl
        · rw [if_neg b1]
          by_cases b2 : (r.length : Int) ≤ sw
          · rw [if_pos b2]; rfl
          · rw [if_neg b2]
            by_cases b3 : h < 0
            · rw [if_pos b3]; rfl
            · rw [if_neg b3, decide_eq_true (by
                refine Classical.byContradiction fun b4 => c ⟨a, ⟨by omega, by omega⟩, ⟨by omega, by omega⟩⟩)]; rfl
      · rw [decide_eq_false a]; rfl
    exact ⟨_, _, e1, e2, .inr ⟨by decide, by decide⟩⟩
theorem LG {a b : List Int} (ha : a.length ≤ 1000000) : BT a b = some (decide (a = b)) := by
  unfold BT
  by_cases c : (a.length : Int) ≠ (b.length : Int)
  · rw [if_pos c, decide_eq_false (fun h => c (by rw [h]))]
  · rw [if_neg c]
    have hl : a.length = b.length := by omega
    have key : ∀ (X Y : List Int) (k : Nat), a.drop k = X → b.drop k = Y → X.length = Y.length → k ≤ a.length → (D6 (AM (Br a b) (k : Int)) fun _ => some true) = some (decide (X = Y)) := by
      intro X
      induction X with
      | nil =>
        intro Y k h1 h2 h3 hk
        have : a.length ≤ k := List.drop_eq_nil_iff.1 h1
        have hY : Y = [] := List.eq_nil_of_length_eq_zero (by simpa using h3.symm)
        rw [A5 (by rw [Br, if_neg (by omega)]), hY]; rfl
      | cons x X ih =>
        intro Y k h1 h2 h3 hk
        cases Y with
        | nil => cases h3
        | cons y Y =>
          have g1 : a[k]? = some x := by rw [← List.head?_drop, h1]; rfl
          have g2 : b[k]? = some y := by rw [← List.head?_drop, h2]; rfl
          have hlt := (List.getElem?_eq_some_iff.1 g1).1
          by_cases e : x = y
          · have := ih Y (k + 1) (by rw [← List.tail_drop, h1]; rfl) (by rw [← List.tail_drop, h2]; rfl) (by simpa using h3) (by omega)
            rw [BU (s' := ((k + 1 : Nat) : Int)) (by rw [Br, if_pos (by omega), A4 g1, Option.bind_some, A4 g2, Option.bind_some, if_neg (fun h => h e), Bn (by omega)]; rfl), this]
            simp [e]
          · rw [A5 (by rw [Br, if_pos (by omega), A4 g1, Option.bind_some, A4 g2, Option.bind_some, if_pos e]), decide_eq_false (fun h => e (List.cons.inj h).1)]; rfl
    exact key a b 0 rfl rfl hl (Nat.zero_le _)
theorem Nb {x : Tr} {q : List Int × Int} (ha : x.2.2.2.2.1.length ≤ 1000000) (hl : x.2.2.2.2.1.length ≤ q.1.length) : (D6 (AM (C6 x q) 0) fun _ => some true) = some (decide (q.1.take x.2.2.2.2.1.length = x.2.2.2.2.1)) := by
  have key : ∀ (X Y : List Int) (k : Nat), x.2.2.2.2.1.drop k = X → q.1.drop k = Y → X.length ≤ Y.length → k ≤ x.2.2.2.2.1.length → (D6 (AM (C6 x q) (k : Int)) fun _ => some true) = some (decide (Y.take X.length = X)) := by
    intro X
    induction X with
    | nil =>
      intro Y k h1 h2 h3 hk
      have : x.2.2.2.2.1.length ≤ k := List.drop_eq_nil_iff.1 h1
      rw [A5 (by rw [C6, if_neg (by omega)])]; simp [D6]
    | cons a X ih =>
      intro Y k h1 h2 h3 hk
      cases Y with
      | nil => simp at h3
      | cons y Y =>
        have g1 : x.2.2.2.2.1[k]? = some a := by rw [← List.head?_drop, h1]; rfl
        have g2 : q.1[k]? = some y := by rw [← List.head?_drop, h2]; rfl
        have hlt := (List.getElem?_eq_some_iff.1 g1).1
        by_cases e : y = a
        · have := ih Y (k + 1) (by rw [← List.tail_drop, h1]; rfl) (by rw [← List.tail_drop, h2]; rfl) (by simpa using h3) (by omega)
          rw [BU (s' := ((k + 1 : Nat) : Int)) (by rw [C6, if_pos (by omega), A4 g2, Option.bind_some, A4 g1, Option.bind_some, if_neg (fun h => h e), Bn (by omega)]; rfl), this]
          simp [e]
        · rw [A5 (by rw [C6, if_pos (by omega), A4 g2, Option.bind_some, A4 g1, Option.bind_some, if_pos e]), decide_eq_false (fun h => e (by simp at h; exact h.1))]; rfl
  exact key _ _ 0 rfl rfl hl (Nat.zero_le _)
def FU (R : List Rt) : Prop := R.length ≤ 1000 ∧ ∀ r ∈ R, Mg r
theorem I9 (t : Tp) {R : List Rt} (hR : FU R) (k : Int) {x : Tr} (hx : x.2.2.2.2.1 ≠ []) (hs : x.2.2.2.2.1.length ≤ 1000) : ∃ b, Co t R k x = some b ∧ DR t R k x = some b := by
  have hpos : 0 < x.2.2.2.2.1.length := List.length_pos_iff.2 hx
  unfold Co DR
  rw [if_neg (show ¬ (x.2.2.2.2.1.length : Int) = 0 by omega)]
  by_cases c : k < 0 ∨ (R.length : Int) ≤ k
  · have hc : (decide (k < 0) || decide ((R.length : Int) ≤ k)) = true := by simpa using c
    rw [if_pos hc, if_pos hc]; exact ⟨false, rfl, rfl⟩
  · have hc : ¬ (decide (k < 0) || decide ((R.length : Int) ≤ k)) = true := by simpa using c
    rw [if_neg hc, if_neg hc]
    obtain ⟨r, hr, hr2⟩ := GZ (l := R) (i := k) (by omega) (by omega)
    have hmem := List.mem_of_getElem? hr2
    obtain ⟨s0, hs0⟩ : ∃ s0, x.2.2.2.2.1[0]? = some s0 := ⟨_, List.getElem?_eq_getElem hpos⟩
    have hi0 : ix x.2.2.2.2.1 0 = some s0 := A4 hs0
    obtain ⟨q, q', e1, e2, h⟩ := NW t (hR.2 r hmem) s0 x.2.2.1
    rw [hr, Option.bind_some, Option.bind_some, hi0, Option.bind_some, Option.bind_some, e1, Option.bind_some, e2, Option.bind_some]
    rcases h with ⟨h1, h2⟩ | ⟨h1, h2⟩
    · rw [h2, if_neg (fun h => h h1)]
      refine ⟨decide (x.2.2.2.2.1 = if x.2.2.2.2.2.1 = 0 ∧ x.2.2.2.2.1.length < q.1.length then q.1.take x.2.2.2.2.1.length else q.1), ?_, ?_⟩
      · by_cases cw : x.2.2.2.2.2.1 = 0 ∧ x.2.2.2.2.1.length < q.1.length
        · have : (decide (x.2.2.2.2.2.1 = 0) && decide ((x.2.2.2.2.1.length : Int) < (q.1.length : Int))) = true := by
            rw [decide_eq_true cw.1, decide_eq_true (show (x.2.2.2.2.1.length : Int) < (q.1.length : Int) by omega)]; rfl
          rw [if_pos this, if_pos cw, Ok (by omega), Option.bind_some, Option.bind_some, LG (by omega)]
          simp
        · have : ¬ (decide (x.2.2.2.2.2.1 = 0) && decide ((x.2.2.2.2.1.length : Int) < (q.1.length : Int))) = true := by
            rw [Bool.and_eq_true, decide_eq_true_eq, decide_eq_true_eq]; intro h; exact cw ⟨h.1, by omega⟩
          rw [if_neg this, if_neg cw, Option.bind_some, LG (by omega)]; rfl
      · by_cases cl : q.1.length < x.2.2.2.2.1.length ∨ (x.2.2.2.2.2.1 ≠ 0 ∧ q.1.length ≠ x.2.2.2.2.1.length)
        · have hcl : (decide (q.2 ≠ 0) || (decide ((q.1.length : Int) < (x.2.2.2.2.1.length : Int)) || (decide (x.2.2.2.2.2.1 ≠ 0) && decide ((q.1.length : Int) ≠ (x.2.2.2.2.1.length : Int))))) = true := by
            simp only [Bool.or_eq_true, Bool.and_eq_true, decide_eq_true_eq]; right
            rcases cl with cl | cl
            · exact .inl (by omega)
            · exact .inr ⟨cl.1, by omega⟩
          rw [if_pos hcl]
          congr 1
          refine (decide_eq_false fun h => ?_).symm
          by_cases cw : x.2.2.2.2.2.1 = 0 ∧ x.2.2.2.2.1.length < q.1.length
          · rcases cl with cl | cl
            · omega
            · exact cl.1 cw.1
          · rw [if_neg cw] at h
            rw [← h] at cl
            omega
        · have hcl : ¬ (decide (q.2 ≠ 0) || (decide ((q.1.length : Int) < (x.2.2.2.2.1.length : Int)) || (decide (x.2.2.2.2.2.1 ≠ 0) && decide ((q.1.length : Int) ≠ (x.2.2.2.2.1.length : Int))))) = true := by
            simp only [Bool.or_eq_true, Bool.and_eq_true, decide_eq_true_eq]
            rintro (h | h | h)
            · exact h h1
            · exact cl (.inl (by omega))
            · exact cl (.inr ⟨h.1, by omega⟩)
          rw [if_neg hcl]
          have hge : x.2.2.2.2.1.length ≤ q.1.length := by omega
          rw [Nb (by omega) hge]
          congr 1
          by_cases cw : x.2.2.2.2.2.1 = 0 ∧ x.2.2.2.2.1.length < q.1.length
          · rw [if_pos cw]; exact decide_eq_decide.2 ⟨fun h => h.symm, fun h => h.symm⟩
          · rw [if_neg cw]
            have hlq : q.1.length = x.2.2.2.2.1.length := by omega
            rw [List.take_of_length_le (by omega)]; exact decide_eq_decide.2 ⟨fun h => h.symm, fun h => h.symm⟩
    · have h1' : decide (q'.2 ≠ 0) = true := decide_eq_true h2
      rw [if_pos h1, h1', if_pos (by rfl)]
      exact ⟨false, rfl, rfl⟩
noncomputable def Ia (t : Tp) (R : List Rt) (G : List G3) (C : List (Int × Int)) (x : Tr) : Bool := if x.2.2.2.2.1 = [] then false else if G.any (JX x.2.2.2.1) = true then false else match Co t R (Hj C x.2.2.2.1) x with | some b => !b | none => false
noncomputable def Mk (t : Tp) (R : List Rt) (G : List G3) (C : List (Int × Int)) (x : Tr) : List (Int × Int) :=
  (if ¬ x.2.2.2.2.1.Nodup then [(1, x.1)] else []) ++ ((if x.2.2.2.2.2.1 = 4 then [(2, x.1)] else []) ++ ((if x.2.2.2.2.2.1 = 3 ∧ x.2.2.2.2.2.2.1 ≠ x.2.2.1 then [(3, x.1)] else []) ++ (if Ia t R G C x = true then [(4, x.1)] else [])))
theorem E0 {p : Prop} [Decidable p] (z : Int × Int) : (if p then [z] else []).length ≤ 1 := by
  by_cases c : p
  · rw [if_pos c]; simp
  · rw [if_neg c]; simp
theorem KT (t : Tp) (R : List Rt) (G : List G3) (C : List (Int × Int)) (x : Tr) : (Mk t R G C x).length ≤ 4 := by
  unfold Mk
  rw [List.length_append, List.length_append, List.length_append]
  have h1 := E0 (p := ¬ x.2.2.2.2.1.Nodup) (1, x.1)
  have h2 := E0 (p := x.2.2.2.2.2.1 = 4) (2, x.1)
  have h3 := E0 (p := x.2.2.2.2.2.1 = 3 ∧ x.2.2.2.2.2.2.1 ≠ x.2.2.1) (3, x.1)
  have h4 := E0 (p := Ia t R G C x = true) (4, x.1)
  omega
theorem F0 {p : Prop} [Decidable p] {y : List (Int × Int)} {z : Int × Int} (hy : y.length ≤ 100000) : (if p then (FR y ([z] : List (Int × Int))).bind fun x10 => some x10 else some y) = some (y ++ if p then [z] else []) := by
  by_cases c : p
  · rw [if_pos c, if_pos c, Eu (by simp; omega)]; rfl
  · rw [if_neg c, if_neg c, List.append_nil]
theorem LP (t : Tp) {R : List Rt} (hR : FU R) {G : List G3} (hG : G.length ≤ 1000000) {C : List (Int × Int)} (hC : C.length ≤ 1000000) {T : List Tr} {k : Nat} {x : Tr} (hx : T[k]? = some x) (hk : k ≤ 100000) (hs : x.2.2.2.2.1.length ≤ 1000) {y : List (Int × Int)} (hy : y.length ≤ 10000) :
    Ch t R (G, C) T (y, (k : Int)) = some (.inl (y ++ Mk t R G C x, ((k + 1 : Nat) : Int))) := by
  have hlt := (List.getElem?_eq_some_iff.1 hx).1
  have hoth : ((if 0 < (x.2.2.2.2.1.length : Int) then (Bh (G, C) x.2.2.2.1).bind fun x16 => (if (!x16) = true then (Bq (G, C) x.2.2.2.1).bind fun x17 => (Co t R x17 x).bind fun x18 => some (!x18) else some false) else some false) : Option Bool) = some (Ia t R G C x) := by
    unfold Ia
    by_cases c : x.2.2.2.2.1 = []
    · rw [if_neg (by rw [c]; simp), if_pos c]
    · have hpos : 0 < x.2.2.2.2.1.length := List.length_pos_iff.2 c
      rw [if_pos (by omega), if_neg c, J6 hG, Option.bind_some]
      by_cases d : G.any (JX x.2.2.2.1) = true
      · rw [d, if_neg (by decide), if_pos rfl]
      · have df : G.any (JX x.2.2.2.1) = false := by cases h : G.any (JX x.2.2.2.1) with | true => exact absurd h d | false => rfl
        obtain ⟨b, hb, _⟩ := I9 t hR (Hj C x.2.2.2.1) c hs
        rw [df, if_pos (by decide), if_neg (by decide), Lg G hC, Option.bind_some, hb]; rfl
  have ht : (Dl x) = some (decide (¬ x.2.2.2.2.1.Nodup)) := NV (by omega)
  have l1 := E0 (p := decide (¬ x.2.2.2.2.1.Nodup) = true) (1, x.1)
  have l2 := E0 (p := x.2.2.2.2.2.1 = 4) (2, x.1)
  have l3 := E0 (p := (decide (x.2.2.2.2.2.1 = 3) && decide (x.2.2.2.2.2.2.1 ≠ x.2.2.1)) = true) (3, x.1)
  rw [Ch, if_pos (by omega), A4 hx, Option.bind_some, ht, Option.bind_some, F0 (by omega), Option.bind_some, F0 (by rw [List.length_append]; omega), Option.bind_some]
  rw [F0 (by rw [List.length_append, List.length_append]; omega), Option.bind_some, hoth, Option.bind_some, F0 (by rw [List.length_append, List.length_append, List.length_append]; omega), Option.bind_some, Bn (by omega)]
  congr 2
  refine Prod.ext ?_ rfl
  show _ = y ++ Mk t R G C x
  unfold Mk
  simp only [decide_eq_true_eq, Bool.and_eq_true, List.append_assoc]
theorem Jt (t : Tp) {R : List Rt} (hR : FU R) {G : List G3} (hG : G.length ≤ 1000000) {C : List (Int × Int)} (hC : C.length ≤ 1000000) (T : List Tr) (hT : T.length ≤ 1000) (hs : ∀ x ∈ T, x.2.2.2.2.1.length ≤ 1000) : ∀ (X : List Tr) (k : Nat) (y : List (Int × Int)), T.drop k = X → k ≤ T.length → y.length ≤ 4 * k → AM (Ch t R (G, C) T) (y, (k : Int)) = some (y ++ X.flatMap (Mk t R G C))
  | [], k, y, hX, hk, hy => by
    have : T.length ≤ k := List.drop_eq_nil_iff.1 hX
    rw [A5 (by rw [Ch, if_neg (by omega)])]; simp
  | x :: X, k, y, hX, hk, hy => by
    have hg : T[k]? = some x := by rw [← List.head?_drop, hX]; rfl
    have hlt := (List.getElem?_eq_some_iff.1 hg).1
    have hd : T.drop (k + 1) = X := by rw [← List.tail_drop, hX]; rfl
    have hf := KT t R G C x
    rw [BU (LP t hR hG hC hg (by omega) (hs x (List.mem_of_getElem? hg)) (by omega)), Jt t hR hG hC T hT hs X (k + 1) _ hd (by omega) (by rw [List.length_append]; omega), List.flatMap_cons, List.append_assoc]
noncomputable def Gw (t : Tp) (R : List Rt) (l : List Ev) : List (Int × Int) := (tr l).flatMap (Mk t R (Bb l) (Gf l))
theorem Mm {l : List Ev} (hl : l.length ≤ 200) : (Gf l).length ≤ 200000 := by
  have h1 := ES l
  have h2 := Ng (Bb l) (by omega) l
  unfold Gf; omega
theorem NI (t : Tp) {R : List Rt} (hR : FU R) {l : List Ev} (hl : l.length ≤ 200) : C1 t R l = some (Gw t R l) := by
  have h1 := ES l
  have h2 := Mm hl
  have h3 := JB l
  have h4 := KD l
  have h5 := Jt t hR (G := Bb l) (by omega) (C := Gf l) (by omega) (tr l) (by omega) (fun x hx => by have := h4 x hx; omega) (tr l) 0 [] rfl (Nat.zero_le _) (Nat.le_refl _)
  have h5 : AM (Ch t R (Bb l, Gf l) (tr l)) ([], 0) = some ([] ++ (tr l).flatMap (Mk t R (Bb l) (Gf l))) := h5
  unfold C1
  rw [Ky hl, Option.bind_some, PW (by omega), Option.bind_some, h5]; rfl
theorem MC (t : Tp) (r : Rt) (hl : r.length ≤ 9223372036854775807) : Fv t r = some (decide ((∀ row ∈ r, row.length ≤ 12) ∧ t.2.1.length ≤ 30 ∧ t.2.2.length ≤ 12 ∧ r.length ≤ 12)) := by
  unfold Fv
  rw [DC r hl (EH r) (fun row => 12 < row.length) false (fun k hk => by
    have hg : r[k]? = some r[k] := List.getElem?_eq_getElem hk
    rw [EH, if_pos (by omega), A4 hg, Option.bind_some]
    by_cases c : 12 < r[k].length
    · rw [if_pos (by omega), if_pos c]
    · rw [if_neg (by omega), if_neg c]) (by rw [EH, if_neg (by omega)])]
  by_cases c : ∃ row ∈ r, 12 < row.length
  · have hf : ¬ ((∀ row ∈ r, row.length ≤ 12) ∧ t.2.1.length ≤ 30 ∧ t.2.2.length ≤ 12 ∧ r.length ≤ 12) := fun h => by obtain ⟨row, h1, h2⟩ := c; have := h.1 row h1; omega
    rw [if_pos c, decide_eq_false hf]; rfl
  · rw [if_neg c]
    have hc : ∀ row ∈ r, row.length ≤ 12 := fun row hm => Classical.byContradiction fun h => c ⟨row, hm, by omega⟩
    show some _ = some _
    congr 1
    rw [Bool.eq_iff_iff]
    simp only [Bool.and_eq_true, decide_eq_true_eq]
    constructor
    · rintro ⟨h1, h2, h3⟩; exact ⟨hc, by omega, by omega, by omega⟩
    · rintro ⟨_, h1, h2, h3⟩; exact ⟨by omega, by omega, by omega⟩
def Pp (R : List Rt) (l : List Ev) : Prop := l.length ≤ 100 ∧ FU R
theorem Oq (t : Tp) (R : List Rt) (hR : ∀ r ∈ R, r.length ≤ 9223372036854775807) (l : List Ev) : ∃ b, Gn t R l = some b ∧ (b = true → Pp R l) := by
  unfold Gn
  by_cases c : 100 < (l.length : Int) ∨ 8 < (R.length : Int)
  · rw [if_pos (by simpa using c)]; exact ⟨false, rfl, fun h => by cases h⟩
  · rw [if_neg (by simpa using c)]
    have small : ∀ r : Rt, ((∀ row ∈ r, row.length ≤ 12) ∧ t.2.1.length ≤ 30 ∧ t.2.2.length ≤ 12 ∧ r.length ≤ 12) → Mg r := fun r h => ⟨h.2.2.2, fun row hm => by have := h.1 row hm; omega⟩
    have hP : DecidablePred fun r : Rt => ¬ ((∀ row ∈ r, row.length ≤ 12) ∧ t.2.1.length ≤ 30 ∧ t.2.2.length ≤ 12 ∧ r.length ≤ 12) := fun _ => inferInstance
    rw [DC R (by omega) (Ez t R) (fun r => ¬ ((∀ row ∈ r, row.length ≤ 12) ∧ t.2.1.length ≤ 30 ∧ t.2.2.length ≤ 12 ∧ r.length ≤ 12)) false (fun k hk => by
      have hg : R[k]? = some R[k] := List.getElem?_eq_getElem hk
      rw [Ez, if_pos (by omega), A4 hg, Option.bind_some, MC t _ (hR _ (List.getElem_mem hk)), Option.bind_some]
      by_cases d : (∀ row ∈ R[k], row.length ≤ 12) ∧ t.2.1.length ≤ 30 ∧ t.2.2.length ≤ 12 ∧ R[k].length ≤ 12
      · rw [decide_eq_true d, if_neg (by decide), if_neg (fun h => h d)]
      · rw [decide_eq_false d, if_pos (by decide), if_pos d]) (by rw [Ez, if_neg (by omega)])]
    by_cases d : ∃ r ∈ R, ¬ ((∀ row ∈ r, row.length ≤ 12) ∧ t.2.1.length ≤ 30 ∧ t.2.2.length ≤ 12 ∧ r.length ≤ 12)
    · rw [if_pos d]; exact ⟨false, rfl, fun h => by cases h⟩
    · rw [if_neg d]
      simp only [D6]
      rw [Option.bind_some]
      simp only
      rw [MC t [] (by simp), Option.bind_some]
      exact ⟨_, rfl, fun _ => ⟨by omega, by omega, fun r hm => small r (Classical.byContradiction fun h => d ⟨r, hm, h⟩)⟩⟩
end Go.Proofs.Ytflaelbmglmmcaa
