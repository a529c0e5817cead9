/- Layer 42: what is found. Conditions: none. -/
import Derived.Test.YtflaelbmglmmcaaeM21R
import Derived.Test.YtflaelbmglmmcaaeM42X
namespace Go.Proofs.Ytflaelbmglmmcaa
set_option linter.unusedVariables false
set_option linter.unusedSimpArgs false
open Go Go.RowKit
def pr (e : Ev) (X : List G3) : List (Int × Int) := X.flatMap fun g => if g.1 = e.2.2.1 then [(e.2.2.2.2.1, g.2.2)] else []
def cm (G : List G3) (X : List Ev) : List (Int × Int) := X.flatMap fun e => if e.1 = 9 then pr e G else []
theorem Jv (e : Ev) (g : G3) (X : List G3) : pr e (g :: X) = (if g.1 = e.2.2.1 then [(e.2.2.2.2.1, g.2.2)] else []) ++ pr e X := by unfold pr; rw [List.flatMap_cons]
theorem H0 (G : List G3) (e : Ev) (X : List Ev) : cm G (e :: X) = (if e.1 = 9 then pr e G else []) ++ cm G X := by unfold cm; rw [List.flatMap_cons]
theorem Oa (G : List G3) (X Y : List Ev) : cm G (X ++ Y) = cm G X ++ cm G Y := by unfold cm; rw [List.flatMap_append]
theorem KN (e : Ev) : ∀ X : List G3, (pr e X).length ≤ X.length
  | [] => Nat.le_refl _
  | g :: X => by
    have := KN e X
    rw [Jv, List.length_append, List.length_cons]
    by_cases c : g.1 = e.2.2.1
    · rw [if_pos c]; simp; omega
    · rw [if_neg c]; simp; omega
theorem MQ (G : List G3) (hG : G.length ≤ 1000) : ∀ X : List Ev, (cm G X).length ≤ 1000 * X.length
  | [] => Nat.le_refl _
  | e :: X => by
    have h1 := MQ G hG X
    have h2 := KN e G
    rw [H0, List.length_append, List.length_cons]
    by_cases c : e.1 = 9
    · rw [if_pos c]; omega
    · rw [if_neg c, List.length_nil]; omega
theorem KH (G : List G3) (hG : G.length ≤ 1000) (e : Ev) : ∀ (X : List G3) (k : Nat) (C : List (Int × Int)), G.drop k = X → k ≤ G.length → C.length + X.length ≤ 1000000 → AQ (Cb G e) ((k : Int), C) = some (C ++ pr e X)
  | [], k, C, hX, hk, hC => by
    have : G.length ≤ k := List.drop_eq_nil_iff.1 hX
    rw [A1 (by rw [Cb, if_neg (by omega)])]; simp [pr]
  | g :: X, k, C, hX, hk, hC => by
    have hg : G[k]? = some g := by rw [← List.head?_drop, hX]; rfl
    have hlt := (List.getElem?_eq_some_iff.1 hg).1
    have hd : G.drop (k + 1) = X := by rw [← List.tail_drop, hX]; rfl
    rw [List.length_cons] at hC
    by_cases c : g.1 = e.2.2.1
    · rw [B8 (s' := (((k + 1 : Nat) : Int), C ++ [(e.2.2.2.2.1, g.2.2)])) (by
        rw [Cb, if_pos (by omega), A9 hg, Option.bind_some, if_pos c, Ek (by simp; omega), Option.bind_some, Option.bind_some, BE (by omega)]; rfl), KH G hG e X (k + 1) _ hd (by omega) (by simp; omega), Jv, if_pos c, List.append_assoc]
    · rw [B8 (s' := (((k + 1 : Nat) : Int), C)) (by
        rw [Cb, if_pos (by omega), A9 hg, Option.bind_some, if_neg c, Option.bind_some, BE (by omega)]; rfl), KH G hG e X (k + 1) _ hd (by omega) (by omega), Jv, if_neg c, List.nil_append]
theorem Ko (l : List Ev) (hl : l.length ≤ 200) (G : List G3) (hG : G.length ≤ 1000) : ∀ (X : List Ev) (k : Nat) (C : List (Int × Int)), l.drop k = X → k ≤ l.length → C.length + 1000 * X.length ≤ 500000 → AQ (Cc l G) ((k : Int), C) = some (C ++ cm G X)
  | [], k, C, hX, hk, hC => by
    have : l.length ≤ k := List.drop_eq_nil_iff.1 hX
    rw [A1 (by rw [Cc, if_neg (by omega)])]; simp [cm]
  | e :: X, k, C, hX, hk, hC => by
    have hg : l[k]? = some e := by rw [← List.head?_drop, hX]; rfl
    have hlt := (List.getElem?_eq_some_iff.1 hg).1
    have hd : l.drop (k + 1) = X := by rw [← List.tail_drop, hX]; rfl
    have hpl := KN e G
    rw [List.length_cons] at hC
    by_cases c : e.1 = 9
    · have h2 := KH G hG e G 0 C rfl (Nat.zero_le _) (by omega)
      have h2 : AQ (Cb G e) (0, C) = some (C ++ pr e G) := h2
      rw [B8 (s' := (((k + 1 : Nat) : Int), C ++ pr e G)) (by
        rw [Cc, if_pos (by omega), A9 hg, Option.bind_some, if_neg (fun h => h c), h2, Option.bind_some, BE (by omega)]; rfl), Ko l hl G hG X (k + 1) _ hd (by omega) (by rw [List.length_append]; omega), H0, if_pos c, List.append_assoc]
    · rw [B8 (s' := (((k + 1 : Nat) : Int), C)) (by
        rw [Cc, if_pos (by omega), A9 hg, Option.bind_some, if_pos c, Option.bind_some, BE (by omega)]; rfl), Ko l hl G hG X (k + 1) _ hd (by omega) (by omega), H0, if_neg c, List.nil_append]
def GR (l : List Ev) : List (Int × Int) := cm (Cr l) l
theorem Nv {l : List Ev} (hl : l.length ≤ 200) : DJ l = some (Cr l, GR l) := by
  have hg := Gu l
  have hb : ([] : List (Int × Int)).length + 1000 * l.length ≤ 500000 := by rw [List.length_nil]; omega
  have h1 := Ko l hl (Cr l) (by omega) l 0 [] rfl (Nat.zero_le _) hb
  have h1 : AQ (Cc l (Cr l)) (0, []) = some ([] ++ cm (Cr l) l) := h1
  unfold DJ GR
  rw [Lx (by omega), Option.bind_some, h1, List.nil_append]; rfl
def HB (C : List (Int × Int)) (at_ : Int) : Int := C.foldl (fun a c => if c.2 < at_ then c.1 else a) 0
theorem bwd_snoc' {α : Type} (l : List α) (e : α) : HJ (l ++ [e]) = ((l.length : Int), e) :: HJ l := by
  have := Ha (l := l ++ [e]) (k := l.length) (x := e) (by simp)
  rw [List.take_of_length_le (by simp), List.take_left' rfl] at this; exact this
theorem Ks (at_ : Int) (C : List (Int × Int)) : (D7 (EH (Bb at_) (HJ C) ()) fun _ => some 0) = some (HB C at_) := by
  refine F1 (Q := fun C => (D7 (EH (Bb at_) (HJ C) ()) fun _ => some 0) = some (HB C at_)) rfl ?_ C
  intro l a ih
  unfold HB at ih ⊢
  rw [bwd_snoc', List.foldl_append]
  show D7 ((Bb at_ ((l.length : Int), a) ()).bind _) _ = some (if a.2 < at_ then a.1 else _)
  unfold Bb
  by_cases c : a.2 < at_
  · rw [if_pos c, if_pos c]; rfl
  · rw [if_neg c, if_neg c]; exact ih
theorem MH (G : List G3) {C : List (Int × Int)} (hC : C.length ≤ 1000000) (at_ : Int) : Bo (G, C) at_ = some (HB C at_) := by
  unfold Bo back
  show (if C.length ≤ 1000000000 then some (HJ C) else none).bind _ = _
  rw [if_pos (by omega), Option.bind_some]
  exact Ks at_ C
def Jo (r : Rt) : Prop := r.length ≤ 12 ∧ ∀ row ∈ r, row.length ≤ 1000000000
theorem Mg (t : Tp) {r : Rt} (hr : Jo r) (sw h : Int) : ∃ q q', Ca t r sw h = some q ∧ Dn t r sw h = some q' ∧ ((q.2 = 0 ∧ q' = q) ∨ (q.2 ≠ 0 ∧ q'.2 ≠ 0)) := by
  by_cases c : FC t r ∧ (0 ≤ sw ∧ sw < t.1) ∧ (0 ≤ h ∧ h < (t.2.2.length : Int))
  · obtain ⟨ho, hs, hh⟩ := c
    obtain ⟨q, e, hq⟩ := L9 ho hr.1 hr.2 hs hh
    obtain ⟨q', e', hq'⟩ := Jx ho hr.1 hr.2 hs hh
    refine ⟨q, q', e, e', ?_⟩
    rcases hq with ⟨h1, h2, h3⟩ | ⟨h1, h2, h3⟩
    · obtain ⟨l, hl⟩ : ∃ l, q.1 = sw :: l := by
        cases hq1 : q.1 with
        | nil => rw [hq1] at h3; cases h3
        | cons a l => rw [hq1] at h3; cases h3; exact ⟨l, rfl⟩
      rw [hl] at h2
      have := hq'.of h2
      refine .inl ⟨h1, ?_⟩
      rw [this, ← hl, ← h1]
    · refine .inr ⟨by omega, fun h => ?_⟩
      rcases hq' with ⟨g1, g2, g3⟩ | ⟨g1, g2, g3⟩
      · cases hq1 : q'.1 with
        | nil => rw [hq1] at g3; cases g3
        | cons a l => rw [hq1] at g2 g3; cases g3; exact h3 l g2
      · omega
  · have hlen : FC t r → (r.length : Int) = t.1 := fun ho => ho.2.1
    have e1 : Ca t r sw h = some ([], 2) := by
      unfold Ca
      rw [KV hr.1 hr.2, Option.bind_some]
      by_cases a : FC t r
      · rw [decide_eq_true a, if_neg (by decide)]
        by_cases b1 : sw < 0
        · rw [if_pos b1]; rfl
        · rw [if_neg b1]
          by_cases b2 : t.1 ≤ sw
          · rw [if_pos b2]; rfl
          · rw [if_neg b2]
            by_cases b3 : h < 0
            · rw [if_pos b3]; rfl
            · rw [if_neg b3, decide_eq_true (by
                refine Classical.byContradiction fun b4 => c ⟨a, ⟨by omega, by omega⟩, ⟨by omega, by omega⟩⟩)]; rfl
      · rw [decide_eq_false a]; rfl
    have e2 : Dn t r sw h = some ([], 2) := by
      unfold Dn
      rw [Ij hr.1 hr.2, Option.bind_some]
      by_cases a : FC t r
      · have hl := hlen a
        rw [decide_eq_true a, if_neg (by decide)]
        by_cases b1 : sw < 0
        · rw [if_pos b1]; rfl
        · rw [if_neg b1]
          by_cases b2 : (r.length : Int) ≤ sw
          · rw [if_pos b2]; rfl
          · rw [if_neg b2]
            by_cases b3 : h < 0
            · rw [if_pos b3]; rfl
            · rw [if_neg b3, decide_eq_true (by
                refine Classical.byContradiction fun b4 => c ⟨a, ⟨by omega, by omega⟩, ⟨by omega, by omega⟩⟩)]; rfl
      · rw [decide_eq_false a]; rfl
    exact ⟨_, _, e1, e2, .inr ⟨by decide, by decide⟩⟩
theorem Ic {a b : List Int} (ha : a.length ≤ 1000000) : BH a b = some (decide (a = b)) := by
  unfold BH
  by_cases c : (a.length : Int) ≠ (b.length : Int)
  · rw [if_pos c, decide_eq_false (fun h => c (by rw [h]))]
  · rw [if_neg c]
    have hl : a.length = b.length := by omega
    have key : ∀ (X Y : List Int) (k : Nat), a.drop k = X → b.drop k = Y → X.length = Y.length → k ≤ a.length → (D7 (AQ (Bd a b) (k : Int)) fun _ => some true) = some (decide (X = Y)) := by
      intro X
      induction X with
      | nil =>
        intro Y k h1 h2 h3 hk
        have : a.length ≤ k := List.drop_eq_nil_iff.1 h1
        have hY : Y = [] := List.eq_nil_of_length_eq_zero (by simpa using h3.symm)
        rw [A1 (by rw [Bd, if_neg (by omega)]), hY]; rfl
      | cons x X ih =>
        intro Y k h1 h2 h3 hk
        cases Y with
        | nil => cases h3
        | cons y Y =>
          have g1 : a[k]? = some x := by rw [← List.head?_drop, h1]; rfl
          have g2 : b[k]? = some y := by rw [← List.head?_drop, h2]; rfl
          have hlt := (List.getElem?_eq_some_iff.1 g1).1
          by_cases e : x = y
          · have := ih Y (k + 1) (by rw [← List.tail_drop, h1]; rfl) (by rw [← List.tail_drop, h2]; rfl) (by simpa using h3) (by omega)
            rw [B8 (s' := ((k + 1 : Nat) : Int)) (by rw [Bd, if_pos (by omega), A9 g1, Option.bind_some, A9 g2, Option.bind_some, if_neg (fun h => h e), BE (by omega)]; rfl), this]
            simp [e]
          · rw [A1 (by rw [Bd, if_pos (by omega), A9 g1, Option.bind_some, A9 g2, Option.bind_some, if_pos e]), decide_eq_false (fun h => e (List.cons.inj h).1)]; rfl
    exact key a b 0 rfl rfl hl (Nat.zero_le _)
theorem LR {x : Tr} {q : List Int × Int} (ha : x.2.2.2.2.1.length ≤ 1000000) (hl : x.2.2.2.2.1.length ≤ q.1.length) : (D7 (AQ (Df x q) 0) fun _ => some true) = some (decide (q.1.take x.2.2.2.2.1.length = x.2.2.2.2.1)) := by
  have key : ∀ (X Y : List Int) (k : Nat), x.2.2.2.2.1.drop k = X → q.1.drop k = Y → X.length ≤ Y.length → k ≤ x.2.2.2.2.1.length → (D7 (AQ (Df x q) (k : Int)) fun _ => some true) = some (decide (Y.take X.length = X)) := by
    intro X
    induction X with
    | nil =>
      intro Y k h1 h2 h3 hk
      have : x.2.2.2.2.1.length ≤ k := List.drop_eq_nil_iff.1 h1
      rw [A1 (by rw [Df, if_neg (by omega)])]; simp [D7]
    | cons a X ih =>
      intro Y k h1 h2 h3 hk
      cases Y with
      | nil => simp at h3
      | cons y Y =>
        have g1 : x.2.2.2.2.1[k]? = some a := by rw [← List.head?_drop, h1]; rfl
        have g2 : q.1[k]? = some y := by rw [← List.head?_drop, h2]; rfl
        have hlt := (List.getElem?_eq_some_iff.1 g1).1
        by_cases e : y = a
        · have := ih Y (k + 1) (by rw [← List.tail_drop, h1]; rfl) (by rw [← List.tail_drop, h2]; rfl) (by simpa using h3) (by omega)
          rw [B8 (s' := ((k + 1 : Nat) : Int)) (by rw [Df, if_pos (by omega), A9 g2, Option.bind_some, A9 g1, Option.bind_some, if_neg (fun h => h e), BE (by omega)]; rfl), this]
          simp [e]
        · rw [A1 (by rw [Df, if_pos (by omega), A9 g2, Option.bind_some, A9 g1, Option.bind_some, if_pos e]), decide_eq_false (fun h => e (by simp at h; exact h.1))]; rfl
  exact key _ _ 0 rfl rfl hl (Nat.zero_le _)
def GO (R : List Rt) : Prop := R.length ≤ 1000 ∧ ∀ r ∈ R, Jo r
theorem Kp (t : Tp) {R : List Rt} (hR : GO R) (k : Int) {x : Tr} (hx : x.2.2.2.2.1 ≠ []) (hs : x.2.2.2.2.1.length ≤ 1000) : ∃ b, BS t R k x = some b ∧ Ie t R k x = some b := by
  have hpos : 0 < x.2.2.2.2.1.length := List.length_pos_iff.2 hx
  unfold BS Ie
  rw [if_neg (show ¬ (x.2.2.2.2.1.length : Int) = 0 by omega)]
  by_cases c : k < 0 ∨ (R.length : Int) ≤ k
  · have hc : (decide (k < 0) || decide ((R.length : Int) ≤ k)) = true := by simpa using c
    rw [if_pos hc, if_pos hc]; exact ⟨false, rfl, rfl⟩
  · have hc : ¬ (decide (k < 0) || decide ((R.length : Int) ≤ k)) = true := by simpa using c
    rw [if_neg hc, if_neg hc]
    obtain ⟨r, hr, hr2⟩ := Gm (l := R) (i := k) (by omega) (by omega)
    have hmem := List.mem_of_getElem? hr2
    obtain ⟨s0, hs0⟩ : ∃ s0, x.2.2.2.2.1[0]? = some s0 := ⟨_, List.getElem?_eq_getElem hpos⟩
    have hi0 : ix x.2.2.2.2.1 0 = some s0 := A9 hs0
    obtain ⟨q, q', e1, e2, h⟩ := Mg t (hR.2 r hmem) s0 x.2.2.1
    rw [hr, Option.bind_some, Option.bind_some, hi0, Option.bind_some, Option.bind_some, e1, Option.bind_some, e2, Option.bind_some]
    rcases h with ⟨h1, h2⟩ | ⟨h1, h2⟩
    · rw [h2, if_neg (fun h => h h1)]
      refine ⟨decide (x.2.2.2.2.1 = if x.2.2.2.2.2.1 = 0 ∧ x.2.2.2.2.1.length < q.1.length then q.1.take x.2.2.2.2.1.length else q.1), ?_, ?_⟩
      · by_cases cw : x.2.2.2.2.2.1 = 0 ∧ x.2.2.2.2.1.length < q.1.length
        · have : (decide (x.2.2.2.2.2.1 = 0) && decide ((x.2.2.2.2.1.length : Int) < (q.1.length : Int))) = true := by
            rw [decide_eq_true cw.1, decide_eq_true (show (x.2.2.2.2.1.length : Int) < (q.1.length : Int) by omega)]; rfl
          rw [if_pos this, if_pos cw, Lj (by omega), Option.bind_some, Option.bind_some, Ic (by omega)]
          simp
        · have : ¬ (decide (x.2.2.2.2.2.1 = 0) && decide ((x.2.2.2.2.1.length : Int) < (q.1.length : Int))) = true := by
            rw [Bool.and_eq_true, decide_eq_true_eq, decide_eq_true_eq]; intro h; exact cw ⟨h.1, by omega⟩
          rw [if_neg this, if_neg cw, Option.bind_some, Ic (by omega)]; rfl
      · by_cases cl : q.1.length < x.2.2.2.2.1.length ∨ (x.2.2.2.2.2.1 ≠ 0 ∧ q.1.length ≠ x.2.2.2.2.1.length)
        · have hcl : (decide (q.2 ≠ 0) || (decide ((q.1.length : Int) < (x.2.2.2.2.1.length : Int)) || (decide (x.2.2.2.2.2.1 ≠ 0) && decide ((q.1.length : Int) ≠ (x.2.2.2.2.1.length : Int))))) = true := by
            simp only [Bool.or_eq_true, Bool.and_eq_true, decide_eq_true_eq]; right
            rcases cl with cl | cl
            · exact .inl (by omega)
            · exact .inr ⟨cl.1, by omega⟩
          rw [if_pos hcl]
          congr 1
          refine (decide_eq_false fun h => ?_).symm
          by_cases cw : x.2.2.2.2.2.1 = 0 ∧ x.2.2.2.2.1.length < q.1.length
          · rcases cl with cl | cl
            · omega
            · exact cl.1 cw.1
          · rw [if_neg cw] at h
            rw [← h] at cl
            omega
        · have hcl : ¬ (decide (q.2 ≠ 0) || (decide ((q.1.length : Int) < (x.2.2.2.2.1.length : Int)) || (decide (x.2.2.2.2.2.1 ≠ 0) && decide ((q.1.length : Int) ≠ (x.2.2.2.2.1.length : Int))))) = true := by
            simp only [Bool.or_eq_true, Bool.and_eq_true, decide_eq_true_eq]
            rintro (h | h | h)
            · exact h h1
            · exact cl (.inl (by omega))
            · exact cl (.inr ⟨h.1, by omega⟩)
          rw [if_neg hcl]
          have hge : x.2.2.2.2.1.length ≤ q.1.length := by omega
          rw [LR (by omega) hge]
          congr 1
          by_cases cw : x.2.2.2.2.2.1 = 0 ∧ x.2.2.2.2.1.length < q.1.length
          · rw [if_pos cw]; exact decide_eq_decide.2 ⟨fun h => h.symm, fun h => h.symm⟩
          · rw [if_neg cw]
            have hlq : q.1.length = x.2.2.2.2.1.length := by omega
            rw [List.take_of_length_le (by omega)]; exact decide_eq_decide.2 ⟨fun h => h.symm, fun h => h.symm⟩
    · have h1' : decide (q'.2 ≠ 0) = true := decide_eq_true h2
      rw [if_pos h1, h1', if_pos (by rfl)]
      exact ⟨false, rfl, rfl⟩
noncomputable def Gb (t : Tp) (R : List Rt) (G : List G3) (C : List (Int × Int)) (x : Tr) : Bool := if x.2.2.2.2.1 = [] then false else if G.any (LT x.2.2.2.1) = true then false else match BS t R (HB C x.2.2.2.1) x with | some b => !b | none => false
noncomputable def Lr (t : Tp) (R : List Rt) (G : List G3) (C : List (Int × Int)) (x : Tr) : List (Int × Int) :=
  (if ¬ x.2.2.2.2.1.Nodup then [(1, x.1)] else []) ++ ((if x.2.2.2.2.2.1 = 4 then [(2, x.1)] else []) ++ ((if x.2.2.2.2.2.1 = 3 ∧ x.2.2.2.2.2.2.1 ≠ x.2.2.1 then [(3, x.1)] else []) ++ (if Gb t R G C x = true then [(4, x.1)] else [])))
theorem FL {p : Prop} [Decidable p] (z : Int × Int) : (if p then [z] else []).length ≤ 1 := by
  by_cases c : p
  · rw [if_pos c]; simp
  · rw [if_neg c]; simp
theorem Lm (t : Tp) (R : List Rt) (G : List G3) (C : List (Int × Int)) (x : Tr) : (Lr t R G C x).length ≤ 4 := by
  unfold Lr
  rw [List.length_append, List.length_append, List.length_append]
  have h1 := FL (p := ¬ x.2.2.2.2.1.Nodup) (1, x.1)
  have h2 := FL (p := x.2.2.2.2.2.1 = 4) (2, x.1)
  have h3 := FL (p := x.2.2.2.2.2.1 = 3 ∧ x.2.2.2.2.2.2.1 ≠ x.2.2.1) (3, x.1)
  have h4 := FL (p := Gb t R G C x = true) (4, x.1)
  omega
theorem H2 {p : Prop} [Decidable p] {y : List (Int × Int)} {z : Int × Int} (hy : y.length ≤ 100000) : (if p then (FR y ([z] : List (Int × Int))).bind fun x10 => some x10 else some y) = some (y ++ if p then [z] else []) := by
  by_cases c : p
  · rw [if_pos c, if_pos c, Ek (by simp; omega)]; rfl
  · rw [if_neg c, if_neg c, List.append_nil]
theorem KT (t : Tp) {R : List Rt} (hR : GO R) {G : List G3} (hG : G.length ≤ 1000000) {C : List (Int × Int)} (hC : C.length ≤ 1000000) {T : List Tr} {k : Nat} {x : Tr} (hx : T[k]? = some x) (hk : k ≤ 100000) (hs : x.2.2.2.2.1.length ≤ 1000) {y : List (Int × Int)} (hy : y.length ≤ 10000) :
    B5 t R (G, C) T (y, (k : Int)) = some (.inl (y ++ Lr t R G C x, ((k + 1 : Nat) : Int))) := by
  have hlt := (List.getElem?_eq_some_iff.1 hx).1
  have hoth : ((if 0 < (x.2.2.2.2.1.length : Int) then (Be (G, C) x.2.2.2.1).bind fun x16 => (if (!x16) = true then (Bo (G, C) x.2.2.2.1).bind fun x17 => (BS t R x17 x).bind fun x18 => some (!x18) else some false) else some false) : Option Bool) = some (Gb t R G C x) := by
    unfold Gb
    by_cases c : x.2.2.2.2.1 = []
    · rw [if_neg (by rw [c]; simp), if_pos c]
    · have hpos : 0 < x.2.2.2.2.1.length := List.length_pos_iff.2 c
      rw [if_pos (by omega), if_neg c, Lz hG, Option.bind_some]
      by_cases d : G.any (LT x.2.2.2.1) = true
      · rw [d, if_neg (by decide), if_pos rfl]
      · have df : G.any (LT x.2.2.2.1) = false := by cases h : G.any (LT x.2.2.2.1) with | true => exact absurd h d | false => rfl
        obtain ⟨b, hb, _⟩ := Kp t hR (HB C x.2.2.2.1) c hs
        rw [df, if_pos (by decide), if_neg (by decide), MH G hC, Option.bind_some, hb]; rfl
  have ht : (C3 x) = some (decide (¬ x.2.2.2.2.1.Nodup)) := Mj (by omega)
  have l1 := FL (p := decide (¬ x.2.2.2.2.1.Nodup) = true) (1, x.1)
  have l2 := FL (p := x.2.2.2.2.2.1 = 4) (2, x.1)
  have l3 := FL (p := (decide (x.2.2.2.2.2.1 = 3) && decide (x.2.2.2.2.2.2.1 ≠ x.2.2.1)) = true) (3, x.1)
  rw [B5, if_pos (by omega), A9 hx, Option.bind_some, ht, Option.bind_some, H2 (by omega), Option.bind_some, H2 (by rw [List.length_append]; omega), Option.bind_some]
  rw [H2 (by rw [List.length_append, List.length_append]; omega), Option.bind_some, hoth, Option.bind_some, H2 (by rw [List.length_append, List.length_append, List.length_append]; omega), Option.bind_some, BE (by omega)]
  congr 2
  refine Prod.ext ?_ rfl
  show _ = y ++ Lr t R G C x
  unfold Lr
  simp only [decide_eq_true_eq, Bool.and_eq_true, List.append_assoc]
theorem H7 (t : Tp) {R : List Rt} (hR : GO R) {G : List G3} (hG : G.length ≤ 1000000) {C : List (Int × Int)} (hC : C.length ≤ 1000000) (T : List Tr) (hT : T.length ≤ 1000) (hs : ∀ x ∈ T, x.2.2.2.2.1.length ≤ 1000) : ∀ (X : List Tr) (k : Nat) (y : List (Int × Int)), T.drop k = X → k ≤ T.length → y.length ≤ 4 * k → AQ (B5 t R (G, C) T) (y, (k : Int)) = some (y ++ X.flatMap (Lr t R G C))
  | [], k, y, hX, hk, hy => by
    have : T.length ≤ k := List.drop_eq_nil_iff.1 hX
    rw [A1 (by rw [B5, if_neg (by omega)])]; simp
  | x :: X, k, y, hX, hk, hy => by
    have hg : T[k]? = some x := by rw [← List.head?_drop, hX]; rfl
    have hlt := (List.getElem?_eq_some_iff.1 hg).1
    have hd : T.drop (k + 1) = X := by rw [← List.tail_drop, hX]; rfl
    have hf := Lm t R G C x
    rw [B8 (KT t hR hG hC hg (by omega) (hs x (List.mem_of_getElem? hg)) (by omega)), H7 t hR hG hC T hT hs X (k + 1) _ hd (by omega) (by rw [List.length_append]; omega), List.flatMap_cons, List.append_assoc]
noncomputable def KE (t : Tp) (R : List Rt) (l : List Ev) : List (Int × Int) := (tr l).flatMap (Lr t R (Cr l) (GR l))
theorem NA {l : List Ev} (hl : l.length ≤ 200) : (GR l).length ≤ 200000 := by
  have h1 := Gu l
  have h2 := MQ (Cr l) (by omega) l
  unfold GR; omega
theorem JU (t : Tp) {R : List Rt} (hR : GO R) {l : List Ev} (hl : l.length ≤ 200) : BN t R l = some (KE t R l) := by
  have h1 := Gu l
  have h2 := NA hl
  have h3 := MF l
  have h4 := Mf l
  have h5 := H7 t hR (G := Cr l) (by omega) (C := GR l) (by omega) (tr l) (by omega) (fun x hx => by have := h4 x hx; omega) (tr l) 0 [] rfl (Nat.zero_le _) (Nat.le_refl _)
  have h5 : AQ (B5 t R (Cr l, GR l) (tr l)) ([], 0) = some ([] ++ (tr l).flatMap (Lr t R (Cr l) (GR l))) := h5
  unfold BN
  rw [Nv hl, Option.bind_some, OB (by omega), Option.bind_some, h5]; rfl
theorem Nj (t : Tp) (r : Rt) (hl : r.length ≤ 9223372036854775807) : EO t r = some (decide ((∀ row ∈ r, row.length ≤ 12) ∧ t.2.1.length ≤ 30 ∧ t.2.2.length ≤ 12 ∧ r.length ≤ 12)) := by
  unfold EO
  rw [EQ r hl (D0 r) (fun row => 12 < row.length) false (fun k hk => by
    have hg : r[k]? = some r[k] := List.getElem?_eq_getElem hk
    rw [D0, if_pos (by omega), A9 hg, Option.bind_some]
    by_cases c : 12 < r[k].length
    · rw [if_pos (by omega), if_pos c]
    · rw [if_neg (by omega), if_neg c]) (by rw [D0, if_neg (by omega)])]
  by_cases c : ∃ row ∈ r, 12 < row.length
  · have hf : ¬ ((∀ row ∈ r, row.length ≤ 12) ∧ t.2.1.length ≤ 30 ∧ t.2.2.length ≤ 12 ∧ r.length ≤ 12) := fun h => by obtain ⟨row, h1, h2⟩ := c; have := h.1 row h1; omega
    rw [if_pos c, decide_eq_false hf]; rfl
  · rw [if_neg c]
    have hc : ∀ row ∈ r, row.length ≤ 12 := fun row hm => Classical.byContradiction fun h => c ⟨row, hm, by omega⟩
    show some _ = some _
    congr 1
    rw [Bool.eq_iff_iff]
    simp only [Bool.and_eq_true, decide_eq_true_eq]
    constructor
    · rintro ⟨h1, h2, h3⟩; exact ⟨hc, by omega, by omega, by omega⟩
    · rintro ⟨_, h1, h2, h3⟩; exact ⟨by omega, by omega, by omega⟩
theorem GX (l : List Ev) (e : Ev) (h : e.1 ≠ 8 ∧ e.1 ≠ 9 ∧ e.1 ≠ 10) : Cr (l ++ [e]) = Cr l := by
  unfold Cr
  rw [Mb, gd, if_neg (show ¬ (e.1 = 9 ∨ e.1 = 10) by omega), if_neg (show ¬ e.1 = 8 by omega), JP l _ _ _ (MP _) Me]
theorem Lv (l : List Ev) (e : Ev) (h : e.1 ≠ 8 ∧ e.1 ≠ 9 ∧ e.1 ≠ 10) : GR (l ++ [e]) = GR l := by
  unfold GR
  rw [GX l e h, Oa, H0, if_neg h.2.1]; simp [cm]
end Go.Proofs.Ytflaelbmglmmcaa
