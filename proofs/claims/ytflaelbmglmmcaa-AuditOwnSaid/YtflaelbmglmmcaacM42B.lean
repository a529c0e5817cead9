/- Layer 42: what is found. Conditions: none. -/
import Derived.Test.YtflaelbmglmmcaacM21R
import Derived.Test.YtflaelbmglmmcaacM42X
namespace Go.Proofs.Ytflaelbmglmmcaa
set_option linter.unusedVariables false
set_option linter.unusedSimpArgs false
open Go Go.RowKit
def pr (e : Ev) (X : List G3) : List (Int × Int) := X.flatMap fun g => if g.1 = e.2.2.1 then [(e.2.2.2.2.1, g.2.2)] else []
def cm (G : List G3) (X : List Ev) : List (Int × Int) := X.flatMap fun e => if e.1 = 9 then pr e G else []
theorem Jb (e : Ev) (g : G3) (X : List G3) : pr e (g :: X) = (if g.1 = e.2.2.1 then [(e.2.2.2.2.1, g.2.2)] else []) ++ pr e X := by unfold pr; rw [List.flatMap_cons]
theorem HH (G : List G3) (e : Ev) (X : List Ev) : cm G (e :: X) = (if e.1 = 9 then pr e G else []) ++ cm G X := by unfold cm; rw [List.flatMap_cons]
theorem NI (G : List G3) (X Y : List Ev) : cm G (X ++ Y) = cm G X ++ cm G Y := by unfold cm; rw [List.flatMap_append]
theorem Kl (e : Ev) : ∀ X : List G3, (pr e X).length ≤ X.length
  | [] => Nat.le_refl _
  | g :: X => by
    have := Kl e X
    rw [Jb, List.length_append, List.length_cons]
    by_cases c : g.1 = e.2.2.1
    · rw [if_pos c]; simp; omega
    · rw [if_neg c]; simp; omega
theorem Mc (G : List G3) (hG : G.length ≤ 1000) : ∀ X : List Ev, (cm G X).length ≤ 1000 * X.length
  | [] => Nat.le_refl _
  | e :: X => by
    have h1 := Mc G hG X
    have h2 := Kl e G
    rw [HH, List.length_append, List.length_cons]
    by_cases c : e.1 = 9
    · rw [if_pos c]; omega
    · rw [if_neg c, List.length_nil]; omega
theorem Kk (G : List G3) (hG : G.length ≤ 1000) (e : Ev) : ∀ (X : List G3) (k : Nat) (C : List (Int × Int)), G.drop k = X → k ≤ G.length → C.length + X.length ≤ 1000000 → AF (B6 G e) ((k : Int), C) = some (C ++ pr e X)
  | [], k, C, hX, hk, hC => by
    have : G.length ≤ k := List.drop_eq_nil_iff.1 hX
    rw [AS (by rw [B6, if_neg (by omega)])]; simp [pr]
  | g :: X, k, C, hX, hk, hC => by
    have hg : G[k]? = some g := by rw [← List.head?_drop, hX]; rfl
    have hlt := (List.getElem?_eq_some_iff.1 hg).1
    have hd : G.drop (k + 1) = X := by rw [← List.tail_drop, hX]; rfl
    rw [List.length_cons] at hC
    by_cases c : g.1 = e.2.2.1
    · rw [BU (s' := (((k + 1 : Nat) : Int), C ++ [(e.2.2.2.2.1, g.2.2)])) (by
        rw [B6, if_pos (by omega), AW hg, Option.bind_some, if_pos c, DG (by simp; omega), Option.bind_some, Option.bind_some, BC (by omega)]; rfl), Kk G hG e X (k + 1) _ hd (by omega) (by simp; omega), Jb, if_pos c, List.append_assoc]
    · rw [BU (s' := (((k + 1 : Nat) : Int), C)) (by
        rw [B6, if_pos (by omega), AW hg, Option.bind_some, if_neg c, Option.bind_some, BC (by omega)]; rfl), Kk G hG e X (k + 1) _ hd (by omega) (by omega), Jb, if_neg c, List.nil_append]
theorem Ki (l : List Ev) (hl : l.length ≤ 200) (G : List G3) (hG : G.length ≤ 1000) : ∀ (X : List Ev) (k : Nat) (C : List (Int × Int)), l.drop k = X → k ≤ l.length → C.length + 1000 * X.length ≤ 500000 → AF (B4 l G) ((k : Int), C) = some (C ++ cm G X)
  | [], k, C, hX, hk, hC => by
    have : l.length ≤ k := List.drop_eq_nil_iff.1 hX
    rw [AS (by rw [B4, if_neg (by omega)])]; simp [cm]
  | e :: X, k, C, hX, hk, hC => by
    have hg : l[k]? = some e := by rw [← List.head?_drop, hX]; rfl
    have hlt := (List.getElem?_eq_some_iff.1 hg).1
    have hd : l.drop (k + 1) = X := by rw [← List.tail_drop, hX]; rfl
    have hpl := Kl e G
    rw [List.length_cons] at hC
    by_cases c : e.1 = 9
    · have h2 := Kk G hG e G 0 C rfl (Nat.zero_le _) (by omega)
      have h2 : AF (B6 G e) (0, C) = some (C ++ pr e G) := h2
      rw [BU (s' := (((k + 1 : Nat) : Int), C ++ pr e G)) (by
        rw [B4, if_pos (by omega), AW hg, Option.bind_some, if_neg (fun h => h c), h2, Option.bind_some, BC (by omega)]; rfl), Ki l hl G hG X (k + 1) _ hd (by omega) (by rw [List.length_append]; omega), HH, if_pos c, List.append_assoc]
    · rw [BU (s' := (((k + 1 : Nat) : Int), C)) (by
        rw [B4, if_pos (by omega), AW hg, Option.bind_some, if_pos c, Option.bind_some, BC (by omega)]; rfl), Ki l hl G hG X (k + 1) _ hd (by omega) (by omega), HH, if_neg c, List.nil_append]
def Gm (l : List Ev) : List (Int × Int) := cm (Ce l) l
theorem ML {l : List Ev} (hl : l.length ≤ 200) : Dv l = some (Ce l, Gm l) := by
  have hg := Gf l
  have hb : ([] : List (Int × Int)).length + 1000 * l.length ≤ 500000 := by rw [List.length_nil]; omega
  have h1 := Ki l hl (Ce l) (by omega) l 0 [] rfl (Nat.zero_le _) hb
  have h1 : AF (B4 l (Ce l)) (0, []) = some ([] ++ cm (Ce l) l) := h1
  unfold Dv Gm
  rw [Lj (by omega), Option.bind_some, h1, List.nil_append]; rfl
def I1 (C : List (Int × Int)) (at_ : Int) : Int := C.foldl (fun a c => if c.2 < at_ then c.1 else a) 0
theorem bwd_snoc' {α : Type} (l : List α) (e : α) : Hz (l ++ [e]) = ((l.length : Int), e) :: Hz l := by
  have := GN (l := l ++ [e]) (k := l.length) (x := e) (by simp)
  rw [List.take_of_length_le (by simp), List.take_left' rfl] at this; exact this
theorem J7 (at_ : Int) (C : List (Int × Int)) : (DQ (Eo (AY at_) (Hz C) ()) fun _ => some 0) = some (I1 C at_) := by
  refine GQ (Q := fun C => (DQ (Eo (AY at_) (Hz C) ()) fun _ => some 0) = some (I1 C at_)) rfl ?_ C
  intro l a ih
  unfold I1 at ih ⊢
  rw [bwd_snoc', List.foldl_append]
  show DQ ((AY at_ ((l.length : Int), a) ()).bind _) _ = some (if a.2 < at_ then a.1 else _)
  unfold AY
  by_cases c : a.2 < at_
  · rw [if_pos c, if_pos c]; rfl
  · rw [if_neg c, if_neg c]; exact ih
theorem Mi (G : List G3) {C : List (Int × Int)} (hC : C.length ≤ 1000000) (at_ : Int) : Bi (G, C) at_ = some (I1 C at_) := by
  unfold Bi back
  show (if C.length ≤ 1000000000 then some (Hz C) else none).bind _ = _
  rw [if_pos (by omega), Option.bind_some]
  exact J7 at_ C
def Kc (r : Rt) : Prop := r.length ≤ 12 ∧ ∀ row ∈ r, row.length ≤ 1000000000
theorem LM (t : Tp) {r : Rt} (hr : Kc r) (sw h : Int) : ∃ q q', CE t r sw h = some q ∧ EO t r sw h = some q' ∧ ((q.2 = 0 ∧ q' = q) ∨ (q.2 ≠ 0 ∧ q'.2 ≠ 0)) := by
  by_cases c : Fy t r ∧ (0 ≤ sw ∧ sw < t.1) ∧ (0 ≤ h ∧ h < (t.2.2.length : Int))
  · obtain ⟨ho, hs, hh⟩ := c
    obtain ⟨q, e, hq⟩ := Nq ho hr.1 hr.2 hs hh
    obtain ⟨q', e', hq'⟩ := M7 ho hr.1 hr.2 hs hh
    refine ⟨q, q', e, e', ?_⟩
    rcases hq with ⟨h1, h2, h3⟩ | ⟨h1, h2, h3⟩
    · obtain ⟨l, hl⟩ : ∃ l, q.1 = sw :: l := by
        cases hq1 : q.1 with
        | nil => rw [hq1] at h3; cases h3
        | cons a l => rw [hq1] at h3; cases h3; exact ⟨l, rfl⟩
      rw [hl] at h2
      have := hq'.of h2
      refine .inl ⟨h1, ?_⟩
      rw [this, ← hl, ← h1]
    · refine .inr ⟨by omega, fun h => ?_⟩
      rcases hq' with ⟨g1, g2, g3⟩ | ⟨g1, g2, g3⟩
      · cases hq1 : q'.1 with
        | nil => rw [hq1] at g3; cases g3
        | cons a l => rw [hq1] at g2 g3; cases g3; exact h3 l g2
      · omega
  · have hlen : Fy t r → (r.length : Int) = t.1 := fun ho => ho.2.1
    have e1 : CE t r sw h = some ([], 2) := by
      unfold CE
      rw [KK hr.1 hr.2, Option.bind_some]
      by_cases a : Fy t r
      · rw [decide_eq_true a, if_neg (by decide)]
        by_cases b1 : sw < 0
        · rw [if_pos b1]; rfl
        · rw [if_neg b1]
          by_cases b2 : t.1 ≤ sw
          · rw [if_pos b2]; rfl
          · rw [if_neg b2]
            by_cases b3 : h < 0
            · rw [if_pos b3]; rfl
            · rw [if_neg b3, decide_eq_true (by
                refine Classical.byContradiction fun b4 => c ⟨a, ⟨by omega, by omega⟩, ⟨by omega, by omega⟩⟩)]; rfl
      · rw [decide_eq_false a]; rfl
    have e2 : EO t r sw h = some ([], 2) := by
      unfold EO
      rw [JK hr.1 hr.2, Option.bind_some]
      by_cases a : Fy t r
      · have hl := hlen a
        rw [decide_eq_true a, if_neg (by decide)]
        by_cases b1 : sw < 0
        · rw [if_pos b1]; rfl
        · rw [if_neg b1]
          by_cases b2 : (r.length : Int) ≤ sw
          · rw [if_pos b2]; rfl
          · rw [if_neg b2]
            by_cases b3 : h < 0
            · rw [if_pos b3]; rfl
            · rw [if_neg b3, decide_eq_true (by
                refine Classical.byContradiction fun b4 => c ⟨a, ⟨by omega, by omega⟩, ⟨by omega, by omega⟩⟩)]; rfl
      · rw [decide_eq_false a]; rfl
    exact ⟨_, _, e1, e2, .inr ⟨by decide, by decide⟩⟩
theorem JM {a b : List Int} (ha : a.length ≤ 1000000) : Bz a b = some (decide (a = b)) := by
  unfold Bz
  by_cases c : (a.length : Int) ≠ (b.length : Int)
  · rw [if_pos c, decide_eq_false (fun h => c (by rw [h]))]
  · rw [if_neg c]
    have hl : a.length = b.length := by omega
    have key : ∀ (X Y : List Int) (k : Nat), a.drop k = X → b.drop k = Y → X.length = Y.length → k ≤ a.length → (DQ (AF (A8 a b) (k : Int)) fun _ => some true) = some (decide (X = Y)) := by
      intro X
      induction X with
      | nil =>
        intro Y k h1 h2 h3 hk
        have : a.length ≤ k := List.drop_eq_nil_iff.1 h1
        have hY : Y = [] := List.eq_nil_of_length_eq_zero (by simpa using h3.symm)
        rw [AS (by rw [A8, if_neg (by omega)]), hY]; rfl
      | cons x X ih =>
        intro Y k h1 h2 h3 hk
        cases Y with
        | nil => cases h3
        | cons y Y =>
          have g1 : a[k]? = some x := by rw [← List.head?_drop, h1]; rfl
          have g2 : b[k]? = some y := by rw [← List.head?_drop, h2]; rfl
          have hlt := (List.getElem?_eq_some_iff.1 g1).1
          by_cases e : x = y
          · have := ih Y (k + 1) (by rw [← List.tail_drop, h1]; rfl) (by rw [← List.tail_drop, h2]; rfl) (by simpa using h3) (by omega)
            rw [BU (s' := ((k + 1 : Nat) : Int)) (by rw [A8, if_pos (by omega), AW g1, Option.bind_some, AW g2, Option.bind_some, if_neg (fun h => h e), BC (by omega)]; rfl), this]
            simp [e]
          · rw [AS (by rw [A8, if_pos (by omega), AW g1, Option.bind_some, AW g2, Option.bind_some, if_pos e]), decide_eq_false (fun h => e (List.cons.inj h).1)]; rfl
    exact key a b 0 rfl rfl hl (Nat.zero_le _)
theorem Lf {x : Tr} {q : List Int × Int} (ha : x.2.2.2.2.1.length ≤ 1000000) (hl : x.2.2.2.2.1.length ≤ q.1.length) : (DQ (AF (C1 x q) 0) fun _ => some true) = some (decide (q.1.take x.2.2.2.2.1.length = x.2.2.2.2.1)) := by
  have key : ∀ (X Y : List Int) (k : Nat), x.2.2.2.2.1.drop k = X → q.1.drop k = Y → X.length ≤ Y.length → k ≤ x.2.2.2.2.1.length → (DQ (AF (C1 x q) (k : Int)) fun _ => some true) = some (decide (Y.take X.length = X)) := by
    intro X
    induction X with
    | nil =>
      intro Y k h1 h2 h3 hk
      have : x.2.2.2.2.1.length ≤ k := List.drop_eq_nil_iff.1 h1
      rw [AS (by rw [C1, if_neg (by omega)])]; simp [DQ]
    | cons a X ih =>
      intro Y k h1 h2 h3 hk
      cases Y with
      | nil => simp at h3
      | cons y Y =>
        have g1 : x.2.2.2.2.1[k]? = some a := by rw [← List.head?_drop, h1]; rfl
        have g2 : q.1[k]? = some y := by rw [← List.head?_drop, h2]; rfl
        have hlt := (List.getElem?_eq_some_iff.1 g1).1
        by_cases e : y = a
        · have := ih Y (k + 1) (by rw [← List.tail_drop, h1]; rfl) (by rw [← List.tail_drop, h2]; rfl) (by simpa using h3) (by omega)
          rw [BU (s' := ((k + 1 : Nat) : Int)) (by rw [C1, if_pos (by omega), AW g2, Option.bind_some, AW g1, Option.bind_some, if_neg (fun h => h e), BC (by omega)]; rfl), this]
          simp [e]
        · rw [AS (by rw [C1, if_pos (by omega), AW g2, Option.bind_some, AW g1, Option.bind_some, if_pos e]), decide_eq_false (fun h => e (by simp at h; exact h.1))]; rfl
  exact key _ _ 0 rfl rfl hl (Nat.zero_le _)
def GL (R : List Rt) : Prop := R.length ≤ 1000 ∧ ∀ r ∈ R, Kc r
theorem Kf (t : Tp) {R : List Rt} (hR : GL R) (k : Int) {x : Tr} (hx : x.2.2.2.2.1 ≠ []) (hs : x.2.2.2.2.1.length ≤ 1000) : ∃ b, B5 t R k x = some b ∧ Ia t R k x = some b := by
  have hpos : 0 < x.2.2.2.2.1.length := List.length_pos_iff.2 hx
  unfold B5 Ia
  rw [if_neg (show ¬ (x.2.2.2.2.1.length : Int) = 0 by omega)]
  by_cases c : k < 0 ∨ (R.length : Int) ≤ k
  · have hc : (decide (k < 0) || decide ((R.length : Int) ≤ k)) = true := by simpa using c
    rw [if_pos hc, if_pos hc]; exact ⟨false, rfl, rfl⟩
  · have hc : ¬ (decide (k < 0) || decide ((R.length : Int) ≤ k)) = true := by simpa using c
    rw [if_neg hc, if_neg hc]
    obtain ⟨r, hr, hr2⟩ := F5 (l := R) (i := k) (by omega) (by omega)
    have hmem := List.mem_of_getElem? hr2
    obtain ⟨s0, hs0⟩ : ∃ s0, x.2.2.2.2.1[0]? = some s0 := ⟨_, List.getElem?_eq_getElem hpos⟩
    have hi0 : ix x.2.2.2.2.1 0 = some s0 := AW hs0
    obtain ⟨q, q', e1, e2, h⟩ := LM t (hR.2 r hmem) s0 x.2.2.1
    rw [hr, Option.bind_some, Option.bind_some, hi0, Option.bind_some, Option.bind_some, e1, Option.bind_some, e2, Option.bind_some]
    rcases h with ⟨h1, h2⟩ | ⟨h1, h2⟩
    · rw [h2, if_neg (fun h => h h1)]
      refine ⟨decide (x.2.2.2.2.1 = if x.2.2.2.2.2.1 = 0 ∧ x.2.2.2.2.1.length < q.1.length then q.1.take x.2.2.2.2.1.length else q.1), ?_, ?_⟩
      · by_cases cw : x.2.2.2.2.2.1 = 0 ∧ x.2.2.2.2.1.length < q.1.length
        · have : (decide (x.2.2.2.2.2.1 = 0) && decide ((x.2.2.2.2.1.length : Int) < (q.1.length : Int))) = true := by
            rw [decide_eq_true cw.1, decide_eq_true (show (x.2.2.2.2.1.length : Int) < (q.1.length : Int) by omega)]; rfl
          rw [if_pos this, if_pos cw, M9 (by omega), Option.bind_some, Option.bind_some, JM (by omega)]
          simp
        · have : ¬ (decide (x.2.2.2.2.2.1 = 0) && decide ((x.2.2.2.2.1.length : Int) < (q.1.length : Int))) = true := by
            rw [Bool.and_eq_true, decide_eq_true_eq, decide_eq_true_eq]; intro h; exact cw ⟨h.1, by omega⟩
          rw [if_neg this, if_neg cw, Option.bind_some, JM (by omega)]; rfl
      · by_cases cl : q.1.length < x.2.2.2.2.1.length ∨ (x.2.2.2.2.2.1 ≠ 0 ∧ q.1.length ≠ x.2.2.2.2.1.length)
        · have hcl : (decide (q.2 ≠ 0) || (decide ((q.1.length : Int) < (x.2.2.2.2.1.length : Int)) || (decide (x.2.2.2.2.2.1 ≠ 0) && decide ((q.1.length : Int) ≠ (x.2.2.2.2.1.length : Int))))) = true := by
            simp only [Bool.or_eq_true, Bool.and_eq_true, decide_eq_true_eq]; right
            rcases cl with cl | cl
            · exact .inl (by omega)
            · exact .inr ⟨cl.1, by omega⟩
          rw [if_pos hcl]
          congr 1
          refine (decide_eq_false fun h => ?_).symm
          by_cases cw : x.2.2.2.2.2.1 = 0 ∧ x.2.2.2.2.1.length < q.1.length
          · rcases cl with cl | cl
            · omega
            · exact cl.1 cw.1
          · rw [if_neg cw] at h
            rw [← h] at cl
            omega
        · have hcl : ¬ (decide (q.2 ≠ 0) || (decide ((q.1.length : Int) < (x.2.2.2.2.1.length : Int)) || (decide (x.2.2.2.2.2.1 ≠ 0) && decide ((q.1.length : Int) ≠ (x.2.2.2.2.1.length : Int))))) = true := by
            simp only [Bool.or_eq_true, Bool.and_eq_true, decide_eq_true_eq]
            rintro (h | h | h)
            · exact h h1
            · exact cl (.inl (by omega))
            · exact cl (.inr ⟨h.1, by omega⟩)
          rw [if_neg hcl]
          have hge : x.2.2.2.2.1.length ≤ q.1.length := by omega
          rw [Lf (by omega) hge]
          congr 1
          by_cases cw : x.2.2.2.2.2.1 = 0 ∧ x.2.2.2.2.1.length < q.1.length
          · rw [if_pos cw]; exact decide_eq_decide.2 ⟨fun h => h.symm, fun h => h.symm⟩
          · rw [if_neg cw]
            have hlq : q.1.length = x.2.2.2.2.1.length := by omega
            rw [List.take_of_length_le (by omega)]; exact decide_eq_decide.2 ⟨fun h => h.symm, fun h => h.symm⟩
    · have h1' : decide (q'.2 ≠ 0) = true := decide_eq_true h2
      rw [if_pos h1, h1', if_pos (by rfl)]
      exact ⟨false, rfl, rfl⟩
noncomputable def GY (t : Tp) (R : List Rt) (G : List G3) (C : List (Int × Int)) (x : Tr) : Bool := if x.2.2.2.2.1 = [] then false else if G.any (Ms x.2.2.2.1) = true then false else match B5 t R (I1 C x.2.2.2.1) x with | some b => !b | none => false
noncomputable def Ls (t : Tp) (R : List Rt) (G : List G3) (C : List (Int × Int)) (x : Tr) : List (Int × Int) :=
  (if ¬ x.2.2.2.2.1.Nodup then [(1, x.1)] else []) ++ ((if x.2.2.2.2.2.1 = 4 then [(2, x.1)] else []) ++ ((if x.2.2.2.2.2.1 = 3 ∧ x.2.2.2.2.2.2.1 ≠ x.2.2.1 then [(3, x.1)] else []) ++ (if GY t R G C x = true then [(4, x.1)] else [])))
theorem FB {p : Prop} [Decidable p] (z : Int × Int) : (if p then [z] else []).length ≤ 1 := by
  by_cases c : p
  · rw [if_pos c]; simp
  · rw [if_neg c]; simp
theorem KP (t : Tp) (R : List Rt) (G : List G3) (C : List (Int × Int)) (x : Tr) : (Ls t R G C x).length ≤ 4 := by
  unfold Ls
  rw [List.length_append, List.length_append, List.length_append]
  have h1 := FB (p := ¬ x.2.2.2.2.1.Nodup) (1, x.1)
  have h2 := FB (p := x.2.2.2.2.2.1 = 4) (2, x.1)
  have h3 := FB (p := x.2.2.2.2.2.1 = 3 ∧ x.2.2.2.2.2.2.1 ≠ x.2.2.1) (3, x.1)
  have h4 := FB (p := GY t R G C x = true) (4, x.1)
  omega
theorem HM {p : Prop} [Decidable p] {y : List (Int × Int)} {z : Int × Int} (hy : y.length ≤ 100000) : (if p then (Fo y ([z] : List (Int × Int))).bind fun x10 => some x10 else some y) = some (y ++ if p then [z] else []) := by
  by_cases c : p
  · rw [if_pos c, if_pos c, DG (by simp; omega)]; rfl
  · rw [if_neg c, if_neg c, List.append_nil]
theorem Kr (t : Tp) {R : List Rt} (hR : GL R) {G : List G3} (hG : G.length ≤ 1000000) {C : List (Int × Int)} (hC : C.length ≤ 1000000) {T : List Tr} {k : Nat} {x : Tr} (hx : T[k]? = some x) (hk : k ≤ 100000) (hs : x.2.2.2.2.1.length ≤ 1000) {y : List (Int × Int)} (hy : y.length ≤ 10000) :
    BT t R (G, C) T (y, (k : Int)) = some (.inl (y ++ Ls t R G C x, ((k + 1 : Nat) : Int))) := by
  have hlt := (List.getElem?_eq_some_iff.1 hx).1
  have hoth : ((if 0 < (x.2.2.2.2.1.length : Int) then (A7 (G, C) x.2.2.2.1).bind fun x16 => (if (!x16) = true then (Bi (G, C) x.2.2.2.1).bind fun x17 => (B5 t R x17 x).bind fun x18 => some (!x18) else some false) else some false) : Option Bool) = some (GY t R G C x) := by
    unfold GY
    by_cases c : x.2.2.2.2.1 = []
    · rw [if_neg (by rw [c]; simp), if_pos c]
    · have hpos : 0 < x.2.2.2.2.1.length := List.length_pos_iff.2 c
      rw [if_pos (by omega), if_neg c, KX hG, Option.bind_some]
      by_cases d : G.any (Ms x.2.2.2.1) = true
      · rw [d, if_neg (by decide), if_pos rfl]
      · have df : G.any (Ms x.2.2.2.1) = false := by cases h : G.any (Ms x.2.2.2.1) with | true => exact absurd h d | false => rfl
        obtain ⟨b, hb, _⟩ := Kf t hR (I1 C x.2.2.2.1) c hs
        rw [df, if_pos (by decide), if_neg (by decide), Mi G hC, Option.bind_some, hb]; rfl
  have ht : (CS x) = some (decide (¬ x.2.2.2.2.1.Nodup)) := LJ (by omega)
  have l1 := FB (p := decide (¬ x.2.2.2.2.1.Nodup) = true) (1, x.1)
  have l2 := FB (p := x.2.2.2.2.2.1 = 4) (2, x.1)
  have l3 := FB (p := (decide (x.2.2.2.2.2.1 = 3) && decide (x.2.2.2.2.2.2.1 ≠ x.2.2.1)) = true) (3, x.1)
  rw [BT, if_pos (by omega), AW hx, Option.bind_some, ht, Option.bind_some, HM (by omega), Option.bind_some, HM (by rw [List.length_append]; omega), Option.bind_some]
  rw [HM (by rw [List.length_append, List.length_append]; omega), Option.bind_some, hoth, Option.bind_some, HM (by rw [List.length_append, List.length_append, List.length_append]; omega), Option.bind_some, BC (by omega)]
  congr 2
  refine Prod.ext ?_ rfl
  show _ = y ++ Ls t R G C x
  unfold Ls
  simp only [decide_eq_true_eq, Bool.and_eq_true, List.append_assoc]
theorem HP (t : Tp) {R : List Rt} (hR : GL R) {G : List G3} (hG : G.length ≤ 1000000) {C : List (Int × Int)} (hC : C.length ≤ 1000000) (T : List Tr) (hT : T.length ≤ 1000) (hs : ∀ x ∈ T, x.2.2.2.2.1.length ≤ 1000) : ∀ (X : List Tr) (k : Nat) (y : List (Int × Int)), T.drop k = X → k ≤ T.length → y.length ≤ 4 * k → AF (BT t R (G, C) T) (y, (k : Int)) = some (y ++ X.flatMap (Ls t R G C))
  | [], k, y, hX, hk, hy => by
    have : T.length ≤ k := List.drop_eq_nil_iff.1 hX
    rw [AS (by rw [BT, if_neg (by omega)])]; simp
  | x :: X, k, y, hX, hk, hy => by
    have hg : T[k]? = some x := by rw [← List.head?_drop, hX]; rfl
    have hlt := (List.getElem?_eq_some_iff.1 hg).1
    have hd : T.drop (k + 1) = X := by rw [← List.tail_drop, hX]; rfl
    have hf := KP t R G C x
    rw [BU (Kr t hR hG hC hg (by omega) (hs x (List.mem_of_getElem? hg)) (by omega)), HP t hR hG hC T hT hs X (k + 1) _ hd (by omega) (by rw [List.length_append]; omega), List.flatMap_cons, List.append_assoc]
noncomputable def B1 (t : Tp) (R : List Rt) (l : List Ev) : List (Int × Int) := (tr l).flatMap (Ls t R (Ce l) (Gm l))
theorem MJ {l : List Ev} (hl : l.length ≤ 200) : (Gm l).length ≤ 200000 := by
  have h1 := Gf l
  have h2 := Mc (Ce l) (by omega) l
  unfold Gm; omega
theorem JH (t : Tp) {R : List Rt} (hR : GL R) {l : List Ev} (hl : l.length ≤ 200) : B7 t R l = some (B1 t R l) := by
  have h1 := Gf l
  have h2 := MJ hl
  have h3 := Kv l
  have h4 := LN l
  have h5 := HP t hR (G := Ce l) (by omega) (C := Gm l) (by omega) (tr l) (by omega) (fun x hx => by have := h4 x hx; omega) (tr l) 0 [] rfl (Nat.zero_le _) (Nat.le_refl _)
  have h5 : AF (BT t R (Ce l, Gm l) (tr l)) ([], 0) = some ([] ++ (tr l).flatMap (Ls t R (Ce l) (Gm l))) := h5
  unfold B7
  rw [ML hl, Option.bind_some, Oq (by omega), Option.bind_some, h5]; rfl
theorem KR (t : Tp) (r : Rt) (hl : r.length ≤ 9223372036854775807) : EE t r = some (decide ((∀ row ∈ r, row.length ≤ 12) ∧ t.2.1.length ≤ 30 ∧ t.2.2.length ≤ 12 ∧ r.length ≤ 12)) := by
  unfold EE
  rw [DA r hl (DP r) (fun row => 12 < row.length) false (fun k hk => by
    have hg : r[k]? = some r[k] := List.getElem?_eq_getElem hk
    rw [DP, if_pos (by omega), AW hg, Option.bind_some]
    by_cases c : 12 < r[k].length
    · rw [if_pos (by omega), if_pos c]
    · rw [if_neg (by omega), if_neg c]) (by rw [DP, if_neg (by omega)])]
  by_cases c : ∃ row ∈ r, 12 < row.length
  · have hf : ¬ ((∀ row ∈ r, row.length ≤ 12) ∧ t.2.1.length ≤ 30 ∧ t.2.2.length ≤ 12 ∧ r.length ≤ 12) := fun h => by obtain ⟨row, h1, h2⟩ := c; have := h.1 row h1; omega
    rw [if_pos c, decide_eq_false hf]; rfl
  · rw [if_neg c]
    have hc : ∀ row ∈ r, row.length ≤ 12 := fun row hm => Classical.byContradiction fun h => c ⟨row, hm, by omega⟩
    show some _ = some _
    congr 1
    rw [Bool.eq_iff_iff]
    simp only [Bool.and_eq_true, decide_eq_true_eq]
    constructor
    · rintro ⟨h1, h2, h3⟩; exact ⟨hc, by omega, by omega, by omega⟩
    · rintro ⟨_, h1, h2, h3⟩; exact ⟨by omega, by omega, by omega⟩
def NL (R : List Rt) (l : List Ev) : Prop := l.length ≤ 100 ∧ GL R
theorem Na (t : Tp) (R : List Rt) (hR : ∀ r ∈ R, r.length ≤ 9223372036854775807) (l : List Ev) : ∃ b, Fh t R l = some b ∧ (b = true → NL R l) := by
  unfold Fh
  by_cases c : 100 < (l.length : Int) ∨ 8 < (R.length : Int)
  · rw [if_pos (by simpa using c)]; exact ⟨false, rfl, fun h => by cases h⟩
  · rw [if_neg (by simpa using c)]
    have small : ∀ r : Rt, ((∀ row ∈ r, row.length ≤ 12) ∧ t.2.1.length ≤ 30 ∧ t.2.2.length ≤ 12 ∧ r.length ≤ 12) → Kc r := fun r h => ⟨h.2.2.2, fun row hm => by have := h.1 row hm; omega⟩
    have hP : DecidablePred fun r : Rt => ¬ ((∀ row ∈ r, row.length ≤ 12) ∧ t.2.1.length ≤ 30 ∧ t.2.2.length ≤ 12 ∧ r.length ≤ 12) := fun _ => inferInstance
    rw [DA R (by omega) (DL t R) (fun r => ¬ ((∀ row ∈ r, row.length ≤ 12) ∧ t.2.1.length ≤ 30 ∧ t.2.2.length ≤ 12 ∧ r.length ≤ 12)) false (fun k hk => by
      have hg : R[k]? = some R[k] := List.getElem?_eq_getElem hk
      rw [DL, if_pos (by omega), AW hg, Option.bind_some, KR t _ (hR _ (List.getElem_mem hk)), Option.bind_some]
      by_cases d : (∀ row ∈ R[k], row.length ≤ 12) ∧ t.2.1.length ≤ 30 ∧ t.2.2.length ≤ 12 ∧ R[k].length ≤ 12
      · rw [decide_eq_true d, if_neg (by decide), if_neg (fun h => h d)]
      · rw [decide_eq_false d, if_pos (by decide), if_pos d]) (by rw [DL, if_neg (by omega)])]
    by_cases d : ∃ r ∈ R, ¬ ((∀ row ∈ r, row.length ≤ 12) ∧ t.2.1.length ≤ 30 ∧ t.2.2.length ≤ 12 ∧ r.length ≤ 12)
    · rw [if_pos d]; exact ⟨false, rfl, fun h => by cases h⟩
    · rw [if_neg d]
      simp only [DQ]
      rw [Option.bind_some]
      simp only
      rw [KR t [] (by simp), Option.bind_some]
      exact ⟨_, rfl, fun _ => ⟨by omega, by omega, fun r hm => small r (Classical.byContradiction fun h => d ⟨r, hm, h⟩)⟩⟩
theorem FE (l : List Ev) (e : Ev) (h : e.1 ≠ 8 ∧ e.1 ≠ 9 ∧ e.1 ≠ 10) : Ce (l ++ [e]) = Ce l := by
  unfold Ce
  rw [LT, gd, if_neg (show ¬ (e.1 = 9 ∨ e.1 = 10) by omega), if_neg (show ¬ e.1 = 8 by omega), Ja l _ _ _ (Mq _) Mo]
theorem IL (l : List Ev) (e : Ev) (h : e.1 ≠ 8 ∧ e.1 ≠ 9 ∧ e.1 ≠ 10) : Gm (l ++ [e]) = Gm l := by
  unfold Gm
  rw [FE l e h, NI, HH, if_neg h.2.1]; simp [cm]
theorem HR (l : List Ev) (hl : l.length ≤ 1000) : ∀ (X : List Ev) (k : Nat) (b : Bool) (i : Int), l.drop k = X → k ≤ l.length → ∃ i', AF (Ci l) (b, i, (k : Int)) = some (b || X.any (fun e => decide (e.1 = 1)), i')
  | [], k, b, i, hX, hk => by
    have : l.length ≤ k := List.drop_eq_nil_iff.1 hX
    exact ⟨i, by rw [AS (by rw [Ci, if_neg (by omega)])]; simp⟩
  | e :: X, k, b, i, hX, hk => by
    have hg : l[k]? = some e := by rw [← List.head?_drop, hX]; rfl
    have hlt := (List.getElem?_eq_some_iff.1 hg).1
    have hd : l.drop (k + 1) = X := by rw [← List.tail_drop, hX]; rfl
    have hb : ((if b = true then some true else (ix l (k : Int)).bind fun x12 => some (decide (x12.1 = 1))) : Option Bool) = some (b || decide (e.1 = 1)) := by
      rw [AW hg]; cases b <;> rfl
    have h2 : ((ix l (k : Int)).bind fun x14 => (if i ≤ x14.2.2.1 then (ix l (k : Int)).bind fun x15 => some (decide (x15.2.2.1 < 1099511627776)) else some false)) = some (decide (i ≤ e.2.2.1 ∧ e.2.2.1 < 1099511627776)) := by
      rw [AW hg, Option.bind_some, Option.bind_some]
      by_cases c : i ≤ e.2.2.1 <;> simp [c]
    by_cases c : i ≤ e.2.2.1 ∧ e.2.2.1 < 1099511627776
    · obtain ⟨i', h⟩ := HR l hl X (k + 1) (b || decide (e.1 = 1)) (DC (e.2.2.1 + 1)) hd (by omega)
      refine ⟨i', ?_⟩
      rw [BU (s' := (b || decide (e.1 = 1), DC (e.2.2.1 + 1), ((k + 1 : Nat) : Int))) (by
        rw [Ci, if_pos (by omega), hb, Option.bind_some, h2, Option.bind_some, if_pos (decide_eq_true c), AW hg, Option.bind_some, Option.bind_some, BC (x := (k : Int) + 1) (by omega)]; rfl), h, List.any_cons, Bool.or_assoc]
    · obtain ⟨i', h⟩ := HR l hl X (k + 1) (b || decide (e.1 = 1)) i hd (by omega)
      refine ⟨i', ?_⟩
      rw [BU (s' := (b || decide (e.1 = 1), i, ((k + 1 : Nat) : Int))) (by
        rw [Ci, if_pos (by omega), hb, Option.bind_some, h2, Option.bind_some, if_neg (by rw [decide_eq_true_eq]; exact c), Option.bind_some, BC (x := (k : Int) + 1) (by omega)]; rfl), h, List.any_cons, Bool.or_assoc]
theorem LF (e : Ev) (h : e.1 ≠ 1) : Dr [] e = [] := by
  unfold Dr
  rw [if_neg h]
  by_cases c : (e.1 = 2 ∨ e.1 = 3 ∨ e.1 = 4) ∧ lo [] e.2.2.1 ([] : List Tr).length ≠ -1
  · exact absurd rfl c.2
  · rw [if_neg c]
theorem Mx (l : List Ev) (h : l.any (fun e => decide (e.1 = 1)) = false) : tr l = [] := by
  refine GQ (Q := fun l => l.any (fun e => decide (e.1 = 1)) = false → tr l = []) (fun _ => rfl) (fun l e ih h => ?_) l h
  rw [List.any_append, Bool.or_eq_false_iff] at h
  have he : e.1 ≠ 1 := by simpa using h.2
  rw [F3, ih h.1, LF e he]
theorem Ix (p0 : Tp) {A0 : Prop} (_ : A0) (p1 : List Rt) (ok1 : Kq (Kq (Kq (fun n => (Lit.int .i64 n).wf = true))) p1) (p2 : List Ev) {A2 : Prop} (_ : A2) (p3 : Int) {A3 : Prop} (_ : A3) (p4 : Int) {A4 : Prop} (_ : A4) (p5 : Int) {A5 : Prop} (_ : A5) (p6 : Bool) {A6 : Prop} (_ : A6) : Ey p0 p1 p2 p3 p4 p5 p6 = some true := by
  unfold Ey
  rw [My]
  obtain ⟨b, hb, hs⟩ := Na p0 p1 (fun r hr => (ok1.2 r hr).1) p2
  rw [hb, Option.bind_some]
  have hx : ((if (!b) = true then some true else some (decide (90 < (p2.length : Int)))) : Option Bool) = some (!b || decide (90 < (p2.length : Int))) := by cases b <;> rfl
  rw [hx, Option.bind_some]
  by_cases c : (!b || decide (90 < (p2.length : Int))) = true
  · rw [if_pos c]; rfl
  · rw [if_neg c]
    have hb1 : b = true := by cases b with | true => rfl | false => exact absurd rfl c
    subst hb1
    obtain ⟨h100, hR⟩ := hs rfl
    have h90 : p2.length ≤ 90 := by
      simp at c; omega
    obtain ⟨i, hi⟩ := HR p2 (by omega) p2 0 false 0 rfl (Nat.zero_le _)
    have hi : AF (Ci p2) (false, 0, 0) = some (p2.any (fun e => decide (e.1 = 1)), i) := by rw [Bool.false_or] at hi; exact hi
    rw [hi, Option.bind_some]
    simp only
    rw [JH p0 hR (by omega), Option.bind_some]
    have hno : ¬ (!p2.any (fun e => decide (e.1 = 1)) && decide (0 < ((B1 p0 p1 p2).length : Int))) = true := by
      intro h
      rw [Bool.and_eq_true, decide_eq_true_eq] at h
      have : p2.any (fun e => decide (e.1 = 1)) = false := by simpa using h.1
      have ht := Mx p2 this
      have h2 := h.2
      unfold B1 at h2
      rw [ht] at h2
      simp at h2
    rw [if_neg hno, DG (by simp; omega), Option.bind_some, List.nil_append, DG (by simp; omega), Option.bind_some]
    have pinj : ((1 : Int) ≠ 8 ∧ (1 : Int) ≠ 9 ∧ (1 : Int) ≠ 10) := by decide
    have pdrp : ((4 : Int) ≠ 8 ∧ (4 : Int) ≠ 9 ∧ (4 : Int) ≠ 10) := by decide
    have g1 := FE p2 (1, p3, i, 0, p4, p5) pinj
    have c1 := IL p2 (1, p3, i, 0, p4, p5) pinj
    have t1 : tr (p2 ++ [(1, p3, i, 0, p4, p5)]) = tr p2 ++ [HW (1, p3, i, 0, p4, p5)] := by rw [F3]; unfold Dr; rw [if_pos rfl]
    have fin : ∀ (B : List (Int × Int)) (y : List Ev), y.length ≤ 200 → B1 p0 p1 y = B1 p0 p1 p2 ++ B → (p6 = decide (0 < B.length)) → ((B7 p0 p1 y).bind fun x23 => (if (decide ((x23.length : Int) < ((B1 p0 p1 p2).length : Int)) || decide (p6 ≠ (decide (((B1 p0 p1 p2).length : Int) < (x23.length : Int))))) = true then some false else DQ (AF (CB (B1 p0 p1 p2) x23) 0) fun _ => (some true).bind fun x27 => some x27)) = some true := fun B y hy hB hp => by
      rw [JH p0 hR hy, Option.bind_some, hB]
      have hlen : (((B1 p0 p1 p2) ++ B).length : Int) = (B1 p0 p1 p2).length + B.length := by rw [List.length_append]; omega
      have hq : p6 = decide (((B1 p0 p1 p2).length : Int) < (((B1 p0 p1 p2) ++ B).length : Int)) := by
        rw [hp, hlen]; exact decide_eq_decide.2 ⟨fun h => by omega, fun h => by omega⟩
      have hno2 : ¬ (decide ((((B1 p0 p1 p2) ++ B).length : Int) < ((B1 p0 p1 p2).length : Int)) || decide (p6 ≠ (decide (((B1 p0 p1 p2).length : Int) < (((B1 p0 p1 p2) ++ B).length : Int))))) = true := by
        rw [Bool.or_eq_true, decide_eq_true_eq, decide_eq_true_eq]
        rintro (h | h)
        · omega
        · exact h hq
      rw [if_neg hno2]
      have hbound : (B1 p0 p1 p2).length ≤ 9223372036854775807 := by
        have : ∀ T : List Tr, (T.flatMap (Ls p0 p1 (Ce p2) (Gm p2))).length ≤ 4 * T.length := fun T => by
          induction T with
          | nil => simp
          | cons x T ih => have := KP p0 p1 (Ce p2) (Gm p2) x; rw [List.flatMap_cons, List.length_append, List.length_cons]; omega
        have h1 := this (tr p2)
        have h2 := Kv p2
        unfold B1; omega
      rw [DA (B1 p0 p1 p2) hbound (CB (B1 p0 p1 p2) (B1 p0 p1 p2 ++ B)) (fun _ => False) false (fun k hk => by
        have e1 : (B1 p0 p1 p2)[k]? = some (B1 p0 p1 p2)[k] := List.getElem?_eq_getElem hk
        have e2 : (B1 p0 p1 p2 ++ B)[k]? = some (B1 p0 p1 p2)[k] := by rw [List.getElem?_append_left hk]; exact e1
        rw [CB, if_pos (by omega), AW e1, Option.bind_some, AW e2, Option.bind_some]; simp) (by rw [CB, if_neg (by omega)]), if_neg (fun ⟨_, _, h⟩ => h)]
      rfl
    cases p6 with
    | false =>
      rw [if_neg (by decide), Option.bind_some]
      simp only
      refine fin [] _ (by simp; omega) ?_ rfl
      unfold B1
      rw [g1, c1, t1, List.flatMap_append, List.append_nil]
      have : Ls p0 p1 (Ce p2) (Gm p2) (HW (1, p3, i, 0, p4, p5)) = [] := by unfold Ls GY HW; simp
      simp [this]
    | true =>
      rw [if_pos rfl, DG (by simp; omega), Option.bind_some, Option.bind_some]
      simp only
      have g2 := FE (p2 ++ [(1, p3, i, 0, p4, p5)]) (4, p3, i, 0, 0, 0) pdrp
      have c2 := IL (p2 ++ [(1, p3, i, 0, p4, p5)]) (4, p3, i, 0, 0, 0) pdrp
      have t2 : tr (p2 ++ [(1, p3, i, 0, p4, p5)] ++ [(4, p3, i, 0, 0, 0)]) = tr p2 ++ [E2 (4, p3, i, 0, 0, 0) (HW (1, p3, i, 0, p4, p5))] := by
        rw [F3, t1, JJ (k := (tr p2).length) (t := HW (1, p3, i, 0, p4, p5)) (show ¬ ((4 : Int) = 1) by decide) (.inr (.inr rfl)) (by rw [KD, if_pos ⟨rfl, rfl⟩]) (by simp)]
        rw [List.set_append_right _ _ (Nat.le_refl _), Nat.sub_self]; rfl
      refine fin [(2, i)] _ (by simp; omega) ?_ rfl
      unfold B1
      rw [g2, c2, g1, c1, t2, List.flatMap_append]
      have : Ls p0 p1 (Ce p2) (Gm p2) (E2 (4, p3, i, 0, 0, 0) (HW (1, p3, i, 0, p4, p5))) = [(2, i)] := by unfold Ls GY E2 HW; simp
      simp [this]
end Go.Proofs.Ytflaelbmglmmcaa
