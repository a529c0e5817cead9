/- Layer 30: how great, how deep, which may be. Conditions: none. -/
import Derived.Test.YtgoifghhcekahaaGreatDoordN26
namespace Go.Proofs.YtgoifghhcekahaaGreatDoor
set_option linter.unusedVariables false
set_option linter.unusedSimpArgs false
open Go Go.RowKit
def th : Tr36 → Tr28
  | .mk k f v l => .mk k f v (l.map th)
theorem Wq (t : Tr36) : (th t).un = (t.un.1, t.un.2.1, t.un.2.2.1, t.un.2.2.2.map th) := by cases t; rw [th]; rfl
theorem Uk (t : Tr36) : th t = Tr28.of (t.un.1, t.un.2.1, t.un.2.2.1, t.un.2.2.2.map th) := by cases t; rw [th]; rfl
theorem VR (t : Tr28) : Tr28.of t.un = t := by cases t; rfl
theorem Wi (t : Tr36) : Tr36.of t.un = t := by cases t; rfl
theorem Wz : ∀ (n : Nat) (t : Tr28), SizeOf.sizeOf t < n → th (mi t) = t
  | 0, t, h => absurd h (Nat.not_lt_zero _)
  | n + 1, t, h => by
    rw [Uk, PZ]
    show Tr28.of (t.un.1, t.un.2.1, t.un.2.2.1, (t.un.2.2.2.map mi).map th) = t
    rw [List.map_map, show t.un.2.2.2.map (th ∘ mi) = t.un.2.2.2 from map_id_in fun x hx => Wz n x (by have := Qd hx; omega)]
    exact VR t
where map_id_in {α : Type} {g : α → α} : ∀ {l : List α}, (∀ x ∈ l, g x = x) → l.map g = l
  | [], _ => rfl
  | x :: l, h => by rw [List.map_cons, h x (List.mem_cons_self ..), map_id_in fun y hy => h y (List.mem_cons_of_mem _ hy)]
theorem th_mi' (t : Tr28) : th (mi t) = t := Wz (SizeOf.sizeOf t + 1) t (by omega)
theorem Xu {a b : Tr28} (h : mi a = mi b) : a = b := by rw [← th_mi' a, h, th_mi' b]
theorem Q4 : ∀ (n : Nat) (t : Tr36), SizeOf.sizeOf t < n → t.cnt ≤ 2097152 → Dq n t = some (th t)
  | 0, t, h, _ => absurd h (Nat.not_lt_zero _)
  | n + 1, t, h, hc => by
    have hl := XF t
    show D4 (Dq n) t = _
    unfold D4
    obtain ⟨o, h1, h2⟩ := CV t.un.2.2.2.length (fun (o : List Tr28) (i : Nat) => ((i : Int), o)) (Dd (Dq n) t) id (fun o i => o = (t.un.2.2.2.take i).map th)
      (fun o i hi ho => by
        have hm := List.getElem_mem hi
        have hx := Q4 n t.un.2.2.2[i] (by have := NJ hm; omega) (Nat.le_trans (Xz hm) hc)
        refine ⟨o ++ [th t.un.2.2.2[i]], ?_, by rw [ho, List.take_succ_eq_append_getElem hi, List.map_append]; rfl⟩
        rw [Dd, if_pos (by omega), Bl (List.getElem?_eq_getElem hi), Option.bind_some, hx, Option.bind_some, Hz (by rw [ho]; simp; omega), Option.bind_some, Ax (by omega)]; rfl)
      (fun o _ => by rw [Dd, if_neg (by omega)]; rfl) [] rfl
    rw [List.take_length] at h1
    have h2' : AB (Dd (Dq n) t) (0, []) = some o := h2
    rw [h2', h1, Option.bind_some, ← Uk]
theorem TU {t : Tr36} (hc : t.cnt ≤ 2097152) : Lc t = some (th t) := CB (g := fun n => Dq n t) (fun n r h => Jh n t r h) (Q4 (SizeOf.sizeOf t + 1) t (by omega) hc)
theorem Tn : ∀ (n : Nat) (t : Tr36), SizeOf.sizeOf t < n → t.cnt ≤ 1048576 → DQ n t = some (t.cnt : Int)
  | 0, t, h, _ => absurd h (Nat.not_lt_zero _)
  | n + 1, t, h, hc => by
    have hl := XF t
    have hcc := H3 t
    show ED (DQ n) t = _
    unfold ED
    obtain ⟨o, h1, h2⟩ := CV t.un.2.2.2.length (fun (o : Int) (i : Nat) => (o, (i : Int))) (Dp (DQ n) t) id (fun o i => o = 1 + (((t.un.2.2.2.take i).map Tr36.cnt).sum : Nat))
      (fun o i hi ho => by
        have hm := List.getElem_mem hi
        have hx := Tn n t.un.2.2.2[i] (by have := NJ hm; omega) (Nat.le_trans (Xz hm) hc)
        have hs : ((t.un.2.2.2.take (i + 1)).map Tr36.cnt).sum = ((t.un.2.2.2.take i).map Tr36.cnt).sum + t.un.2.2.2[i].cnt := by
          rw [List.take_succ_eq_append_getElem hi, List.map_append, List.sum_append]; simp
        have hle := HX (g := Tr36.cnt) t.un.2.2.2 (i + 1)
        refine ⟨o + (t.un.2.2.2[i].cnt : Int), ?_, by rw [ho, hs]; omega⟩
        rw [Dp, if_pos (by omega), Bl (List.getElem?_eq_getElem hi), Option.bind_some, hx, Option.bind_some, Ax (by rw [ho]; omega), Ax (by omega)]; rfl)
      (fun o _ => by rw [Dp, if_neg (by omega)]; rfl) 1 (by simp)
    rw [List.take_length] at h1
    have h2' : AB (Dp (DQ n) t) (1, 0) = some o := h2
    rw [h2', h1, Option.bind_some, hcc]
    congr 1
theorem UH {t : Tr36} (hc : t.cnt ≤ 1048576) : Kg t = some (t.cnt : Int) := CB (g := fun n => DQ n t) (fun n r h => JJ n t r h) (Tn (SizeOf.sizeOf t + 1) t (by omega) hc)
def mx : List Nat → Nat
  | [] => 0
  | a :: l => max a (mx l)
theorem S7 {l : List Nat} {a : Nat} (h : a ∈ l) : a ≤ mx l := by
  induction l with
  | nil => cases h
  | cons x l ih =>
    rcases List.mem_cons.1 h with e | h
    · rw [e]; exact Nat.le_max_left _ _
    · exact Nat.le_trans (ih h) (Nat.le_max_right _ _)
theorem PM {l : List Nat} {b : Nat} (h : ∀ a ∈ l, a ≤ b) : mx l ≤ b := by
  induction l with
  | nil => exact Nat.zero_le _
  | cons x l ih => exact Nat.max_le.2 ⟨h x (List.mem_cons_self ..), ih fun a ha => h a (List.mem_cons_of_mem _ ha)⟩
theorem S3 (l : List Nat) (a : Nat) : mx (l ++ [a]) = max (mx l) a := by
  induction l with
  | nil => simp [mx]
  | cons x l ih => rw [List.cons_append, mx, ih, mx, Nat.max_assoc]
def dp : Tr36 → Nat
  | .mk _ _ _ l => 1 + mx (l.map dp)
theorem OI (t : Tr36) : dp t = 1 + mx (t.un.2.2.2.map dp) := by cases t; rw [dp]; rfl
theorem VG : ∀ (n : Nat) (t : Tr36), SizeOf.sizeOf t < n → dp t ≤ t.cnt
  | 0, t, h => absurd h (Nat.not_lt_zero _)
  | n + 1, t, h => by
    rw [OI, H3]
    have : mx (t.un.2.2.2.map dp) ≤ (t.un.2.2.2.map Tr36.cnt).sum := PM fun a ha => by
      obtain ⟨x, hx, rfl⟩ := List.mem_map.1 ha
      exact Nat.le_trans (VG n x (by have := NJ hx; omega)) (J1 (g := Tr36.cnt) hx)
    omega
theorem Ym (t : Tr28) : dp (mi t) = 1 + mx (t.un.2.2.2.map fun x => dp (mi x)) := by rw [OI, PZ, List.map_map]; rfl
theorem V6 (t : Tr28) : (mi t).cnt = t.cnt := Ut (SizeOf.sizeOf t + 1) t (by omega)
theorem SS : ∀ (n : Nat) (t : Tr28), SizeOf.sizeOf t < n → t.cnt ≤ 1048576 → Ek n t = some (dp (mi t) : Int)
  | 0, t, h, _ => absurd h (Nat.not_lt_zero _)
  | n + 1, t, h, hc => by
    have hl := WX t
    show EY (Ek n) t = _
    unfold EY
    obtain ⟨o, h1, h2⟩ := CV t.un.2.2.2.length (fun (o : Int) (i : Nat) => (o, (i : Int))) (DP (Ek n) t) id (fun o i => o = 1 + (mx ((t.un.2.2.2.take i).map fun x => dp (mi x)) : Nat))
      (fun o i hi ho => by
        have hm := List.getElem_mem hi
        have hx := SS n t.un.2.2.2[i] (by have := Qd hm; omega) (Nat.le_trans (WM hm) hc)
        have hd := VG (SizeOf.sizeOf (mi t.un.2.2.2[i]) + 1) (mi t.un.2.2.2[i]) (by omega)
        rw [V6] at hd
        have hcl := WM hm
        refine ⟨max o (dp (mi t.un.2.2.2[i]) + 1 : Int), ?_, by rw [ho, List.take_succ_eq_append_getElem hi, List.map_append, List.map_cons, List.map_nil, S3]; omega⟩
        rw [DP, if_pos (by omega), Bl (List.getElem?_eq_getElem hi), Option.bind_some, hx, Option.bind_some, Ax (by omega)]
        by_cases q : o < (dp (mi t.un.2.2.2[i]) : Int) + 1
        · rw [if_pos q, Option.bind_some, hx, Option.bind_some, Ax (by omega), Option.bind_some, Ax (by omega)]
          rw [show max o ((dp (mi t.un.2.2.2[i]) : Int) + 1) = (dp (mi t.un.2.2.2[i]) : Int) + 1 by omega]; rfl
        · rw [if_neg q, Option.bind_some, Ax (by omega)]
          rw [show max o ((dp (mi t.un.2.2.2[i]) : Int) + 1) = o by omega]; rfl)
      (fun o _ => by rw [DP, if_neg (by omega)]; rfl) 1 (by simp [mx])
    rw [List.take_length] at h1
    have h2' : AB (DP (Ek n) t) (1, 0) = some o := h2
    rw [h2', h1, Option.bind_some, Ym]
    exact congrArg some (by omega)
theorem U3 {t : Tr28} (hc : t.cnt ≤ 1048576) : Oz t = some (dp (mi t) : Int) := CB (g := fun n => Ek n t) (fun n r h => Ky n t r h) (SS (SizeOf.sizeOf t + 1) t (by omega) hc)
theorem XU {a b : Tr36} (h1 : a.un.1 = b.un.1) (h2 : a.un.2.1 = b.un.2.1) (h3 : a.un.2.2.1 = b.un.2.2.1) (h4 : a.un.2.2.2 = b.un.2.2.2) : a = b := by
  rw [← Wi a, ← Wi b]
  show Tr36.mk _ _ _ _ = Tr36.mk _ _ _ _
  rw [h1, h2, h3, h4]
theorem Yj {a b : Tr28} (h1 : a.un.1 = b.un.1) (h2 : a.un.2.1 = b.un.2.1) (h3 : a.un.2.2.1 = b.un.2.2.1) (h4 : a.un.2.2.2 = b.un.2.2.2) : a = b := by
  rw [← VR a, ← VR b]
  show Tr28.mk _ _ _ _ = Tr28.mk _ _ _ _
  rw [h1, h2, h3, h4]
theorem Ny {α : Type} {l m : List α} (hl : l.length = m.length) : (∃ k, k < l.length ∧ l[k]? ≠ m[k]?) ↔ l ≠ m := by
  constructor
  · rintro ⟨k, _, h⟩ rfl; exact h rfl
  · intro h
    refine Classical.byContradiction fun hn => h (List.ext_getElem? fun k => ?_)
    by_cases hk : k < l.length
    · exact Classical.byContradiction fun h2 => hn ⟨k, hk, h2⟩
    · rw [List.getElem?_eq_none (by omega), List.getElem?_eq_none (by omega)]
open Classical in
theorem S9 : ∀ (n : Nat) (a b : Tr36), SizeOf.sizeOf a < n → a.cnt ≤ 1048576 → D9 n a b = some (decide (a = b))
  | 0, a, b, h, _ => absurd h (Nat.not_lt_zero _)
  | n + 1, a, b, h, hc => by
    have hl := XF a
    show EE (D9 n) a b = _
    unfold EE
    by_cases c1 : a.un.1 = b.un.1
    · rw [if_pos c1]
      by_cases c2 : a.un.2.1 = b.un.2.1
      · rw [if_pos c2]
        by_cases c3 : a.un.2.2.1 = b.un.2.2.1
        · rw [if_pos c3]
          unfold AH
          by_cases c4 : a.un.2.2.2.length = b.un.2.2.2.length
          · rw [if_neg (by omega)]
            rw [Jd a.un.2.2.2.length (AE (D9 n) a.un.2.2.2 b.un.2.2.2) (fun k => a.un.2.2.2[k]? ≠ b.un.2.2.2[k]?) false (fun k hk => by
              have hm := List.getElem_mem hk
              have hkb : k < b.un.2.2.2.length := by omega
              have hx := S9 n a.un.2.2.2[k] b.un.2.2.2[k] (by have := NJ hm; omega) (Nat.le_trans (Xz hm) hc)
              rw [AE, if_pos (by omega), Bl (List.getElem?_eq_getElem hk), Option.bind_some, Bl (List.getElem?_eq_getElem hkb), Option.bind_some, hx, Option.bind_some, Ax (by omega)]
              by_cases e : a.un.2.2.2[k] = b.un.2.2.2[k]
              · rw [decide_eq_true e, if_neg (by decide), if_neg (by rw [List.getElem?_eq_getElem hk, List.getElem?_eq_getElem hkb, e]; simp)]; rfl
              · rw [decide_eq_false e, if_pos (by decide), if_pos (by rw [List.getElem?_eq_getElem hk, List.getElem?_eq_getElem hkb]; simpa using e)]) (by rw [AE, if_neg (by omega)])]
            by_cases e : a.un.2.2.2 = b.un.2.2.2
            · rw [if_neg (fun hh => (Ny c4).1 hh e), decide_eq_true (XU c1 c2 c3 e)]; rfl
            · rw [if_pos ((Ny c4).2 e), decide_eq_false (fun hh => e (by rw [hh]))]; rfl
          · rw [if_pos (by omega), decide_eq_false (fun hh => c4 (by rw [hh]))]; rfl
        · rw [if_neg c3, decide_eq_false (fun hh => c3 (by rw [hh]))]; rfl
      · rw [if_neg c2, decide_eq_false (fun hh => c2 (by rw [hh]))]; rfl
    · rw [if_neg c1, decide_eq_false (fun hh => c1 (by rw [hh]))]; rfl
open Classical in
theorem Vs {a b : Tr36} (hc : a.cnt ≤ 1048576) : Mc a b = some (decide (a = b)) := CB (g := fun n => D9 n a b) (fun n r h => JF n a b r h) (S9 (SizeOf.sizeOf a + 1) a b (by omega) hc)
open Classical in
theorem SW : ∀ (n : Nat) (a b : Tr28), SizeOf.sizeOf a < n → a.cnt ≤ 2097152 → EN n a b = some (decide (a = b))
  | 0, a, b, h, _ => absurd h (Nat.not_lt_zero _)
  | n + 1, a, b, h, hc => by
    have hl := WX a
    show E4 (EN n) a b = _
    unfold E4
    by_cases c : a.un.1 = b.un.1 ∧ a.un.2.1 = b.un.2.1 ∧ a.un.2.2.1 = b.un.2.2.1 ∧ a.un.2.2.2.length = b.un.2.2.2.length
    · obtain ⟨c1, c2, c3, c4⟩ := c
      rw [if_neg (by simp [c1, c2, c3, c4])]
      rw [Jd a.un.2.2.2.length (E6 (EN n) a b) (fun k => a.un.2.2.2[k]? ≠ b.un.2.2.2[k]?) false (fun k hk => by
        have hm := List.getElem_mem hk
        have hkb : k < b.un.2.2.2.length := by omega
        have hx := SW n a.un.2.2.2[k] b.un.2.2.2[k] (by have := Qd hm; omega) (Nat.le_trans (WM hm) hc)
        rw [E6, if_pos (by omega), Bl (List.getElem?_eq_getElem hk), Option.bind_some, Bl (List.getElem?_eq_getElem hkb), Option.bind_some, hx, Option.bind_some, Ax (by omega)]
        by_cases e : a.un.2.2.2[k] = b.un.2.2.2[k]
        · rw [decide_eq_true e, if_neg (by decide), if_neg (by rw [List.getElem?_eq_getElem hk, List.getElem?_eq_getElem hkb, e]; simp)]; rfl
        · rw [decide_eq_false e, if_pos (by decide), if_pos (by rw [List.getElem?_eq_getElem hk, List.getElem?_eq_getElem hkb]; simpa using e)]) (by rw [E6, if_neg (by omega)])]
      by_cases e : a.un.2.2.2 = b.un.2.2.2
      · rw [if_neg (fun hh => (Ny c4).1 hh e), decide_eq_true (Yj c1 c2 c3 e)]; rfl
      · rw [if_pos ((Ny c4).2 e), decide_eq_false (fun hh => e (by rw [hh]))]; rfl
    · rw [if_pos (by simp only [Bool.or_eq_true, decide_eq_true_eq]; omega), decide_eq_false (fun hh => c (by rw [hh]; exact ⟨rfl, rfl, rfl, rfl⟩))]
open Classical in
theorem Ra {a b : Tr28} (hc : a.cnt ≤ 2097152) : JU a b = some (decide (a = b)) := CB (g := fun n => EN n a b) (fun n r h => KO n a b r h) (SW (SizeOf.sizeOf a + 1) a b (by omega) hc)
theorem Vz (f : Int) : IJ f = some (CP f) := by
  unfold IJ CP
  by_cases c : (decide (f = 4) || decide (f = 5)) = true
  · rw [if_pos c, if_pos c]
  · rw [if_neg c, if_neg c]
    unfold Je Ie Kd
    by_cases c2 : f = 2
    · subst c2; rfl
    by_cases c0 : f = 0
    · subst c0; rfl
    by_cases c1 : f = 1
    · subst c1; rfl
    by_cases c3 : f = 3
    · subst c3; rfl
    rw [if_neg c0, if_neg c1, decide_eq_false c3, Option.bind_some, if_neg (by decide), if_neg c2, if_neg c2, if_neg (by simp [c0, c1, c3])]; rfl
theorem Oc (f : Int) : 0 ≤ CP f ∧ CP f ≤ 255 := by
  unfold CP Kd
  split
  · omega
  · split
    · omega
    · split <;> omega
abbrev FE (k f v : Int) (n : Nat) : Prop := 1 ≤ k ∧ k ≤ 6 ∧ (k ≠ 3 → f = 0 ∧ v = 0) ∧ (k = 3 → 0 ≤ f ∧ f ≤ 5 ∧ 0 ≤ v ∧ v ≤ CP f) ∧ (k ≤ 3 → n = 0) ∧ (k = 4 → n = 1) ∧ (5 ≤ k → 2 ≤ n ∧ n ≤ 8)
theorem Ur (t : Tr36) : IM t = some (decide (FE t.un.1 t.un.2.1 t.un.2.2.1 t.un.2.2.2.length)) := by
  unfold IM
  by_cases c3 : t.un.1 = 3
  · rw [if_pos c3]
    unfold Hd
    rw [← Bool.decide_and]
    by_cases k : 0 ≤ t.un.2.1 ∧ t.un.2.1 ≤ 5
    · rw [if_pos (decide_eq_true k)]
      by_cases v0 : 0 ≤ t.un.2.2.1
      · rw [if_pos v0, Vz, Option.bind_some]
        by_cases v1 : t.un.2.2.1 ≤ CP t.un.2.1
        · rw [if_pos v1, Option.bind_some]
          exact congrArg some (decide_eq_decide.2 ⟨fun h => by unfold FE; omega, fun h => by unfold FE at h; omega⟩)
        · rw [if_neg v1, Option.bind_some, decide_eq_false (fun h => by unfold FE at h; omega)]
      · rw [if_neg v0, Option.bind_some, decide_eq_false (fun h => by unfold FE at h; omega)]
    · rw [if_neg (by simpa using k), Option.bind_some, decide_eq_false (fun h => by unfold FE at h; omega)]
  · rw [if_neg c3]
    by_cases z : t.un.2.1 = 0 ∧ t.un.2.2.1 = 0
    · rw [if_neg (by simp [z.1, z.2])]
      by_cases c1 : t.un.1 = 1
      · rw [if_pos c1, Option.bind_some, if_pos rfl]
        exact congrArg some (decide_eq_decide.2 ⟨fun h => by unfold FE; omega, fun h => by unfold FE at h; omega⟩)
      · rw [if_neg c1, Option.bind_some]
        by_cases c2 : t.un.1 = 2
        · rw [if_pos (decide_eq_true c2)]
          exact congrArg some (decide_eq_decide.2 ⟨fun h => by unfold FE; omega, fun h => by unfold FE at h; omega⟩)
        · rw [if_neg (by simpa using c2)]
          by_cases c4 : t.un.1 = 4
          · rw [if_pos c4]
            exact congrArg some (decide_eq_decide.2 ⟨fun h => by unfold FE; omega, fun h => by unfold FE at h; omega⟩)
          · rw [if_neg c4]
            by_cases c5 : t.un.1 = 5
            · rw [if_pos c5, Option.bind_some, if_pos rfl, ← Bool.decide_and]
              exact congrArg some (decide_eq_decide.2 ⟨fun h => by unfold FE; omega, fun h => by unfold FE at h; omega⟩)
            · rw [if_neg c5, Option.bind_some]
              by_cases c6 : t.un.1 = 6
              · rw [if_pos (decide_eq_true c6), ← Bool.decide_and]
                exact congrArg some (decide_eq_decide.2 ⟨fun h => by unfold FE; omega, fun h => by unfold FE at h; omega⟩)
              · rw [if_neg (by simpa using c6), decide_eq_false (fun h => by unfold FE at h; omega)]
    · rw [if_pos (by simp only [Bool.or_eq_true, decide_eq_true_eq]; omega), decide_eq_false (fun h => by unfold FE at h; omega)]
def FY : Tr36 → Bool
  | .mk k f v l => decide (FE k f v l.length) && (l.map FY).all id
theorem FP (t : Tr36) : FY t = true ↔ FE t.un.1 t.un.2.1 t.un.2.2.1 t.un.2.2.2.length ∧ ∀ x ∈ t.un.2.2.2, FY x = true := by
  cases t with
  | mk k f v l =>
    rw [FY, Bool.and_eq_true, decide_eq_true_eq, List.all_map, List.all_eq_true]; rfl
abbrev LR (t : Tr36) (b d : Int) : Prop := FY t = true ∧ (dp t : Int) ≤ d ∧ (t.cnt : Int) ≤ b
theorem RZ : ∀ (n : Nat) (t : Tr36), SizeOf.sizeOf t < n → t.cnt ≤ 1048576 → ∀ b d : Int, 0 ≤ b → b ≤ 1000 → 0 ≤ d → d ≤ 1000 →
    (LR t b d → A8 n b t d = some (true, b - t.cnt)) ∧ (¬ LR t b d → ∃ b', A8 n b t d = some (false, b'))
  | 0, t, h, _ => absurd h (Nat.not_lt_zero _)
  | n + 1, t, h, hc => by
    intro b d b0 b1 d0 d1
    have hl := XF t
    have hcc := H3 t
    have hde := OI t
    have hst : A8 (n + 1) b t d = Cq (A8 n) b t d := rfl
    rw [hst]
    unfold Cq
    rw [Ax (by omega)]
    by_cases g1 : b - 1 < 0
    · rw [if_pos g1, Option.bind_some, if_pos rfl]
      exact ⟨fun hk => by have := hk.2.2; omega, fun _ => ⟨_, rfl⟩⟩
    rw [if_neg g1]
    by_cases g2 : d < 1
    · rw [if_pos g2, Option.bind_some, if_pos rfl]
      exact ⟨fun hk => by have := hk.2.1; omega, fun _ => ⟨_, rfl⟩⟩
    rw [if_neg g2, Ur, Option.bind_some, Option.bind_some]
    by_cases g3 : FE t.un.1 t.un.2.1 t.un.2.2.1 t.un.2.2.2.length
    · rw [decide_eq_true g3, if_neg (by decide)]
      have key : ∀ (m i : Nat), i + m = t.un.2.2.2.length → (∀ x ∈ t.un.2.2.2.take i, FY x = true ∧ (dp x : Int) ≤ d - 1) → (((t.un.2.2.2.take i).map Tr36.cnt).sum : Int) ≤ b - 1 →
          (LR t b d → HA (AB (Be (A8 n) t d) ((i : Int), b - 1 - (((t.un.2.2.2.take i).map Tr36.cnt).sum : Nat))) (fun x3 => some (true, x3)) = some (true, b - t.cnt)) ∧ (¬ LR t b d → ∃ b', HA (AB (Be (A8 n) t d) ((i : Int), b - 1 - (((t.un.2.2.2.take i).map Tr36.cnt).sum : Nat))) (fun x3 => some (true, x3)) = some (false, b')) := by
        intro m
        induction m with
        | zero =>
          intro i hi hx hs
          have e0 : t.un.2.2.2.take i = t.un.2.2.2 := List.take_of_length_le (by omega)
          rw [e0] at hx hs ⊢
          have hend : AB (Be (A8 n) t d) ((i : Int), b - 1 - ((t.un.2.2.2.map Tr36.cnt).sum : Nat)) = some (.inl (b - 1 - ((t.un.2.2.2.map Tr36.cnt).sum : Nat))) := AV (by rw [Be, if_neg (by omega)])
          have hok : LR t b d := ⟨(FP t).2 ⟨g3, fun x hm => (hx x hm).1⟩, by
            have : mx (t.un.2.2.2.map dp) ≤ (d - 1).toNat := PM fun a ha => by
              obtain ⟨x, hm, rfl⟩ := List.mem_map.1 ha
              have := (hx x hm).2
              omega
            omega, by omega⟩
          refine ⟨fun _ => ?_, fun hn => absurd hok hn⟩
          rw [hend]
          show some (true, b - 1 - ((t.un.2.2.2.map Tr36.cnt).sum : Nat)) = _
          rw [hcc]
          congr 2; omega
        | succ m ih =>
          intro i hi hx hs
          have hil : i < t.un.2.2.2.length := by omega
          have hm := List.getElem_mem hil
          have hsum : ((t.un.2.2.2.take (i + 1)).map Tr36.cnt).sum = ((t.un.2.2.2.take i).map Tr36.cnt).sum + t.un.2.2.2[i].cnt := by
            rw [List.take_succ_eq_append_getElem hil, List.map_append, List.sum_append]; simp
          have hle := HX (g := Tr36.cnt) t.un.2.2.2 (i + 1)
          obtain ⟨r1, r2⟩ := RZ n t.un.2.2.2[i] (by have := NJ hm; omega) (Nat.le_trans (Xz hm) hc) (b - 1 - (((t.un.2.2.2.take i).map Tr36.cnt).sum : Nat)) (d - 1) (by omega) (by omega) (by omega) (by omega)
          by_cases g : LR t.un.2.2.2[i] (b - 1 - (((t.un.2.2.2.take i).map Tr36.cnt).sum : Nat)) (d - 1)
          · have hstep : Be (A8 n) t d ((i : Int), b - 1 - (((t.un.2.2.2.take i).map Tr36.cnt).sum : Nat)) = some (.inl (((i + 1 : Nat) : Int), b - 1 - (((t.un.2.2.2.take (i + 1)).map Tr36.cnt).sum : Nat))) := by
              rw [Be, if_pos (by omega), Bl (List.getElem?_eq_getElem hil), Option.bind_some, Ax (by omega), r1 g, Option.bind_some, if_neg (show ¬ (!true) = true by decide), Ax (by omega), hsum]
              show some (Sum.inl (_, _)) = _
              congr 3; omega
            rw [BU hstep]
            refine ih (i + 1) (by omega) (fun x hxm => ?_) (by have := g.2.2; omega)
            rw [List.take_succ_eq_append_getElem hil] at hxm
            rcases List.mem_append.1 hxm with hh | hh
            · exact hx x hh
            · rw [List.mem_singleton.1 hh]; exact ⟨g.1, g.2.1⟩
          · obtain ⟨b', hb'⟩ := r2 g
            have hno : ¬ LR t b d := fun hk => g ⟨((FP t).1 hk.1).2 _ hm, by
              have h1 := S7 (List.mem_map.2 ⟨_, hm, rfl⟩ : dp t.un.2.2.2[i] ∈ t.un.2.2.2.map dp)
              have := hk.2.1
              omega, by have := hk.2.2; omega⟩
            refine ⟨fun hk => absurd hk hno, fun _ => ⟨b', ?_⟩⟩
            rw [AV (e := .inr (false, b')) (by
              rw [Be, if_pos (by omega), Bl (List.getElem?_eq_getElem hil), Option.bind_some, Ax (by omega), hb', Option.bind_some, if_pos (by rfl)])]
            rfl
      have := key t.un.2.2.2.length 0 (by omega) (by simp) (by simp; omega)
      simpa using this
    · rw [decide_eq_false g3, if_pos (by decide)]
      exact ⟨fun hk => absurd ((FP t).1 hk.1).1 g3, fun _ => ⟨_, rfl⟩⟩
theorem PR {t : Tr36} (hc : t.cnt ≤ 1048576) : GU t = some (decide (LR t 64 8)) := by
  obtain ⟨h1, h2⟩ := RZ (SizeOf.sizeOf t + 1) t (by omega) hc 64 8 (by omega) (by omega) (by omega) (by omega)
  unfold GU
  by_cases g : LR t 64 8
  · rw [show Fm 64 t 8 = some (true, (64 - t.cnt : Int)) from CB (g := fun n => A8 n 64 t 8) (fun n r h => ET n 64 t 8 r h) (h1 g), decide_eq_true g]; rfl
  · obtain ⟨b', hb⟩ := h2 g
    rw [show Fm 64 t 8 = some (false, b') from CB (g := fun n => A8 n 64 t 8) (fun n r h => ET n 64 t 8 r h) hb, decide_eq_false g]; rfl
theorem QK (t : Tr28) : FY (mi t) = true ↔ FE t.un.1 t.un.2.1 t.un.2.2.1 t.un.2.2.2.length ∧ ∀ x ∈ t.un.2.2.2, FY (mi x) = true := by
  rw [FP, PZ]
  show FE _ _ _ (t.un.2.2.2.map mi).length ∧ _ ↔ _
  rw [List.length_map]
  refine and_congr_right fun _ => ⟨fun h x hx => h _ (List.mem_map.2 ⟨x, hx, rfl⟩), fun h x hx => ?_⟩
  obtain ⟨y, hy, rfl⟩ := List.mem_map.1 hx
  exact h y hy
theorem Tm : ∀ (n : Nat) (t : Tr28), SizeOf.sizeOf t < n → t.cnt ≤ 1048576 → Ee n t = some (FY (mi t))
  | 0, t, h, _ => absurd h (Nat.not_lt_zero _)
  | n + 1, t, h, hc => by
    have hl := WX t
    have htb := Oc t.un.2.1
    show Ff (Ee n) t = _
    unfold Ff
    have no : ¬ FE t.un.1 t.un.2.1 t.un.2.2.1 t.un.2.2.2.length → FY (mi t) = false := fun hn => by
      cases hh : FY (mi t) with
      | false => rfl
      | true => exact absurd ((QK t).1 hh).1 hn
    by_cases g1 : (bif decide (t.un.1 ≠ 3) then (decide (t.un.2.1 ≠ 0) || (decide (t.un.2.2.1 ≠ 0) || (decide (t.un.1 < 1) || decide (6 < t.un.1)))) else (decide (t.un.1 < 1) || decide (6 < t.un.1))) = true
    · rw [if_pos g1, no (fun hf => by
        unfold FE at hf
        by_cases c : t.un.1 = 3
        · simp [c] at g1
        · rw [show decide (t.un.1 ≠ 3) = true from decide_eq_true c] at g1
          simp only [cond_true, Bool.or_eq_true, decide_eq_true_eq] at g1
          omega)]
    rw [if_neg g1]
    by_cases g2 : (decide (t.un.1 = 3) && (decide (t.un.2.1 < 0) || (decide (5 < t.un.2.1) || (decide (t.un.2.2.1 < 0) || decide ((CP t.un.2.1) < t.un.2.2.1))))) = true
    · rw [if_pos g2, no (fun hf => by
        unfold FE at hf
        simp only [Bool.and_eq_true, Bool.or_eq_true, decide_eq_true_eq] at g2
        omega)]
    rw [if_neg g2]
    by_cases g3 : (bif decide (t.un.1 ≤ 3) then (decide ((t.un.2.2.2.length : Int) ≠ 0) || (bif decide (t.un.1 = 4) then (decide ((t.un.2.2.2.length : Int) ≠ 1) || (decide (5 ≤ t.un.1) && (decide ((t.un.2.2.2.length : Int) < 2) || decide (8 < (t.un.2.2.2.length : Int))))) else (decide (5 ≤ t.un.1) && (decide ((t.un.2.2.2.length : Int) < 2) || decide (8 < (t.un.2.2.2.length : Int)))))) else (bif decide (t.un.1 = 4) then (decide ((t.un.2.2.2.length : Int) ≠ 1) || (decide (5 ≤ t.un.1) && (decide ((t.un.2.2.2.length : Int) < 2) || decide (8 < (t.un.2.2.2.length : Int))))) else (decide (5 ≤ t.un.1) && (decide ((t.un.2.2.2.length : Int) < 2) || decide (8 < (t.un.2.2.2.length : Int)))))) = true
    · rw [if_pos g3, no (fun hf => by
        unfold FE at hf
        by_cases c : t.un.1 ≤ 3
        · rw [show decide (t.un.1 ≤ 3) = true from decide_eq_true c, show decide (t.un.1 = 4) = false from decide_eq_false (by omega)] at g3
          simp only [cond_true, cond_false, Bool.or_eq_true, Bool.and_eq_true, decide_eq_true_eq] at g3
          omega
        · by_cases c4 : t.un.1 = 4
          · rw [show decide (t.un.1 ≤ 3) = false from decide_eq_false c, show decide (t.un.1 = 4) = true from decide_eq_true c4] at g3
            simp only [cond_true, cond_false, Bool.or_eq_true, Bool.and_eq_true, decide_eq_true_eq] at g3
            omega
          · rw [show decide (t.un.1 ≤ 3) = false from decide_eq_false c, show decide (t.un.1 = 4) = false from decide_eq_false c4] at g3
            simp only [cond_true, cond_false, Bool.or_eq_true, Bool.and_eq_true, decide_eq_true_eq] at g3
            omega)]
    rw [if_neg g3]
    have hfl : FE t.un.1 t.un.2.1 t.un.2.2.1 t.un.2.2.2.length := by
      simp only [Bool.and_eq_true, Bool.or_eq_true, decide_eq_true_eq, not_and, not_or] at g2
      by_cases c3 : t.un.1 = 3
      · rw [show decide (t.un.1 ≤ 3) = true from decide_eq_true (by omega), show decide (t.un.1 = 4) = false from decide_eq_false (by omega)] at g3
        simp only [cond_true, cond_false, Bool.or_eq_true, Bool.and_eq_true, decide_eq_true_eq] at g3
        have := g2 c3
        unfold FE; omega
      · by_cases cl : t.un.1 ≤ 3
        · have c4 : ¬ t.un.1 = 4 := by omega
          simp [c3, cl, c4] at g1 g3
          unfold FE
          have : t.un.2.2.2.length = 0 := by
            rw [List.length_eq_zero_iff]
            exact g3.1
          omega
        · by_cases c4 : t.un.1 = 4
          · simp [c3, cl, c4] at g1 g3
            unfold FE; omega
          · simp [c3, cl, c4] at g1 g3
            unfold FE; omega
    have hx : ∀ x ∈ t.un.2.2.2, Ee n x = some (FY (mi x)) := fun x hm => Tm n x (by have := Qd hm; omega) (Nat.le_trans (WM hm) hc)
    rw [Jd t.un.2.2.2.length (E3 (Ee n) t) (fun k => ∃ e, t.un.2.2.2[k]? = some e ∧ FY (mi e) = false) false (fun k hk => by
      rw [E3, if_pos (by omega), Bl (List.getElem?_eq_getElem hk), Option.bind_some, hx _ (List.getElem_mem hk), Option.bind_some, Ax (by omega)]
      cases hq : FY (mi t.un.2.2.2[k]) with
      | true => rw [if_neg (by decide), if_neg (fun hh => by rw [Nx hk, hq] at hh; cases hh)]; rfl
      | false => rw [if_pos (by decide), if_pos ((Nx hk).2 hq)]) (by rw [E3, if_neg (by omega)])]
    by_cases e : ∃ k, k < t.un.2.2.2.length ∧ ∃ e, t.un.2.2.2[k]? = some e ∧ FY (mi e) = false
    · rw [if_pos e]
      obtain ⟨x, hxm, hxf⟩ := QX.1 e
      have : FY (mi t) = false := by
        cases hh : FY (mi t) with
        | false => rfl
        | true => rw [((QK t).1 hh).2 x hxm] at hxf; cases hxf
      rw [this]; rfl
    · rw [if_neg e]
      have : FY (mi t) = true := (QK t).2 ⟨hfl, fun x hxm => by
        cases hh : FY (mi x) with
        | true => rfl
        | false => exact absurd (QX.2 ⟨x, hxm, hh⟩) e⟩
      rw [this]; rfl
theorem TI {t : Tr28} (hc : t.cnt ≤ 1048576) : HJ t = some (decide (LR (mi t) 64 8)) := by
  have hcm := V6 t
  unfold HJ
  rw [show NM t = some (FY (mi t)) from CB (g := fun n => Ee n t) (fun n r h => KP n t r h) (Tm (SizeOf.sizeOf t + 1) t (by omega) hc), Option.bind_some]
  by_cases hf : FY (mi t) = true
  case neg => rw [if_neg hf, Option.bind_some, decide_eq_false (fun h => hf h.1)]
  case pos =>
    rw [if_pos hf, Rj hc, Option.bind_some]
    by_cases c : (t.cnt : Int) ≤ 64
    · rw [if_pos c, U3 hc, Option.bind_some, Option.bind_some]
      exact congrArg some (decide_eq_decide.2 ⟨fun h => ⟨hf, h, by omega⟩, fun h => h.2.1⟩)
    · rw [if_neg c, Option.bind_some, decide_eq_false (fun h => by have := h.2.2; omega)]
end Go.Proofs.YtgoifghhcekahaaGreatDoor
