/- Layer 26: how great, how deep, which may be. Conditions: none. -/
import Derived.Test.YtepfcpffbabgmaaDoorcM26
namespace Go.Proofs.YtepfcpffbabgmaaDoor
set_option linter.unusedVariables false
set_option linter.unusedSimpArgs false
open Go Go.RowKit
def th : Tr31 → Tr24
  | .mk k f v l => .mk k f v (l.map th)
theorem RV (t : Tr31) : (th t).un = (t.un.1, t.un.2.1, t.un.2.2.1, t.un.2.2.2.map th) := by cases t; rw [th]; rfl
theorem PV (t : Tr31) : th t = Tr24.of (t.un.1, t.un.2.1, t.un.2.2.1, t.un.2.2.2.map th) := by cases t; rw [th]; rfl
theorem PP (t : Tr24) : Tr24.of t.un = t := by cases t; rfl
theorem RX (t : Tr31) : Tr31.of t.un = t := by cases t; rfl
theorem Q0 : ∀ (n : Nat) (t : Tr24), SizeOf.sizeOf t < n → th (mi t) = t
  | 0, t, h => absurd h (Nat.not_lt_zero _)
  | n + 1, t, h => by
    rw [PV, Hb]
    show Tr24.of (t.un.1, t.un.2.1, t.un.2.2.1, (t.un.2.2.2.map mi).map th) = t
    rw [List.map_map, show t.un.2.2.2.map (th ∘ mi) = t.un.2.2.2 from map_id_in fun x hx => Q0 n x (by have := Kl hx; omega)]
    exact PP t
where map_id_in {α : Type} {g : α → α} : ∀ {l : List α}, (∀ x ∈ l, g x = x) → l.map g = l
  | [], _ => rfl
  | x :: l, h => by rw [List.map_cons, h x (List.mem_cons_self ..), map_id_in fun y hy => h y (List.mem_cons_of_mem _ hy)]
theorem th_mi' (t : Tr24) : th (mi t) = t := Q0 (SizeOf.sizeOf t + 1) t (by omega)
theorem Ru {a b : Tr24} (h : mi a = mi b) : a = b := by rw [← th_mi' a, h, th_mi' b]
theorem NN : ∀ (n : Nat) (t : Tr31), SizeOf.sizeOf t < n → t.cnt ≤ 2097152 → C3 n t = some (th t)
  | 0, t, h, _ => absurd h (Nat.not_lt_zero _)
  | n + 1, t, h, hc => by
    have hl := Qx t
    show DD (C3 n) t = _
    unfold DD
    obtain ⟨o, h1, h2⟩ := EF t.un.2.2.2.length (fun (o : List Tr24) (i : Nat) => ((i : Int), o)) (CQ (C3 n) t) id (fun o i => o = (t.un.2.2.2.take i).map th)
      (fun o i hi ho => by
        have hm := List.getElem_mem hi
        have hx := NN n t.un.2.2.2[i] (by have := G0 hm; omega) (Nat.le_trans (NQ hm) hc)
        refine ⟨o ++ [th t.un.2.2.2[i]], ?_, by rw [ho, List.take_succ_eq_append_getElem hi, List.map_append]; rfl⟩
        rw [CQ, if_pos (by omega), Cw (List.getElem?_eq_getElem hi), Option.bind_some, hx, Option.bind_some, DA (by rw [ho]; simp; omega), Option.bind_some, AE (by omega)]; rfl)
      (fun o _ => by rw [CQ, if_neg (by omega)]; rfl) [] rfl
    rw [List.take_length] at h1
    have h2' : A3 (CQ (C3 n) t) (0, []) = some o := h2
    rw [h2', h1, Option.bind_some, ← PV]
theorem O8 {t : Tr31} (hc : t.cnt ≤ 2097152) : IA t = some (th t) := CL (g := fun n => C3 n t) (fun n r h => Hr n t r h) (NN (SizeOf.sizeOf t + 1) t (by omega) hc)
theorem OR : ∀ (n : Nat) (t : Tr31), SizeOf.sizeOf t < n → t.cnt ≤ 1048576 → Dn n t = some (t.cnt : Int)
  | 0, t, h, _ => absurd h (Nat.not_lt_zero _)
  | n + 1, t, h, hc => by
    have hl := Qx t
    have hcc := GI t
    show DY (Dn n) t = _
    unfold DY
    obtain ⟨o, h1, h2⟩ := EF t.un.2.2.2.length (fun (o : Int) (i : Nat) => (o, (i : Int))) (C1 (Dn n) t) id (fun o i => o = 1 + (((t.un.2.2.2.take i).map Tr31.cnt).sum : Nat))
      (fun o i hi ho => by
        have hm := List.getElem_mem hi
        have hx := OR n t.un.2.2.2[i] (by have := G0 hm; omega) (Nat.le_trans (NQ hm) hc)
        have hs : ((t.un.2.2.2.take (i + 1)).map Tr31.cnt).sum = ((t.un.2.2.2.take i).map Tr31.cnt).sum + t.un.2.2.2[i].cnt := by
          rw [List.take_succ_eq_append_getElem hi, List.map_append, List.sum_append]; simp
        have hle := I6 (g := Tr31.cnt) t.un.2.2.2 (i + 1)
        refine ⟨o + (t.un.2.2.2[i].cnt : Int), ?_, by rw [ho, hs]; omega⟩
        rw [C1, if_pos (by omega), Cw (List.getElem?_eq_getElem hi), Option.bind_some, hx, Option.bind_some, AE (by rw [ho]; omega), AE (by omega)]; rfl)
      (fun o _ => by rw [C1, if_neg (by omega)]; rfl) 1 (by simp)
    rw [List.take_length] at h1
    have h2' : A3 (C1 (Dn n) t) (1, 0) = some o := h2
    rw [h2', h1, Option.bind_some, hcc]
    congr 1
theorem P3 {t : Tr31} (hc : t.cnt ≤ 1048576) : Jg t = some (t.cnt : Int) := CL (g := fun n => Dn n t) (fun n r h => HR n t r h) (OR (SizeOf.sizeOf t + 1) t (by omega) hc)
def mx : List Nat → Nat
  | [] => 0
  | a :: l => max a (mx l)
theorem RH {l : List Nat} {a : Nat} (h : a ∈ l) : a ≤ mx l := by
  induction l with
  | nil => cases h
  | cons x l ih =>
    rcases List.mem_cons.1 h with e | h
    · rw [e]; exact Nat.le_max_left _ _
    · exact Nat.le_trans (ih h) (Nat.le_max_right _ _)
theorem Q5 {l : List Nat} {b : Nat} (h : ∀ a ∈ l, a ≤ b) : mx l ≤ b := by
  induction l with
  | nil => exact Nat.zero_le _
  | cons x l ih => exact Nat.max_le.2 ⟨h x (List.mem_cons_self ..), ih fun a ha => h a (List.mem_cons_of_mem _ ha)⟩
theorem OI (l : List Nat) (a : Nat) : mx (l ++ [a]) = max (mx l) a := by
  induction l with
  | nil => simp [mx]
  | cons x l ih => rw [List.cons_append, mx, ih, mx, Nat.max_assoc]
def dp : Tr31 → Nat
  | .mk _ _ _ l => 1 + mx (l.map dp)
theorem Ov (t : Tr31) : dp t = 1 + mx (t.un.2.2.2.map dp) := by cases t; rw [dp]; rfl
theorem Od : ∀ (n : Nat) (t : Tr31), SizeOf.sizeOf t < n → dp t ≤ t.cnt
  | 0, t, h => absurd h (Nat.not_lt_zero _)
  | n + 1, t, h => by
    rw [Ov, GI]
    have : mx (t.un.2.2.2.map dp) ≤ (t.un.2.2.2.map Tr31.cnt).sum := Q5 fun a ha => by
      obtain ⟨x, hx, rfl⟩ := List.mem_map.1 ha
      exact Nat.le_trans (Od n x (by have := G0 hx; omega)) (Jm (g := Tr31.cnt) hx)
    omega
theorem Oo : ∀ (n : Nat) (t : Tr31), SizeOf.sizeOf t < n → t.cnt ≤ 1048576 → Do n t = some (dp t : Int)
  | 0, t, h, _ => absurd h (Nat.not_lt_zero _)
  | n + 1, t, h, hc => by
    have hl := Qx t
    have hd := Od (SizeOf.sizeOf t + 1) t (by omega)
    have hde := Ov t
    show DX (Do n) t = _
    unfold DX
    obtain ⟨o, h1, h2⟩ := EF t.un.2.2.2.length (fun (o : Int) (i : Nat) => (o, (i : Int))) (C2 (Do n) t) id (fun o i => o = (mx ((t.un.2.2.2.take i).map dp) : Nat))
      (fun o i hi ho => by
        have hm := List.getElem_mem hi
        have hx := Oo n t.un.2.2.2[i] (by have := G0 hm; omega) (Nat.le_trans (NQ hm) hc)
        refine ⟨max o (dp t.un.2.2.2[i] : Int), ?_, by rw [ho, List.take_succ_eq_append_getElem hi, List.map_append, List.map_cons, List.map_nil, OI]; omega⟩
        rw [C2, if_pos (by omega), Cw (List.getElem?_eq_getElem hi), Option.bind_some, hx, Option.bind_some, AE (by omega)]; rfl)
      (fun o _ => by rw [C2, if_neg (by omega)]; rfl) 0 (by simp [mx])
    rw [List.take_length] at h1
    have h2' : A3 (C2 (Do n) t) (0, 0) = some o := h2
    rw [h2', h1, Option.bind_some, AE (by omega)]
    exact congrArg some (by omega)
theorem PU {t : Tr31} (hc : t.cnt ≤ 1048576) : Js t = some (dp t : Int) := CL (g := fun n => Do n t) (fun n r h => HW n t r h) (Oo (SizeOf.sizeOf t + 1) t (by omega) hc)
theorem RT (t : Tr24) : dp (mi t) = 1 + mx (t.un.2.2.2.map fun x => dp (mi x)) := by rw [Ov, Hb, List.map_map]; rfl
theorem Of (t : Tr24) : (mi t).cnt = t.cnt := PS (SizeOf.sizeOf t + 1) t (by omega)
theorem OX : ∀ (n : Nat) (t : Tr24), SizeOf.sizeOf t < n → t.cnt ≤ 1048576 → DM n t = some (dp (mi t) : Int)
  | 0, t, h, _ => absurd h (Nat.not_lt_zero _)
  | n + 1, t, h, hc => by
    have hl := Qt t
    show El (DM n) t = _
    unfold El
    obtain ⟨o, h1, h2⟩ := EF t.un.2.2.2.length (fun (o : Int) (i : Nat) => (o, (i : Int))) (Dp (DM n) t) id (fun o i => o = 1 + (mx ((t.un.2.2.2.take i).map fun x => dp (mi x)) : Nat))
      (fun o i hi ho => by
        have hm := List.getElem_mem hi
        have hx := OX n t.un.2.2.2[i] (by have := Kl hm; omega) (Nat.le_trans (Qn hm) hc)
        have hd := Od (SizeOf.sizeOf (mi t.un.2.2.2[i]) + 1) (mi t.un.2.2.2[i]) (by omega)
        rw [Of] at hd
        have hcl := Qn hm
        refine ⟨max o (dp (mi t.un.2.2.2[i]) + 1 : Int), ?_, by rw [ho, List.take_succ_eq_append_getElem hi, List.map_append, List.map_cons, List.map_nil, OI]; omega⟩
        rw [Dp, if_pos (by omega), Cw (List.getElem?_eq_getElem hi), Option.bind_some, hx, Option.bind_some, AE (by omega)]
        by_cases q : o < (dp (mi t.un.2.2.2[i]) : Int) + 1
        · rw [if_pos q, Option.bind_some, hx, Option.bind_some, AE (by omega), Option.bind_some, AE (by omega)]
          rw [show max o ((dp (mi t.un.2.2.2[i]) : Int) + 1) = (dp (mi t.un.2.2.2[i]) : Int) + 1 by omega]; rfl
        · rw [if_neg q, Option.bind_some, AE (by omega)]
          rw [show max o ((dp (mi t.un.2.2.2[i]) : Int) + 1) = o by omega]; rfl)
      (fun o _ => by rw [Dp, if_neg (by omega)]; rfl) 1 (by simp [mx])
    rw [List.take_length] at h1
    have h2' : A3 (Dp (DM n) t) (1, 0) = some o := h2
    rw [h2', h1, Option.bind_some, RT]
    exact congrArg some (by omega)
theorem Nx {t : Tr24} (hc : t.cnt ≤ 1048576) : IQ t = some (dp (mi t) : Int) := CL (g := fun n => DM n t) (fun n r h => Il n t r h) (OX (SizeOf.sizeOf t + 1) t (by omega) hc)
theorem RA {a b : Tr31} (h1 : a.un.1 = b.un.1) (h2 : a.un.2.1 = b.un.2.1) (h3 : a.un.2.2.1 = b.un.2.2.1) (h4 : a.un.2.2.2 = b.un.2.2.2) : a = b := by
  rw [← RX a, ← RX b]
  show Tr31.mk _ _ _ _ = Tr31.mk _ _ _ _
  rw [h1, h2, h3, h4]
theorem RD {a b : Tr24} (h1 : a.un.1 = b.un.1) (h2 : a.un.2.1 = b.un.2.1) (h3 : a.un.2.2.1 = b.un.2.2.1) (h4 : a.un.2.2.2 = b.un.2.2.2) : a = b := by
  rw [← PP a, ← PP b]
  show Tr24.mk _ _ _ _ = Tr24.mk _ _ _ _
  rw [h1, h2, h3, h4]
theorem Ka {α : Type} {l m : List α} (hl : l.length = m.length) : (∃ k, k < l.length ∧ l[k]? ≠ m[k]?) ↔ l ≠ m := by
  constructor
  · rintro ⟨k, _, h⟩ rfl; exact h rfl
  · intro h
    refine Classical.byContradiction fun hn => h (List.ext_getElem? fun k => ?_)
    by_cases hk : k < l.length
    · exact Classical.byContradiction fun h2 => hn ⟨k, hk, h2⟩
    · rw [List.getElem?_eq_none (by omega), List.getElem?_eq_none (by omega)]
open Classical in
theorem ON : ∀ (n : Nat) (a b : Tr31), SizeOf.sizeOf a < n → a.cnt ≤ 1048576 → DE n a b = some (decide (a = b))
  | 0, a, b, h, _ => absurd h (Nat.not_lt_zero _)
  | n + 1, a, b, h, hc => by
    have hl := Qx a
    show DU (DE n) a b = _
    unfold DU
    by_cases c1 : a.un.1 = b.un.1
    · rw [if_pos c1]
      by_cases c2 : a.un.2.1 = b.un.2.1
      · rw [if_pos c2]
        by_cases c3 : a.un.2.2.1 = b.un.2.2.1
        · rw [if_pos c3]
          unfold AK
          by_cases c4 : a.un.2.2.2.length = b.un.2.2.2.length
          · rw [if_neg (by omega)]
            rw [He a.un.2.2.2.length (AF (DE n) a.un.2.2.2 b.un.2.2.2) (fun k => a.un.2.2.2[k]? ≠ b.un.2.2.2[k]?) false (fun k hk => by
              have hm := List.getElem_mem hk
              have hkb : k < b.un.2.2.2.length := by omega
              have hx := ON n a.un.2.2.2[k] b.un.2.2.2[k] (by have := G0 hm; omega) (Nat.le_trans (NQ hm) hc)
              rw [AF, if_pos (by omega), Cw (List.getElem?_eq_getElem hk), Option.bind_some, Cw (List.getElem?_eq_getElem hkb), Option.bind_some, hx, Option.bind_some, AE (by omega)]
              by_cases e : a.un.2.2.2[k] = b.un.2.2.2[k]
              · rw [decide_eq_true e, if_neg (by decide), if_neg (by rw [List.getElem?_eq_getElem hk, List.getElem?_eq_getElem hkb, e]; simp)]; rfl
              · rw [decide_eq_false e, if_pos (by decide), if_pos (by rw [List.getElem?_eq_getElem hk, List.getElem?_eq_getElem hkb]; simpa using e)]) (by rw [AF, if_neg (by omega)])]
            by_cases e : a.un.2.2.2 = b.un.2.2.2
            · rw [if_neg (fun hh => (Ka c4).1 hh e), decide_eq_true (RA c1 c2 c3 e)]; rfl
            · rw [if_pos ((Ka c4).2 e), decide_eq_false (fun hh => e (by rw [hh]))]; rfl
          · rw [if_pos (by omega), decide_eq_false (fun hh => c4 (by rw [hh]))]; rfl
        · rw [if_neg c3, decide_eq_false (fun hh => c3 (by rw [hh]))]; rfl
      · rw [if_neg c2, decide_eq_false (fun hh => c2 (by rw [hh]))]; rfl
    · rw [if_neg c1, decide_eq_false (fun hh => c1 (by rw [hh]))]; rfl
open Classical in
theorem PN {a b : Tr31} (hc : a.cnt ≤ 1048576) : H4 a b = some (decide (a = b)) := CL (g := fun n => DE n a b) (fun n r h => HO n a b r h) (ON (SizeOf.sizeOf a + 1) a b (by omega) hc)
open Classical in
theorem OM : ∀ (n : Nat) (a b : Tr24), SizeOf.sizeOf a < n → a.cnt ≤ 2097152 → D1 n a b = some (decide (a = b))
  | 0, a, b, h, _ => absurd h (Nat.not_lt_zero _)
  | n + 1, a, b, h, hc => by
    have hl := Qt a
    show Eo (D1 n) a b = _
    unfold Eo
    by_cases c : a.un.1 = b.un.1 ∧ a.un.2.1 = b.un.2.1 ∧ a.un.2.2.1 = b.un.2.2.1 ∧ a.un.2.2.2.length = b.un.2.2.2.length
    · obtain ⟨c1, c2, c3, c4⟩ := c
      rw [if_neg (by simp [c1, c2, c3, c4])]
      rw [He a.un.2.2.2.length (Eg (D1 n) a b) (fun k => a.un.2.2.2[k]? ≠ b.un.2.2.2[k]?) false (fun k hk => by
        have hm := List.getElem_mem hk
        have hkb : k < b.un.2.2.2.length := by omega
        have hx := OM n a.un.2.2.2[k] b.un.2.2.2[k] (by have := Kl hm; omega) (Nat.le_trans (Qn hm) hc)
        rw [Eg, if_pos (by omega), Cw (List.getElem?_eq_getElem hk), Option.bind_some, Cw (List.getElem?_eq_getElem hkb), Option.bind_some, hx, Option.bind_some, AE (by omega)]
        by_cases e : a.un.2.2.2[k] = b.un.2.2.2[k]
        · rw [decide_eq_true e, if_neg (by decide), if_neg (by rw [List.getElem?_eq_getElem hk, List.getElem?_eq_getElem hkb, e]; simp)]; rfl
        · rw [decide_eq_false e, if_pos (by decide), if_pos (by rw [List.getElem?_eq_getElem hk, List.getElem?_eq_getElem hkb]; simpa using e)]) (by rw [Eg, if_neg (by omega)])]
      by_cases e : a.un.2.2.2 = b.un.2.2.2
      · rw [if_neg (fun hh => (Ka c4).1 hh e), decide_eq_true (RD c1 c2 c3 e)]; rfl
      · rw [if_pos ((Ka c4).2 e), decide_eq_false (fun hh => e (by rw [hh]))]; rfl
    · rw [if_pos (by simp only [Bool.or_eq_true, decide_eq_true_eq]; omega), decide_eq_false (fun hh => c (by rw [hh]; exact ⟨rfl, rfl, rfl, rfl⟩))]
open Classical in
theorem KZ {a b : Tr24} (hc : a.cnt ≤ 2097152) : HZ a b = some (decide (a = b)) := CL (g := fun n => D1 n a b) (fun n r h => Im n a b r h) (OM (SizeOf.sizeOf a + 1) a b (by omega) hc)
theorem Ri (a : Int × Int × PK) (t : Tr24) : Lw a (mi t) = Px a t.un.1 t.un.2.1 t.un.2.2.1 (t.un.2.2.2.map fun x => Lw a (mi x)) := by rw [P4, Hb, List.map_map]; rfl
theorem NB {α : Type} (q : α → Bool) (l : List α) : l.countP q ≤ l.length ∧ (l.countP q = l.length ↔ l.all q = true) ∧ (0 < l.countP q ↔ l.any q = true) :=
  ⟨List.countP_le_length, by rw [List.countP_eq_length, List.all_eq_true], by rw [List.countP_pos_iff, List.any_eq_true]⟩
theorem OZ (s q : Int) (p : PK) : ∀ (n : Nat) (t : Tr24), SizeOf.sizeOf t < n → t.cnt ≤ 1048576 → Dv n t s q p = some (Lw (s, q, p) (mi t))
  | 0, t, h, _ => absurd h (Nat.not_lt_zero _)
  | n + 1, t, h, hc => by
    have hl := Qt t
    have hx : ∀ x ∈ t.un.2.2.2, Dv n x s q p = some (Lw (s, q, p) (mi x)) := fun x hm => OZ s q p n x (by have := Kl hm; omega) (Nat.le_trans (Qn hm) hc)
    show Ej (Dv n) t s q p = _
    rw [Ri]
    unfold Ej Px
    by_cases c1 : t.un.1 = 1
    · rw [if_pos c1, if_pos c1]
    rw [if_neg c1, if_neg c1]
    by_cases c3 : t.un.1 = 3
    · rw [if_pos c3, if_pos c3]
      by_cases k : 0 ≤ t.un.2.1 ∧ t.un.2.1 ≤ 5
      · rw [if_pos k.1, if_pos (by omega), Ox, Option.bind_some, Option.bind_some]
        exact congrArg some (decide_eq_decide.2 ⟨fun h => ⟨k, h⟩, fun h => h.2⟩)
      · rw [decide_eq_false (fun h => k h.1)]
        by_cases k0 : 0 ≤ t.un.2.1
        · rw [if_pos k0, if_neg (by omega)]; rfl
        · rw [if_neg k0]; rfl
    rw [if_neg c3, if_neg c3]
    by_cases c4 : t.un.1 = 4
    · rw [if_pos c4, if_pos c4]
      cases hll : t.un.2.2.2 with
      | nil => rfl
      | cons y l =>
        rw [if_pos (by simp only [List.length_cons]; omega), show ix (y :: l) 0 = some y from Cw (k := 0) rfl, Option.bind_some, hx y (by rw [hll]; exact List.mem_cons_self ..)]; rfl
    rw [if_neg c4, if_neg c4]
    obtain ⟨o, h1, h2⟩ := EF t.un.2.2.2.length (fun (o : Int) (i : Nat) => (o, (i : Int))) (Dq (Dv n) t s q p) id (fun o i => o = ((t.un.2.2.2.take i).countP fun x => Lw (s, q, p) (mi x) : Nat))
      (fun o i hi ho => by
        have hle := (NB (fun x => Lw (s, q, p) (mi x)) (t.un.2.2.2.take i)).1
        rw [List.length_take] at hle
        refine ⟨o + (if Lw (s, q, p) (mi t.un.2.2.2[i]) = true then 1 else 0), ?_, ?_⟩
        · rw [Dq, if_pos (by omega), Cw (List.getElem?_eq_getElem hi), Option.bind_some, hx _ (List.getElem_mem hi), Option.bind_some]
          by_cases e : Lw (s, q, p) (mi t.un.2.2.2[i]) = true
          · rw [if_pos e, if_pos e, Option.bind_some, AE (by omega), AE (by omega)]; rfl
          · rw [if_neg e, if_neg e, Option.bind_some, AE (by omega), Int.add_zero]; rfl
        · rw [ho, List.take_succ_eq_append_getElem hi, List.countP_append, List.countP_singleton]
          split <;> omega)
      (fun o _ => by rw [Dq, if_neg (by omega)]; rfl) 0 (by simp)
    rw [List.take_length] at h1
    have h2' : A3 (Dq (Dv n) t s q p) (0, 0) = some o := h2
    obtain ⟨k1, k2, k3⟩ := NB (fun x => Lw (s, q, p) (mi x)) t.un.2.2.2
    rw [h2', Option.bind_some, h1, List.all_map, List.any_map]
    congr 1
    by_cases c5 : t.un.1 = 5
    · rw [if_pos c5, decide_eq_true c5]
      show (decide _ || _) = _
      rw [show decide (t.un.1 = 6) = false from decide_eq_false (by omega), Bool.false_and, Bool.or_false]
      cases hq : t.un.2.2.2.all fun x => Lw (s, q, p) (mi x) with
      | true => exact (decide_eq_true (by have := k2.2 hq; omega)).trans hq.symm |>.trans rfl
      | false => exact (decide_eq_false (fun e => by have := k2.1 (by omega); rw [hq] at this; cases this)).trans hq.symm |>.trans rfl
    · rw [if_neg c5, decide_eq_false c5]
      show (decide _ && decide _) = _
      by_cases c6 : t.un.1 = 6
      · rw [if_pos c6, decide_eq_true c6, Bool.true_and]
        cases hq : t.un.2.2.2.any fun x => Lw (s, q, p) (mi x) with
        | true => exact (decide_eq_true (by have := k3.2 hq; omega)).trans hq.symm |>.trans rfl
        | false => exact (decide_eq_false (fun e => by have := k3.1 (by omega); rw [hq] at this; cases this)).trans hq.symm |>.trans rfl
      · rw [if_neg c6, decide_eq_false c6, Bool.false_and]
theorem PL {t : Tr24} (hc : t.cnt ≤ 1048576) (s q : Int) (p : PK) : Ln t s q p = some (Lw (s, q, p) (mi t)) := CL (g := fun n => Dv n t s q p) (fun n r h => Iv n t s q p r h) (OZ s q p (SizeOf.sizeOf t + 1) t (by omega) hc)
theorem PQ (f : Int) : F0 f = some (CC f) := by
  unfold F0 CC
  by_cases c : (decide (f = 4) || decide (f = 5)) = true
  · rw [if_pos c, if_pos c]
  · rw [if_neg c, if_neg c]
    unfold FK Fg Ia
    by_cases c2 : f = 2
    · subst c2; rfl
    by_cases c0 : f = 0
    · subst c0; rfl
    by_cases c1 : f = 1
    · subst c1; rfl
    by_cases c3 : f = 3
    · subst c3; rfl
    rw [if_neg c0, if_neg c1, decide_eq_false c3, Option.bind_some, if_neg (by decide), if_neg c2, if_neg c2, if_neg (by simp [c0, c1, c3])]; rfl
theorem IC (f : Int) : 0 ≤ CC f ∧ CC f ≤ 255 := by
  unfold CC Ia
  split
  · omega
  · split
    · omega
    · split <;> omega
abbrev Ev (k f v : Int) (n : Nat) : Prop := 1 ≤ k ∧ k ≤ 6 ∧ (k ≠ 3 → f = 0 ∧ v = 0) ∧ (k = 3 → 0 ≤ f ∧ f ≤ 5 ∧ 0 ≤ v ∧ v ≤ CC f) ∧ (k ≤ 3 → n = 0) ∧ (k = 4 → n = 1) ∧ (5 ≤ k → 2 ≤ n ∧ n ≤ 8)
theorem Qm (t : Tr31) : FE t = some (decide (Ev t.un.1 t.un.2.1 t.un.2.2.1 t.un.2.2.2.length)) := by
  unfold FE
  by_cases c3 : t.un.1 = 3
  · rw [if_pos c3]
    unfold CE
    rw [← Bool.decide_and]
    by_cases k : 0 ≤ t.un.2.1 ∧ t.un.2.1 ≤ 5
    · rw [if_pos (decide_eq_true k)]
      by_cases v0 : 0 ≤ t.un.2.2.1
      · rw [if_pos v0, PQ, Option.bind_some]
        by_cases v1 : t.un.2.2.1 ≤ CC t.un.2.1
        · rw [if_pos v1, Option.bind_some]
          exact congrArg some (decide_eq_decide.2 ⟨fun h => by unfold Ev; omega, fun h => by unfold Ev at h; omega⟩)
        · rw [if_neg v1, Option.bind_some, decide_eq_false (fun h => by unfold Ev at h; omega)]
      · rw [if_neg v0, Option.bind_some, decide_eq_false (fun h => by unfold Ev at h; omega)]
    · rw [if_neg (by simpa using k), Option.bind_some, decide_eq_false (fun h => by unfold Ev at h; omega)]
  · rw [if_neg c3]
    by_cases z : t.un.2.1 = 0 ∧ t.un.2.2.1 = 0
    · rw [if_neg (by simp [z.1, z.2])]
      by_cases c1 : t.un.1 = 1
      · rw [if_pos c1, Option.bind_some, if_pos rfl]
        exact congrArg some (decide_eq_decide.2 ⟨fun h => by unfold Ev; omega, fun h => by unfold Ev at h; omega⟩)
      · rw [if_neg c1, Option.bind_some]
        by_cases c2 : t.un.1 = 2
        · rw [if_pos (decide_eq_true c2)]
          exact congrArg some (decide_eq_decide.2 ⟨fun h => by unfold Ev; omega, fun h => by unfold Ev at h; omega⟩)
        · rw [if_neg (by simpa using c2)]
          by_cases c4 : t.un.1 = 4
          · rw [if_pos c4]
            exact congrArg some (decide_eq_decide.2 ⟨fun h => by unfold Ev; omega, fun h => by unfold Ev at h; omega⟩)
          · rw [if_neg c4]
            by_cases c5 : t.un.1 = 5
            · rw [if_pos c5, Option.bind_some, if_pos rfl, ← Bool.decide_and]
              exact congrArg some (decide_eq_decide.2 ⟨fun h => by unfold Ev; omega, fun h => by unfold Ev at h; omega⟩)
            · rw [if_neg c5, Option.bind_some]
              by_cases c6 : t.un.1 = 6
              · rw [if_pos (decide_eq_true c6), ← Bool.decide_and]
                exact congrArg some (decide_eq_decide.2 ⟨fun h => by unfold Ev; omega, fun h => by unfold Ev at h; omega⟩)
              · rw [if_neg (by simpa using c6), decide_eq_false (fun h => by unfold Ev at h; omega)]
    · rw [if_pos (by simp only [Bool.or_eq_true, decide_eq_true_eq]; omega), decide_eq_false (fun h => by unfold Ev at h; omega)]
def Fo : Tr31 → Bool
  | .mk k f v l => decide (Ev k f v l.length) && (l.map Fo).all id
theorem GW (t : Tr31) : Fo t = true ↔ Ev t.un.1 t.un.2.1 t.un.2.2.1 t.un.2.2.2.length ∧ ∀ x ∈ t.un.2.2.2, Fo x = true := by
  cases t with
  | mk k f v l =>
    rw [Fo, Bool.and_eq_true, decide_eq_true_eq, List.all_map, List.all_eq_true]; rfl
abbrev KC (t : Tr31) (b d : Int) : Prop := Fo t = true ∧ (dp t : Int) ≤ d ∧ (t.cnt : Int) ≤ b
theorem NH : ∀ (n : Nat) (t : Tr31), SizeOf.sizeOf t < n → t.cnt ≤ 1048576 → ∀ b d : Int, 0 ≤ b → b ≤ 1000 → 0 ≤ d → d ≤ 1000 →
    (KC t b d → Bb n b t d = some (true, b - t.cnt)) ∧ (¬ KC t b d → ∃ b', Bb n b t d = some (false, b'))
  | 0, t, h, _ => absurd h (Nat.not_lt_zero _)
  | n + 1, t, h, hc => by
    intro b d b0 b1 d0 d1
    have hl := Qx t
    have hcc := GI t
    have hde := Ov t
    have hst : Bb (n + 1) b t d = BP (Bb n) b t d := rfl
    rw [hst]
    unfold BP
    rw [AE (by omega)]
    by_cases g1 : b - 1 < 0
    · rw [if_pos g1, Option.bind_some, if_pos rfl]
      exact ⟨fun hk => by have := hk.2.2; omega, fun _ => ⟨_, rfl⟩⟩
    rw [if_neg g1]
    by_cases g2 : d < 1
    · rw [if_pos g2, Option.bind_some, if_pos rfl]
      exact ⟨fun hk => by have := hk.2.1; omega, fun _ => ⟨_, rfl⟩⟩
    rw [if_neg g2, Qm, Option.bind_some, Option.bind_some]
    by_cases g3 : Ev t.un.1 t.un.2.1 t.un.2.2.1 t.un.2.2.2.length
    · rw [decide_eq_true g3, if_neg (by decide)]
      have key : ∀ (m i : Nat), i + m = t.un.2.2.2.length → (∀ x ∈ t.un.2.2.2.take i, Fo x = true ∧ (dp x : Int) ≤ d - 1) → (((t.un.2.2.2.take i).map Tr31.cnt).sum : Int) ≤ b - 1 →
          (KC t b d → IX (A3 (Bj (Bb n) t d) ((i : Int), b - 1 - (((t.un.2.2.2.take i).map Tr31.cnt).sum : Nat))) (fun x3 => some (true, x3)) = some (true, b - t.cnt)) ∧ (¬ KC t b d → ∃ b', IX (A3 (Bj (Bb n) t d) ((i : Int), b - 1 - (((t.un.2.2.2.take i).map Tr31.cnt).sum : Nat))) (fun x3 => some (true, x3)) = some (false, b')) := by
        intro m
        induction m with
        | zero =>
          intro i hi hx hs
          have e0 : t.un.2.2.2.take i = t.un.2.2.2 := List.take_of_length_le (by omega)
          rw [e0] at hx hs ⊢
          have hend : A3 (Bj (Bb n) t d) ((i : Int), b - 1 - ((t.un.2.2.2.map Tr31.cnt).sum : Nat)) = some (.inl (b - 1 - ((t.un.2.2.2.map Tr31.cnt).sum : Nat))) := Bo (by rw [Bj, if_neg (by omega)])
          have hok : KC t b d := ⟨(GW t).2 ⟨g3, fun x hm => (hx x hm).1⟩, by
            have : mx (t.un.2.2.2.map dp) ≤ (d - 1).toNat := Q5 fun a ha => by
              obtain ⟨x, hm, rfl⟩ := List.mem_map.1 ha
              have := (hx x hm).2
              omega
            omega, by omega⟩
          refine ⟨fun _ => ?_, fun hn => absurd hok hn⟩
          rw [hend]
          show some (true, b - 1 - ((t.un.2.2.2.map Tr31.cnt).sum : Nat)) = _
          rw [hcc]
          congr 2; omega
        | succ m ih =>
          intro i hi hx hs
          have hil : i < t.un.2.2.2.length := by omega
          have hm := List.getElem_mem hil
          have hsum : ((t.un.2.2.2.take (i + 1)).map Tr31.cnt).sum = ((t.un.2.2.2.take i).map Tr31.cnt).sum + t.un.2.2.2[i].cnt := by
            rw [List.take_succ_eq_append_getElem hil, List.map_append, List.sum_append]; simp
          have hle := I6 (g := Tr31.cnt) t.un.2.2.2 (i + 1)
          obtain ⟨r1, r2⟩ := NH n t.un.2.2.2[i] (by have := G0 hm; omega) (Nat.le_trans (NQ hm) hc) (b - 1 - (((t.un.2.2.2.take i).map Tr31.cnt).sum : Nat)) (d - 1) (by omega) (by omega) (by omega) (by omega)
          by_cases g : KC t.un.2.2.2[i] (b - 1 - (((t.un.2.2.2.take i).map Tr31.cnt).sum : Nat)) (d - 1)
          · have hstep : Bj (Bb n) t d ((i : Int), b - 1 - (((t.un.2.2.2.take i).map Tr31.cnt).sum : Nat)) = some (.inl (((i + 1 : Nat) : Int), b - 1 - (((t.un.2.2.2.take (i + 1)).map Tr31.cnt).sum : Nat))) := by
              rw [Bj, if_pos (by omega), Cw (List.getElem?_eq_getElem hil), Option.bind_some, AE (by omega), r1 g, Option.bind_some, if_neg (show ¬ (!true) = true by decide), AE (by omega), hsum]
              show some (Sum.inl (_, _)) = _
              congr 3; omega
            rw [Cr hstep]
            refine ih (i + 1) (by omega) (fun x hxm => ?_) (by have := g.2.2; omega)
            rw [List.take_succ_eq_append_getElem hil] at hxm
            rcases List.mem_append.1 hxm with hh | hh
            · exact hx x hh
            · rw [List.mem_singleton.1 hh]; exact ⟨g.1, g.2.1⟩
          · obtain ⟨b', hb'⟩ := r2 g
            have hno : ¬ KC t b d := fun hk => g ⟨((GW t).1 hk.1).2 _ hm, by
              have h1 := RH (List.mem_map.2 ⟨_, hm, rfl⟩ : dp t.un.2.2.2[i] ∈ t.un.2.2.2.map dp)
              have := hk.2.1
              omega, by have := hk.2.2; omega⟩
            refine ⟨fun hk => absurd hk hno, fun _ => ⟨b', ?_⟩⟩
            rw [Bo (e := .inr (false, b')) (by
              rw [Bj, if_pos (by omega), Cw (List.getElem?_eq_getElem hil), Option.bind_some, AE (by omega), hb', Option.bind_some, if_pos (by rfl)])]
            rfl
      have := key t.un.2.2.2.length 0 (by omega) (by simp) (by simp; omega)
      simpa using this
    · rw [decide_eq_false g3, if_pos (by decide)]
      exact ⟨fun hk => absurd ((GW t).1 hk.1).1 g3, fun _ => ⟨_, rfl⟩⟩
theorem O6 {t : Tr31} (hc : t.cnt ≤ 1048576) : EV t = some (decide (KC t 64 8)) := by
  obtain ⟨h1, h2⟩ := NH (SizeOf.sizeOf t + 1) t (by omega) hc 64 8 (by omega) (by omega) (by omega) (by omega)
  unfold EV
  by_cases g : KC t 64 8
  · rw [show DI 64 t 8 = some (true, (64 - t.cnt : Int)) from CL (g := fun n => Bb n 64 t 8) (fun n r h => Dt n 64 t 8 r h) (h1 g), decide_eq_true g]; rfl
  · obtain ⟨b', hb⟩ := h2 g
    rw [show DI 64 t 8 = some (false, b') from CL (g := fun n => Bb n 64 t 8) (fun n r h => Dt n 64 t 8 r h) hb, decide_eq_false g]; rfl
theorem Hj (t : Tr24) : Fo (mi t) = true ↔ Ev t.un.1 t.un.2.1 t.un.2.2.1 t.un.2.2.2.length ∧ ∀ x ∈ t.un.2.2.2, Fo (mi x) = true := by
  rw [GW, Hb]
  show Ev _ _ _ (t.un.2.2.2.map mi).length ∧ _ ↔ _
  rw [List.length_map]
  refine and_congr_right fun _ => ⟨fun h x hx => h _ (List.mem_map.2 ⟨x, hx, rfl⟩), fun h x hx => ?_⟩
  obtain ⟨y, hy, rfl⟩ := List.mem_map.1 hx
  exact h y hy
theorem OW : ∀ (n : Nat) (t : Tr24), SizeOf.sizeOf t < n → t.cnt ≤ 1048576 → DF n t = some (Fo (mi t))
  | 0, t, h, _ => absurd h (Nat.not_lt_zero _)
  | n + 1, t, h, hc => by
    have hl := Qt t
    have htb := IC t.un.2.1
    show Ek (DF n) t = _
    unfold Ek
    have no : ¬ Ev t.un.1 t.un.2.1 t.un.2.2.1 t.un.2.2.2.length → Fo (mi t) = false := fun hn => by
      cases hh : Fo (mi t) with
      | false => rfl
      | true => exact absurd ((Hj t).1 hh).1 hn
    by_cases g1 : (bif decide (t.un.1 ≠ 3) then (decide (t.un.2.1 ≠ 0) || (decide (t.un.2.2.1 ≠ 0) || (decide (t.un.1 < 1) || decide (6 < t.un.1)))) else (decide (t.un.1 < 1) || decide (6 < t.un.1))) = true
    · rw [if_pos g1, no (fun hf => by
        unfold Ev at hf
        by_cases c : t.un.1 = 3
        · simp [c] at g1
        · rw [show decide (t.un.1 ≠ 3) = true from decide_eq_true c] at g1
          simp only [cond_true, Bool.or_eq_true, decide_eq_true_eq] at g1
          omega)]
    rw [if_neg g1]
    by_cases g2 : (decide (t.un.1 = 3) && (decide (t.un.2.1 < 0) || (decide (5 < t.un.2.1) || (decide (t.un.2.2.1 < 0) || decide ((CC t.un.2.1) < t.un.2.2.1))))) = true
    · rw [if_pos g2, no (fun hf => by
        unfold Ev at hf
        simp only [Bool.and_eq_true, Bool.or_eq_true, decide_eq_true_eq] at g2
        omega)]
    rw [if_neg g2]
    by_cases g3 : (bif decide (t.un.1 ≤ 3) then (decide ((t.un.2.2.2.length : Int) ≠ 0) || (bif decide (t.un.1 = 4) then (decide ((t.un.2.2.2.length : Int) ≠ 1) || (decide (5 ≤ t.un.1) && (decide ((t.un.2.2.2.length : Int) < 2) || decide (8 < (t.un.2.2.2.length : Int))))) else (decide (5 ≤ t.un.1) && (decide ((t.un.2.2.2.length : Int) < 2) || decide (8 < (t.un.2.2.2.length : Int)))))) else (bif decide (t.un.1 = 4) then (decide ((t.un.2.2.2.length : Int) ≠ 1) || (decide (5 ≤ t.un.1) && (decide ((t.un.2.2.2.length : Int) < 2) || decide (8 < (t.un.2.2.2.length : Int))))) else (decide (5 ≤ t.un.1) && (decide ((t.un.2.2.2.length : Int) < 2) || decide (8 < (t.un.2.2.2.length : Int)))))) = true
    · rw [if_pos g3, no (fun hf => by
        unfold Ev at hf
        by_cases c : t.un.1 ≤ 3
        · rw [show decide (t.un.1 ≤ 3) = true from decide_eq_true c, show decide (t.un.1 = 4) = false from decide_eq_false (by omega)] at g3
          simp only [cond_true, cond_false, Bool.or_eq_true, Bool.and_eq_true, decide_eq_true_eq] at g3
          omega
        · by_cases c4 : t.un.1 = 4
          · rw [show decide (t.un.1 ≤ 3) = false from decide_eq_false c, show decide (t.un.1 = 4) = true from decide_eq_true c4] at g3
            simp only [cond_true, cond_false, Bool.or_eq_true, Bool.and_eq_true, decide_eq_true_eq] at g3
            omega
          · rw [show decide (t.un.1 ≤ 3) = false from decide_eq_false c, show decide (t.un.1 = 4) = false from decide_eq_false c4] at g3
            simp only [cond_true, cond_false, Bool.or_eq_true, Bool.and_eq_true, decide_eq_true_eq] at g3
            omega)]
    rw [if_neg g3]
    have hfl : Ev t.un.1 t.un.2.1 t.un.2.2.1 t.un.2.2.2.length := by
      simp only [Bool.and_eq_true, Bool.or_eq_true, decide_eq_true_eq, not_and, not_or] at g2
      by_cases c3 : t.un.1 = 3
      · rw [show decide (t.un.1 ≤ 3) = true from decide_eq_true (by omega), show decide (t.un.1 = 4) = false from decide_eq_false (by omega)] at g3
        simp only [cond_true, cond_false, Bool.or_eq_true, Bool.and_eq_true, decide_eq_true_eq] at g3
        have := g2 c3
        unfold Ev; omega
      · by_cases cl : t.un.1 ≤ 3
        · have c4 : ¬ t.un.1 = 4 := by omega
          simp [c3, cl, c4] at g1 g3
          unfold Ev
          have : t.un.2.2.2.length = 0 := by
            rw [List.length_eq_zero_iff]
            exact g3.1
          omega
        · by_cases c4 : t.un.1 = 4
          · simp [c3, cl, c4] at g1 g3
            unfold Ev; omega
          · simp [c3, cl, c4] at g1 g3
            unfold Ev; omega
    have hx : ∀ x ∈ t.un.2.2.2, DF n x = some (Fo (mi x)) := fun x hm => OW n x (by have := Kl hm; omega) (Nat.le_trans (Qn hm) hc)
    rw [He t.un.2.2.2.length (Er (DF n) t) (fun k => ∃ e, t.un.2.2.2[k]? = some e ∧ Fo (mi e) = false) false (fun k hk => by
      rw [Er, if_pos (by omega), Cw (List.getElem?_eq_getElem hk), Option.bind_some, hx _ (List.getElem_mem hk), Option.bind_some, AE (by omega)]
      cases hq : Fo (mi t.un.2.2.2[k]) with
      | true => rw [if_neg (by decide), if_neg (fun hh => by rw [Kc hk, hq] at hh; cases hh)]; rfl
      | false => rw [if_pos (by decide), if_pos ((Kc hk).2 hq)]) (by rw [Er, if_neg (by omega)])]
    by_cases e : ∃ k, k < t.un.2.2.2.length ∧ ∃ e, t.un.2.2.2[k]? = some e ∧ Fo (mi e) = false
    · rw [if_pos e]
      obtain ⟨x, hxm, hxf⟩ := Mw.1 e
      have : Fo (mi t) = false := by
        cases hh : Fo (mi t) with
        | false => rfl
        | true => rw [((Hj t).1 hh).2 x hxm] at hxf; cases hxf
      rw [this]; rfl
    · rw [if_neg e]
      have : Fo (mi t) = true := (Hj t).2 ⟨hfl, fun x hxm => by
        cases hh : Fo (mi x) with
        | true => rfl
        | false => exact absurd (Mw.2 ⟨x, hxm, hh⟩) e⟩
      rw [this]; rfl
theorem O7 {t : Tr24} (hc : t.cnt ≤ 1048576) : Gf t = some (decide (KC (mi t) 64 8)) := by
  have hcm := Of t
  unfold Gf
  rw [show Kw t = some (Fo (mi t)) from CL (g := fun n => DF n t) (fun n r h => Ip n t r h) (OW (SizeOf.sizeOf t + 1) t (by omega) hc), Option.bind_some]
  by_cases hf : Fo (mi t) = true
  case neg => rw [if_neg hf, Option.bind_some, decide_eq_false (fun h => hf h.1)]
  case pos =>
    rw [if_pos hf, KX hc, Option.bind_some]
    by_cases c : (t.cnt : Int) ≤ 64
    · rw [if_pos c, Nx hc, Option.bind_some, Option.bind_some]
      exact congrArg some (decide_eq_decide.2 ⟨fun h => ⟨hf, h, by omega⟩, fun h => h.2.1⟩)
    · rw [if_neg c, Option.bind_some, decide_eq_false (fun h => by have := h.2.2; omega)]
end Go.Proofs.YtepfcpffbabgmaaDoor
