/- Layer 27: how great, how deep, which may be. Conditions: none. -/
import Derived.Test.YtpckgggmgijiiaaGreatDoorbN26
namespace Go.Proofs.YtpckgggmgijiiaaGreatDoor
set_option linter.unusedVariables false
set_option linter.unusedSimpArgs false
open Go Go.RowKit
def th : Tr34 → Tr24
  | .mk k f v l => .mk k f v (l.map th)
theorem Vx (t : Tr34) : (th t).un = (t.un.1, t.un.2.1, t.un.2.2.1, t.un.2.2.2.map th) := by cases t; rw [th]; rfl
theorem Vi (t : Tr34) : th t = Tr24.of (t.un.1, t.un.2.1, t.un.2.2.1, t.un.2.2.2.map th) := by cases t; rw [th]; rfl
theorem V4 (t : Tr24) : Tr24.of t.un = t := by cases t; rfl
theorem Vo : ∀ (n : Nat) (t : Tr24), SizeOf.sizeOf t < n → th (mi t) = t
  | 0, t, h => absurd h (Nat.not_lt_zero _)
  | n + 1, t, h => by
    rw [Vi, RY]
    show Tr24.of (t.un.1, t.un.2.1, t.un.2.2.1, (t.un.2.2.2.map mi).map th) = t
    rw [List.map_map, show t.un.2.2.2.map (th ∘ mi) = t.un.2.2.2 from map_id_in fun x hx => Vo n x (by have := RD hx; omega)]
    exact V4 t
where map_id_in {α : Type} {g : α → α} : ∀ {l : List α}, (∀ x ∈ l, g x = x) → l.map g = l
  | [], _ => rfl
  | x :: l, h => by rw [List.map_cons, h x (List.mem_cons_self ..), map_id_in fun y hy => h y (List.mem_cons_of_mem _ hy)]
theorem th_mi' (t : Tr24) : th (mi t) = t := Vo (SizeOf.sizeOf t + 1) t (by omega)
theorem Wf {a b : Tr24} (h : mi a = mi b) : a = b := by rw [← th_mi' a, h, th_mi' b]
theorem Qr : ∀ (n : Nat) (t : Tr34), SizeOf.sizeOf t < n → t.cnt ≤ 2097152 → De n t = some (th t)
  | 0, t, h, _ => absurd h (Nat.not_lt_zero _)
  | n + 1, t, h, hc => by
    have hl := YS t
    show DW (De n) t = _
    unfold DW
    obtain ⟨o, h1, h2⟩ := Ha t.un.2.2.2.length (fun (o : List Tr24) (i : Nat) => ((i : Int), o)) (C8 (De n) t) id (fun o i => o = (t.un.2.2.2.take i).map th)
      (fun o i hi ho => by
        have hm := List.getElem_mem hi
        have hx := Qr n t.un.2.2.2[i] (by have := TT hm; omega) (Nat.le_trans (YT hm) hc)
        refine ⟨o ++ [th t.un.2.2.2[i]], ?_, by rw [ho, List.take_succ_eq_append_getElem hi, List.map_append]; rfl⟩
        rw [C8, if_pos (by omega), Ds (List.getElem?_eq_getElem hi), Option.bind_some, hx, Option.bind_some, Pv (by rw [ho]; simp; omega), Option.bind_some, AC (by omega)]; rfl)
      (fun o _ => by rw [C8, if_neg (by omega)]; rfl) [] rfl
    rw [List.take_length] at h1
    have h2' : AY (C8 (De n) t) (0, []) = some o := h2
    rw [h2', h1, Option.bind_some, ← Vi]
theorem SF {t : Tr34} (hc : t.cnt ≤ 2097152) : Lc t = some (th t) := Di (g := fun n => De n t) (fun n r h => Jt n t r h) (Qr (SizeOf.sizeOf t + 1) t (by omega) hc)
def mx : List Nat → Nat
  | [] => 0
  | a :: l => max a (mx l)
theorem Vb {l : List Nat} {b : Nat} (h : ∀ a ∈ l, a ≤ b) : mx l ≤ b := by
  induction l with
  | nil => exact Nat.zero_le _
  | cons x l ih => exact Nat.max_le.2 ⟨h x (List.mem_cons_self ..), ih fun a ha => h a (List.mem_cons_of_mem _ ha)⟩
theorem RX (l : List Nat) (a : Nat) : mx (l ++ [a]) = max (mx l) a := by
  induction l with
  | nil => simp [mx]
  | cons x l ih => rw [List.cons_append, mx, ih, mx, Nat.max_assoc]
def dp : Tr34 → Nat
  | .mk _ _ _ l => 1 + mx (l.map dp)
theorem Vl (t : Tr34) : dp t = 1 + mx (t.un.2.2.2.map dp) := by cases t; rw [dp]; rfl
theorem Tl : ∀ (n : Nat) (t : Tr34), SizeOf.sizeOf t < n → dp t ≤ t.cnt
  | 0, t, h => absurd h (Nat.not_lt_zero _)
  | n + 1, t, h => by
    rw [Vl, N7]
    have : mx (t.un.2.2.2.map dp) ≤ (t.un.2.2.2.map Tr34.cnt).sum := Vb fun a ha => by
      obtain ⟨x, hx, rfl⟩ := List.mem_map.1 ha
      exact Nat.le_trans (Tl n x (by have := TT hx; omega)) (KX (g := Tr34.cnt) hx)
    omega
theorem Xa (t : Tr24) : dp (mi t) = 1 + mx (t.un.2.2.2.map fun x => dp (mi x)) := by rw [Vl, RY, List.map_map]; rfl
theorem U2 (t : Tr24) : (mi t).cnt = t.cnt := TD (SizeOf.sizeOf t + 1) t (by omega)
theorem RM : ∀ (n : Nat) (t : Tr24), SizeOf.sizeOf t < n → t.cnt ≤ 1048576 → D1 n t = some (dp (mi t) : Int)
  | 0, t, h, _ => absurd h (Nat.not_lt_zero _)
  | n + 1, t, h, hc => by
    have hl := WV t
    show EQ (D1 n) t = _
    unfold EQ
    obtain ⟨o, h1, h2⟩ := Ha t.un.2.2.2.length (fun (o : Int) (i : Nat) => (o, (i : Int))) (Dw (D1 n) t) id (fun o i => o = 1 + (mx ((t.un.2.2.2.take i).map fun x => dp (mi x)) : Nat))
      (fun o i hi ho => by
        have hm := List.getElem_mem hi
        have hx := RM n t.un.2.2.2[i] (by have := RD hm; omega) (Nat.le_trans (Wl hm) hc)
        have hd := Tl (SizeOf.sizeOf (mi t.un.2.2.2[i]) + 1) (mi t.un.2.2.2[i]) (by omega)
        rw [U2] at hd
        have hcl := Wl hm
        refine ⟨max o (dp (mi t.un.2.2.2[i]) + 1 : Int), ?_, by rw [ho, List.take_succ_eq_append_getElem hi, List.map_append, List.map_cons, List.map_nil, RX]; omega⟩
        rw [Dw, if_pos (by omega), Ds (List.getElem?_eq_getElem hi), Option.bind_some, hx, Option.bind_some, AC (by omega)]
        by_cases q : o < (dp (mi t.un.2.2.2[i]) : Int) + 1
        · rw [if_pos q, Option.bind_some, hx, Option.bind_some, AC (by omega), Option.bind_some, AC (by omega)]
          rw [show max o ((dp (mi t.un.2.2.2[i]) : Int) + 1) = (dp (mi t.un.2.2.2[i]) : Int) + 1 by omega]; rfl
        · rw [if_neg q, Option.bind_some, AC (by omega)]
          rw [show max o ((dp (mi t.un.2.2.2[i]) : Int) + 1) = o by omega]; rfl)
      (fun o _ => by rw [Dw, if_neg (by omega)]; rfl) 1 (by simp [mx])
    rw [List.take_length] at h1
    have h2' : AY (Dw (D1 n) t) (1, 0) = some o := h2
    rw [h2', h1, Option.bind_some, Xa]
    exact congrArg some (by omega)
theorem Ui {t : Tr24} (hc : t.cnt ≤ 1048576) : Nz t = some (dp (mi t) : Int) := Di (g := fun n => D1 n t) (fun n r h => KB n t r h) (RM (SizeOf.sizeOf t + 1) t (by omega) hc)
theorem Wz {a b : Tr24} (h1 : a.un.1 = b.un.1) (h2 : a.un.2.1 = b.un.2.1) (h3 : a.un.2.2.1 = b.un.2.2.1) (h4 : a.un.2.2.2 = b.un.2.2.2) : a = b := by
  rw [← V4 a, ← V4 b]
  show Tr24.mk _ _ _ _ = Tr24.mk _ _ _ _
  rw [h1, h2, h3, h4]
theorem Sn {α : Type} {l m : List α} (hl : l.length = m.length) : (∃ k, k < l.length ∧ l[k]? ≠ m[k]?) ↔ l ≠ m := by
  constructor
  · rintro ⟨k, _, h⟩ rfl; exact h rfl
  · intro h
    refine Classical.byContradiction fun hn => h (List.ext_getElem? fun k => ?_)
    by_cases hk : k < l.length
    · exact Classical.byContradiction fun h2 => hn ⟨k, hk, h2⟩
    · rw [List.getElem?_eq_none (by omega), List.getElem?_eq_none (by omega)]
open Classical in
theorem Sk : ∀ (n : Nat) (a b : Tr24), SizeOf.sizeOf a < n → a.cnt ≤ 2097152 → Eu n a b = some (decide (a = b))
  | 0, a, b, h, _ => absurd h (Nat.not_lt_zero _)
  | n + 1, a, b, h, hc => by
    have hl := WV a
    show E1 (Eu n) a b = _
    unfold E1
    by_cases c : a.un.1 = b.un.1 ∧ a.un.2.1 = b.un.2.1 ∧ a.un.2.2.1 = b.un.2.2.1 ∧ a.un.2.2.2.length = b.un.2.2.2.length
    · obtain ⟨c1, c2, c3, c4⟩ := c
      rw [if_neg (by simp [c1, c2, c3, c4])]
      rw [K0 a.un.2.2.2.length (EO (Eu n) a b) (fun k => a.un.2.2.2[k]? ≠ b.un.2.2.2[k]?) false (fun k hk => by
        have hm := List.getElem_mem hk
        have hkb : k < b.un.2.2.2.length := by omega
        have hx := Sk n a.un.2.2.2[k] b.un.2.2.2[k] (by have := RD hm; omega) (Nat.le_trans (Wl hm) hc)
        rw [EO, if_pos (by omega), Ds (List.getElem?_eq_getElem hk), Option.bind_some, Ds (List.getElem?_eq_getElem hkb), Option.bind_some, hx, Option.bind_some, AC (by omega)]
        by_cases e : a.un.2.2.2[k] = b.un.2.2.2[k]
        · rw [decide_eq_true e, if_neg (by decide), if_neg (by rw [List.getElem?_eq_getElem hk, List.getElem?_eq_getElem hkb, e]; simp)]; rfl
        · rw [decide_eq_false e, if_pos (by decide), if_pos (by rw [List.getElem?_eq_getElem hk, List.getElem?_eq_getElem hkb]; simpa using e)]) (by rw [EO, if_neg (by omega)])]
      by_cases e : a.un.2.2.2 = b.un.2.2.2
      · rw [if_neg (fun hh => (Sn c4).1 hh e), decide_eq_true (Wz c1 c2 c3 e)]; rfl
      · rw [if_pos ((Sn c4).2 e), decide_eq_false (fun hh => e (by rw [hh]))]; rfl
    · rw [if_pos (by simp only [Bool.or_eq_true, decide_eq_true_eq]; omega), decide_eq_false (fun hh => c (by rw [hh]; exact ⟨rfl, rfl, rfl, rfl⟩))]
open Classical in
theorem Uj {a b : Tr24} (hc : a.cnt ≤ 2097152) : LM a b = some (decide (a = b)) := Di (g := fun n => Eu n a b) (fun n r h => KQ n a b r h) (Sk (SizeOf.sizeOf a + 1) a b (by omega) hc)
theorem Ts (f : Int) : 0 ≤ Eo f ∧ Eo f ≤ 255 := by
  unfold Eo Ly
  split
  · omega
  · split
    · omega
    · split <;> omega
abbrev Mg (k f v : Int) (n : Nat) : Prop := 1 ≤ k ∧ k ≤ 6 ∧ (k ≠ 3 → f = 0 ∧ v = 0) ∧ (k = 3 → 0 ≤ f ∧ f ≤ 5 ∧ 0 ≤ v ∧ v ≤ Eo f) ∧ (k ≤ 3 → n = 0) ∧ (k = 4 → n = 1) ∧ (5 ≤ k → 2 ≤ n ∧ n ≤ 8)
def IR : Tr34 → Bool
  | .mk k f v l => decide (Mg k f v l.length) && (l.map IR).all id
theorem Tm (t : Tr34) : IR t = true ↔ Mg t.un.1 t.un.2.1 t.un.2.2.1 t.un.2.2.2.length ∧ ∀ x ∈ t.un.2.2.2, IR x = true := by
  cases t with
  | mk k f v l =>
    rw [IR, Bool.and_eq_true, decide_eq_true_eq, List.all_map, List.all_eq_true]; rfl
abbrev UL (t : Tr34) (b d : Int) : Prop := IR t = true ∧ (dp t : Int) ≤ d ∧ (t.cnt : Int) ≤ b
theorem Rz (t : Tr24) : IR (mi t) = true ↔ Mg t.un.1 t.un.2.1 t.un.2.2.1 t.un.2.2.2.length ∧ ∀ x ∈ t.un.2.2.2, IR (mi x) = true := by
  rw [Tm, RY]
  show Mg _ _ _ (t.un.2.2.2.map mi).length ∧ _ ↔ _
  rw [List.length_map]
  refine and_congr_right fun _ => ⟨fun h x hx => h _ (List.mem_map.2 ⟨x, hx, rfl⟩), fun h x hx => ?_⟩
  obtain ⟨y, hy, rfl⟩ := List.mem_map.1 hx
  exact h y hy
theorem Sq : ∀ (n : Nat) (t : Tr24), SizeOf.sizeOf t < n → t.cnt ≤ 1048576 → D8 n t = some (IR (mi t))
  | 0, t, h, _ => absurd h (Nat.not_lt_zero _)
  | n + 1, t, h, hc => by
    have hl := WV t
    have htb := Ts t.un.2.1
    show ET (D8 n) t = _
    unfold ET
    have no : ¬ Mg t.un.1 t.un.2.1 t.un.2.2.1 t.un.2.2.2.length → IR (mi t) = false := fun hn => by
      cases hh : IR (mi t) with
      | false => rfl
      | true => exact absurd ((Rz t).1 hh).1 hn
    by_cases g1 : (bif decide (t.un.1 ≠ 3) then (decide (t.un.2.1 ≠ 0) || (decide (t.un.2.2.1 ≠ 0) || (decide (t.un.1 < 1) || decide (6 < t.un.1)))) else (decide (t.un.1 < 1) || decide (6 < t.un.1))) = true
    · rw [if_pos g1, no (fun hf => by
        unfold Mg at hf
        by_cases c : t.un.1 = 3
        · simp [c] at g1
        · rw [show decide (t.un.1 ≠ 3) = true from decide_eq_true c] at g1
          simp only [cond_true, Bool.or_eq_true, decide_eq_true_eq] at g1
          omega)]
    rw [if_neg g1]
    by_cases g2 : (decide (t.un.1 = 3) && (decide (t.un.2.1 < 0) || (decide (5 < t.un.2.1) || (decide (t.un.2.2.1 < 0) || decide ((Eo t.un.2.1) < t.un.2.2.1))))) = true
    · rw [if_pos g2, no (fun hf => by
        unfold Mg at hf
        simp only [Bool.and_eq_true, Bool.or_eq_true, decide_eq_true_eq] at g2
        omega)]
    rw [if_neg g2]
    by_cases g3 : (bif decide (t.un.1 ≤ 3) then (decide ((t.un.2.2.2.length : Int) ≠ 0) || (bif decide (t.un.1 = 4) then (decide ((t.un.2.2.2.length : Int) ≠ 1) || (decide (5 ≤ t.un.1) && (decide ((t.un.2.2.2.length : Int) < 2) || decide (8 < (t.un.2.2.2.length : Int))))) else (decide (5 ≤ t.un.1) && (decide ((t.un.2.2.2.length : Int) < 2) || decide (8 < (t.un.2.2.2.length : Int)))))) else (bif decide (t.un.1 = 4) then (decide ((t.un.2.2.2.length : Int) ≠ 1) || (decide (5 ≤ t.un.1) && (decide ((t.un.2.2.2.length : Int) < 2) || decide (8 < (t.un.2.2.2.length : Int))))) else (decide (5 ≤ t.un.1) && (decide ((t.un.2.2.2.length : Int) < 2) || decide (8 < (t.un.2.2.2.length : Int)))))) = true
    · rw [if_pos g3, no (fun hf => by
        unfold Mg at hf
        by_cases c : t.un.1 ≤ 3
        · rw [show decide (t.un.1 ≤ 3) = true from decide_eq_true c, show decide (t.un.1 = 4) = false from decide_eq_false (by omega)] at g3
          simp only [cond_true, cond_false, Bool.or_eq_true, Bool.and_eq_true, decide_eq_true_eq] at g3
          omega
        · by_cases c4 : t.un.1 = 4
          · rw [show decide (t.un.1 ≤ 3) = false from decide_eq_false c, show decide (t.un.1 = 4) = true from decide_eq_true c4] at g3
            simp only [cond_true, cond_false, Bool.or_eq_true, Bool.and_eq_true, decide_eq_true_eq] at g3
            omega
          · rw [show decide (t.un.1 ≤ 3) = false from decide_eq_false c, show decide (t.un.1 = 4) = false from decide_eq_false c4] at g3
            simp only [cond_true, cond_false, Bool.or_eq_true, Bool.and_eq_true, decide_eq_true_eq] at g3
            omega)]
    rw [if_neg g3]
    have hfl : Mg t.un.1 t.un.2.1 t.un.2.2.1 t.un.2.2.2.length := by
      simp only [Bool.and_eq_true, Bool.or_eq_true, decide_eq_true_eq, not_and, not_or] at g2
      by_cases c3 : t.un.1 = 3
      · rw [show decide (t.un.1 ≤ 3) = true from decide_eq_true (by omega), show decide (t.un.1 = 4) = false from decide_eq_false (by omega)] at g3
        simp only [cond_true, cond_false, Bool.or_eq_true, Bool.and_eq_true, decide_eq_true_eq] at g3
        have := g2 c3
        unfold Mg; omega
      · by_cases cl : t.un.1 ≤ 3
        · have c4 : ¬ t.un.1 = 4 := by omega
          simp [c3, cl, c4] at g1 g3
          unfold Mg
          have : t.un.2.2.2.length = 0 := by
            rw [List.length_eq_zero_iff]
            exact g3.1
          omega
        · by_cases c4 : t.un.1 = 4
          · simp [c3, cl, c4] at g1 g3
            unfold Mg; omega
          · simp [c3, cl, c4] at g1 g3
            unfold Mg; omega
    have hx : ∀ x ∈ t.un.2.2.2, D8 n x = some (IR (mi x)) := fun x hm => Sq n x (by have := RD hm; omega) (Nat.le_trans (Wl hm) hc)
    rw [K0 t.un.2.2.2.length (EW (D8 n) t) (fun k => ∃ e, t.un.2.2.2[k]? = some e ∧ IR (mi e) = false) false (fun k hk => by
      rw [EW, if_pos (by omega), Ds (List.getElem?_eq_getElem hk), Option.bind_some, hx _ (List.getElem_mem hk), Option.bind_some, AC (by omega)]
      cases hq : IR (mi t.un.2.2.2[k]) with
      | true => rw [if_neg (by decide), if_neg (fun hh => by rw [Ng hk, hq] at hh; cases hh)]; rfl
      | false => rw [if_pos (by decide), if_pos ((Ng hk).2 hq)]) (by rw [EW, if_neg (by omega)])]
    by_cases e : ∃ k, k < t.un.2.2.2.length ∧ ∃ e, t.un.2.2.2[k]? = some e ∧ IR (mi e) = false
    · rw [if_pos e]
      obtain ⟨x, hxm, hxf⟩ := PC.1 e
      have : IR (mi t) = false := by
        cases hh : IR (mi t) with
        | false => rfl
        | true => rw [((Rz t).1 hh).2 x hxm] at hxf; cases hxf
      rw [this]; rfl
    · rw [if_neg e]
      have : IR (mi t) = true := (Rz t).2 ⟨hfl, fun x hxm => by
        cases hh : IR (mi x) with
        | true => rfl
        | false => exact absurd (PC.2 ⟨x, hxm, hh⟩) e⟩
      rw [this]; rfl
theorem Sx {t : Tr24} (hc : t.cnt ≤ 1048576) : Hu t = some (decide (UL (mi t) 64 8)) := by
  have hcm := U2 t
  unfold Hu
  rw [show Ob t = some (IR (mi t)) from Di (g := fun n => D8 n t) (fun n r h => KG n t r h) (Sq (SizeOf.sizeOf t + 1) t (by omega) hc), Option.bind_some]
  by_cases hf : IR (mi t) = true
  case neg => rw [if_neg hf, Option.bind_some, decide_eq_false (fun h => hf h.1)]
  case pos =>
    rw [if_pos hf, Q5 hc, Option.bind_some]
    by_cases c : (t.cnt : Int) ≤ 64
    · rw [if_pos c, Ui hc, Option.bind_some, Option.bind_some]
      exact congrArg some (decide_eq_decide.2 ⟨fun h => ⟨hf, h, by omega⟩, fun h => h.2.1⟩)
    · rw [if_neg c, Option.bind_some, decide_eq_false (fun h => by have := h.2.2; omega)]
end Go.Proofs.YtpckgggmgijiiaaGreatDoor
