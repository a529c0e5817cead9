/- Layer 26: the document's answers. Conditions: none. -/
import Derived.Test.YtepfcpffbabgmaaDoorcM26B
import Derived.Test.YtepfcpffbabgmaaDoorcLD
namespace Go.Proofs.YtepfcpffbabgmaaDoor
set_option linter.unusedVariables false
set_option linter.unusedSimpArgs false
open Go Go.RowKit
def Q2 (b : Bool) (k f v : Int) (T F : List Tr31) : Tr31 :=
  if b = false then .mk k f v F else if k = 1 then .mk 2 0 0 [] else if k = 2 then .mk 1 0 0 [] else if k = 5 then .mk 6 0 0 T else if k = 6 then .mk 5 0 0 T else .mk 4 0 0 [.mk k f v F]
def R6 (b : Bool) (k f v : Int) (T F : List Tr31) : Tr31 :=
  if k = 4 ∧ 0 < F.length then ((if b = true then F else T).head?.getD (.mk 0 0 0 [])) else Q2 b k f v T F
def pn : Bool → Tr31 → Tr31
  | b, .mk k f v l => R6 b k f v (l.map (pn true)) (l.map (pn false))
theorem QX (b : Bool) (t : Tr31) : pn b t = R6 b t.un.1 t.un.2.1 t.un.2.2.1 (t.un.2.2.2.map (pn true)) (t.un.2.2.2.map (pn false)) := by cases t; rw [pn]; rfl
theorem MF {b : Bool} {t y : Tr31} {l : List Tr31} (hk : t.un.1 = 4) (hl : t.un.2.2.2 = y :: l) : pn b t = pn (!b) y := by
  rw [QX, hl]; unfold R6
  rw [if_pos ⟨hk, by simp⟩]
  cases b <;> rfl
theorem Jc {b : Bool} {t : Tr31} (h : ¬ (t.un.1 = 4 ∧ 0 < t.un.2.2.2.length)) : pn b t = Q2 b t.un.1 t.un.2.1 t.un.2.2.1 (t.un.2.2.2.map (pn true)) (t.un.2.2.2.map (pn false)) := by
  rw [QX]; unfold R6
  rw [if_neg (by rw [List.length_map]; exact h)]
theorem Oq {α : Type} {g h : α → Nat} : ∀ (l : List α), (∀ x ∈ l, g x ≤ 2 * h x) → (l.map g).sum ≤ 2 * (l.map h).sum
  | [], _ => Nat.le_refl _
  | x :: l, hx => by
    have h1 := hx x (List.mem_cons_self ..)
    have h2 := Oq (g := g) (h := h) l fun y hy => hx y (List.mem_cons_of_mem _ hy)
    rw [List.map_cons, List.sum_cons, List.map_cons, List.sum_cons]; omega
theorem N0 : ∀ (n : Nat) (t : Tr31), SizeOf.sizeOf t < n → ∀ b, (pn b t).cnt ≤ 2 * t.cnt
  | 0, t, h, _ => absurd h (Nat.not_lt_zero _)
  | n + 1, t, h, b => by
    have hcc := GI t
    by_cases c : t.un.1 = 4 ∧ 0 < t.un.2.2.2.length
    · cases hl : t.un.2.2.2 with
      | nil => rw [hl] at c; exact absurd c.2 (by simp)
      | cons y l =>
        have hm : y ∈ t.un.2.2.2 := by rw [hl]; exact List.mem_cons_self ..
        rw [MF c.1 hl]
        have := N0 n y (by have := G0 hm; omega) (!b)
        have := NQ hm
        omega
    · rw [Jc c]
      have key : ∀ b, (t.un.2.2.2.map fun x => (pn b x).cnt).sum ≤ 2 * (t.un.2.2.2.map Tr31.cnt).sum := fun b => Oq _ fun x hx => N0 n x (by have := G0 hx; omega) b
      have hT := key true
      have hF := key false
      have c1 : ∀ (k f v : Int) (l : List Tr31), (Tr31.mk k f v l).cnt = 1 + (l.map Tr31.cnt).sum := fun k f v l => GI (Tr31.mk k f v l)
      have c2 : ∀ b, ((t.un.2.2.2.map (pn b)).map Tr31.cnt).sum = (t.un.2.2.2.map fun x => (pn b x).cnt).sum := fun b => by rw [List.map_map]; rfl
      unfold Q2
      by_cases g0 : b = false
      · rw [if_pos g0, c1, c2]; omega
      rw [if_neg g0]
      by_cases g1 : t.un.1 = 1
      · rw [if_pos g1, c1]; simp; omega
      rw [if_neg g1]
      by_cases g2 : t.un.1 = 2
      · rw [if_pos g2, c1]; simp; omega
      rw [if_neg g2]
      by_cases g5 : t.un.1 = 5
      · rw [if_pos g5, c1, c2]; omega
      rw [if_neg g5]
      by_cases g6 : t.un.1 = 6
      · rw [if_pos g6, c1, c2]; omega
      rw [if_neg g6, c1, List.map_cons, List.sum_cons, c1, c2]; simp; omega
theorem QU {F : Tr31 → Option Tr31} {G : Tr31 → Tr31} {l : List Tr31} (hl : l.length ≤ 1000000000) (h : ∀ x ∈ l, F x = some (G x)) : Ed F l = some (l.map G) := by
  unfold Ed
  rw [Jo l hl G (CS F l) (fun k hk out ho => by
    rw [CS, if_pos (by omega), Cw (List.getElem?_eq_getElem hk), Option.bind_some, h _ (List.getElem_mem hk)]; rfl) (fun out => by rw [CS, if_neg (by omega)])]; rfl
theorem Ql {F : Tr31 → Option Tr31} {G : Tr31 → Tr31} {l : List Tr31} (hl : l.length ≤ 1000000000) (h : ∀ x ∈ l, F x = some (G x)) : DC F l = some (l.map G) := by
  unfold DC
  rw [Jo l hl G (Ct F l) (fun k hk out ho => by
    rw [Ct, if_pos (by omega), Cw (List.getElem?_eq_getElem hk), Option.bind_some, h _ (List.getElem_mem hk)]; rfl) (fun out => by rw [Ct, if_neg (by omega)])]; rfl
theorem Md {F : Tr31 → Option Tr31} {m : Nat} (hF : ∀ y, SizeOf.sizeOf y < m → y.cnt ≤ 1048576 → F y = some (pn false y)) : ∀ (k : Nat) (x : Tr31), SizeOf.sizeOf x < k → SizeOf.sizeOf x < m → x.cnt ≤ 1048576 → Cm F k x = some (pn true x)
  | 0, x, h, _, _ => absurd h (Nat.not_lt_zero _)
  | k + 1, x, h, hm, hc => by
    have hl := Qx x
    have hin : ∀ y ∈ x.un.2.2.2, Cm F k y = some (pn true y) := fun y hy => Md hF k y (by have := G0 hy; omega) (by have := G0 hy; omega) (Nat.le_trans (NQ hy) hc)
    show CI F (Cm F k) x = _
    unfold CI
    rw [QU (by omega) hin]
    by_cases g : x.un.1 = 4 ∧ 0 < x.un.2.2.2.length
    · cases hll : x.un.2.2.2 with
      | nil => rw [hll] at g; exact absurd g.2 (by simp)
      | cons y l =>
        have hy : y ∈ x.un.2.2.2 := by rw [hll]; exact List.mem_cons_self ..
        rw [MF g.1 hll, if_neg (by omega), if_neg (by omega), decide_eq_true g.1, decide_eq_true (show (0 : Int) < ((y :: l).length : Int) by simp only [List.length_cons]; omega), if_pos (by rfl), show ix (y :: l) 0 = some y from Cw (k := 0) rfl, Option.bind_some, hF y (by have := G0 hy; omega) (Nat.le_trans (NQ hy) hc)]; rfl
    · rw [Jc g]
      unfold Q2
      rw [if_neg (show ¬ true = false by decide)]
      by_cases g1 : x.un.1 = 1
      · rw [if_pos g1, if_pos g1]; try rfl
      rw [if_neg g1, if_neg g1]
      by_cases g2 : x.un.1 = 2
      · rw [if_pos g2, if_pos g2]; try rfl
      rw [if_neg g2, if_neg g2, if_neg (by simp only [Bool.and_eq_true, decide_eq_true_eq]; omega)]
      by_cases g5 : x.un.1 = 5
      · rw [if_pos g5, if_pos g5]; rfl
      rw [if_neg g5, if_neg g5]
      by_cases g6 : x.un.1 = 6
      · rw [if_pos g6, if_pos g6]; rfl
      rw [if_neg g6, if_neg g6, hF x hm hc, Jc g]; rfl
theorem NU : ∀ (n : Nat) (t : Tr31), SizeOf.sizeOf t < n → t.cnt ≤ 1048576 → CY n t = some (pn false t)
  | 0, t, h, _ => absurd h (Nat.not_lt_zero _)
  | n + 1, t, h, hc => by
    have hl := Qx t
    show Di (CY n) t = _
    unfold Di
    by_cases g : t.un.1 = 4 ∧ 0 < t.un.2.2.2.length
    · cases hll : t.un.2.2.2 with
      | nil => rw [hll] at g; exact absurd g.2 (by simp)
      | cons y l =>
        have hy : y ∈ t.un.2.2.2 := by rw [hll]; exact List.mem_cons_self ..
        have hn : E1 (CY n) y = some (pn true y) := CL (g := fun k => Cm (CY n) k y) (fun k r h => DW (fun _ => Le.rfl' _) k y r h) (Md (NU n) (SizeOf.sizeOf y + 1) y (by omega) (by have := G0 hy; omega) (Nat.le_trans (NQ hy) hc))
        rw [MF g.1 hll, decide_eq_true g.1, decide_eq_true (show (0 : Int) < ((y :: l).length : Int) by simp only [List.length_cons]; omega), if_pos (by rfl), show ix (y :: l) 0 = some y from Cw (k := 0) rfl, Option.bind_some, hn]; rfl
    · rw [Jc g, if_neg (by simp only [Bool.and_eq_true, decide_eq_true_eq]; omega), Ql (by omega) (G := pn false) fun x hx => NU n x (by have := G0 hx; omega) (Nat.le_trans (NQ hx) hc)]; rfl
theorem QQ {t : Tr31} (hc : t.cnt ≤ 1048576) : GY t = some (pn false t) := CL (g := fun n => CY n t) (fun n r h => Gr n t r h) (NU (SizeOf.sizeOf t + 1) t (by omega) hc)
def ps (b : Bool) (p : Tr24) : Tr24 := th (pn b (mi p))
theorem Ro (b : Bool) (l : List Tr24) : ((l.map mi).map (pn b)).map th = l.map (ps b) := by rw [List.map_map, List.map_map]; rfl
theorem N8 {b : Bool} {t y : Tr24} {l : List Tr24} (hk : t.un.1 = 4) (hl : t.un.2.2.2 = y :: l) : ps b t = ps (!b) y := by
  unfold ps
  rw [MF (t := mi t) (y := mi y) (l := l.map mi) (by rw [Hb]; exact hk) (by rw [Hb, hl]; rfl)]
theorem On {b : Bool} {t : Tr24} (h : ¬ (t.un.1 = 4 ∧ 0 < t.un.2.2.2.length)) : ps b t = th (Q2 b t.un.1 t.un.2.1 t.un.2.2.1 ((t.un.2.2.2.map mi).map (pn true)) ((t.un.2.2.2.map mi).map (pn false))) := by
  unfold ps
  rw [Jc (by rw [Hb]; simpa using h), Hb]
theorem KA (k f v : Int) (l : List Tr31) : th (.mk k f v l) = Tr24.of (k, f, v, l.map th) := PV _
theorem loop_copy' {α β : Type} (l : List α) (hl : l.length ≤ 1000000000) (f : α → β) (step : Int × List β → Option ((Int × List β) ⊕ List β))
    (hs : ∀ (k : Nat) (hk : k < l.length) (out : List β), out.length = k → step ((k : Int), out) = (F7 out [f l[k]]).bind fun x => some (.inl (A1 ((k : Int) + 1), x)))
    (he : ∀ out, step ((l.length : Int), out) = some (.inr out)) : A3 step (0, []) = some (l.map f) := by
  obtain ⟨s, h1, h2⟩ := EF l.length (fun (out : List β) (k : Nat) => ((k : Int), out)) step id (fun out k => out = (l.take k).map f)
    (fun out k hk hI => ⟨out ++ [f l[k]], by
      rw [hs k hk out (by rw [hI]; simp; omega), DA (by rw [hI]; simp; omega), Option.bind_some, AE (by omega)]; rfl, by
      show out ++ [f l[k]] = (l.take (k + 1)).map f
      rw [hI, List.take_succ_eq_append_getElem hk, List.map_append]; rfl⟩) (fun out _ => he out) [] (by simp)
  have h3 : A3 step (0, []) = some (id s) := h2
  rw [h3, h1, List.take_length]; rfl
theorem Kb : ∀ (n : Nat) (t : Tr24), t.cnt < n → t.cnt ≤ 1048576 → Fo (mi t) = true → CV n t = some (ps false t)
  | 0, t, h, _, _ => absurd h (Nat.not_lt_zero _)
  | n + 1, t, h, hc, hf => by
    have hl := Qt t
    have hcc := I3 t
    obtain ⟨hfl, hfx⟩ := (Hj t).1 hf
    show En (CV n) t = _
    unfold En
    by_cases g : t.un.1 = 4
    · obtain ⟨y, hy⟩ : ∃ y, t.un.2.2.2 = [y] := List.length_eq_one_iff.1 (by unfold Ev at hfl; omega)
      have hym : y ∈ t.un.2.2.2 := by rw [hy]; exact List.mem_cons_self ..
      have hyc : t.cnt = 1 + y.cnt := by rw [hcc, hy]; simp
      have hly := Qt y
      have hcy := I3 y
      obtain ⟨hyl, hyx⟩ := (Hj y).1 (hfx y hym)
      rw [if_pos g, hy, show ix [y] 0 = some y from Cw (k := 0) rfl, Option.bind_some, N8 g hy]
      by_cases g4 : y.un.1 = 4
      · obtain ⟨z, hz⟩ : ∃ z, y.un.2.2.2 = [z] := List.length_eq_one_iff.1 (by unfold Ev at hyl; omega)
        have hzm : z ∈ y.un.2.2.2 := by rw [hz]; exact List.mem_cons_self ..
        have hzc := Qn hzm
        rw [if_neg (by omega), if_neg (by omega), if_pos g4, hz, show ix [z] 0 = some z from Cw (k := 0) rfl, Option.bind_some, N8 g4 hz, Kb n z (by omega) (by omega) (hyx z hzm)]; rfl
      rw [On (fun hh => g4 hh.1)]
      show _ = some (th (Q2 true _ _ _ _ _))
      unfold Q2
      rw [if_neg (show ¬ true = false by decide)]
      by_cases g1 : y.un.1 = 1
      · rw [if_pos g1, if_pos g1, KA]; rfl
      rw [if_neg g1, if_neg g1]
      by_cases g2 : y.un.1 = 2
      · rw [if_pos g2, if_pos g2, KA]; rfl
      rw [if_neg g2, if_neg g2, if_neg g4]
      by_cases g3 : y.un.1 = 3
      · have hy0 : y.un.2.2.2 = [] := List.length_eq_zero_iff.1 (by unfold Ev at hyl; omega)
        rw [if_pos g3, if_neg (by omega), if_neg (by omega), KA, List.map_cons, KA, hy0]
        have e1 : Tr24.of (y.un.1, y.un.2.1, y.un.2.2.1, ([] : List Tr24)) = y := by rw [← hy0]; exact PP y
        have e2 : Tr24.of (4, 0, 0, [y]) = t := by
          have h4 := (hfl.2.2.1 (by omega))
          conv => rhs; rw [← PP t]
          show _ = Tr24.of (t.un.1, t.un.2.1, t.un.2.2.1, t.un.2.2.2)
          rw [g, h4.1, h4.2, hy]
        show some t = some (Tr24.of (4, 0, 0, [Tr24.of (y.un.1, y.un.2.1, y.un.2.2.1, [])]))
        rw [e1, e2]
      have hnot : ∀ x ∈ y.un.2.2.2, CV n (Tr24.of (4, 0, 0, ([x] : List Tr24))) = some (ps true x) := fun x hx => by
        have hxs := Jm (g := Tr24.cnt) hx
        have hcx : (Tr24.of (4, 0, 0, ([x] : List Tr24))).cnt = 1 + x.cnt := by rw [I3]; simp [Tr24.of, Tr24.un]
        rw [Kb n _ (by omega) (by omega) ((Hj _).2 ⟨by unfold Ev; show 1 ≤ (4 : Int) ∧ _; simp [Tr24.of, Tr24.un], fun z hz => by
          have hz' : z ∈ [x] := hz
          rw [List.mem_singleton.1 hz']; exact hyx x hx⟩), N8 (t := Tr24.of (4, 0, 0, ([x] : List Tr24))) (y := x) (l := []) rfl rfl]; rfl
      have hloop : A3 (Dl (CV n) y) (0, []) = some (y.un.2.2.2.map (ps true)) := loop_copy' y.un.2.2.2 (by omega) (ps true) (Dl (CV n) y) (fun k hk out ho => by
        rw [Dl, if_pos (by omega), Cw (List.getElem?_eq_getElem hk), Option.bind_some, hnot _ (List.getElem_mem hk)]; rfl) (fun out => by rw [Dl, if_neg (by omega)])
      rw [if_neg g3, hloop]
      by_cases g6 : y.un.1 = 6
      · rw [if_pos g6, if_neg (by omega), if_pos g6, KA, Ro]; rfl
      · rw [if_neg g6, if_pos (by unfold Ev at hyl; omega), KA, Ro]; rfl
    · have hloop : A3 (C8 (CV n) t) (0, []) = some (t.un.2.2.2.map (ps false)) := loop_copy' t.un.2.2.2 (by omega) (ps false) (C8 (CV n) t) (fun k hk out ho => by
        have hxs := Jm (g := Tr24.cnt) (List.getElem_mem hk)
        rw [C8, if_pos (by omega), Cw (List.getElem?_eq_getElem hk), Option.bind_some, Kb n _ (by omega) (by omega) (hfx _ (List.getElem_mem hk))]; rfl) (fun out => by rw [C8, if_neg (by omega)])
      rw [if_neg g, On (fun hh => g hh.1)]
      show (A3 (C8 (CV n) t) (0, [])).bind _ = _
      rw [hloop]
      unfold Q2
      rw [if_pos rfl, KA, Ro]; rfl
theorem Pz {t : Tr24} (hc : t.cnt ≤ 1048576) (hf : Fo (mi t) = true) : Li t = some (ps false t) := CL (g := fun n => CV n t) (fun n r h => Io n t r h) (Kb (t.cnt + 1) t (by omega) hc hf)
theorem QA (f : Int) (t : Tr24) : Ft f (mi t) = (if t.un.1 = 3 ∧ t.un.2.1 = f then [t.un.2.2.1] else []) ++ ((t.un.2.2.2.map fun x => Ft f (mi x)).flatten) := by rw [Mu, Hb]; show _ ++ ((t.un.2.2.2.map mi).map (Ft f)).flatten = _; rw [List.map_map]; rfl
theorem IU {f v : Int} {t : Tr24} : v ∈ Ft f (mi t) ↔ (t.un.1 = 3 ∧ t.un.2.1 = f ∧ t.un.2.2.1 = v) ∨ ∃ x ∈ t.un.2.2.2, v ∈ Ft f (mi x) := by
  rw [QA, List.mem_append]
  refine or_congr ?_ ?_
  · by_cases c : t.un.1 = 3 ∧ t.un.2.1 = f
    · rw [if_pos c, List.mem_singleton]
      exact ⟨fun h => ⟨c.1, c.2, h.symm⟩, fun h => h.2.2.symm⟩
    · rw [if_neg c]
      exact ⟨fun h => absurd h (List.not_mem_nil), fun h => absurd ⟨h.1, h.2.1⟩ c⟩
  · rw [List.mem_flatten]
    constructor
    · rintro ⟨l, hl, hv⟩
      obtain ⟨x, hx, rfl⟩ := List.mem_map.1 hl
      exact ⟨x, hx, hv⟩
    · rintro ⟨x, hx, hv⟩
      exact ⟨_, List.mem_map.2 ⟨x, hx, rfl⟩, hv⟩
theorem PZ (f v : Int) : ∀ (n : Nat) (t : Tr24), SizeOf.sizeOf t < n → t.cnt ≤ 1048576 → D0 n t f v = some (decide (v ∈ Ft f (mi t)))
  | 0, t, h, _ => absurd h (Nat.not_lt_zero _)
  | n + 1, t, h, hc => by
    have hl := Qt t
    show Eh (D0 n) t f v = _
    unfold Eh
    by_cases g : t.un.1 = 3 ∧ t.un.2.1 = f ∧ t.un.2.2.1 = v
    · rw [if_pos (by simp [g.1, g.2.1, g.2.2]), decide_eq_true (IU.2 (.inl g))]
    · rw [if_neg (by simpa using g), LT t.un.2.2.2 (by omega) (Ef (D0 n) t f v) (fun x => v ∈ Ft f (mi x)) true (fun k hk => by
        have hm := List.getElem_mem hk
        rw [Ef, if_pos (by omega), Cw (List.getElem?_eq_getElem hk), Option.bind_some, PZ f v n _ (by have := Kl hm; omega) (Nat.le_trans (Qn hm) hc), Option.bind_some]
        by_cases q : v ∈ Ft f (mi t.un.2.2.2[k])
        · rw [decide_eq_true q, if_pos q]; rfl
        · rw [decide_eq_false q, if_neg q]; rfl) (by rw [Ef, if_neg (by omega)])]
      by_cases q : ∃ x ∈ t.un.2.2.2, v ∈ Ft f (mi x)
      · rw [if_pos q, decide_eq_true (IU.2 (.inr q))]; rfl
      · rw [if_neg q, decide_eq_false (fun hh => (IU.1 hh).elim g q)]; rfl
theorem QK {t : Tr24} (hc : t.cnt ≤ 1048576) (f v : Int) : Lr t f v = some (decide (v ∈ Ft f (mi t))) := CL (g := fun n => D0 n t f v) (fun n r h => Ik n t f v r h) (PZ f v (SizeOf.sizeOf t + 1) t (by omega) hc)
def LA (f : Int) (t : Tr24) (i : Nat) : List Int := ((List.range i).map fun (j : Nat) => (j : Int)).filter fun x => decide (x ∈ Ft f (mi t))
theorem Pi (f : Int) (t : Tr24) (i : Nat) : LA f t (i + 1) = LA f t i ++ if (i : Int) ∈ Ft f (mi t) then [(i : Int)] else [] := by
  unfold LA
  rw [List.range_succ, List.map_append, List.filter_append]
  congr 1
  show List.filter _ [(i : Int)] = _
  by_cases c : (i : Int) ∈ Ft f (mi t)
  · rw [if_pos c, List.filter_cons_of_pos (by simpa using c)]; rfl
  · rw [if_neg c, List.filter_cons_of_neg (by simpa using c)]; rfl
theorem M9 (f : Int) (t : Tr24) (i : Nat) : (LA f t i).length ≤ i := by
  unfold LA
  have := List.length_filter_le (fun x => decide (x ∈ Ft f (mi t))) ((List.range i).map fun (j : Nat) => (j : Int))
  simpa using this
theorem Km {t : Tr24} (hc : t.cnt ≤ 1048576) (f : Int) : FH t f = some (LA f t ((CC f).toNat + 1)) := by
  have htb := IC f
  unfold FH
  obtain ⟨o, h1, h2⟩ := EF ((CC f).toNat + 1) (fun (o : List Int) (i : Nat) => (o, (i : Int))) (EK t f) id (fun o i => o = LA f t i)
    (fun o i hi ho => by
      have hvl := M9 f t i
      refine ⟨LA f t (i + 1), ?_, rfl⟩
      rw [EK, if_pos (by omega), QK hc, Option.bind_some, AE (by omega), Pi, ho]
      by_cases c : (i : Int) ∈ Ft f (mi t)
      · rw [decide_eq_true c, if_pos rfl, if_pos c, DA (by simp; omega)]; rfl
      · rw [decide_eq_false c, if_neg (by decide), if_neg c, List.append_nil]; rfl)
    (fun o _ => by rw [EK, if_neg (by omega)]; rfl) [] rfl
  have h2' : A3 (EK t f) ([], 0) = some o := h2
  rw [h2', h1]; rfl
theorem OS {f v : Int} : ∀ (n : Nat) (t : Tr24), SizeOf.sizeOf t < n → Fo (mi t) = true → v ∈ Ft f (mi t) → 0 ≤ v ∧ v ≤ CC f
  | 0, t, h, _, _ => absurd h (Nat.not_lt_zero _)
  | n + 1, t, h, hf, hv => by
    obtain ⟨h1, h2⟩ := (Hj t).1 hf
    rcases IU.1 hv with ⟨a, b, c⟩ | ⟨x, hx, hxv⟩
    · have := h1.2.2.2.1 a
      rw [b, c] at this
      exact this.2.2
    · exact OS n x (by have := Kl hx; omega) (h2 x hx) hxv
theorem O1 {t : Tr24} (hc : t.cnt ≤ 1000) (hf : Fo (mi t) = true) (f : Int) : Ff (mi t) f = FH t f := by
  have htb := IC f
  have hm := Of t
  obtain ⟨V, v1, v2, v3, v4⟩ := O0 (t := mi t) (by omega) f
  rw [v1, Km (by omega)]
  congr 1
  refine NK v2 ?_ fun x => ?_
  · unfold LA
    refine List.Pairwise.filter _ ?_
    rw [List.pairwise_map]
    exact List.pairwise_lt_range.imp fun h => by omega
  · unfold LA
    rw [v4, List.mem_filter, decide_eq_true_eq]
    refine ⟨fun h => ⟨?_, h⟩, fun h => h.2⟩
    have := OS (SizeOf.sizeOf t + 1) t (by omega) hf h
    exact List.mem_map.2 ⟨x.toNat, List.mem_range.2 (by omega), by omega⟩
theorem Rl (l : List Int) (hl : l.length ≤ 1000000) : HF l l = some true := by
  unfold HF
  rw [if_neg (by simp), LT l (by omega) (FX l l) (fun _ => False) false (fun k hk => by
    rw [FX, if_pos (by omega), Cw (List.getElem?_eq_getElem hk), Option.bind_some, Option.bind_some, if_neg (by simp), if_neg id]) (by rw [FX, if_neg (by omega)]), if_neg (by simp)]; rfl
def wr (k : Int) (s : List UInt8) : List UInt8 := if k = 5 ∨ k = 6 then [40] ++ s ++ [41] else s
def RE (k f v : Int) (L : List (List UInt8)) : List UInt8 :=
  if k = 1 then [116, 114, 117, 101] else if k = 2 then [102, 97, 108, 115, 101] else if k = 3 then CP f ++ [32, 61, 32] ++ Lib.itoa v else if k = 4 then [110, 111, 116, 32] ++ Lib.join L []
  else if k = 5 then Lib.join L [32, 97, 110, 100, 32] else if k = 6 then Lib.join L [32, 111, 114, 32] else [63]
def tx : Tr31 → List UInt8
  | .mk k f v l => RE k f v (l.map fun x => wr x.un.1 (tx x))
abbrev wx (x : Tr31) : List UInt8 := wr x.un.1 (tx x)
theorem P8 (t : Tr31) : tx t = RE t.un.1 t.un.2.1 t.un.2.2.1 (t.un.2.2.2.map wx) := by cases t; rw [tx]; rfl
theorem JE (sep : List UInt8) (hs : sep.length ≤ 5) : ∀ (r : List (List UInt8)), (Lib.joinTail sep r).length ≤ (r.map fun s => s.length + 5).sum
  | [] => Nat.le_refl _
  | y :: r => by
    have := JE sep hs r
    unfold Lib.joinTail at this ⊢
    rw [List.map_cons, List.flatten_cons, List.length_append, List.length_append, List.map_cons, List.sum_cons]; omega
theorem Ou {sep : List UInt8} (hs : sep.length ≤ 5) : ∀ (r : List (List UInt8)), (Lib.join r sep).length ≤ (r.map fun s => s.length + 5).sum
  | [] => by rw [Lib.join_nil]; exact Nat.zero_le _
  | y :: r => by
    have := JE sep hs r
    rw [Lib.join_cons, List.length_append, List.map_cons, List.sum_cons]; omega
theorem N9 : ∀ (l : List Tr31), (∀ x ∈ l, (tx x).length + 8 ≤ 40 * x.cnt) → ((l.map wx).map fun s => s.length + 5).sum ≤ 40 * (l.map Tr31.cnt).sum
  | [], _ => Nat.le_refl _
  | x :: l, h => by
    have h1 := h x (List.mem_cons_self ..)
    have h2 := N9 l fun y hy => h y (List.mem_cons_of_mem _ hy)
    have h3 : (wx x).length ≤ (tx x).length + 2 := by
      show (wr _ _).length ≤ _
      unfold wr; split <;> simp
    rw [List.map_cons, List.map_cons, List.sum_cons, List.map_cons, List.sum_cons]; omega
theorem Kg (f : Int) : (CP f).length ≤ 6 := by unfold CP; split; (· decide); split; (· decide); split; (· decide); split; (· decide); split; (· decide); split <;> decide
theorem IJ : ∀ (n : Nat) (t : Tr31), SizeOf.sizeOf t < n → Fo t = true → (tx t).length + 8 ≤ 40 * t.cnt
  | 0, t, h, _ => absurd h (Nat.not_lt_zero _)
  | n + 1, t, h, hf => by
    obtain ⟨h1, h2⟩ := (GW t).1 hf
    have hcc := GI t
    have hs := N9 t.un.2.2.2 fun x hx => IJ n x (by have := G0 hx; omega) (h2 x hx)
    have j := fun sep hsl => Ou (sep := sep) hsl (t.un.2.2.2.map wx)
    rw [P8]; unfold RE
    by_cases g1 : t.un.1 = 1
    · rw [if_pos g1]; simp; omega
    rw [if_neg g1]
    by_cases g2 : t.un.1 = 2
    · rw [if_pos g2]; simp; omega
    rw [if_neg g2]
    by_cases g3 : t.un.1 = 3
    · have := h1.2.2.2.1 g3
      have htb := IC t.un.2.1
      have := Kk (n := t.un.2.2.1) (by omega)
      have := Kg t.un.2.1
      rw [if_pos g3]; simp; omega
    rw [if_neg g3]
    by_cases g4 : t.un.1 = 4
    · have hl1 := h1.2.2.2.2.2.1 g4
      obtain ⟨y, hy⟩ := List.length_eq_one_iff.1 hl1
      have hj : Lib.join (t.un.2.2.2.map wx) [] = wx y := by rw [hy]; exact Lib.join_one _ _
      have h5 := IJ n y (by have := G0 (t := t) (x := y) (by rw [hy]; exact List.mem_cons_self ..); omega) (h2 y (by rw [hy]; exact List.mem_cons_self ..))
      have h6 : (wx y).length ≤ (tx y).length + 2 := by
        show (wr _ _).length ≤ _
        unfold wr; split <;> simp
      have h7 : t.cnt = 1 + y.cnt := by rw [hcc, hy]; simp
      rw [if_pos g4, hj, List.length_append]
      simp only [List.length_cons, List.length_nil]; omega
    rw [if_neg g4]
    by_cases g5 : t.un.1 = 5
    · have := j [32, 97, 110, 100, 32] (by decide)
      rw [if_pos g5]; omega
    rw [if_neg g5]
    by_cases g6 : t.un.1 = 6
    · have := j [32, 111, 114, 32] (by decide)
      rw [if_pos g6]; omega
    rw [if_neg g6]; simp; omega
theorem Jk {F : Tr31 → Option (List UInt8)} {l : List Tr31} (hl : l.length ≤ 1000000) (hF : ∀ x ∈ l, F x = some (tx x)) (hb : ∀ x ∈ l, (tx x).length ≤ 1000000) {sep : List UInt8} (hj : (Lib.join (l.map wx) sep).length ≤ 1000000000) : DT F l sep = some (Lib.join (l.map wx) sep) := by
  unfold DT
  rw [Jo l (by omega) wx (CR F l) (fun k hk out ho => by
    have hm := List.getElem_mem hk
    have hb' := hb _ hm
    rw [CR, if_pos (by omega), Cw (List.getElem?_eq_getElem hk), Option.bind_some, hF _ hm, Option.bind_some]
    show _ = (F7 out [wr l[k].un.1 (tx l[k])]).bind _
    unfold wr
    by_cases c : l[k].un.1 = 5 ∨ l[k].un.1 = 6
    · rw [if_pos (by simpa using c), if_pos c, DA (by simp; omega), Option.bind_some, DA (by simp; omega)]; rfl
    · rw [if_neg (by simpa using c), if_neg c]; rfl) (fun out => by rw [CR, if_neg (by omega)]), Option.bind_some]
  unfold M7
  rw [if_pos ⟨by rw [List.length_map]; omega, hj⟩]; rfl
theorem OV : ∀ (n : Nat) (t : Tr31), SizeOf.sizeOf t < n → t.cnt ≤ 1000 → Fo t = true → C9 n t = some (tx t)
  | 0, t, h, _, _ => absurd h (Nat.not_lt_zero _)
  | n + 1, t, h, hc, hf => by
    obtain ⟨h1, h2⟩ := (GW t).1 hf
    have hl := Qx t
    have hlen := IJ (SizeOf.sizeOf t + 1) t (by omega) hf
    have hF : ∀ x ∈ t.un.2.2.2, C9 n x = some (tx x) := fun x hx => OV n x (by have := G0 hx; omega) (by have := NQ hx; omega) (h2 x hx)
    have hb : ∀ x ∈ t.un.2.2.2, (tx x).length ≤ 1000000 := fun x hx => by
      have := IJ (SizeOf.sizeOf x + 1) x (by omega) (h2 x hx)
      have := NQ hx
      omega
    show Dj (C9 n) t = _
    unfold Dj
    rw [P8] at hlen ⊢
    unfold RE at hlen ⊢
    by_cases g1 : t.un.1 = 1
    · rw [if_pos g1, if_pos g1]
    rw [if_neg g1, if_neg g1]
    rw [if_neg g1] at hlen
    by_cases g2 : t.un.1 = 2
    · rw [if_pos g2, if_pos g2]
    rw [if_neg g2, if_neg g2]
    rw [if_neg g2] at hlen
    by_cases g3 : t.un.1 = 3
    · have := h1.2.2.2.1 g3
      have htb := IC t.un.2.1
      have h5 := Kk (n := t.un.2.2.1) (by omega)
      have h6 := Kg t.un.2.1
      rw [if_pos g3, if_pos g3, DA (by simp; omega), Option.bind_some, P2 (by omega), Option.bind_some, DA (by simp; omega)]; rfl
    rw [if_neg g3, if_neg g3]
    rw [if_neg g3] at hlen
    by_cases g4 : t.un.1 = 4
    · rw [if_pos g4] at hlen
      rw [List.length_append] at hlen
      rw [if_pos g4, if_pos g4, Jk (by omega) hF hb (by omega), Option.bind_some, DA (by simp only [List.length_cons, List.length_nil] at hlen ⊢; omega)]; rfl
    rw [if_neg g4, if_neg g4]
    rw [if_neg g4] at hlen
    by_cases g5 : t.un.1 = 5
    · rw [if_pos g5] at hlen
      rw [if_pos g5, if_pos g5, Jk (by omega) hF hb (by omega)]; rfl
    rw [if_neg g5, if_neg g5]
    rw [if_neg g5] at hlen
    by_cases g6 : t.un.1 = 6
    · rw [if_pos g6] at hlen
      rw [if_pos g6, if_pos g6, Jk (by omega) hF hb (by omega)]; rfl
    rw [if_neg g6, if_neg g6]
theorem Pq {t : Tr31} (hc : t.cnt ≤ 1000) (hf : Fo t = true) : Gg t = some (tx t) := CL (g := fun n => C9 n t) (fun n r h => Gi n t r h) (OV (SizeOf.sizeOf t + 1) t (by omega) hc hf)
theorem O3 {n : Int} (h : i64 n) : IB n = some (Lib.itoa n) :=
  Pa (st := FP) (run := Fs) (fun _ => rfl) (fun _ _ => rfl) (fun _ _ => rfl) n h
theorem QT {f : Int} (h : 0 ≤ f ∧ f ≤ 5) : IV f = some (CP f) := by
  have : f = 0 ∨ f = 1 ∨ f = 2 ∨ f = 3 ∨ f = 4 ∨ f = 5 := by omega
  rcases this with rfl | rfl | rfl | rfl | rfl | rfl <;> rfl
theorem Pb (sep y : List UInt8) : ∀ L : List (List UInt8), Lib.join (L ++ [y]) sep = (if 0 < L.length then Lib.join L sep ++ sep else []) ++ y
  | [] => by rw [if_neg (by simp)]; exact Lib.join_one _ _
  | x :: r => by
    rw [if_pos (by simp), List.cons_append, Lib.join_cons, Lib.join_cons]
    unfold Lib.joinTail
    rw [List.map_append, List.flatten_append]
    simp [List.append_assoc]
theorem LE (sep : List UInt8) (L : List (List UInt8)) (i : Nat) : (Lib.join (L.take i) sep).length ≤ (Lib.join L sep).length := by
  cases L with
  | nil => simp [Lib.join_nil]
  | cons x r =>
    cases i with
    | zero => rw [List.take_zero, Lib.join_nil]; exact Nat.zero_le _
    | succ i =>
      have := Lib.joinTail_take_le sep r i
      rw [List.take_succ_cons, Lib.join_cons, Lib.join_cons, List.length_append, List.length_append]; omega
theorem OD : ∀ (n : Nat) (t : Tr24), SizeOf.sizeOf t < n → t.cnt ≤ 1000 → Fo (mi t) = true → Df n t = some (tx (mi t))
  | 0, t, h, _, _ => absurd h (Nat.not_lt_zero _)
  | n + 1, t, h, hc, hf => by
    obtain ⟨h1, h2⟩ := (Hj t).1 hf
    have hl := Qt t
    have hm := Of t
    have hlen := IJ (SizeOf.sizeOf (mi t) + 1) (mi t) (by omega) hf
    have hF : ∀ x ∈ t.un.2.2.2, Df n x = some (tx (mi x)) := fun x hx => OD n x (by have := Kl hx; omega) (by have := Qn hx; omega) (h2 x hx)
    have hb : ∀ x ∈ t.un.2.2.2, (tx (mi x)).length ≤ 1000000 := fun x hx => by
      have := IJ (SizeOf.sizeOf (mi x) + 1) (mi x) (by omega) (h2 x hx)
      have := Qn hx
      have := Of x
      omega
    have hloop : ∀ sep : List UInt8, sep.length ≤ 5 → A3 (Db (Df n) t sep) (([] : List UInt8), 0) = some (Lib.join (t.un.2.2.2.map fun x => wx (mi x)) sep) := fun sep hsep => by
      have hjb := Ou hsep (t.un.2.2.2.map fun x => wx (mi x))
      have hjs := N9 (t.un.2.2.2.map mi) fun x hx => by
        obtain ⟨y, hy, rfl⟩ := List.mem_map.1 hx
        exact IJ (SizeOf.sizeOf (mi y) + 1) (mi y) (by omega) (h2 y hy)
      have hsum := GI (mi t)
      have hmm : (mi t).un.2.2.2 = t.un.2.2.2.map mi := by rw [Hb]
      rw [hmm] at hsum
      have hmw : (t.un.2.2.2.map mi).map wx = t.un.2.2.2.map fun x => wx (mi x) := by rw [List.map_map]; rfl
      rw [hmw] at hjs
      obtain ⟨o, i1, i2⟩ := EF t.un.2.2.2.length (fun (o : List UInt8) (i : Nat) => (o, (i : Int))) (Db (Df n) t sep) id (fun o i => o = Lib.join ((t.un.2.2.2.map fun x => wx (mi x)).take i) sep)
        (fun o i hi ho => by
          have hmem := List.getElem_mem hi
          have hb' := hb _ hmem
          have hmono := LE sep (t.un.2.2.2.map fun x => wx (mi x)) i
          have hiL : i < (t.un.2.2.2.map fun x => wx (mi x)).length := by rw [List.length_map]; exact hi
          have hgt : (t.un.2.2.2.map fun x => wx (mi x))[i] = wx (mi t.un.2.2.2[i]) := by rw [List.getElem_map]
          have hw : (wx (mi t.un.2.2.2[i])).length ≤ (tx (mi t.un.2.2.2[i])).length + 2 := by
            show (wr _ _).length ≤ _
            unfold wr; split <;> simp
          have hk := ((Hj _).1 (h2 _ hmem)).1
          have hk1 : (mi t.un.2.2.2[i]).un.1 = t.un.2.2.2[i].un.1 := by rw [Hb]
          refine ⟨Lib.join ((t.un.2.2.2.map fun x => wx (mi x)).take (i + 1)) sep, ?_, rfl⟩
          have e1 : ((some t.un.2.2.2[i]).bind fun x12 => (if 4 < x12.un.1 then (F7 ([40] : List UInt8) (tx (mi t.un.2.2.2[i]))).bind fun x13 => (F7 x13 ([41] : List UInt8)).bind fun x14 => some x14 else some (tx (mi t.un.2.2.2[i])))) = some (wx (mi t.un.2.2.2[i])) := by
            rw [Option.bind_some]
            show _ = some (wr _ _)
            unfold wr
            rw [hk1]
            by_cases c : 4 < t.un.2.2.2[i].un.1
            · rw [if_pos c, if_pos (by unfold Ev at hk; omega), DA (by simp; omega), Option.bind_some, DA (by simp; omega)]; rfl
            · rw [if_neg c, if_neg (by omega)]
          rw [Db, if_pos (by omega), Cw (List.getElem?_eq_getElem hi), Option.bind_some, hF _ hmem, Option.bind_some, e1, Option.bind_some, List.take_succ_eq_append_getElem hiL, hgt, Pb, ← ho]
          have hol : o.length ≤ 1000000 := by rw [ho]; omega
          have htl : ((t.un.2.2.2.map fun x => wx (mi x)).take i).length = i := by rw [List.length_take]; omega
          rw [htl]
          by_cases c : 0 < i
          · rw [if_pos (show (0 : Int) < (i : Int) by omega), if_pos c, DA (by omega), Option.bind_some, Option.bind_some, DA (by rw [List.length_append]; omega), Option.bind_some, AE (by omega)]; rfl
          · have h0 : i = 0 := by omega
            have ho' : o = [] := by rw [ho, h0, List.take_zero, Lib.join_nil]
            rw [if_neg (show ¬ (0 : Int) < (i : Int) by omega), if_neg c, Option.bind_some, ho', DA (by simp; omega), Option.bind_some, AE (by omega)]; rfl)
        (fun o _ => by rw [Db, if_neg (by omega)]; rfl) [] (by rw [List.take_zero, Lib.join_nil])
      have i2' : A3 (Db (Df n) t sep) (([] : List UInt8), 0) = some o := i2
      rw [i2', i1, List.take_of_length_le (by rw [List.length_map]; omega)]
    have hmw : (t.un.2.2.2.map mi).map wx = t.un.2.2.2.map fun x => wx (mi x) := by rw [List.map_map]; rfl
    show Ep (Df n) t = _
    unfold Ep
    rw [P8, Hb] at hlen ⊢
    dsimp only at hlen ⊢
    rw [hmw] at hlen ⊢
    unfold RE at hlen ⊢
    by_cases g1 : t.un.1 = 1
    · rw [if_pos g1, if_pos g1]
    rw [if_neg g1, if_neg g1]
    rw [if_neg g1] at hlen
    by_cases g2 : t.un.1 = 2
    · rw [if_pos g2, if_pos g2]
    rw [if_neg g2, if_neg g2]
    rw [if_neg g2] at hlen
    by_cases g3 : t.un.1 = 3
    · have h4 := h1.2.2.2.1 g3
      have htb := IC t.un.2.1
      have h5 := Kk (n := t.un.2.2.1) (by omega)
      have h6 := Kg t.un.2.1
      rw [if_pos g3, if_pos g3, QT ⟨h4.1, h4.2.1⟩, Option.bind_some, DA (by simp; omega), Option.bind_some, O3 (by constructor <;> omega), Option.bind_some, DA (by simp; omega)]; rfl
    rw [if_neg g3, if_neg g3]
    rw [if_neg g3] at hlen
    by_cases g4 : t.un.1 = 4
    · obtain ⟨y, hy⟩ : ∃ y, t.un.2.2.2 = [y] := List.length_eq_one_iff.1 (h1.2.2.2.2.2.1 g4)
      have hj : ∀ sep, Lib.join (t.un.2.2.2.map fun x => wx (mi x)) sep = wx (mi y) := fun sep => by rw [hy]; exact Lib.join_one _ _
      rw [if_pos g4, hj] at hlen
      rw [List.length_append] at hlen
      simp only [List.length_cons, List.length_nil] at hlen
      rw [if_neg (by omega), Option.bind_some, hloop _ (by decide), Option.bind_some, if_pos g4, if_pos g4, hj, hj, DA (by simp only [List.length_cons, List.length_nil]; omega)]; rfl
    rw [if_neg g4]
    by_cases g5 : t.un.1 = 5
    · rw [if_pos g5, if_pos g5, Option.bind_some, hloop _ (by decide), Option.bind_some, if_neg g4]
    rw [if_neg g5, if_neg g5, Option.bind_some, hloop _ (by decide), Option.bind_some, if_neg g4, if_pos (by unfold Ev at h1; omega)]
theorem PC {t : Tr24} (hc : t.cnt ≤ 1000) (hf : Fo (mi t) = true) : Lu t = some (tx (mi t)) := CL (g := fun n => Df n t) (fun n r h => Iq n t r h) (OD (SizeOf.sizeOf t + 1) t (by omega) hc hf)
theorem PA : ∀ (n : Nat) (t : Tr31), SizeOf.sizeOf t < n → (th t).cnt = t.cnt
  | 0, t, h => absurd h (Nat.not_lt_zero _)
  | n + 1, t, h => by
    rw [GI, I3, RV]
    show 1 + ((t.un.2.2.2.map th).map Tr24.cnt).sum = _
    rw [List.map_map]
    congr 2
    exact List.map_congr_left fun x hx => PA n x (by have := G0 hx; omega)
theorem th_cnt' (t : Tr31) : (th t).cnt = t.cnt := PA (SizeOf.sizeOf t + 1) t (by omega)
theorem Nm {t : Tr24} (hc : t.cnt ≤ 1048576) : Ge t = some (decide ((t.cnt : Int) ≤ 100)) := by
  unfold Ge
  rw [KX hc]; rfl
theorem KE (p0 : Tr24) (ok0 : p0.cnt ≤ 1048576) (p1 : Tr24) (ok1 : p1.cnt ≤ 1048576) (p2 : Int) {A : Prop} (_ : A) (p3 : Int) {B : Prop} (_ : B) (p4 : PK) {C : Prop} (_ : C) (p5 : Int) {D : Prop} (_ : D) : FO p0 p1 p2 p3 p4 p5 = some true := by
  have hm := Of p0
  have hm1 := Of p1
  unfold FO
  rw [Nm ok0, Option.bind_some]
  by_cases c : (p0.cnt : Int) ≤ 100
  case neg => rw [decide_eq_false c, if_pos (by decide), Option.bind_some, if_pos rfl, Kd]; rfl
  case pos =>
    rw [decide_eq_true c, if_neg (by decide), Nm ok1, Option.bind_some]
    by_cases c1 : (p1.cnt : Int) ≤ 100
    case neg => rw [decide_eq_false c1, Option.bind_some, if_pos (by decide), Kd]; rfl
    case pos =>
      have es : H4 (mi p0) (mi p1) = HZ p0 p1 := by
        rw [PN (by omega), KZ (by omega)]
        exact congrArg some (decide_eq_decide.2 ⟨Ru, fun h => by rw [h]⟩)
      rw [decide_eq_true c1, Option.bind_some, if_neg (by decide), OU ok0, Option.bind_some, O6 (by omega), O7 ok0]
      simp only [Option.bind_some]
      rw [if_neg (fun h => h rfl), P3 (by omega), KX ok0]
      simp only [Option.bind_some]
      rw [if_neg (by rw [hm]; exact fun h => h rfl), PU (by omega), Nx ok0]
      simp only [Option.bind_some]
      rw [if_neg (fun h => h rfl), OU ok1, Option.bind_some, es, KZ (by omega)]
      simp only [Option.bind_some]
      rw [if_neg (fun h => h rfl), QG (by omega), PL ok0]
      simp only [Option.bind_some]
      rw [if_neg (fun h => h rfl), PQ]
      simp only [Option.bind_some]
      rw [if_neg (fun h => h rfl), Pv, Ox]
      simp only [Option.bind_some]
      rw [if_neg (by simp)]
      by_cases ok : KC (mi p0) 64 8
      case neg => rw [decide_eq_false ok, if_pos (by decide), Kd]; rfl
      case pos =>
        have hpc := N0 (SizeOf.sizeOf (mi p0) + 1) (mi p0) (by omega) false
        have hcT : (th (pn false (mi p0))).cnt ≤ 2097152 := by rw [th_cnt']; omega
        rw [decide_eq_true ok, if_neg (by decide), QQ (by omega), Option.bind_some, O8 (by omega), Option.bind_some, Pz ok0 ok.1, Option.bind_some, KZ hcT]
        simp only [Option.bind_some]
        rw [if_pos (by exact @decide_eq_true _ (_) rfl), O1 (by omega) ok.1, Km ok0]
        simp only [Option.bind_some]
        rw [Rl _ (by have := M9 p5 p0 ((CC p5).toNat + 1); have := IC p5; omega), Option.bind_some, if_pos rfl, Pq (by omega) ok.1, PC (by omega) ok.1]
        simp only [Option.bind_some]
        rw [if_pos trivial, Kd]; rfl
end Go.Proofs.YtepfcpffbabgmaaDoor
