/- Layer 30: what a condition is at a switch. Conditions: none. -/
import Derived.Test.YtgoifghhcekahaaGreatDoorbM26B
namespace Go.Proofs.YtgoifghhcekahaaGreatDoor
set_option linter.unusedVariables false
set_option linter.unusedSimpArgs false
open Go Go.RowKit
def T0 (k : Int) (L : List Tr36) (a d : Int) : Tr36 :=
  if L.any (fun x => decide (x.un.1 = d)) = true then .mk d 0 0 [] else match L.filter (fun x => decide (x.un.1 ≠ a)) with | [] => .mk a 0 0 [] | [x] => x | x :: y :: R => .mk k 0 0 (x :: y :: R)
def XW (k f v : Int) (L : List Tr36) : Tr36 :=
  match L with | [c] => if c.un.1 = 1 then .mk 2 0 0 [] else if c.un.1 = 2 then .mk 1 0 0 [] else .mk k f v [c] | L => .mk k f v L
def VP (sw k f v : Int) (L : List Tr36) : Tr36 :=
  if k = 3 then (if f = 5 then (if v = sw then .mk 1 0 0 [] else .mk 2 0 0 []) else .mk k f v L) else if k = 4 then XW k f v L else if k = 5 then T0 k L 1 2 else if k = 6 then T0 k L 2 1 else .mk k f v L
def ct (sw : Int) : Tr36 → Tr36
  | .mk k f v l => VP sw k f v (l.map (ct sw))
theorem TK (sw : Int) (t : Tr36) : ct sw t = VP sw t.un.1 t.un.2.1 t.un.2.2.1 (t.un.2.2.2.map (ct sw)) := by cases t; rw [ct]; rfl
theorem Td (a : Int) (x : Tr36) : [x].filter (fun x => decide (x.un.1 ≠ a)) = if x.un.1 ≠ a then [x] else [] := by
  by_cases h : x.un.1 ≠ a
  · rw [if_pos h]; simp [h]
  · rw [if_neg h]; simp at h; simp [h]
theorem Sa (l : List Tr36) (hl : l.length ≤ 1048576) (a : Int) : EZ l a = some (l.filter fun x => decide (x.un.1 ≠ a)) := by
  unfold EZ
  obtain ⟨o, h1, h2⟩ := JY l.length (fun (o : List Tr36) (i : Nat) => (o, (i : Int))) (Dw l a) id (fun o i => o = (l.take i).filter fun x => decide (x.un.1 ≠ a))
    (fun o i hi ho => by
      have hol : o.length ≤ i := by
        rw [ho]
        have := List.length_filter_le (fun x : Tr36 => decide (x.un.1 ≠ a)) (l.take i)
        rw [List.length_take] at this; omega
      refine ⟨_, ?_, rfl⟩
      rw [Dw, if_pos (by omega), Eh (List.getElem?_eq_getElem hi), Option.bind_some, A0 (by omega), List.take_succ_eq_append_getElem hi, List.filter_append, ← ho]
      unfold Ej
      by_cases c : l[i].un.1 ≠ a
      · rw [if_pos (by exact @decide_eq_true _ (_) c), Ni (by simp; omega), Td, if_pos c]; rfl
      · rw [if_neg (by simpa using c), Td, if_neg c, List.append_nil]; rfl)
    (fun o _ => by rw [Dw, if_neg (by omega)]; rfl) [] rfl
  rw [List.take_length] at h1
  have h2' : A6 (Dw l a) ([], 0) = some o := h2
  rw [h2', h1]; rfl
theorem MS (k : Int) (l : List Tr36) (hl : l.length ≤ 1048576) (a d : Int) : DI k l a d = some (T0 k l a d) := by
  obtain ⟨i, i1, i2⟩ := RK l (fun x => decide (x.un.1 = d)) (Bv l d) (fun j hj => by
    rw [Bv, if_pos (by omega), Eh (List.getElem?_eq_getElem hj), Option.bind_some, A0 (by omega)]; rfl) (by rw [Bv, if_neg (by omega)])
  unfold DI BN B0 T0
  rw [i1, Option.bind_some, Option.bind_some, i2]
  by_cases c : (l.any fun x => decide (x.un.1 = d)) = true
  · rw [if_pos c, if_pos c]
  · rw [if_neg c, if_neg c, Sa l hl, Option.bind_some]
    cases l.filter fun x => decide (x.un.1 ≠ a) with
    | nil => rfl
    | cons x R =>
      cases R with
      | nil => rfl
      | cons y R =>
        rw [if_neg (by simp only [List.length_cons]; omega), if_neg (by simp only [List.length_cons]; omega)]
theorem Qn (b : Bool) : Tr36.of ((AF b).un.1, (AF b).un.2.1, (AF b).un.2.2.1, (AF b).un.2.2.2) = if b = true then .mk 1 0 0 [] else .mk 2 0 0 [] := by cases b <;> first | rfl | simp
theorem TJ (sw : Int) : ∀ (n : Nat) (t : Tr36), SizeOf.sizeOf t < n → t.cnt ≤ 1048576 → Dv n t sw = some (ct sw t)
  | 0, t, h, _ => absurd h (Nat.not_lt_zero _)
  | n + 1, t, h, hc => by
    have hl := Wi t
    have hx : ∀ x ∈ t.un.2.2.2, Dv n x sw = some (ct sw x) := fun x hm => TJ sw n x (by have := Ra hm; omega) (Nat.le_trans (V3 hm) hc)
    have hall : Ep (Dv n) t.un.2.2.2 sw = some (t.un.2.2.2.map (ct sw)) := by
      unfold Ep
      rw [TF t.un.2.2.2 (by omega) (ct sw) (CP (Dv n) t.un.2.2.2 sw) (fun k hk out ho => by
        rw [CP, if_pos (by omega), Eh (List.getElem?_eq_getElem hk), Option.bind_some, hx _ (List.getElem_mem hk)]; rfl) (fun out => by rw [CP, if_neg (by omega)])]; rfl
    show Eo (Dv n) t sw = _
    unfold Eo
    rw [hall, Option.bind_some, Qn, Qn, Qn, MS t.un.1 (t.un.2.2.2.map (ct sw)) (by rw [List.length_map]; omega) 1 2, MS t.un.1 (t.un.2.2.2.map (ct sw)) (by rw [List.length_map]; omega) 2 1, TK]
    unfold VP
    by_cases c3 : t.un.1 = 3
    · rw [if_pos c3, if_pos c3]
      by_cases c5 : t.un.2.1 = 5
      · rw [if_pos c5, if_pos c5]
        by_cases cv : t.un.2.2.1 = sw
        · rw [if_pos (decide_eq_true cv), if_pos cv]; rfl
        · rw [if_neg (by simpa using cv), if_neg cv]; rfl
      · rw [if_neg c5, if_neg c5]; rfl
    rw [if_neg c3, if_neg c3]
    by_cases c4 : t.un.1 = 4
    · rw [if_pos c4, if_pos c4]
      unfold XW
      rcases t.un.2.2.2.map (ct sw) with _ | ⟨c, _ | ⟨y, R⟩⟩
      · rfl
      · rw [if_pos (by rfl), show ix [c] 0 = some c from Eh (k := 0) rfl]
        simp only [Option.bind_some]
        by_cases g1 : c.un.1 = 1
        · rw [decide_eq_true g1, if_pos rfl, if_pos g1]; rfl
        · rw [decide_eq_false g1, if_neg (by decide), if_neg g1, if_pos (by rfl)]
          simp only [Option.bind_some]
          by_cases g2 : c.un.1 = 2
          · rw [decide_eq_true g2, if_pos rfl, if_pos g2]; rfl
          · rw [decide_eq_false g2, if_neg (by decide), if_neg g2]; rfl
      · rw [if_neg (by simp only [List.length_cons]; omega), Option.bind_some, if_neg (by decide), if_neg (by simp only [List.length_cons]; omega), Option.bind_some, if_neg (by decide)]; rfl
    rw [if_neg c4, if_neg c4]
    by_cases c5 : t.un.1 = 5
    · rw [if_pos c5, if_pos c5]; rfl
    rw [if_neg c5, if_neg c5]
    by_cases c6 : t.un.1 = 6
    · rw [if_pos c6, if_pos c6]; rfl
    rw [if_neg c6, if_neg c6]; rfl
theorem UY {t : Tr36} (hc : t.cnt ≤ 1048576) (sw : Int) : KQ t sw = some (ct sw t) := DJ (g := fun n => Dv n t sw) (fun n r h => J9 n t sw r h) (TJ sw (SizeOf.sizeOf t + 1) t (by omega) hc)
abbrev W1 := Int × Int × PK
structure Gd (q : Int) (p : PK) (sw : Int) (x t : Tr36) : Prop where
  fit : Hu x = true
  deep : dp x ≤ dp t
  size : x.cnt ≤ t.cnt
  none : LD 5 x = []
  same : NF (-1, q, p) x = NF (sw, q, p) t
theorem Wr (k f v : Int) (l : List Tr36) : (Tr36.mk k f v l).cnt = 1 + (l.map Tr36.cnt).sum := KI (.mk k f v l)
theorem V6 (k f v : Int) (l : List Tr36) : dp (Tr36.mk k f v l) = 1 + mx (l.map dp) := Pr (.mk k f v l)
theorem SJ (k f v : Int) (l : List Tr36) : Hu (Tr36.mk k f v l) = true ↔ GB k f v l.length ∧ ∀ x ∈ l, Hu x = true := J7 (.mk k f v l)
theorem RN (a : W1) (k f v : Int) (l : List Tr36) : NF a (Tr36.mk k f v l) = Rx a k f v (l.map (NF a)) := M5 a (.mk k f v l)
theorem PZ {k : Int} (h : k = 1 ∨ k = 2) : Hu (Tr36.mk k 0 0 []) = true := (SJ ..).2 ⟨by unfold GB; rcases h with rfl | rfl <;> simp, fun x hx => absurd hx (List.not_mem_nil)⟩
theorem Ms {x : Tr36} (hf : Hu x = true) {d : Int} (hd : d = 1 ∨ d = 2) (hk : x.un.1 = d) : x = .mk d 0 0 [] := by
  have h := ((J7 x).1 hf).1
  have h1 := h.2.2.1 (by omega)
  have h2 : x.un.2.2.2 = [] := List.length_eq_zero_iff.1 (h.2.2.2.2.1 (by omega))
  rw [← Wu x]
  show Tr36.of (x.un.1, x.un.2.1, x.un.2.2.1, x.un.2.2.2) = _
  rw [hk, h1.1, h1.2, h2]; try rfl
theorem WF (t : Tr36) : 1 ≤ t.cnt := by rw [KI]; omega
theorem XZ (t : Tr36) : 1 ≤ dp t := by rw [Pr]; omega
theorem Pl {g : Tr36 → Nat} (q : Tr36 → Bool) : ∀ l : List Tr36, ((l.filter q).map g).sum ≤ (l.map g).sum
  | [] => Nat.le_refl _
  | x :: l => by
    have := Pl (g := g) q l
    by_cases c : q x = true
    · rw [List.filter_cons_of_pos c, List.map_cons, List.sum_cons, List.map_cons, List.sum_cons]; omega
    · rw [List.filter_cons_of_neg c, List.map_cons, List.sum_cons]; omega
theorem R6 {g h : Tr36 → Nat} : ∀ l : List Tr36, (∀ x ∈ l, g x ≤ h x) → (l.map g).sum ≤ (l.map h).sum
  | [], _ => Nat.le_refl _
  | x :: l, hx => by
    have h1 := hx x (List.mem_cons_self ..)
    have h2 := R6 (g := g) (h := h) l fun y hy => hx y (List.mem_cons_of_mem _ hy)
    rw [List.map_cons, List.sum_cons, List.map_cons, List.sum_cons]; omega
theorem LJ {k : Int} (hk : k ≠ 3) {l : List Tr36} (h : ∀ x ∈ l, LD 5 x = []) : LD 5 (Tr36.mk k 0 0 l) = [] := by
  rw [Ph]
  show (if k = 3 ∧ (0 : Int) = 5 then _ else _) ++ (l.map (LD 5)).flatten = []
  rw [if_neg (fun hh => hk hh.1), List.nil_append]
  refine List.flatten_eq_nil_iff.2 fun y hy => ?_
  obtain ⟨x, hx, rfl⟩ := List.mem_map.1 hy
  exact h x hx
theorem Q0 (k : Int) (L : List Tr36) (a d : Int) : (∃ x ∈ L, x.un.1 = d) ∧ T0 k L a d = .mk d 0 0 [] ∨ (∀ x ∈ L, x.un.1 ≠ d) ∧ (L.filter (fun x => decide (x.un.1 ≠ a)) = [] ∧ T0 k L a d = .mk a 0 0 [] ∨ (∃ x, L.filter (fun x => decide (x.un.1 ≠ a)) = [x] ∧ T0 k L a d = x) ∨ 2 ≤ (L.filter (fun x => decide (x.un.1 ≠ a))).length ∧ T0 k L a d = .mk k 0 0 (L.filter fun x => decide (x.un.1 ≠ a))) := by
  unfold T0
  by_cases c : (L.any fun x => decide (x.un.1 = d)) = true
  · rw [if_pos c]
    obtain ⟨x, hx, h⟩ := List.any_eq_true.1 c
    exact .inl ⟨⟨x, hx, of_decide_eq_true h⟩, rfl⟩
  · rw [if_neg c]
    refine .inr ⟨fun x hx he => c (List.any_eq_true.2 ⟨x, hx, decide_eq_true he⟩), ?_⟩
    generalize (L.filter fun x => decide (x.un.1 ≠ a)) = R
    rcases R with _ | ⟨x, _ | ⟨y, R⟩⟩
    · exact .inl ⟨rfl, rfl⟩
    · exact .inr (.inl ⟨x, rfl, rfl⟩)
    · exact .inr (.inr ⟨by simp, rfl⟩)
theorem PW (a : W1) : NF a (.mk 1 0 0 []) = true := by rw [RN]; rfl
theorem PH (a : W1) : NF a (.mk 2 0 0 []) = false := by rw [RN]; rfl
theorem RU {q : Int} {p : PK} {sw : Int} {t : Tr36} {L : List Tr36} (hlen : L.length ≤ 8) (hk : t.un.1 = 5 ∨ t.un.1 = 6) (hL : L = t.un.2.2.2.map (ct sw)) (hx : ∀ x ∈ t.un.2.2.2, Gd q p sw (ct sw x) x) (a d : Int) (had : t.un.1 = 5 ∧ a = 1 ∧ d = 2 ∨ t.un.1 = 6 ∧ a = 2 ∧ d = 1) : Gd q p sw (T0 t.un.1 L a d) t := by
  have hc1 := WF t
  have hd1 := XZ t
  have hF : ∀ x ∈ L, Hu x = true := fun x hm => by
    rw [hL] at hm
    obtain ⟨y, hy, rfl⟩ := List.mem_map.1 hm
    exact (hx y hy).fit
  have hN : ∀ x ∈ L, LD 5 x = [] := fun x hm => by
    rw [hL] at hm
    obtain ⟨y, hy, rfl⟩ := List.mem_map.1 hm
    exact (hx y hy).none
  have hD : ∀ x ∈ L, dp x + 1 ≤ dp t := fun x hm => by
    rw [hL] at hm
    obtain ⟨y, hy, rfl⟩ := List.mem_map.1 hm
    have h1 := (hx y hy).deep
    have h2 := UA (List.mem_map.2 ⟨y, hy, rfl⟩ : dp y ∈ t.un.2.2.2.map dp)
    rw [Pr t]; omega
  have hS : (L.map Tr36.cnt).sum + 1 ≤ t.cnt := by
    rw [hL, List.map_map, KI t]
    have := R6 (g := Tr36.cnt ∘ ct sw) (h := Tr36.cnt) t.un.2.2.2 fun x hm => (hx x hm).size
    omega
  have hH : NF (sw, q, p) t = if t.un.1 = 5 then L.all (NF (-1, q, p)) else L.any (NF (-1, q, p)) := by
    have e : t.un.2.2.2.map (NF (sw, q, p)) = L.map (NF (-1, q, p)) := by
      rw [hL, List.map_map]
      exact List.map_congr_left fun x hm => (hx x hm).same.symm
    rw [M5, e]
    unfold Rx
    rcases hk with h | h
    · rw [h, if_neg (by decide), if_neg (by decide), if_neg (by decide), if_pos rfl, if_pos rfl, List.all_map]; rfl
    · rw [h, if_neg (by decide), if_neg (by decide), if_neg (by decide), if_neg (by decide), if_pos rfl, if_neg (by decide), List.any_map]; rfl
  have ha : a = 1 ∨ a = 2 := by omega
  have hd : d = 1 ∨ d = 2 := by omega
  have m0 : mx [] = 0 := rfl
  rcases Q0 t.un.1 L a d with ⟨⟨x, hxm, hxd⟩, e⟩ | ⟨hno, ⟨e0, e⟩ | ⟨x, e0, e⟩ | ⟨e0, e⟩⟩
  · rw [e]
    have hxe := Ms (hF x hxm) hd hxd
    refine ⟨PZ hd, by rw [V6]; show 1 + mx [] ≤ _; omega, by rw [Wr]; simp; omega, LJ (by omega) (fun y hy => absurd hy (List.not_mem_nil)), ?_⟩
    rw [hH]
    rcases had with ⟨h, rfl, rfl⟩ | ⟨h, rfl, rfl⟩
    · rw [if_pos h, PH]
      exact (List.all_eq_false.2 ⟨x, hxm, by rw [hxe, PH]; simp⟩).symm
    · rw [if_neg (by omega), PW]
      exact (List.any_eq_true.2 ⟨x, hxm, by rw [hxe, PW]⟩).symm
  all_goals
    have hHf : NF (sw, q, p) t = if t.un.1 = 5 then (L.filter fun x => decide (x.un.1 ≠ a)).all (NF (-1, q, p)) else (L.filter fun x => decide (x.un.1 ≠ a)).any (NF (-1, q, p)) := by
      rw [hH, List.all_filter, List.any_filter]
      rcases had with ⟨h, rfl, rfl⟩ | ⟨h, rfl, rfl⟩
      · rw [if_pos h, if_pos h]
        rw [Bool.eq_iff_iff, List.all_eq_true, List.all_eq_true]
        refine ⟨fun h x hxm => by rw [h x hxm]; simp, fun h x hxm => ?_⟩
        have h3 := h x hxm
        by_cases c : x.un.1 = 1
        · rw [Ms (hF x hxm) (.inl rfl) c, PW]
        · simpa [c] using h3
      · rw [if_neg (by omega), if_neg (by omega)]
        rw [Bool.eq_iff_iff, List.any_eq_true, List.any_eq_true]
        refine ⟨fun ⟨x, hxm, h3⟩ => ⟨x, hxm, ?_⟩, fun ⟨x, hxm, h3⟩ => ⟨x, hxm, by simp at h3; exact h3.2⟩⟩
        by_cases c : x.un.1 = 2
        · rw [Ms (hF x hxm) (.inr rfl) c, PH] at h3; cases h3
        · simp [c, h3]
  · rw [e]
    refine ⟨PZ ha, by rw [V6]; show 1 + mx [] ≤ _; omega, by rw [Wr]; simp; omega, LJ (by omega) (fun y hy => absurd hy (List.not_mem_nil)), ?_⟩
    rw [hHf, e0]
    rcases had with ⟨h, rfl, rfl⟩ | ⟨h, rfl, rfl⟩
    · rw [if_pos h, PW]; rfl
    · rw [if_neg (by omega), PH]; rfl
  · have hxm : x ∈ L := (List.mem_filter.1 (by rw [e0]; exact List.mem_singleton.2 rfl : x ∈ L.filter fun x => decide (x.un.1 ≠ a))).1
    rw [e]
    have h2 := hD x hxm
    have h3 := Pt (g := Tr36.cnt) hxm
    refine ⟨hF x hxm, by omega, by omega, hN x hxm, ?_⟩
    rw [hHf, e0]
    split <;> simp
  · have hfl := List.length_filter_le (fun x : Tr36 => decide (x.un.1 ≠ a)) L
    have hsf := Pl (g := Tr36.cnt) (fun x => decide (x.un.1 ≠ a)) L
    have hmem : ∀ x ∈ L.filter (fun x => decide (x.un.1 ≠ a)), x ∈ L := fun x hm => (List.mem_filter.1 hm).1
    rw [e]
    refine ⟨(SJ ..).2 ⟨by unfold GB; omega, fun x hm => hF x (hmem x hm)⟩, ?_, by rw [Wr]; omega, LJ (by omega) fun x hm => hN x (hmem x hm), ?_⟩
    · have : mx ((L.filter fun x => decide (x.un.1 ≠ a)).map dp) ≤ dp t - 1 := S3 fun b hb => by
        obtain ⟨x, hm, rfl⟩ := List.mem_map.1 hb
        have := hD x (hmem x hm); omega
      rw [V6]; omega
    · rw [hHf, RN]
      unfold Rx
      rcases hk with h | h
      · rw [h, if_neg (by decide), if_neg (by decide), if_neg (by decide), if_pos rfl, if_pos rfl, List.all_map]; rfl
      · rw [h, if_neg (by decide), if_neg (by decide), if_neg (by decide), if_neg (by decide), if_pos rfl, if_neg (by decide), List.any_map]; rfl
theorem Rs (q : Int) (p : PK) (sw : Int) : ∀ (n : Nat) (t : Tr36), SizeOf.sizeOf t < n → Hu t = true → Gd q p sw (ct sw t) t
  | 0, t, h, _ => absurd h (Nat.not_lt_zero _)
  | n + 1, t, h, hf => by
    obtain ⟨h1, h2⟩ := (J7 t).1 hf
    have hc1 := WF t
    have hd1 := XZ t
    have hx : ∀ x ∈ t.un.2.2.2, Gd q p sw (ct sw x) x := fun x hm => Rs q p sw n x (by have := Ra hm; omega) (h2 x hm)
    have m0 : mx [] = 0 := rfl
    have leaf : ∀ k : Int, k = 1 ∨ k = 2 → NF (-1, q, p) (.mk k 0 0 []) = NF (sw, q, p) t → Gd q p sw (.mk k 0 0 []) t := fun k hk hh =>
      ⟨PZ hk, by rw [V6]; show 1 + mx [] ≤ _; omega, by rw [Wr]; simp; omega, LJ (by omega) (fun y hy => absurd hy (List.not_mem_nil)), hh⟩
    have self : t.un.2.2.2 = [] → (t.un.1 = 3 → t.un.2.1 ≠ 5) → Gd q p sw (.mk t.un.1 t.un.2.1 t.un.2.2.1 (t.un.2.2.2.map (ct sw))) t := fun he h5 => by
      have e : Tr36.mk t.un.1 t.un.2.1 t.un.2.2.1 (t.un.2.2.2.map (ct sw)) = t := by
        rw [he]
        conv => rhs; rw [← Wu t]
        show Tr36.mk t.un.1 t.un.2.1 t.un.2.2.1 [] = Tr36.of (t.un.1, t.un.2.1, t.un.2.2.1, t.un.2.2.2)
        rw [he]
      rw [e]
      refine ⟨hf, Nat.le_refl _, Nat.le_refl _, ?_, ?_⟩
      · rw [Ph, he, if_neg (fun hh => h5 hh.1 hh.2)]; rfl
      · rw [M5, M5, he]
        unfold Rx
        by_cases c3 : t.un.1 = 3
        · have hg : gt (-1, q, p) t.un.2.1 = gt (sw, q, p) t.un.2.1 := by
            unfold gt
            simp only [if_neg (h5 c3)]
          rw [hg]; rfl
        · rw [if_neg c3, if_neg c3]; rfl
    rw [TK]
    unfold VP
    by_cases c3 : t.un.1 = 3
    · have he : t.un.2.2.2 = [] := List.length_eq_zero_iff.1 (h1.2.2.2.2.1 (by omega))
      rw [if_pos c3]
      by_cases c5 : t.un.2.1 = 5
      · have hh : NF (sw, q, p) t = decide (sw = t.un.2.2.1) := by
          rw [M5]; unfold Rx
          rw [if_neg (by omega), if_pos c3, c5]
          exact decide_eq_decide.2 ⟨fun h => h.2, fun h => ⟨by omega, h⟩⟩
        rw [if_pos c5]
        by_cases cv : t.un.2.2.1 = sw
        · rw [if_pos cv]
          exact leaf 1 (.inl rfl) (by rw [PW, hh, decide_eq_true cv.symm])
        · rw [if_neg cv]
          exact leaf 2 (.inr rfl) (by rw [PH, hh, decide_eq_false (fun h => cv h.symm)])
      · rw [if_neg c5]
        exact self he fun _ => c5
    rw [if_neg c3]
    by_cases c4 : t.un.1 = 4
    · obtain ⟨y, hy⟩ : ∃ y, t.un.2.2.2 = [y] := List.length_eq_one_iff.1 (h1.2.2.2.2.2.1 c4)
      have hym : y ∈ t.un.2.2.2 := by rw [hy]; exact List.mem_cons_self ..
      have gy := hx y hym
      have hh : NF (sw, q, p) t = !NF (-1, q, p) (ct sw y) := by
        rw [M5, gy.same]; unfold Rx
        rw [if_neg (by omega), if_neg c3, if_pos c4, hy]; rfl
      have hfv := h1.2.2.1 c3
      rw [if_pos c4, hy]
      show Gd q p sw (if (ct sw y).un.1 = 1 then .mk 2 0 0 [] else if (ct sw y).un.1 = 2 then .mk 1 0 0 [] else .mk t.un.1 t.un.2.1 t.un.2.2.1 [ct sw y]) t
      by_cases g1 : (ct sw y).un.1 = 1
      · rw [if_pos g1]
        exact leaf 2 (.inr rfl) (by rw [hh, Ms gy.fit (.inl rfl) g1, PW, PH]; rfl)
      rw [if_neg g1]
      by_cases g2 : (ct sw y).un.1 = 2
      · rw [if_pos g2]
        exact leaf 1 (.inl rfl) (by rw [hh, Ms gy.fit (.inr rfl) g2, PW, PH]; rfl)
      rw [if_neg g2, c4, hfv.1, hfv.2]
      have hcy : t.cnt = 1 + y.cnt := by rw [KI, hy]; simp
      have hdy : dp t = 1 + mx [dp y] := by rw [Pr, hy]; rfl
      have hmy := UA (List.mem_singleton.2 rfl : dp y ∈ [dp y])
      have hmc : mx [dp (ct sw y)] ≤ dp (ct sw y) := S3 fun a ha => by rw [List.mem_singleton.1 ha]; omega
      have gd := gy.deep
      have gs := gy.size
      refine ⟨(SJ ..).2 ⟨by unfold GB; simp, fun x hm => by rw [List.mem_singleton.1 hm]; exact gy.fit⟩, by rw [V6]; show 1 + mx [dp (ct sw y)] ≤ _; omega, by rw [Wr]; simp; omega, LJ (by decide) fun x hm => by rw [List.mem_singleton.1 hm]; exact gy.none, ?_⟩
      rw [hh, RN]; rfl
    rw [if_neg c4]
    have hlen : (t.un.2.2.2.map (ct sw)).length = t.un.2.2.2.length := List.length_map ..
    by_cases c5 : t.un.1 = 5
    · rw [if_pos c5]
      exact RU (by have := h1.2.2.2.2.2.2 (by omega); omega) (.inl c5) rfl hx 1 2 (.inl ⟨c5, rfl, rfl⟩)
    rw [if_neg c5]
    by_cases c6 : t.un.1 = 6
    · rw [if_pos c6]
      exact RU (by have := h1.2.2.2.2.2.2 (by omega); omega) (.inr c6) rfl hx 2 1 (.inr ⟨c6, rfl, rfl⟩)
    rw [if_neg c6]
    exact self (List.length_eq_zero_iff.1 (h1.2.2.2.2.1 (by have := h1.1; have := h1.2.1; omega))) fun h => absurd h c3
abbrev cs (sw : Int) (p : Tr28) : Tr28 := th (ct sw (mi p))
theorem M3 (k f v : Int) (l : List Tr36) : th (.mk k f v l) = Tr28.of (k, f, v, l.map th) := Vm _
theorem V4 (t : Tr36) : (th t).un.1 = t.un.1 := by rw [Vh]
theorem Wp {F : Tr28 → Int → Option Tr28} {p : Tr28} {sw : Int} (hl : p.un.2.2.2.length ≤ 1048576) (hF : ∀ x ∈ p.un.2.2.2, F x sw = some (cs sw x)) (hfit : ∀ x ∈ p.un.2.2.2, Hu (ct sw (mi x)) = true) {a d : Int} (hd : d = 1 ∨ d = 2) :
    ∀ (L : List Tr36), L = p.un.2.2.2.map (fun x => ct sw (mi x)) → ∀ (m i : Nat), i + m = L.length → (∀ x ∈ L.take i, x.un.1 ≠ d) →
    ((∃ x ∈ L, x.un.1 = d) → A6 (Du F p sw a d) (((L.take i).filter fun x => decide (x.un.1 ≠ a)).map th, (i : Int)) = some (.inr (Tr28.of (d, 0, 0, [])))) ∧
    ((∀ x ∈ L, x.un.1 ≠ d) → A6 (Du F p sw a d) (((L.take i).filter fun x => decide (x.un.1 ≠ a)).map th, (i : Int)) = some (.inl ((L.filter fun x => decide (x.un.1 ≠ a)).map th))) := by
  intro L hL m
  have hLl : L.length = p.un.2.2.2.length := by rw [hL, List.length_map]
  induction m with
  | zero =>
    intro i hi hn
    rw [List.take_of_length_le (by omega)] at hn ⊢
    refine ⟨fun ⟨x, hx, hk⟩ => absurd hk (hn x hx), fun _ => ?_⟩
    exact Bw (by rw [Du, if_neg (by omega)])
  | succ m ih =>
    intro i hi hn
    have hip : i < p.un.2.2.2.length := by omega
    have hiL : i < L.length := by omega
    have hm := List.getElem_mem hip
    have hg : L[i] = ct sw (mi p.un.2.2.2[i]) := by
      have : L[i]? = some (ct sw (mi p.un.2.2.2[i])) := by rw [hL, List.getElem?_map, List.getElem?_eq_getElem hip]; rfl
      rw [List.getElem?_eq_getElem hiL] at this
      exact Option.some.inj this
    have hk : (cs sw p.un.2.2.2[i]).un.1 = L[i].un.1 := by rw [V4, hg]
    have hfl := List.length_filter_le (fun x : Tr36 => decide (x.un.1 ≠ a)) (L.take i)
    rw [List.length_take] at hfl
    by_cases c : L[i].un.1 = d
    · have hend : A6 (Du F p sw a d) (((L.take i).filter fun x => decide (x.un.1 ≠ a)).map th, (i : Int)) = some (.inr (Tr28.of (d, 0, 0, []))) := Bw (by
        rw [Du, if_pos (by omega), Eh (List.getElem?_eq_getElem hip), Option.bind_some, hF _ hm, Option.bind_some, if_pos (hk.trans c)]
        have : cs sw p.un.2.2.2[i] = Tr28.of (d, 0, 0, []) := by
          show th (ct sw (mi p.un.2.2.2[i])) = _
          rw [Ms (hfit _ hm) hd (by rw [← hg]; exact c), M3]; rfl
        rw [this]; rfl)
      exact ⟨fun _ => hend, fun hno => absurd c (hno _ (List.getElem_mem hiL))⟩
    · have hgo : A6 (Du F p sw a d) (((L.take i).filter fun x => decide (x.un.1 ≠ a)).map th, (i : Int)) = A6 (Du F p sw a d) (((L.take (i + 1)).filter fun x => decide (x.un.1 ≠ a)).map th, ((i + 1 : Nat) : Int)) := CQ (by
        rw [Du, if_pos (by omega), Eh (List.getElem?_eq_getElem hip), Option.bind_some, hF _ hm, Option.bind_some, if_neg (by rw [hk]; exact c), List.take_succ_eq_append_getElem hiL, List.filter_append, List.map_append]
        by_cases ca : L[i].un.1 ≠ a
        · rw [if_pos (by rw [hk]; exact ca), Ni (by rw [List.length_map]; show _ + 1 ≤ _; omega), Option.bind_some, Td, if_pos ca, A0 (by omega)]
          show some (Sum.inl (_ ++ [th (ct sw (mi p.un.2.2.2[i]))], _)) = _
          rw [← hg]; rfl
        · rw [if_neg (by rw [hk]; exact ca), Td, if_neg ca, A0 (by omega), List.map_nil, List.append_nil]; rfl)
      rw [hgo]
      exact ih (i + 1) (by omega) fun x hx => by
        rw [List.take_succ_eq_append_getElem hiL] at hx
        rcases List.mem_append.1 hx with h | h
        · exact hn x h
        · rw [List.mem_singleton.1 h]; exact c
theorem UI (sw : Int) : ∀ (n : Nat) (t : Tr28), SizeOf.sizeOf t < n → t.cnt ≤ 1048576 → Hu (mi t) = true → FH n t sw = some (cs sw t)
  | 0, t, h, _, _ => absurd h (Nat.not_lt_zero _)
  | n + 1, t, h, hc, hf => by
    obtain ⟨h1, h2⟩ := (RB t).1 hf
    have hl := VZ t
    have hx : ∀ x ∈ t.un.2.2.2, FH n x sw = some (cs sw x) := fun x hm => UI sw n x (by have := Sz hm; omega) (Nat.le_trans (VC hm) hc) (h2 x hm)
    have hfit : ∀ x ∈ t.un.2.2.2, Hu (ct sw (mi x)) = true := fun x hm => (Rs 0 (0, 0, 0, 0) sw (SizeOf.sizeOf (mi x) + 1) (mi x) (by omega) (h2 x hm)).fit
    have e0 : ct sw (mi t) = VP sw t.un.1 t.un.2.1 t.un.2.2.1 (t.un.2.2.2.map fun x => ct sw (mi x)) := by rw [TK, SU]; show VP _ _ _ _ ((t.un.2.2.2.map mi).map (ct sw)) = _; rw [List.map_map]; rfl
    have self : t.un.2.2.2 = [] → th (.mk t.un.1 t.un.2.1 t.un.2.2.1 (t.un.2.2.2.map fun x => ct sw (mi x))) = t := fun he => by
      rw [M3, he]
      conv => rhs; rw [← Vw t]
      show Tr28.of (t.un.1, t.un.2.1, t.un.2.2.1, []) = Tr28.of (t.un.1, t.un.2.1, t.un.2.2.1, t.un.2.2.2)
      rw [he]
    show GQ (FH n) t sw = some (th (ct sw (mi t)))
    rw [e0]
    unfold GQ VP
    by_cases c3 : t.un.1 = 3
    · have he : t.un.2.2.2 = [] := List.length_eq_zero_iff.1 (h1.2.2.2.2.1 (by omega))
      rw [if_pos c3]
      by_cases c5 : t.un.2.1 = 5
      · rw [if_pos (by simp [c3, c5]), if_pos c5]
        by_cases cv : t.un.2.2.1 = sw
        · rw [if_pos cv, if_pos cv, M3]; rfl
        · rw [if_neg cv, if_neg cv, M3]; rfl
      · rw [if_neg (by simp [c5]), if_pos (by omega), if_neg c5, self he]
    rw [if_neg (by simp [c3]), if_neg c3]
    by_cases c4 : t.un.1 = 4
    · obtain ⟨y, hy⟩ : ∃ y, t.un.2.2.2 = [y] := List.length_eq_one_iff.1 (h1.2.2.2.2.2.1 c4)
      have hym : y ∈ t.un.2.2.2 := by rw [hy]; exact List.mem_cons_self ..
      have hfv := h1.2.2.1 c3
      have hky : (cs sw y).un.1 = (ct sw (mi y)).un.1 := V4 _
      rw [if_neg (by omega), if_pos c4, if_pos c4, hy, show ix [y] 0 = some y from Eh (k := 0) rfl, Option.bind_some, hx y hym, Option.bind_some]
      show _ = some (th (if (ct sw (mi y)).un.1 = 1 then .mk 2 0 0 [] else if (ct sw (mi y)).un.1 = 2 then .mk 1 0 0 [] else .mk t.un.1 t.un.2.1 t.un.2.2.1 [ct sw (mi y)]))
      rw [hky]
      by_cases g1 : (ct sw (mi y)).un.1 = 1
      · rw [if_pos (by simp [g1]), if_pos g1, g1, M3]; rfl
      by_cases g2 : (ct sw (mi y)).un.1 = 2
      · rw [if_pos (by simp [g2]), if_neg g1, if_pos g2, g2, M3]; rfl
      rw [if_neg (by simp [g1, g2]), if_neg g1, if_neg g2, M3, c4, hfv.1, hfv.2]; rfl
    rw [if_neg c4]
    by_cases clt : t.un.1 < 4
    · have he : t.un.2.2.2 = [] := List.length_eq_zero_iff.1 (h1.2.2.2.2.1 (by omega))
      rw [if_pos clt, if_neg c4, if_neg (by omega), if_neg (by omega), self he]
    rw [if_neg clt, if_neg c4]
    have fin : ∀ a d : Int, (d = 1 ∨ d = 2) → (Je (A6 (Du (FH n) t sw a d) ([], 0)) fun x5 => (if (x5.length : Int) = 0 then some (Tr28.of (a, 0, 0, ([] : List Tr28))) else (if (x5.length : Int) = 1 then (ix x5 0).bind fun x12 => some x12 else some (Tr28.of (t.un.1, 0, 0, x5))))) = some (th (T0 t.un.1 (t.un.2.2.2.map fun x => ct sw (mi x)) a d)) := fun a d hd => by
      obtain ⟨r1, r2⟩ := Wp (a := a) (by omega) hx hfit hd (t.un.2.2.2.map fun x => ct sw (mi x)) rfl (t.un.2.2.2.map fun x => ct sw (mi x)).length 0 (by omega) (fun x hx => absurd hx (List.not_mem_nil))
      have z : ((((t.un.2.2.2.map fun x => ct sw (mi x)).take 0).filter fun x => decide (x.un.1 ≠ a)).map th, ((0 : Nat) : Int)) = (([] : List Tr28), (0 : Int)) := rfl
      rw [z] at r1 r2
      rcases Q0 t.un.1 (t.un.2.2.2.map fun x => ct sw (mi x)) a d with ⟨hex, e⟩ | ⟨hno, ⟨e1, e⟩ | ⟨x, e1, e⟩ | ⟨e1, e⟩⟩
      · rw [r1 hex, e, M3]; rfl
      · rw [r2 hno, e1, e, M3]; rfl
      · rw [r2 hno, e1, e]; rfl
      · rw [r2 hno, e, M3]
        show (if _ then _ else _) = _
        rw [if_neg (by rw [List.length_map]; omega), if_neg (by rw [List.length_map]; omega)]
    by_cases c6 : t.un.1 = 6
    · rw [if_pos c6, if_neg (by omega), if_pos c6]
      exact fin 2 1 (.inl rfl)
    · have c5 : t.un.1 = 5 := by unfold GB at h1; omega
      rw [if_neg c6, if_pos c5]
      exact fin 1 2 (.inr rfl)
theorem U0 {t : Tr28} (hc : t.cnt ≤ 1048576) (hf : Hu (mi t) = true) (sw : Int) : RA t sw = some (cs sw t) := DJ (g := fun n => FH n t sw) (fun n r h => Nl n t sw r h) (UI sw (SizeOf.sizeOf t + 1) t (by omega) hc hf)
theorem TL : ∀ (n : Nat) (t : Tr36), SizeOf.sizeOf t < n → (th t).cnt = t.cnt
  | 0, t, h => absurd h (Nat.not_lt_zero _)
  | n + 1, t, h => by
    rw [KI, Q7, Vh]
    show 1 + ((t.un.2.2.2.map th).map Tr28.cnt).sum = _
    rw [List.map_map]
    congr 2
    exact List.map_congr_left fun x hx => TL n x (by have := Ra hx; omega)
theorem PV (p0 : Tr28) (ok0 : p0.cnt ≤ 1048576) (p1 : Int) {A : Prop} (_ : A) (p2 : Int) {B : Prop} (_ : B) (p3 : PK) {C : Prop} (_ : C) : I5 p0 p1 p2 p3 = some true := by
  have hm := Vy p0
  unfold I5
  rw [TA ok0, Option.bind_some]
  by_cases ok : Qe (mi p0) 64 8
  case neg => rw [decide_eq_false ok, if_pos (by decide), Tb]; rfl
  case pos =>
    have g := Rs p2 p3 p1 (SizeOf.sizeOf (mi p0) + 1) (mi p0) (by omega) ok.1
    have gs := g.size
    have gd := g.deep
    have o2 := ok.2.1
    have o3 := ok.2.2
    have hth := TL (SizeOf.sizeOf (ct p1 (mi p0)) + 1) (ct p1 (mi p0)) (by omega)
    obtain ⟨V, v1, _, _, v4⟩ := Tj (t := ct p1 (mi p0)) (by omega) 5
    have hV : V = [] := List.eq_nil_iff_forall_not_mem.2 fun v hv => by
      have := (v4 v).1 hv
      rw [g.none] at this
      exact absurd this (List.not_mem_nil)
    rw [decide_eq_true ok, if_neg (by decide), UV ok0, Option.bind_some, UY (by omega), Option.bind_some, Tt (by omega), Option.bind_some, U0 ok0 ok.1, Option.bind_some, TP (by omega)]
    simp only [Option.bind_some]
    rw [if_pos (by first | exact @decide_eq_true _ (_) trivial | exact @decide_eq_true _ (_) rfl), S8 (by omega), S8 (by omega)]
    simp only [Option.bind_some]
    rw [if_pos g.same, Tw (by omega), Option.bind_some, if_pos (decide_eq_true ⟨g.fit, by omega, by omega⟩), v1, Option.bind_some, hV, if_pos (by rfl), Tb]; rfl
end Go.Proofs.YtgoifghhcekahaaGreatDoor
