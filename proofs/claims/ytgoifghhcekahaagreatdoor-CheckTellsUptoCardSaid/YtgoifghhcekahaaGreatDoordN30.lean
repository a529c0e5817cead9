/- Layer 30: what a condition is at a switch. Conditions: none. -/
import Derived.Test.YtgoifghhcekahaaGreatDoordN26B
namespace Go.Proofs.YtgoifghhcekahaaGreatDoor
set_option linter.unusedVariables false
set_option linter.unusedSimpArgs false
open Go Go.RowKit
def VE (k : Int) (L : List Tr36) (a d : Int) : Tr36 :=
  if L.any (fun x => decide (x.un.1 = d)) = true then .mk d 0 0 [] else match L.filter (fun x => decide (x.un.1 ≠ a)) with | [] => .mk a 0 0 [] | [x] => x | x :: y :: R => .mk k 0 0 (x :: y :: R)
def aK (k f v : Int) (L : List Tr36) : Tr36 :=
  match L with | [c] => if c.un.1 = 1 then .mk 2 0 0 [] else if c.un.1 = 2 then .mk 1 0 0 [] else .mk k f v [c] | L => .mk k f v L
def W6 (sw k f v : Int) (L : List Tr36) : Tr36 :=
  if k = 3 then (if f = 5 then (if v = sw then .mk 1 0 0 [] else .mk 2 0 0 []) else .mk k f v L) else if k = 4 then aK k f v L else if k = 5 then VE k L 1 2 else if k = 6 then VE k L 2 1 else .mk k f v L
def ct (sw : Int) : Tr36 → Tr36
  | .mk k f v l => W6 sw k f v (l.map (ct sw))
theorem Ul (sw : Int) (t : Tr36) : ct sw t = W6 sw t.un.1 t.un.2.1 t.un.2.2.1 (t.un.2.2.2.map (ct sw)) := by cases t; rw [ct]; rfl
theorem Tu (a : Int) (x : Tr36) : [x].filter (fun x => decide (x.un.1 ≠ a)) = if x.un.1 ≠ a then [x] else [] := by
  by_cases h : x.un.1 ≠ a
  · rw [if_pos h]; simp [h]
  · rw [if_neg h]; simp at h; simp [h]
theorem Ru (l : List Tr36) (hl : l.length ≤ 1048576) (a : Int) : Ed l a = some (l.filter fun x => decide (x.un.1 ≠ a)) := by
  unfold Ed
  obtain ⟨o, h1, h2⟩ := CV l.length (fun (o : List Tr36) (i : Nat) => (o, (i : Int))) (C5 l a) id (fun o i => o = (l.take i).filter fun x => decide (x.un.1 ≠ a))
    (fun o i hi ho => by
      have hol : o.length ≤ i := by
        rw [ho]
        have := List.length_filter_le (fun x : Tr36 => decide (x.un.1 ≠ a)) (l.take i)
        rw [List.length_take] at this; omega
      refine ⟨_, ?_, rfl⟩
      rw [C5, if_pos (by omega), Bl (List.getElem?_eq_getElem hi), Option.bind_some, Ax (by omega), List.take_succ_eq_append_getElem hi, List.filter_append, ← ho]
      unfold Dx
      by_cases c : l[i].un.1 ≠ a
      · rw [if_pos (by exact @decide_eq_true _ (_) c), Hz (by simp; omega), Tu, if_pos c]; rfl
      · rw [if_neg (by simpa using c), Tu, if_neg c, List.append_nil]; rfl)
    (fun o _ => by rw [C5, if_neg (by omega)]; rfl) [] rfl
  rw [List.take_length] at h1
  have h2' : AB (C5 l a) ([], 0) = some o := h2
  rw [h2', h1]; rfl
theorem KJ (k : Int) (l : List Tr36) (hl : l.length ≤ 1048576) (a d : Int) : Di k l a d = some (VE k l a d) := by
  obtain ⟨i, i1, i2⟩ := LI l (fun x => decide (x.un.1 = d)) (Ba l d) (fun j hj => by
    rw [Ba, if_pos (by omega), Bl (List.getElem?_eq_getElem hj), Option.bind_some, Ax (by omega)]; rfl) (by rw [Ba, if_neg (by omega)])
  unfold Di Bp BA VE
  rw [i1, Option.bind_some, Option.bind_some, i2]
  by_cases c : (l.any fun x => decide (x.un.1 = d)) = true
  · rw [if_pos c, if_pos c]
  · rw [if_neg c, if_neg c, Ru l hl, Option.bind_some]
    cases l.filter fun x => decide (x.un.1 ≠ a) with
    | nil => rfl
    | cons x R =>
      cases R with
      | nil => rfl
      | cons y R =>
        rw [if_neg (by simp only [List.length_cons]; omega), if_neg (by simp only [List.length_cons]; omega)]
theorem O0 (b : Bool) : Tr36.of ((AG b).un.1, (AG b).un.2.1, (AG b).un.2.2.1, (AG b).un.2.2.2) = if b = true then .mk 1 0 0 [] else .mk 2 0 0 [] := by cases b <;> first | rfl | simp
theorem UE (sw : Int) : ∀ (n : Nat) (t : Tr36), SizeOf.sizeOf t < n → t.cnt ≤ 1048576 → C6 n t sw = some (ct sw t)
  | 0, t, h, _ => absurd h (Nat.not_lt_zero _)
  | n + 1, t, h, hc => by
    have hl := XF t
    have hx : ∀ x ∈ t.un.2.2.2, C6 n x sw = some (ct sw x) := fun x hm => UE sw n x (by have := NJ hm; omega) (Nat.le_trans (Xz hm) hc)
    have hall : DD (C6 n) t.un.2.2.2 sw = some (t.un.2.2.2.map (ct sw)) := by
      unfold DD
      rw [PH t.un.2.2.2 (by omega) (ct sw) (Cs (C6 n) t.un.2.2.2 sw) (fun k hk out ho => by
        rw [Cs, if_pos (by omega), Bl (List.getElem?_eq_getElem hk), Option.bind_some, hx _ (List.getElem_mem hk)]; rfl) (fun out => by rw [Cs, if_neg (by omega)])]; rfl
    show DA (C6 n) t sw = _
    unfold DA
    rw [hall, Option.bind_some, O0, O0, O0, KJ t.un.1 (t.un.2.2.2.map (ct sw)) (by rw [List.length_map]; omega) 1 2, KJ t.un.1 (t.un.2.2.2.map (ct sw)) (by rw [List.length_map]; omega) 2 1, Ul]
    unfold W6
    by_cases c3 : t.un.1 = 3
    · rw [if_pos c3, if_pos c3]
      by_cases c5 : t.un.2.1 = 5
      · rw [if_pos c5, if_pos c5]
        by_cases cv : t.un.2.2.1 = sw
        · rw [if_pos (decide_eq_true cv), if_pos cv]; rfl
        · rw [if_neg (by simpa using cv), if_neg cv]; rfl
      · rw [if_neg c5, if_neg c5]; rfl
    rw [if_neg c3, if_neg c3]
    by_cases c4 : t.un.1 = 4
    · rw [if_pos c4, if_pos c4]
      unfold aK
      rcases t.un.2.2.2.map (ct sw) with _ | ⟨c, _ | ⟨y, R⟩⟩
      · rfl
      · rw [if_pos (by rfl), show ix [c] 0 = some c from Bl (k := 0) rfl]
        simp only [Option.bind_some]
        by_cases g1 : c.un.1 = 1
        · rw [decide_eq_true g1, if_pos rfl, if_pos g1]; rfl
        · rw [decide_eq_false g1, if_neg (by decide), if_neg g1, if_pos (by rfl)]
          simp only [Option.bind_some]
          by_cases g2 : c.un.1 = 2
          · rw [decide_eq_true g2, if_pos rfl, if_pos g2]; rfl
          · rw [decide_eq_false g2, if_neg (by decide), if_neg g2]; rfl
      · rw [if_neg (by simp only [List.length_cons]; omega), Option.bind_some, if_neg (by decide), if_neg (by simp only [List.length_cons]; omega), Option.bind_some, if_neg (by decide)]; rfl
    rw [if_neg c4, if_neg c4]
    by_cases c5 : t.un.1 = 5
    · rw [if_pos c5, if_pos c5]; rfl
    rw [if_neg c5, if_neg c5]
    by_cases c6 : t.un.1 = 6
    · rw [if_pos c6, if_pos c6]; rfl
    rw [if_neg c6, if_neg c6]; rfl
theorem Wl {t : Tr36} (hc : t.cnt ≤ 1048576) (sw : Int) : IW t sw = some (ct sw t) := CB (g := fun n => C6 n t sw) (fun n r h => HY n t sw r h) (UE sw (SizeOf.sizeOf t + 1) t (by omega) hc)
abbrev Y5 := Int × Int × PK
structure Gd (q : Int) (p : PK) (sw : Int) (x t : Tr36) : Prop where
  fit : FY x = true
  deep : dp x ≤ dp t
  size : x.cnt ≤ t.cnt
  none : EL 5 x = []
  same : N1 (-1, q, p) x = N1 (sw, q, p) t
theorem Yo (k f v : Int) (l : List Tr36) : (Tr36.mk k f v l).cnt = 1 + (l.map Tr36.cnt).sum := H3 (.mk k f v l)
theorem X2 (k f v : Int) (l : List Tr36) : dp (Tr36.mk k f v l) = 1 + mx (l.map dp) := OI (.mk k f v l)
theorem SM (k f v : Int) (l : List Tr36) : FY (Tr36.mk k f v l) = true ↔ FE k f v l.length ∧ ∀ x ∈ l, FY x = true := FP (.mk k f v l)
theorem P7 (a : Y5) (k f v : Int) (l : List Tr36) : N1 a (Tr36.mk k f v l) = Rf a k f v (l.map (N1 a)) := Mb a (.mk k f v l)
theorem NY {k : Int} (h : k = 1 ∨ k = 2) : FY (Tr36.mk k 0 0 []) = true := (SM ..).2 ⟨by unfold FE; rcases h with rfl | rfl <;> simp, fun x hx => absurd hx (List.not_mem_nil)⟩
theorem Ki {x : Tr36} (hf : FY x = true) {d : Int} (hd : d = 1 ∨ d = 2) (hk : x.un.1 = d) : x = .mk d 0 0 [] := by
  have h := ((FP x).1 hf).1
  have h1 := h.2.2.1 (by omega)
  have h2 : x.un.2.2.2 = [] := List.length_eq_zero_iff.1 (h.2.2.2.2.1 (by omega))
  rw [← Wi x]
  show Tr36.of (x.un.1, x.un.2.1, x.un.2.2.1, x.un.2.2.2) = _
  rw [hk, h1.1, h1.2, h2]; try rfl
theorem YB (t : Tr36) : 1 ≤ t.cnt := by rw [H3]; omega
theorem Z4 (t : Tr36) : 1 ≤ dp t := by rw [OI]; omega
theorem OH {g : Tr36 → Nat} (q : Tr36 → Bool) : ∀ l : List Tr36, ((l.filter q).map g).sum ≤ (l.map g).sum
  | [] => Nat.le_refl _
  | x :: l => by
    have := OH (g := g) q l
    by_cases c : q x = true
    · rw [List.filter_cons_of_pos c, List.map_cons, List.sum_cons, List.map_cons, List.sum_cons]; omega
    · rw [List.filter_cons_of_neg c, List.map_cons, List.sum_cons]; omega
theorem Rr {g h : Tr36 → Nat} : ∀ l : List Tr36, (∀ x ∈ l, g x ≤ h x) → (l.map g).sum ≤ (l.map h).sum
  | [], _ => Nat.le_refl _
  | x :: l, hx => by
    have h1 := hx x (List.mem_cons_self ..)
    have h2 := Rr (g := g) (h := h) l fun y hy => hx y (List.mem_cons_of_mem _ hy)
    rw [List.map_cons, List.sum_cons, List.map_cons, List.sum_cons]; omega
theorem JX {k : Int} (hk : k ≠ 3) {l : List Tr36} (h : ∀ x ∈ l, EL 5 x = []) : EL 5 (Tr36.mk k 0 0 l) = [] := by
  rw [I9]
  show (if k = 3 ∧ (0 : Int) = 5 then _ else _) ++ (l.map (EL 5)).flatten = []
  rw [if_neg (fun hh => hk hh.1), List.nil_append]
  refine List.flatten_eq_nil_iff.2 fun y hy => ?_
  obtain ⟨x, hx, rfl⟩ := List.mem_map.1 hy
  exact h x hx
theorem P5 (k : Int) (L : List Tr36) (a d : Int) : (∃ x ∈ L, x.un.1 = d) ∧ VE k L a d = .mk d 0 0 [] ∨ (∀ x ∈ L, x.un.1 ≠ d) ∧ (L.filter (fun x => decide (x.un.1 ≠ a)) = [] ∧ VE k L a d = .mk a 0 0 [] ∨ (∃ x, L.filter (fun x => decide (x.un.1 ≠ a)) = [x] ∧ VE k L a d = x) ∨ 2 ≤ (L.filter (fun x => decide (x.un.1 ≠ a))).length ∧ VE k L a d = .mk k 0 0 (L.filter fun x => decide (x.un.1 ≠ a))) := by
  unfold VE
  by_cases c : (L.any fun x => decide (x.un.1 = d)) = true
  · rw [if_pos c]
    obtain ⟨x, hx, h⟩ := List.any_eq_true.1 c
    exact .inl ⟨⟨x, hx, of_decide_eq_true h⟩, rfl⟩
  · rw [if_neg c]
    refine .inr ⟨fun x hx he => c (List.any_eq_true.2 ⟨x, hx, decide_eq_true he⟩), ?_⟩
    generalize (L.filter fun x => decide (x.un.1 ≠ a)) = R
    rcases R with _ | ⟨x, _ | ⟨y, R⟩⟩
    · exact .inl ⟨rfl, rfl⟩
    · exact .inr (.inl ⟨x, rfl, rfl⟩)
    · exact .inr (.inr ⟨by simp, rfl⟩)
theorem NU (a : Y5) : N1 a (.mk 1 0 0 []) = true := by rw [P7]; rfl
theorem OG (a : Y5) : N1 a (.mk 2 0 0 []) = false := by rw [P7]; rfl
theorem RH {q : Int} {p : PK} {sw : Int} {t : Tr36} {L : List Tr36} (hlen : L.length ≤ 8) (hk : t.un.1 = 5 ∨ t.un.1 = 6) (hL : L = t.un.2.2.2.map (ct sw)) (hx : ∀ x ∈ t.un.2.2.2, Gd q p sw (ct sw x) x) (a d : Int) (had : t.un.1 = 5 ∧ a = 1 ∧ d = 2 ∨ t.un.1 = 6 ∧ a = 2 ∧ d = 1) : Gd q p sw (VE t.un.1 L a d) t := by
  have hc1 := YB t
  have hd1 := Z4 t
  have hF : ∀ x ∈ L, FY x = true := fun x hm => by
    rw [hL] at hm
    obtain ⟨y, hy, rfl⟩ := List.mem_map.1 hm
    exact (hx y hy).fit
  have hN : ∀ x ∈ L, EL 5 x = [] := fun x hm => by
    rw [hL] at hm
    obtain ⟨y, hy, rfl⟩ := List.mem_map.1 hm
    exact (hx y hy).none
  have hD : ∀ x ∈ L, dp x + 1 ≤ dp t := fun x hm => by
    rw [hL] at hm
    obtain ⟨y, hy, rfl⟩ := List.mem_map.1 hm
    have h1 := (hx y hy).deep
    have h2 := S7 (List.mem_map.2 ⟨y, hy, rfl⟩ : dp y ∈ t.un.2.2.2.map dp)
    rw [OI t]; omega
  have hS : (L.map Tr36.cnt).sum + 1 ≤ t.cnt := by
    rw [hL, List.map_map, H3 t]
    have := Rr (g := Tr36.cnt ∘ ct sw) (h := Tr36.cnt) t.un.2.2.2 fun x hm => (hx x hm).size
    omega
  have hH : N1 (sw, q, p) t = if t.un.1 = 5 then L.all (N1 (-1, q, p)) else L.any (N1 (-1, q, p)) := by
    have e : t.un.2.2.2.map (N1 (sw, q, p)) = L.map (N1 (-1, q, p)) := by
      rw [hL, List.map_map]
      exact List.map_congr_left fun x hm => (hx x hm).same.symm
    rw [Mb, e]
    unfold Rf
    rcases hk with h | h
    · rw [h, if_neg (by decide), if_neg (by decide), if_neg (by decide), if_pos rfl, if_pos rfl, List.all_map]; rfl
    · rw [h, if_neg (by decide), if_neg (by decide), if_neg (by decide), if_neg (by decide), if_pos rfl, if_neg (by decide), List.any_map]; rfl
  have ha : a = 1 ∨ a = 2 := by omega
  have hd : d = 1 ∨ d = 2 := by omega
  have m0 : mx [] = 0 := rfl
  rcases P5 t.un.1 L a d with ⟨⟨x, hxm, hxd⟩, e⟩ | ⟨hno, ⟨e0, e⟩ | ⟨x, e0, e⟩ | ⟨e0, e⟩⟩
  · rw [e]
    have hxe := Ki (hF x hxm) hd hxd
    refine ⟨NY hd, by rw [X2]; show 1 + mx [] ≤ _; omega, by rw [Yo]; simp; omega, JX (by omega) (fun y hy => absurd hy (List.not_mem_nil)), ?_⟩
    rw [hH]
    rcases had with ⟨h, rfl, rfl⟩ | ⟨h, rfl, rfl⟩
    · rw [if_pos h, OG]
      exact (List.all_eq_false.2 ⟨x, hxm, by rw [hxe, OG]; simp⟩).symm
    · rw [if_neg (by omega), NU]
      exact (List.any_eq_true.2 ⟨x, hxm, by rw [hxe, NU]⟩).symm
  all_goals
    have hHf : N1 (sw, q, p) t = if t.un.1 = 5 then (L.filter fun x => decide (x.un.1 ≠ a)).all (N1 (-1, q, p)) else (L.filter fun x => decide (x.un.1 ≠ a)).any (N1 (-1, q, p)) := by
      rw [hH, List.all_filter, List.any_filter]
      rcases had with ⟨h, rfl, rfl⟩ | ⟨h, rfl, rfl⟩
      · rw [if_pos h, if_pos h]
        rw [Bool.eq_iff_iff, List.all_eq_true, List.all_eq_true]
        refine ⟨fun h x hxm => by rw [h x hxm]; simp, fun h x hxm => ?_⟩
        have h3 := h x hxm
        by_cases c : x.un.1 = 1
        · rw [Ki (hF x hxm) (.inl rfl) c, NU]
        · simpa [c] using h3
      · rw [if_neg (by omega), if_neg (by omega)]
        rw [Bool.eq_iff_iff, List.any_eq_true, List.any_eq_true]
        refine ⟨fun ⟨x, hxm, h3⟩ => ⟨x, hxm, ?_⟩, fun ⟨x, hxm, h3⟩ => ⟨x, hxm, by simp at h3; exact h3.2⟩⟩
        by_cases c : x.un.1 = 2
        · rw [Ki (hF x hxm) (.inr rfl) c, OG] at h3; cases h3
        · simp [c, h3]
  · rw [e]
    refine ⟨NY ha, by rw [X2]; show 1 + mx [] ≤ _; omega, by rw [Yo]; simp; omega, JX (by omega) (fun y hy => absurd hy (List.not_mem_nil)), ?_⟩
    rw [hHf, e0]
    rcases had with ⟨h, rfl, rfl⟩ | ⟨h, rfl, rfl⟩
    · rw [if_pos h, NU]; rfl
    · rw [if_neg (by omega), OG]; rfl
  · have hxm : x ∈ L := (List.mem_filter.1 (by rw [e0]; exact List.mem_singleton.2 rfl : x ∈ L.filter fun x => decide (x.un.1 ≠ a))).1
    rw [e]
    have h2 := hD x hxm
    have h3 := J1 (g := Tr36.cnt) hxm
    refine ⟨hF x hxm, by omega, by omega, hN x hxm, ?_⟩
    rw [hHf, e0]
    split <;> simp
  · have hfl := List.length_filter_le (fun x : Tr36 => decide (x.un.1 ≠ a)) L
    have hsf := OH (g := Tr36.cnt) (fun x => decide (x.un.1 ≠ a)) L
    have hmem : ∀ x ∈ L.filter (fun x => decide (x.un.1 ≠ a)), x ∈ L := fun x hm => (List.mem_filter.1 hm).1
    rw [e]
    refine ⟨(SM ..).2 ⟨by unfold FE; omega, fun x hm => hF x (hmem x hm)⟩, ?_, by rw [Yo]; omega, JX (by omega) fun x hm => hN x (hmem x hm), ?_⟩
    · have : mx ((L.filter fun x => decide (x.un.1 ≠ a)).map dp) ≤ dp t - 1 := PM fun b hb => by
        obtain ⟨x, hm, rfl⟩ := List.mem_map.1 hb
        have := hD x (hmem x hm); omega
      rw [X2]; omega
    · rw [hHf, P7]
      unfold Rf
      rcases hk with h | h
      · rw [h, if_neg (by decide), if_neg (by decide), if_neg (by decide), if_pos rfl, if_pos rfl, List.all_map]; rfl
      · rw [h, if_neg (by decide), if_neg (by decide), if_neg (by decide), if_neg (by decide), if_pos rfl, if_neg (by decide), List.any_map]; rfl
theorem QQ (q : Int) (p : PK) (sw : Int) : ∀ (n : Nat) (t : Tr36), SizeOf.sizeOf t < n → FY t = true → Gd q p sw (ct sw t) t
  | 0, t, h, _ => absurd h (Nat.not_lt_zero _)
  | n + 1, t, h, hf => by
    obtain ⟨h1, h2⟩ := (FP t).1 hf
    have hc1 := YB t
    have hd1 := Z4 t
    have hx : ∀ x ∈ t.un.2.2.2, Gd q p sw (ct sw x) x := fun x hm => QQ q p sw n x (by have := NJ hm; omega) (h2 x hm)
    have m0 : mx [] = 0 := rfl
    have leaf : ∀ k : Int, k = 1 ∨ k = 2 → N1 (-1, q, p) (.mk k 0 0 []) = N1 (sw, q, p) t → Gd q p sw (.mk k 0 0 []) t := fun k hk hh =>
      ⟨NY hk, by rw [X2]; show 1 + mx [] ≤ _; omega, by rw [Yo]; simp; omega, JX (by omega) (fun y hy => absurd hy (List.not_mem_nil)), hh⟩
    have self : t.un.2.2.2 = [] → (t.un.1 = 3 → t.un.2.1 ≠ 5) → Gd q p sw (.mk t.un.1 t.un.2.1 t.un.2.2.1 (t.un.2.2.2.map (ct sw))) t := fun he h5 => by
      have e : Tr36.mk t.un.1 t.un.2.1 t.un.2.2.1 (t.un.2.2.2.map (ct sw)) = t := by
        rw [he]
        conv => rhs; rw [← Wi t]
        show Tr36.mk t.un.1 t.un.2.1 t.un.2.2.1 [] = Tr36.of (t.un.1, t.un.2.1, t.un.2.2.1, t.un.2.2.2)
        rw [he]
      rw [e]
      refine ⟨hf, Nat.le_refl _, Nat.le_refl _, ?_, ?_⟩
      · rw [I9, he, if_neg (fun hh => h5 hh.1 hh.2)]; rfl
      · rw [Mb, Mb, he]
        unfold Rf
        by_cases c3 : t.un.1 = 3
        · have hg : gt (-1, q, p) t.un.2.1 = gt (sw, q, p) t.un.2.1 := by
            unfold gt
            simp only [if_neg (h5 c3)]
          rw [hg]; rfl
        · rw [if_neg c3, if_neg c3]; rfl
    rw [Ul]
    unfold W6
    by_cases c3 : t.un.1 = 3
    · have he : t.un.2.2.2 = [] := List.length_eq_zero_iff.1 (h1.2.2.2.2.1 (by omega))
      rw [if_pos c3]
      by_cases c5 : t.un.2.1 = 5
      · have hh : N1 (sw, q, p) t = decide (sw = t.un.2.2.1) := by
          rw [Mb]; unfold Rf
          rw [if_neg (by omega), if_pos c3, c5]
          exact decide_eq_decide.2 ⟨fun h => h.2, fun h => ⟨by omega, h⟩⟩
        rw [if_pos c5]
        by_cases cv : t.un.2.2.1 = sw
        · rw [if_pos cv]
          exact leaf 1 (.inl rfl) (by rw [NU, hh, decide_eq_true cv.symm])
        · rw [if_neg cv]
          exact leaf 2 (.inr rfl) (by rw [OG, hh, decide_eq_false (fun h => cv h.symm)])
      · rw [if_neg c5]
        exact self he fun _ => c5
    rw [if_neg c3]
    by_cases c4 : t.un.1 = 4
    · obtain ⟨y, hy⟩ : ∃ y, t.un.2.2.2 = [y] := List.length_eq_one_iff.1 (h1.2.2.2.2.2.1 c4)
      have hym : y ∈ t.un.2.2.2 := by rw [hy]; exact List.mem_cons_self ..
      have gy := hx y hym
      have hh : N1 (sw, q, p) t = !N1 (-1, q, p) (ct sw y) := by
        rw [Mb, gy.same]; unfold Rf
        rw [if_neg (by omega), if_neg c3, if_pos c4, hy]; rfl
      have hfv := h1.2.2.1 c3
      rw [if_pos c4, hy]
      show Gd q p sw (if (ct sw y).un.1 = 1 then .mk 2 0 0 [] else if (ct sw y).un.1 = 2 then .mk 1 0 0 [] else .mk t.un.1 t.un.2.1 t.un.2.2.1 [ct sw y]) t
      by_cases g1 : (ct sw y).un.1 = 1
      · rw [if_pos g1]
        exact leaf 2 (.inr rfl) (by rw [hh, Ki gy.fit (.inl rfl) g1, NU, OG]; rfl)
      rw [if_neg g1]
      by_cases g2 : (ct sw y).un.1 = 2
      · rw [if_pos g2]
        exact leaf 1 (.inl rfl) (by rw [hh, Ki gy.fit (.inr rfl) g2, NU, OG]; rfl)
      rw [if_neg g2, c4, hfv.1, hfv.2]
      have hcy : t.cnt = 1 + y.cnt := by rw [H3, hy]; simp
      have hdy : dp t = 1 + mx [dp y] := by rw [OI, hy]; rfl
      have hmy := S7 (List.mem_singleton.2 rfl : dp y ∈ [dp y])
      have hmc : mx [dp (ct sw y)] ≤ dp (ct sw y) := PM fun a ha => by rw [List.mem_singleton.1 ha]; omega
      have gd := gy.deep
      have gs := gy.size
      refine ⟨(SM ..).2 ⟨by unfold FE; simp, fun x hm => by rw [List.mem_singleton.1 hm]; exact gy.fit⟩, by rw [X2]; show 1 + mx [dp (ct sw y)] ≤ _; omega, by rw [Yo]; simp; omega, JX (by decide) fun x hm => by rw [List.mem_singleton.1 hm]; exact gy.none, ?_⟩
      rw [hh, P7]; rfl
    rw [if_neg c4]
    have hlen : (t.un.2.2.2.map (ct sw)).length = t.un.2.2.2.length := List.length_map ..
    by_cases c5 : t.un.1 = 5
    · rw [if_pos c5]
      exact RH (by have := h1.2.2.2.2.2.2 (by omega); omega) (.inl c5) rfl hx 1 2 (.inl ⟨c5, rfl, rfl⟩)
    rw [if_neg c5]
    by_cases c6 : t.un.1 = 6
    · rw [if_pos c6]
      exact RH (by have := h1.2.2.2.2.2.2 (by omega); omega) (.inr c6) rfl hx 2 1 (.inr ⟨c6, rfl, rfl⟩)
    rw [if_neg c6]
    exact self (List.length_eq_zero_iff.1 (h1.2.2.2.2.1 (by have := h1.1; have := h1.2.1; omega))) fun h => absurd h c3
abbrev cs (sw : Int) (p : Tr28) : Tr28 := th (ct sw (mi p))
theorem KI (k f v : Int) (l : List Tr36) : th (.mk k f v l) = Tr28.of (k, f, v, l.map th) := Uk _
theorem Xk (t : Tr36) : (th t).un.1 = t.un.1 := by rw [Wq]
theorem X6 {F : Tr28 → Int → Option Tr28} {p : Tr28} {sw : Int} (hl : p.un.2.2.2.length ≤ 1048576) (hF : ∀ x ∈ p.un.2.2.2, F x sw = some (cs sw x)) (hfit : ∀ x ∈ p.un.2.2.2, FY (ct sw (mi x)) = true) {a d : Int} (hd : d = 1 ∨ d = 2) :
    ∀ (L : List Tr36), L = p.un.2.2.2.map (fun x => ct sw (mi x)) → ∀ (m i : Nat), i + m = L.length → (∀ x ∈ L.take i, x.un.1 ≠ d) →
    ((∃ x ∈ L, x.un.1 = d) → AB (C4 F p sw a d) (((L.take i).filter fun x => decide (x.un.1 ≠ a)).map th, (i : Int)) = some (.inr (Tr28.of (d, 0, 0, [])))) ∧
    ((∀ x ∈ L, x.un.1 ≠ d) → AB (C4 F p sw a d) (((L.take i).filter fun x => decide (x.un.1 ≠ a)).map th, (i : Int)) = some (.inl ((L.filter fun x => decide (x.un.1 ≠ a)).map th))) := by
  intro L hL m
  have hLl : L.length = p.un.2.2.2.length := by rw [hL, List.length_map]
  induction m with
  | zero =>
    intro i hi hn
    rw [List.take_of_length_le (by omega)] at hn ⊢
    refine ⟨fun ⟨x, hx, hk⟩ => absurd hk (hn x hx), fun _ => ?_⟩
    exact AV (by rw [C4, if_neg (by omega)])
  | succ m ih =>
    intro i hi hn
    have hip : i < p.un.2.2.2.length := by omega
    have hiL : i < L.length := by omega
    have hm := List.getElem_mem hip
    have hg : L[i] = ct sw (mi p.un.2.2.2[i]) := by
      have : L[i]? = some (ct sw (mi p.un.2.2.2[i])) := by rw [hL, List.getElem?_map, List.getElem?_eq_getElem hip]; rfl
      rw [List.getElem?_eq_getElem hiL] at this
      exact Option.some.inj this
    have hk : (cs sw p.un.2.2.2[i]).un.1 = L[i].un.1 := by rw [Xk, hg]
    have hfl := List.length_filter_le (fun x : Tr36 => decide (x.un.1 ≠ a)) (L.take i)
    rw [List.length_take] at hfl
    by_cases c : L[i].un.1 = d
    · have hend : AB (C4 F p sw a d) (((L.take i).filter fun x => decide (x.un.1 ≠ a)).map th, (i : Int)) = some (.inr (Tr28.of (d, 0, 0, []))) := AV (by
        rw [C4, if_pos (by omega), Bl (List.getElem?_eq_getElem hip), Option.bind_some, hF _ hm, Option.bind_some, if_pos (hk.trans c)]
        have : cs sw p.un.2.2.2[i] = Tr28.of (d, 0, 0, []) := by
          show th (ct sw (mi p.un.2.2.2[i])) = _
          rw [Ki (hfit _ hm) hd (by rw [← hg]; exact c), KI]; rfl
        rw [this]; rfl)
      exact ⟨fun _ => hend, fun hno => absurd c (hno _ (List.getElem_mem hiL))⟩
    · have hgo : AB (C4 F p sw a d) (((L.take i).filter fun x => decide (x.un.1 ≠ a)).map th, (i : Int)) = AB (C4 F p sw a d) (((L.take (i + 1)).filter fun x => decide (x.un.1 ≠ a)).map th, ((i + 1 : Nat) : Int)) := BU (by
        rw [C4, if_pos (by omega), Bl (List.getElem?_eq_getElem hip), Option.bind_some, hF _ hm, Option.bind_some, if_neg (by rw [hk]; exact c), List.take_succ_eq_append_getElem hiL, List.filter_append, List.map_append]
        by_cases ca : L[i].un.1 ≠ a
        · rw [if_pos (by rw [hk]; exact ca), Hz (by rw [List.length_map]; show _ + 1 ≤ _; omega), Option.bind_some, Tu, if_pos ca, Ax (by omega)]
          show some (Sum.inl (_ ++ [th (ct sw (mi p.un.2.2.2[i]))], _)) = _
          rw [← hg]; rfl
        · rw [if_neg (by rw [hk]; exact ca), Tu, if_neg ca, Ax (by omega), List.map_nil, List.append_nil]; rfl)
      rw [hgo]
      exact ih (i + 1) (by omega) fun x hx => by
        rw [List.take_succ_eq_append_getElem hiL] at hx
        rcases List.mem_append.1 hx with h | h
        · exact hn x h
        · rw [List.mem_singleton.1 h]; exact c
theorem Vi (sw : Int) : ∀ (n : Nat) (t : Tr28), SizeOf.sizeOf t < n → t.cnt ≤ 1048576 → FY (mi t) = true → ER n t sw = some (cs sw t)
  | 0, t, h, _, _ => absurd h (Nat.not_lt_zero _)
  | n + 1, t, h, hc, hf => by
    obtain ⟨h1, h2⟩ := (QK t).1 hf
    have hl := WX t
    have hx : ∀ x ∈ t.un.2.2.2, ER n x sw = some (cs sw x) := fun x hm => Vi sw n x (by have := Qd hm; omega) (Nat.le_trans (WM hm) hc) (h2 x hm)
    have hfit : ∀ x ∈ t.un.2.2.2, FY (ct sw (mi x)) = true := fun x hm => (QQ 0 (0, 0, 0, 0) sw (SizeOf.sizeOf (mi x) + 1) (mi x) (by omega) (h2 x hm)).fit
    have e0 : ct sw (mi t) = W6 sw t.un.1 t.un.2.1 t.un.2.2.1 (t.un.2.2.2.map fun x => ct sw (mi x)) := by rw [Ul, PZ]; show W6 _ _ _ _ ((t.un.2.2.2.map mi).map (ct sw)) = _; rw [List.map_map]; rfl
    have self : t.un.2.2.2 = [] → th (.mk t.un.1 t.un.2.1 t.un.2.2.1 (t.un.2.2.2.map fun x => ct sw (mi x))) = t := fun he => by
      rw [KI, he]
      conv => rhs; rw [← VR t]
      show Tr28.of (t.un.1, t.un.2.1, t.un.2.2.1, []) = Tr28.of (t.un.1, t.un.2.1, t.un.2.2.1, t.un.2.2.2)
      rw [he]
    show FN (ER n) t sw = some (th (ct sw (mi t)))
    rw [e0]
    unfold FN W6
    by_cases c3 : t.un.1 = 3
    · have he : t.un.2.2.2 = [] := List.length_eq_zero_iff.1 (h1.2.2.2.2.1 (by omega))
      rw [if_pos c3]
      by_cases c5 : t.un.2.1 = 5
      · rw [if_pos (by simp [c3, c5]), if_pos c5]
        by_cases cv : t.un.2.2.1 = sw
        · rw [if_pos cv, if_pos cv, KI]; rfl
        · rw [if_neg cv, if_neg cv, KI]; rfl
      · rw [if_neg (by simp [c5]), if_pos (by omega), if_neg c5, self he]
    rw [if_neg (by simp [c3]), if_neg c3]
    by_cases c4 : t.un.1 = 4
    · obtain ⟨y, hy⟩ : ∃ y, t.un.2.2.2 = [y] := List.length_eq_one_iff.1 (h1.2.2.2.2.2.1 c4)
      have hym : y ∈ t.un.2.2.2 := by rw [hy]; exact List.mem_cons_self ..
      have hfv := h1.2.2.1 c3
      have hky : (cs sw y).un.1 = (ct sw (mi y)).un.1 := Xk _
      rw [if_neg (by omega), if_pos c4, if_pos c4, hy, show ix [y] 0 = some y from Bl (k := 0) rfl, Option.bind_some, hx y hym, Option.bind_some]
      show _ = some (th (if (ct sw (mi y)).un.1 = 1 then .mk 2 0 0 [] else if (ct sw (mi y)).un.1 = 2 then .mk 1 0 0 [] else .mk t.un.1 t.un.2.1 t.un.2.2.1 [ct sw (mi y)]))
      rw [hky]
      by_cases g1 : (ct sw (mi y)).un.1 = 1
      · rw [if_pos (by simp [g1]), if_pos g1, g1, KI]; rfl
      by_cases g2 : (ct sw (mi y)).un.1 = 2
      · rw [if_pos (by simp [g2]), if_neg g1, if_pos g2, g2, KI]; rfl
      rw [if_neg (by simp [g1, g2]), if_neg g1, if_neg g2, KI, c4, hfv.1, hfv.2]; rfl
    rw [if_neg c4]
    by_cases clt : t.un.1 < 4
    · have he : t.un.2.2.2 = [] := List.length_eq_zero_iff.1 (h1.2.2.2.2.1 (by omega))
      rw [if_pos clt, if_neg c4, if_neg (by omega), if_neg (by omega), self he]
    rw [if_neg clt, if_neg c4]
    have fin : ∀ a d : Int, (d = 1 ∨ d = 2) → (HA (AB (C4 (ER n) t sw a d) ([], 0)) fun x5 => (if (x5.length : Int) = 0 then some (Tr28.of (a, 0, 0, ([] : List Tr28))) else (if (x5.length : Int) = 1 then (ix x5 0).bind fun x12 => some x12 else some (Tr28.of (t.un.1, 0, 0, x5))))) = some (th (VE t.un.1 (t.un.2.2.2.map fun x => ct sw (mi x)) a d)) := fun a d hd => by
      obtain ⟨r1, r2⟩ := X6 (a := a) (by omega) hx hfit hd (t.un.2.2.2.map fun x => ct sw (mi x)) rfl (t.un.2.2.2.map fun x => ct sw (mi x)).length 0 (by omega) (fun x hx => absurd hx (List.not_mem_nil))
      have z : ((((t.un.2.2.2.map fun x => ct sw (mi x)).take 0).filter fun x => decide (x.un.1 ≠ a)).map th, ((0 : Nat) : Int)) = (([] : List Tr28), (0 : Int)) := rfl
      rw [z] at r1 r2
      rcases P5 t.un.1 (t.un.2.2.2.map fun x => ct sw (mi x)) a d with ⟨hex, e⟩ | ⟨hno, ⟨e1, e⟩ | ⟨x, e1, e⟩ | ⟨e1, e⟩⟩
      · rw [r1 hex, e, KI]; rfl
      · rw [r2 hno, e1, e, KI]; rfl
      · rw [r2 hno, e1, e]; rfl
      · rw [r2 hno, e, KI]
        show (if _ then _ else _) = _
        rw [if_neg (by rw [List.length_map]; omega), if_neg (by rw [List.length_map]; omega)]
    by_cases c6 : t.un.1 = 6
    · rw [if_pos c6, if_neg (by omega), if_pos c6]
      exact fin 2 1 (.inl rfl)
    · have c5 : t.un.1 = 5 := by unfold FE at h1; omega
      rw [if_neg c6, if_pos c5]
      exact fin 1 2 (.inr rfl)
theorem SY {t : Tr28} (hc : t.cnt ≤ 1048576) (hf : FY (mi t) = true) (sw : Int) : Ns t sw = some (cs sw t) := CB (g := fun n => ER n t sw) (fun n r h => LL n t sw r h) (Vi sw (SizeOf.sizeOf t + 1) t (by omega) hc hf)
theorem UP : ∀ (n : Nat) (t : Tr36), SizeOf.sizeOf t < n → (th t).cnt = t.cnt
  | 0, t, h => absurd h (Nat.not_lt_zero _)
  | n + 1, t, h => by
    rw [H3, P2, Wq]
    show 1 + ((t.un.2.2.2.map th).map Tr28.cnt).sum = _
    rw [List.map_map]
    congr 2
    exact List.map_congr_left fun x hx => UP n x (by have := NJ hx; omega)
end Go.Proofs.YtgoifghhcekahaaGreatDoor
