/- Layer 30: policies: how great, how deep, how wide. Conditions: none. -/
import Derived.Test.YtgoifghhcekahaaGreatDoordN30
namespace Go.Proofs.YtgoifghhcekahaaGreatDoor
set_option linter.unusedVariables false
set_option linter.unusedSimpArgs false
open Go Go.RowKit
theorem Kq (t : Tr28) : Tr28.of (t.un.1, t.un.2.1, t.un.2.2.1, t.un.2.2.2) = t := by cases t; rfl
theorem Lg (t : Tr36) : Tr36.of (t.un.1, t.un.2.1, t.un.2.2.1, t.un.2.2.2) = t := by cases t; rfl
theorem Nj (t : Tr31) : Tr31.of (t.un.1, t.un.2.1, t.un.2.2.1, t.un.2.2.2.1, t.un.2.2.2.2) = t := by cases t; rfl
theorem MX (t : Tr39) : Tr39.of (t.un.1, t.un.2.1, t.un.2.2.1, t.un.2.2.2.1, t.un.2.2.2.2) = t := by cases t; rfl
theorem We {t x : Tr31} (h : x ∈ t.un.2.2.2.2) : SizeOf.sizeOf x < SizeOf.sizeOf t := by
  cases t with
  | mk k p f v l =>
    have h' : x ∈ l := h
    have := List.sizeOf_lt_of_mem h'
    simp only [Tr31.mk.sizeOf_spec]; omega
theorem Ub {t x : Tr39} (h : x ∈ t.un.2.2.2.2) : SizeOf.sizeOf x < SizeOf.sizeOf t := by
  cases t with
  | mk k p f v l =>
    have h' : x ∈ l := h
    have := List.sizeOf_lt_of_mem h'
    simp only [Tr39.mk.sizeOf_spec]; omega
theorem T2 (t : Tr31) : t.cnt = 1 + (t.un.2.1.cnt + (t.un.2.2.2.2.map Tr31.cnt).sum) := by cases t; rw [Tr31.cnt]; rfl
theorem MY (t : Tr39) : t.cnt = 1 + (t.un.2.1.cnt + (t.un.2.2.2.2.map Tr39.cnt).sum) := by cases t; rw [Tr39.cnt]; rfl
theorem cD {t x : Tr31} (h : x ∈ t.un.2.2.2.2) : x.cnt ≤ t.cnt := by rw [T2 t]; have := J1 (g := Tr31.cnt) h; omega
theorem cP {t x : Tr39} (h : x ∈ t.un.2.2.2.2) : x.cnt ≤ t.cnt := by rw [MY t]; have := J1 (g := Tr39.cnt) h; omega
theorem qD (t : Tr31) : t.un.2.1.cnt + 1 ≤ t.cnt := by rw [T2 t]; omega
theorem qP (t : Tr39) : t.un.2.1.cnt + 1 ≤ t.cnt := by rw [MY t]; omega
theorem lD (t : Tr31) : t.un.2.2.2.2.length + 1 ≤ t.cnt := by rw [T2 t]; have := LG (g := Tr31.cnt) (fun x => by rw [T2 x]; omega) t.un.2.2.2.2; omega
theorem lP (t : Tr39) : t.un.2.2.2.2.length + 1 ≤ t.cnt := by rw [MY t]; have := LG (g := Tr39.cnt) (fun x => by rw [MY x]; omega) t.un.2.2.2.2; omega
def pm : Tr31 → Tr39
  | .mk k p f v l => .mk k (mi p) f v (l.map pm)
theorem O8 (t : Tr31) : (pm t).un = (t.un.1, mi t.un.2.1, t.un.2.2.1, t.un.2.2.2.1, t.un.2.2.2.2.map pm) := by cases t; rw [pm]; rfl
theorem Yi (t : Tr31) : pm t = Tr39.of (t.un.1, mi t.un.2.1, t.un.2.2.1, t.un.2.2.2.1, t.un.2.2.2.2.map pm) := by cases t; rw [pm]; rfl
def pt : Tr39 → Tr31
  | .mk k p f v l => .mk k (th p) f v (l.map pt)
theorem Yu (t : Tr39) : (pt t).un = (t.un.1, th t.un.2.1, t.un.2.2.1, t.un.2.2.2.1, t.un.2.2.2.2.map pt) := by cases t; rw [pt]; rfl
theorem WS (t : Tr39) : pt t = Tr31.of (t.un.1, th t.un.2.1, t.un.2.2.1, t.un.2.2.2.1, t.un.2.2.2.2.map pt) := by cases t; rw [pt]; rfl
theorem Uq : ∀ (n : Nat) (t : Tr31), SizeOf.sizeOf t < n → (pm t).cnt = t.cnt
  | 0, t, h => absurd h (Nat.not_lt_zero _)
  | n + 1, t, h => by
    rw [MY, T2, O8]
    show 1 + ((mi t.un.2.1).cnt + ((t.un.2.2.2.2.map pm).map Tr39.cnt).sum) = _
    rw [List.map_map, V6]
    congr 3
    exact List.map_congr_left fun x hx => Uq n x (by have := We hx; omega)
theorem YV (t : Tr31) : (pm t).cnt = t.cnt := Uq (SizeOf.sizeOf t + 1) t (by omega)
theorem loop_copy' {α β : Type} (l : List α) (hl : l.length ≤ 1000000000) (f : α → β) (step : Int × List β → Option ((Int × List β) ⊕ List β))
    (hs : ∀ (k : Nat) (hk : k < l.length) (out : List β), out.length = k → step ((k : Int), out) = (GP out [f l[k]]).bind fun x => some (.inl (AJ ((k : Int) + 1), x)))
    (he : ∀ out, step ((l.length : Int), out) = some (.inr out)) : AB step (0, []) = some (l.map f) := by
  obtain ⟨s, h1, h2⟩ := CV l.length (fun (out : List β) (k : Nat) => ((k : Int), out)) step id (fun out k => out = (l.take k).map f)
    (fun out k hk hI => ⟨out ++ [f l[k]], by
      rw [hs k hk out (by rw [hI]; simp; omega), Hz (by rw [hI]; simp; omega), Option.bind_some, Ax (by omega)]; rfl, by
      show out ++ [f l[k]] = (l.take (k + 1)).map f
      rw [hI, List.take_succ_eq_append_getElem hk, List.map_append]; rfl⟩) (fun out _ => he out) [] (by simp)
  have h3 : AB step (0, []) = some (id s) := h2
  rw [h3, h1, List.take_length]; rfl
theorem S8 : ∀ (n : Nat) (t : Tr31), SizeOf.sizeOf t < n → t.cnt ≤ 1048576 → EI n t = some (pm t)
  | 0, t, h, _ => absurd h (Nat.not_lt_zero _)
  | n + 1, t, h, hc => by
    have hl := lD t
    have hq := qD t
    show Fg (EI n) t = _
    unfold Fg
    rw [Kq, Wn (by omega), Option.bind_some, loop_copy' t.un.2.2.2.2 (by omega) pm (D7 (EI n) t) (fun k hk out ho => by
      have hm := List.getElem_mem hk
      rw [D7, if_pos (by omega), Bl (List.getElem?_eq_getElem hk), Option.bind_some, Kq, Nj, S8 n _ (by have := We hm; omega) (Nat.le_trans (cD hm) hc), Option.bind_some, Lg, MX]) (fun out => by rw [D7, if_neg (by omega)]), Option.bind_some, Yi]
theorem Ux {t : Tr31} (hc : t.cnt ≤ 1048576) : N5 t = some (pm t) := CB (g := fun n => EI n t) (fun n r h => KC n t r h) (S8 (SizeOf.sizeOf t + 1) t (by omega) hc)
theorem P3 : ∀ (n : Nat) (t : Tr39), SizeOf.sizeOf t < n → t.cnt ≤ 1048576 → DB n t = some (pt t)
  | 0, t, h, _ => absurd h (Nat.not_lt_zero _)
  | n + 1, t, h, hc => by
    have hl := lP t
    have hq := qP t
    show D6 (DB n) t = _
    unfold D6
    rw [Lg, TU (by omega), Option.bind_some, loop_copy' t.un.2.2.2.2 (by omega) pt (Dm (DB n) t) (fun k hk out ho => by
      have hm := List.getElem_mem hk
      rw [Dm, if_pos (by omega), Bl (List.getElem?_eq_getElem hk), Option.bind_some, Lg, MX, P3 n _ (by have := Ub hm; omega) (Nat.le_trans (cP hm) hc), Option.bind_some, Kq, Nj]) (fun out => by rw [Dm, if_neg (by omega)]), Option.bind_some, WS]
theorem SD {t : Tr39} (hc : t.cnt ≤ 1048576) : KY t = some (pt t) := CB (g := fun n => DB n t) (fun n r h => Jl n t r h) (P3 (SizeOf.sizeOf t + 1) t (by omega) hc)
def sz : Tr39 → Nat
  | .mk k p _ _ l => 1 + (if k < 2 ∨ 4 < k then p.cnt else 0) + (l.map sz).sum
theorem RT (t : Tr39) : sz t = 1 + (if t.un.1 < 2 ∨ 4 < t.un.1 then t.un.2.1.cnt else 0) + (t.un.2.2.2.2.map sz).sum := by cases t; rw [sz]; rfl
theorem sum_mono' {α : Type} {g h : α → Nat} : ∀ l : List α, (∀ x ∈ l, g x ≤ h x) → (l.map g).sum ≤ (l.map h).sum
  | [], _ => Nat.le_refl _
  | x :: l, hx => by
    have h1 := hx x (List.mem_cons_self ..)
    have h2 := sum_mono' (g := g) (h := h) l fun y hy => hx y (List.mem_cons_of_mem _ hy)
    rw [List.map_cons, List.sum_cons, List.map_cons, List.sum_cons]; omega
theorem UF : ∀ (n : Nat) (t : Tr39), SizeOf.sizeOf t < n → sz t ≤ t.cnt
  | 0, t, h => absurd h (Nat.not_lt_zero _)
  | n + 1, t, h => by
    have := sum_mono' (g := sz) (h := Tr39.cnt) t.un.2.2.2.2 fun x hx => UF n x (by have := Ub hx; omega)
    rw [RT, MY]
    split <;> omega
theorem b7 (t : Tr39) : sz t ≤ t.cnt := UF (SizeOf.sizeOf t + 1) t (by omega)
theorem YF (t : Tr31) : sz (pm t) = 1 + (if t.un.1 < 2 ∨ 4 < t.un.1 then t.un.2.1.cnt else 0) + (t.un.2.2.2.2.map fun x => sz (pm x)).sum := by rw [RT, O8]; show 1 + (if _ then (mi t.un.2.1).cnt else 0) + ((t.un.2.2.2.2.map pm).map sz).sum = _; rw [List.map_map, V6]; rfl
theorem P4 : ∀ (n : Nat) (t : Tr31), SizeOf.sizeOf t < n → t.cnt ≤ 1048576 → El n t = some (sz (pm t) : Int)
  | 0, t, h, _ => absurd h (Nat.not_lt_zero _)
  | n + 1, t, h, hc => by
    have hl := lD t
    have hq := qD t
    have hs := b7 (pm t)
    rw [YV] at hs
    have hse := YF t
    show E2 (El n) t = _
    unfold E2
    have e1 : (if (decide (t.un.1 < 2) || decide (4 < t.un.1)) = true then (Jv (Tr28.of (t.un.2.1.un.1, t.un.2.1.un.2.1, t.un.2.1.un.2.2.1, t.un.2.1.un.2.2.2))).bind fun x2 => some (AJ (1 + x2)) else some 1) = some (1 + ((if t.un.1 < 2 ∨ 4 < t.un.1 then t.un.2.1.cnt else 0 : Nat) : Int)) := by
      rw [Kq, Rj (by omega), Option.bind_some, Ax (by omega)]
      by_cases c : t.un.1 < 2 ∨ 4 < t.un.1
      · rw [if_pos (by simpa using c), if_pos c]
      · rw [if_neg (by simpa using c), if_neg c]; rfl
    rw [e1, Option.bind_some]
    obtain ⟨o, h1, h2⟩ := CV t.un.2.2.2.2.length (fun (o : Int) (i : Nat) => (o, (i : Int))) (DN (El n) t) id (fun o i => o = 1 + ((if t.un.1 < 2 ∨ 4 < t.un.1 then t.un.2.1.cnt else 0 : Nat) : Int) + (((t.un.2.2.2.2.take i).map fun x => sz (pm x)).sum : Nat))
      (fun o i hi ho => by
        have hm := List.getElem_mem hi
        have hx := P4 n t.un.2.2.2.2[i] (by have := We hm; omega) (Nat.le_trans (cD hm) hc)
        have hs2 : ((t.un.2.2.2.2.take (i + 1)).map fun x => sz (pm x)).sum = ((t.un.2.2.2.2.take i).map fun x => sz (pm x)).sum + sz (pm t.un.2.2.2.2[i]) := by
          rw [List.take_succ_eq_append_getElem hi, List.map_append, List.sum_append]; simp
        have hle := HX (g := fun x => sz (pm x)) t.un.2.2.2.2 (i + 1)
        refine ⟨o + (sz (pm t.un.2.2.2.2[i]) : Int), ?_, by rw [ho, hs2]; omega⟩
        rw [DN, if_pos (by omega), Bl (List.getElem?_eq_getElem hi), Option.bind_some, Kq, Nj, hx, Option.bind_some, Ax (by rw [ho]; omega), Ax (by omega)]; rfl)
      (fun o _ => by rw [DN, if_neg (by omega)]; rfl) (1 + ((if t.un.1 < 2 ∨ 4 < t.un.1 then t.un.2.1.cnt else 0 : Nat) : Int)) (by simp)
    rw [List.take_length] at h1
    have h2' : AB (DN (El n) t) (1 + ((if t.un.1 < 2 ∨ 4 < t.un.1 then t.un.2.1.cnt else 0 : Nat) : Int), 0) = some o := h2
    rw [h2', h1, Option.bind_some, hse]
    exact congrArg some (by omega)
theorem NQ {t : Tr31} (hc : t.cnt ≤ 1048576) : Lp t = some (sz (pm t) : Int) := CB (g := fun n => El n t) (fun n r h => KN n t r h) (P4 (SizeOf.sizeOf t + 1) t (by omega) hc)
def dq : Tr39 → Nat
  | .mk _ _ _ _ l => 1 + mx (l.map dq)
theorem US (t : Tr39) : dq t = 1 + mx (t.un.2.2.2.2.map dq) := by cases t; rw [dq]; rfl
theorem UR : ∀ (n : Nat) (t : Tr39), SizeOf.sizeOf t < n → dq t ≤ t.cnt
  | 0, t, h => absurd h (Nat.not_lt_zero _)
  | n + 1, t, h => by
    have : mx (t.un.2.2.2.2.map dq) ≤ (t.un.2.2.2.2.map Tr39.cnt).sum := PM fun a ha => by
      obtain ⟨x, hx, rfl⟩ := List.mem_map.1 ha
      exact Nat.le_trans (UR n x (by have := Ub hx; omega)) (J1 (g := Tr39.cnt) hx)
    rw [US, MY]; omega
theorem cU (t : Tr39) : dq t ≤ t.cnt := UR (SizeOf.sizeOf t + 1) t (by omega)
theorem Yv (t : Tr31) : dq (pm t) = 1 + mx (t.un.2.2.2.2.map fun x => dq (pm x)) := by rw [US, O8]; show 1 + mx ((t.un.2.2.2.2.map pm).map dq) = _; rw [List.map_map]; rfl
theorem P1 : ∀ (n : Nat) (t : Tr31), SizeOf.sizeOf t < n → t.cnt ≤ 1048576 → Ei n t = some (dq (pm t) : Int)
  | 0, t, h, _ => absurd h (Nat.not_lt_zero _)
  | n + 1, t, h, hc => by
    have hl := lD t
    show E1 (Ei n) t = _
    unfold E1
    obtain ⟨o, h1, h2⟩ := CV t.un.2.2.2.2.length (fun (o : Int) (i : Nat) => (o, (i : Int))) (DI (Ei n) t) id (fun o i => o = 1 + (mx ((t.un.2.2.2.2.take i).map fun x => dq (pm x)) : Nat))
      (fun o i hi ho => by
        have hm := List.getElem_mem hi
        have hx := P1 n t.un.2.2.2.2[i] (by have := We hm; omega) (Nat.le_trans (cD hm) hc)
        have hd := cU (pm t.un.2.2.2.2[i])
        rw [YV] at hd
        have hcl := cD hm
        refine ⟨max o (dq (pm t.un.2.2.2.2[i]) + 1 : Int), ?_, by rw [ho, List.take_succ_eq_append_getElem hi, List.map_append, List.map_cons, List.map_nil, S3]; omega⟩
        rw [DI, if_pos (by omega), Bl (List.getElem?_eq_getElem hi), Option.bind_some, Kq, Nj, hx, Option.bind_some, Option.bind_some]
        by_cases q : o ≤ (dq (pm t.un.2.2.2.2[i]) : Int)
        · rw [if_pos q, Kq, Nj, hx, Option.bind_some, Ax (by omega), Option.bind_some, Ax (by omega)]
          rw [show max o ((dq (pm t.un.2.2.2.2[i]) : Int) + 1) = (dq (pm t.un.2.2.2.2[i]) : Int) + 1 by omega]; rfl
        · rw [if_neg q, Option.bind_some, Ax (by omega)]
          rw [show max o ((dq (pm t.un.2.2.2.2[i]) : Int) + 1) = o by omega]; rfl)
      (fun o _ => by rw [DI, if_neg (by omega)]; rfl) 1 (by simp [mx])
    rw [List.take_length] at h1
    have h2' : AB (DI (Ei n) t) (1, 0) = some o := h2
    rw [h2', h1, Option.bind_some, Yv]
    exact congrArg some (by omega)
theorem Ss {t : Tr31} (hc : t.cnt ≤ 1048576) : OU t = some (dq (pm t) : Int) := CB (g := fun n => Ei n t) (fun n r h => Kv n t r h) (P1 (SizeOf.sizeOf t + 1) t (by omega) hc)
def wf (k n w : Int) : Int := if k = 3 then min (n * w) 1000 else if k = 4 then min (n + w) 1000 else max n w
def w0 (k : Int) : Int := if k = 3 then 1 else 0
def wd : Tr39 → Int
  | .mk k _ _ _ l => if 3 ≤ k ∧ k ≤ 5 then (l.map wd).foldl (wf k) (w0 k) else 1
theorem Tr (t : Tr39) : wd t = if 3 ≤ t.un.1 ∧ t.un.1 ≤ 5 then (t.un.2.2.2.2.map wd).foldl (wf t.un.1) (w0 t.un.1) else 1 := by cases t; rw [wd]; rfl
theorem XQ {k n w : Int} (hn : 0 ≤ n ∧ n ≤ 1000) (hw : 0 ≤ w ∧ w ≤ 1000) : 0 ≤ wf k n w ∧ wf k n w ≤ 1000 := by
  unfold wf
  have h := Int.mul_nonneg hn.1 hw.1
  by_cases c3 : k = 3
  · rw [if_pos c3]; omega
  · rw [if_neg c3]
    by_cases c4 : k = 4
    · rw [if_pos c4]; omega
    · rw [if_neg c4]; omega
theorem LA {k : Int} : ∀ (l : List Int) (n : Int), 0 ≤ n ∧ n ≤ 1000 → (∀ w ∈ l, 0 ≤ w ∧ w ≤ 1000) → 0 ≤ l.foldl (wf k) n ∧ l.foldl (wf k) n ≤ 1000
  | [], n, hn, _ => hn
  | w :: l, n, hn, h => LA l (wf k n w) (XQ hn (h w (List.mem_cons_self ..))) fun x hx => h x (List.mem_cons_of_mem _ hx)
theorem SX (k : Int) : 0 ≤ w0 k ∧ w0 k ≤ 1000 := by unfold w0; split <;> omega
theorem WL : ∀ (n : Nat) (t : Tr39), SizeOf.sizeOf t < n → 0 ≤ wd t ∧ wd t ≤ 1000
  | 0, t, h => absurd h (Nat.not_lt_zero _)
  | n + 1, t, h => by
    rw [Tr]
    split
    · exact LA _ _ (SX _) fun w hw => by
        obtain ⟨x, hx, rfl⟩ := List.mem_map.1 hw
        exact WL n x (by have := Ub hx; omega)
    · omega
theorem XS (t : Tr39) : 0 ≤ wd t ∧ wd t ≤ 1000 := WL (SizeOf.sizeOf t + 1) t (by omega)
theorem VL {a b : Int} (ha : 0 ≤ a ∧ a ≤ 1000) (hb : 0 ≤ b ∧ b ≤ 1000) : 0 ≤ a * b ∧ a * b ≤ 1000000 := by
  refine ⟨Int.mul_nonneg ha.1 hb.1, ?_⟩
  have h1 : a * b ≤ 1000 * b := Int.mul_le_mul_of_nonneg_right ha.2 hb.1
  omega
theorem Kf (k n : Int) (l : List Int) (w : Int) : (l ++ [w]).foldl (wf k) n = wf k (l.foldl (wf k) n) w := by rw [List.foldl_append]; rfl
theorem SR : ∀ (n : Nat) (t : Tr39), SizeOf.sizeOf t < n → t.cnt ≤ 1048576 → B9 n t = some (wd t)
  | 0, t, h, _ => absurd h (Nat.not_lt_zero _)
  | n + 1, t, h, hc => by
    have hl := lP t
    have hx : ∀ x ∈ t.un.2.2.2.2, B9 n x = some (wd x) := fun x hm => SR n x (by have := Ub hm; omega) (Nat.le_trans (cP hm) hc)
    have bd : ∀ i, ∀ w ∈ ((t.un.2.2.2.2.take i).map wd), 0 ≤ w ∧ w ≤ 1000 := fun i w hw => by
      obtain ⟨x, _, rfl⟩ := List.mem_map.1 hw
      exact XS x
    show DM (B9 n) t = _
    rw [Tr]
    unfold DM
    by_cases c3 : t.un.1 = 3
    · rw [if_pos c3, if_pos (by omega)]
      obtain ⟨o, h1, h2⟩ := CV t.un.2.2.2.2.length (fun (o : Int) (i : Nat) => (o, (i : Int))) (CY (B9 n) t) id (fun o i => o = ((t.un.2.2.2.2.take i).map wd).foldl (wf t.un.1) (w0 t.un.1))
        (fun o i hi ho => by
          have hb := LA (k := t.un.1) _ (w0 t.un.1) (SX _) (bd i)
          rw [← ho] at hb
          have hm := VL hb (XS t.un.2.2.2.2[i])
          refine ⟨_, ?_, rfl⟩
          rw [CY, if_pos (by omega), Bl (List.getElem?_eq_getElem hi), Option.bind_some, Lg, MX, hx _ (List.getElem_mem hi), Option.bind_some, Ax (by omega), Ax (by omega), List.take_succ_eq_append_getElem hi, List.map_append, List.map_cons, List.map_nil, Kf, ← ho]
          unfold wf
          rw [if_pos c3]; rfl)
        (fun o _ => by rw [CY, if_neg (by omega)]; rfl) 1 (by unfold w0; rw [if_pos c3]; rfl)
      rw [List.take_length] at h1
      have h2' : AB (CY (B9 n) t) (1, 0) = some o := h2
      rw [h2', h1]; rfl
    rw [if_neg c3]
    by_cases c4 : t.un.1 = 4
    · rw [if_pos c4, if_pos (by omega)]
      obtain ⟨o, h1, h2⟩ := CV t.un.2.2.2.2.length (fun (o : Int) (i : Nat) => (o, (i : Int))) (CU (B9 n) t) id (fun o i => o = ((t.un.2.2.2.2.take i).map wd).foldl (wf t.un.1) (w0 t.un.1))
        (fun o i hi ho => by
          have hb := LA (k := t.un.1) _ (w0 t.un.1) (SX _) (bd i)
          rw [← ho] at hb
          have hm := XS t.un.2.2.2.2[i]
          refine ⟨_, ?_, rfl⟩
          rw [CU, if_pos (by omega), Bl (List.getElem?_eq_getElem hi), Option.bind_some, Lg, MX, hx _ (List.getElem_mem hi), Option.bind_some, Ax (by omega), Ax (by omega), List.take_succ_eq_append_getElem hi, List.map_append, List.map_cons, List.map_nil, Kf, ← ho]
          unfold wf
          rw [if_neg c3, if_pos c4]; rfl)
        (fun o _ => by rw [CU, if_neg (by omega)]; rfl) 0 (by unfold w0; rw [if_neg c3]; rfl)
      rw [List.take_length] at h1
      have h2' : AB (CU (B9 n) t) (0, 0) = some o := h2
      rw [h2', h1]; rfl
    rw [if_neg c4]
    by_cases c5 : t.un.1 = 5
    · rw [if_pos c5, if_pos (by omega)]
      obtain ⟨o, h1, h2⟩ := CV t.un.2.2.2.2.length (fun (o : Int) (i : Nat) => (o, (i : Int))) (CX (B9 n) t) id (fun o i => o = ((t.un.2.2.2.2.take i).map wd).foldl (wf t.un.1) (w0 t.un.1))
        (fun o i hi ho => by
          refine ⟨_, ?_, rfl⟩
          rw [CX, if_pos (by omega), Bl (List.getElem?_eq_getElem hi), Option.bind_some, Lg, MX, hx _ (List.getElem_mem hi), Option.bind_some, Ax (by omega), List.take_succ_eq_append_getElem hi, List.map_append, List.map_cons, List.map_nil, Kf, ← ho]
          unfold wf
          rw [if_neg c3, if_neg c4]; rfl)
        (fun o _ => by rw [CX, if_neg (by omega)]; rfl) 0 (by unfold w0; rw [if_neg c3]; rfl)
      rw [List.take_length] at h1
      have h2' : AB (CX (B9 n) t) (0, 0) = some o := h2
      rw [h2', h1]; rfl
    rw [if_neg c5, if_neg (by omega)]; rfl
theorem UT {t : Tr39} (hc : t.cnt ≤ 1048576) : JC t = some (wd t) := CB (g := fun n => B9 n t) (fun n r h => ID n t r h) (SR (SizeOf.sizeOf t + 1) t (by omega) hc)
theorem X8 (t : Tr31) : wd (pm t) = if 3 ≤ t.un.1 ∧ t.un.1 ≤ 5 then (t.un.2.2.2.2.map fun x => wd (pm x)).foldl (wf t.un.1) (w0 t.un.1) else 1 := by rw [Tr, O8]; show (if _ then ((t.un.2.2.2.2.map pm).map wd).foldl _ _ else _) = _; rw [List.map_map]; rfl
theorem VJ (n : Int) : Id n = min n 1000 := by unfold Id; split <;> omega
theorem Te : ∀ (n : Nat) (t : Tr31), SizeOf.sizeOf t < n → t.cnt ≤ 1048576 → DZ n t = some (wd (pm t))
  | 0, t, h, _ => absurd h (Nat.not_lt_zero _)
  | n + 1, t, h, hc => by
    have hl := lD t
    have hx : ∀ x ∈ t.un.2.2.2.2, DZ n x = some (wd (pm x)) := fun x hm => Te n x (by have := We hm; omega) (Nat.le_trans (cD hm) hc)
    have bd : ∀ i, ∀ w ∈ ((t.un.2.2.2.2.take i).map fun x => wd (pm x)), 0 ≤ w ∧ w ≤ 1000 := fun i w hw => by
      obtain ⟨x, _, rfl⟩ := List.mem_map.1 hw
      exact XS (pm x)
    show Fc (DZ n) t = _
    rw [X8]
    unfold Fc
    by_cases c : 3 ≤ t.un.1 ∧ t.un.1 ≤ 5
    case neg => rw [if_pos (by simp only [Bool.or_eq_true, decide_eq_true_eq]; omega), if_neg c]
    case pos =>
      have e0 : (if t.un.1 = 3 then some 1 else some 0 : Option Int) = some (w0 t.un.1) := by unfold w0; split <;> rfl
      rw [if_neg (by simp only [Bool.or_eq_true, decide_eq_true_eq]; omega), if_pos c, e0, Option.bind_some]
      obtain ⟨o, h1, h2⟩ := CV t.un.2.2.2.2.length (fun (o : Int) (i : Nat) => (o, (i : Int))) (DJ (DZ n) t) id (fun o i => o = ((t.un.2.2.2.2.take i).map fun x => wd (pm x)).foldl (wf t.un.1) (w0 t.un.1))
        (fun o i hi ho => by
          have hb := LA (k := t.un.1) _ (w0 t.un.1) (SX _) (bd i)
          rw [← ho] at hb
          have hw := XS (pm t.un.2.2.2.2[i])
          have hm := VL hb hw
          refine ⟨_, ?_, rfl⟩
          rw [DJ, if_pos (by omega), Bl (List.getElem?_eq_getElem hi), Option.bind_some, Kq, Nj, hx _ (List.getElem_mem hi), Option.bind_some, Ax (by omega), Ax (by omega), List.take_succ_eq_append_getElem hi, List.map_append, List.map_cons, List.map_nil, Kf, ← ho, VJ]
          unfold wf
          by_cases c3 : t.un.1 = 3
          · rw [if_pos c3, if_pos c3, Option.bind_some, if_neg (by omega), Option.bind_some, decide_eq_false (show ¬ t.un.1 = 5 by omega), if_neg (by simp)]; rfl
          rw [if_neg c3, if_neg c3, Option.bind_some, Ax (by omega)]
          by_cases c4 : t.un.1 = 4
          · rw [if_pos c4, if_pos c4, Option.bind_some, VJ, decide_eq_false (show ¬ t.un.1 = 5 by omega), if_neg (by simp)]; rfl
          rw [if_neg c4, if_neg c4, Option.bind_some, decide_eq_true (show t.un.1 = 5 by omega)]
          by_cases cw : o < wd (pm t.un.2.2.2.2[i])
          · rw [decide_eq_true cw, if_pos (by rfl), show max o (wd (pm t.un.2.2.2.2[i])) = wd (pm t.un.2.2.2.2[i]) by omega]; rfl
          · rw [decide_eq_false cw, if_neg (by decide), show max o (wd (pm t.un.2.2.2.2[i])) = o by omega]; rfl)
        (fun o _ => by rw [DJ, if_neg (by omega)]; rfl) (w0 t.un.1) rfl
      rw [List.take_length] at h1
      have h2' : AB (DJ (DZ n) t) (w0 t.un.1, 0) = some o := h2
      rw [h2', h1]; rfl
theorem VK {t : Tr31} (hc : t.cnt ≤ 1048576) : Ov t = some (wd (pm t)) := CB (g := fun n => DZ n t) (fun n r h => KG n t r h) (Te (SizeOf.sizeOf t + 1) t (by omega) hc)
end Go.Proofs.YtgoifghhcekahaaGreatDoor
