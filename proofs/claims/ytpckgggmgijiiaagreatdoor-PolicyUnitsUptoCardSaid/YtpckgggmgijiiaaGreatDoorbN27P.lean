/- Layer 27: policies: how great, how deep, how wide. Conditions: none. -/
import Derived.Test.YtpckgggmgijiiaaGreatDoorbN26B
namespace Go.Proofs.YtpckgggmgijiiaaGreatDoor
set_option linter.unusedVariables false
set_option linter.unusedSimpArgs false
open Go Go.RowKit
theorem RP (t : Tr24) : Tr24.of (t.un.1, t.un.2.1, t.un.2.2.1, t.un.2.2.2) = t := by cases t; rfl
theorem R2 (t : Tr34) : Tr34.of (t.un.1, t.un.2.1, t.un.2.2.1, t.un.2.2.2) = t := by cases t; rfl
theorem TM (t : Tr27) : Tr27.of (t.un.1, t.un.2.1, t.un.2.2.1, t.un.2.2.2.1, t.un.2.2.2.2) = t := by cases t; rfl
theorem Up (t : Tr37) : Tr37.of (t.un.1, t.un.2.1, t.un.2.2.1, t.un.2.2.2.1, t.un.2.2.2.2) = t := by cases t; rfl
theorem Wm {t x : Tr27} (h : x ∈ t.un.2.2.2.2) : SizeOf.sizeOf x < SizeOf.sizeOf t := by
  cases t with
  | mk k p f v l =>
    have h' : x ∈ l := h
    have := List.sizeOf_lt_of_mem h'
    simp only [Tr27.mk.sizeOf_spec]; omega
theorem Vk {t x : Tr37} (h : x ∈ t.un.2.2.2.2) : SizeOf.sizeOf x < SizeOf.sizeOf t := by
  cases t with
  | mk k p f v l =>
    have h' : x ∈ l := h
    have := List.sizeOf_lt_of_mem h'
    simp only [Tr37.mk.sizeOf_spec]; omega
theorem SP (t : Tr27) : t.cnt = 1 + (t.un.2.1.cnt + (t.un.2.2.2.2.map Tr27.cnt).sum) := by cases t; rw [Tr27.cnt]; rfl
theorem LQ (t : Tr37) : t.cnt = 1 + (t.un.2.1.cnt + (t.un.2.2.2.2.map Tr37.cnt).sum) := by cases t; rw [Tr37.cnt]; rfl
theorem cD {t x : Tr27} (h : x ∈ t.un.2.2.2.2) : x.cnt ≤ t.cnt := by rw [SP t]; have := KX (g := Tr27.cnt) h; omega
theorem cP {t x : Tr37} (h : x ∈ t.un.2.2.2.2) : x.cnt ≤ t.cnt := by rw [LQ t]; have := KX (g := Tr37.cnt) h; omega
theorem qD (t : Tr27) : t.un.2.1.cnt + 1 ≤ t.cnt := by rw [SP t]; omega
theorem qP (t : Tr37) : t.un.2.1.cnt + 1 ≤ t.cnt := by rw [LQ t]; omega
theorem lD (t : Tr27) : t.un.2.2.2.2.length + 1 ≤ t.cnt := by rw [SP t]; have := LT (g := Tr27.cnt) (fun x => by rw [SP x]; omega) t.un.2.2.2.2; omega
theorem lP (t : Tr37) : t.un.2.2.2.2.length + 1 ≤ t.cnt := by rw [LQ t]; have := LT (g := Tr37.cnt) (fun x => by rw [LQ x]; omega) t.un.2.2.2.2; omega
def pm : Tr27 → Tr37
  | .mk k p f v l => .mk k (mi p) f v (l.map pm)
theorem QB (t : Tr27) : (pm t).un = (t.un.1, mi t.un.2.1, t.un.2.2.1, t.un.2.2.2.1, t.un.2.2.2.2.map pm) := by cases t; rw [pm]; rfl
theorem Va (t : Tr27) : pm t = Tr37.of (t.un.1, mi t.un.2.1, t.un.2.2.1, t.un.2.2.2.1, t.un.2.2.2.2.map pm) := by cases t; rw [pm]; rfl
def pt : Tr37 → Tr27
  | .mk k p f v l => .mk k (th p) f v (l.map pt)
theorem Vj (t : Tr37) : (pt t).un = (t.un.1, th t.un.2.1, t.un.2.2.1, t.un.2.2.2.1, t.un.2.2.2.2.map pt) := by cases t; rw [pt]; rfl
theorem W8 (t : Tr37) : pt t = Tr27.of (t.un.1, th t.un.2.1, t.un.2.2.1, t.un.2.2.2.1, t.un.2.2.2.2.map pt) := by cases t; rw [pt]; rfl
theorem TG : ∀ (n : Nat) (t : Tr27), SizeOf.sizeOf t < n → (pm t).cnt = t.cnt
  | 0, t, h => absurd h (Nat.not_lt_zero _)
  | n + 1, t, h => by
    rw [LQ, SP, QB]
    show 1 + ((mi t.un.2.1).cnt + ((t.un.2.2.2.2.map pm).map Tr37.cnt).sum) = _
    rw [List.map_map, U2]
    congr 3
    exact List.map_congr_left fun x hx => TG n x (by have := Wm hx; omega)
theorem YN (t : Tr27) : (pm t).cnt = t.cnt := TG (SizeOf.sizeOf t + 1) t (by omega)
theorem loop_copy' {α β : Type} (l : List α) (hl : l.length ≤ 1000000000) (f : α → β) (step : Int × List β → Option ((Int × List β) ⊕ List β))
    (hs : ∀ (k : Nat) (hk : k < l.length) (out : List β), out.length = k → step ((k : Int), out) = (HH out [f l[k]]).bind fun x => some (.inl (AO ((k : Int) + 1), x)))
    (he : ∀ out, step ((l.length : Int), out) = some (.inr out)) : AY step (0, []) = some (l.map f) := by
  obtain ⟨s, h1, h2⟩ := Ha l.length (fun (out : List β) (k : Nat) => ((k : Int), out)) step id (fun out k => out = (l.take k).map f)
    (fun out k hk hI => ⟨out ++ [f l[k]], by
      rw [hs k hk out (by rw [hI]; simp; omega), Pv (by rw [hI]; simp; omega), Option.bind_some, AC (by omega)]; rfl, by
      show out ++ [f l[k]] = (l.take (k + 1)).map f
      rw [hI, List.take_succ_eq_append_getElem hk, List.map_append]; rfl⟩) (fun out _ => he out) [] (by simp)
  have h3 : AY step (0, []) = some (id s) := h2
  rw [h3, h1, List.take_length]; rfl
theorem Sg : ∀ (n : Nat) (t : Tr27), SizeOf.sizeOf t < n → t.cnt ≤ 1048576 → EA n t = some (pm t)
  | 0, t, h, _ => absurd h (Nat.not_lt_zero _)
  | n + 1, t, h, hc => by
    have hl := lD t
    have hq := qD t
    show E0 (EA n) t = _
    unfold E0
    rw [RP, UB (by omega), Option.bind_some, loop_copy' t.un.2.2.2.2 (by omega) pm (DV (EA n) t) (fun k hk out ho => by
      have hm := List.getElem_mem hk
      rw [DV, if_pos (by omega), Ds (List.getElem?_eq_getElem hk), Option.bind_some, RP, TM, Sg n _ (by have := Wm hm; omega) (Nat.le_trans (cD hm) hc), Option.bind_some, R2, Up]) (fun out => by rw [DV, if_neg (by omega)]), Option.bind_some, Va]
theorem TH {t : Tr27} (hc : t.cnt ≤ 1048576) : NV t = some (pm t) := Di (g := fun n => EA n t) (fun n r h => KM n t r h) (Sg (SizeOf.sizeOf t + 1) t (by omega) hc)
theorem Ph : ∀ (n : Nat) (t : Tr37), SizeOf.sizeOf t < n → t.cnt ≤ 1048576 → Dr n t = some (pt t)
  | 0, t, h, _ => absurd h (Nat.not_lt_zero _)
  | n + 1, t, h, hc => by
    have hl := lP t
    have hq := qP t
    show DX (Dr n) t = _
    unfold DX
    rw [R2, SF (by omega), Option.bind_some, loop_copy' t.un.2.2.2.2 (by omega) pt (Dc (Dr n) t) (fun k hk out ho => by
      have hm := List.getElem_mem hk
      rw [Dc, if_pos (by omega), Ds (List.getElem?_eq_getElem hk), Option.bind_some, R2, Up, Ph n _ (by have := Vk hm; omega) (Nat.le_trans (cP hm) hc), Option.bind_some, RP, TM]) (fun out => by rw [Dc, if_neg (by omega)]), Option.bind_some, W8]
theorem Ro {t : Tr37} (hc : t.cnt ≤ 1048576) : GN t = some (pt t) := Di (g := fun n => Dr n t) (fun n r h => Jr n t r h) (Ph (SizeOf.sizeOf t + 1) t (by omega) hc)
def sz : Tr37 → Nat
  | .mk k p _ _ l => 1 + (if k < 2 ∨ 4 < k then p.cnt else 0) + (l.map sz).sum
theorem TZ (t : Tr37) : sz t = 1 + (if t.un.1 < 2 ∨ 4 < t.un.1 then t.un.2.1.cnt else 0) + (t.un.2.2.2.2.map sz).sum := by cases t; rw [sz]; rfl
theorem sum_mono' {α : Type} {g h : α → Nat} : ∀ l : List α, (∀ x ∈ l, g x ≤ h x) → (l.map g).sum ≤ (l.map h).sum
  | [], _ => Nat.le_refl _
  | x :: l, hx => by
    have h1 := hx x (List.mem_cons_self ..)
    have h2 := sum_mono' (g := g) (h := h) l fun y hy => hx y (List.mem_cons_of_mem _ hy)
    rw [List.map_cons, List.sum_cons, List.map_cons, List.sum_cons]; omega
theorem T6 : ∀ (n : Nat) (t : Tr37), SizeOf.sizeOf t < n → sz t ≤ t.cnt
  | 0, t, h => absurd h (Nat.not_lt_zero _)
  | n + 1, t, h => by
    have := sum_mono' (g := sz) (h := Tr37.cnt) t.un.2.2.2.2 fun x hx => T6 n x (by have := Vk hx; omega)
    rw [TZ, LQ]
    split <;> omega
theorem Zb (t : Tr37) : sz t ≤ t.cnt := T6 (SizeOf.sizeOf t + 1) t (by omega)
theorem Wt (t : Tr27) : sz (pm t) = 1 + (if t.un.1 < 2 ∨ 4 < t.un.1 then t.un.2.1.cnt else 0) + (t.un.2.2.2.2.map fun x => sz (pm x)).sum := by rw [TZ, QB]; show 1 + (if _ then (mi t.un.2.1).cnt else 0) + ((t.un.2.2.2.2.map pm).map sz).sum = _; rw [List.map_map, U2]; rfl
theorem Pj : ∀ (n : Nat) (t : Tr27), SizeOf.sizeOf t < n → t.cnt ≤ 1048576 → D0 n t = some (sz (pm t) : Int)
  | 0, t, h, _ => absurd h (Nat.not_lt_zero _)
  | n + 1, t, h, hc => by
    have hl := lD t
    have hq := qD t
    have hs := Zb (pm t)
    rw [YN] at hs
    have hse := Wt t
    show EY (D0 n) t = _
    unfold EY
    have e1 : (if (decide (t.un.1 < 2) || decide (4 < t.un.1)) = true then (Jz (Tr24.of (t.un.2.1.un.1, t.un.2.1.un.2.1, t.un.2.1.un.2.2.1, t.un.2.1.un.2.2.2))).bind fun x2 => some (AO (1 + x2)) else some 1) = some (1 + ((if t.un.1 < 2 ∨ 4 < t.un.1 then t.un.2.1.cnt else 0 : Nat) : Int)) := by
      rw [RP, Q5 (by omega), Option.bind_some, AC (by omega)]
      by_cases c : t.un.1 < 2 ∨ 4 < t.un.1
      · rw [if_pos (by simpa using c), if_pos c]
      · rw [if_neg (by simpa using c), if_neg c]; rfl
    rw [e1, Option.bind_some]
    obtain ⟨o, h1, h2⟩ := Ha t.un.2.2.2.2.length (fun (o : Int) (i : Nat) => (o, (i : Int))) (Dv (D0 n) t) id (fun o i => o = 1 + ((if t.un.1 < 2 ∨ 4 < t.un.1 then t.un.2.1.cnt else 0 : Nat) : Int) + (((t.un.2.2.2.2.take i).map fun x => sz (pm x)).sum : Nat))
      (fun o i hi ho => by
        have hm := List.getElem_mem hi
        have hx := Pj n t.un.2.2.2.2[i] (by have := Wm hm; omega) (Nat.le_trans (cD hm) hc)
        have hs2 : ((t.un.2.2.2.2.take (i + 1)).map fun x => sz (pm x)).sum = ((t.un.2.2.2.2.take i).map fun x => sz (pm x)).sum + sz (pm t.un.2.2.2.2[i]) := by
          rw [List.take_succ_eq_append_getElem hi, List.map_append, List.sum_append]; simp
        have hle := QA (g := fun x => sz (pm x)) t.un.2.2.2.2 (i + 1)
        refine ⟨o + (sz (pm t.un.2.2.2.2[i]) : Int), ?_, by rw [ho, hs2]; omega⟩
        rw [Dv, if_pos (by omega), Ds (List.getElem?_eq_getElem hi), Option.bind_some, RP, TM, hx, Option.bind_some, AC (by rw [ho]; omega), AC (by omega)]; rfl)
      (fun o _ => by rw [Dv, if_neg (by omega)]; rfl) (1 + ((if t.un.1 < 2 ∨ 4 < t.un.1 then t.un.2.1.cnt else 0 : Nat) : Int)) (by simp)
    rw [List.take_length] at h1
    have h2' : AY (Dv (D0 n) t) (1 + ((if t.un.1 < 2 ∨ 4 < t.un.1 then t.un.2.1.cnt else 0 : Nat) : Int), 0) = some o := h2
    rw [h2', h1, Option.bind_some, hse]
    exact congrArg some (by omega)
theorem Ru {t : Tr27} (hc : t.cnt ≤ 1048576) : Nr t = some (sz (pm t) : Int) := Di (g := fun n => D0 n t) (fun n r h => Kz n t r h) (Pj (SizeOf.sizeOf t + 1) t (by omega) hc)
def dq : Tr37 → Nat
  | .mk _ _ _ _ l => 1 + mx (l.map dq)
theorem Vw (t : Tr37) : dq t = 1 + mx (t.un.2.2.2.2.map dq) := by cases t; rw [dq]; rfl
theorem Ut : ∀ (n : Nat) (t : Tr37), SizeOf.sizeOf t < n → dq t ≤ t.cnt
  | 0, t, h => absurd h (Nat.not_lt_zero _)
  | n + 1, t, h => by
    have : mx (t.un.2.2.2.2.map dq) ≤ (t.un.2.2.2.2.map Tr37.cnt).sum := Vb fun a ha => by
      obtain ⟨x, hx, rfl⟩ := List.mem_map.1 ha
      exact Nat.le_trans (Ut n x (by have := Vk hx; omega)) (KX (g := Tr37.cnt) hx)
    rw [Vw, LQ]; omega
theorem ZE (t : Tr37) : dq t ≤ t.cnt := Ut (SizeOf.sizeOf t + 1) t (by omega)
theorem Wv (t : Tr27) : dq (pm t) = 1 + mx (t.un.2.2.2.2.map fun x => dq (pm x)) := by rw [Vw, QB]; show 1 + mx ((t.un.2.2.2.2.map pm).map dq) = _; rw [List.map_map]; rfl
theorem Pc : ∀ (n : Nat) (t : Tr27), SizeOf.sizeOf t < n → t.cnt ≤ 1048576 → DZ n t = some (dq (pm t) : Int)
  | 0, t, h, _ => absurd h (Nat.not_lt_zero _)
  | n + 1, t, h, hc => by
    have hl := lD t
    show ES (DZ n) t = _
    unfold ES
    obtain ⟨o, h1, h2⟩ := Ha t.un.2.2.2.2.length (fun (o : Int) (i : Nat) => (o, (i : Int))) (Dz (DZ n) t) id (fun o i => o = 1 + (mx ((t.un.2.2.2.2.take i).map fun x => dq (pm x)) : Nat))
      (fun o i hi ho => by
        have hm := List.getElem_mem hi
        have hx := Pc n t.un.2.2.2.2[i] (by have := Wm hm; omega) (Nat.le_trans (cD hm) hc)
        have hd := ZE (pm t.un.2.2.2.2[i])
        rw [YN] at hd
        have hcl := cD hm
        refine ⟨max o (dq (pm t.un.2.2.2.2[i]) + 1 : Int), ?_, by rw [ho, List.take_succ_eq_append_getElem hi, List.map_append, List.map_cons, List.map_nil, RX]; omega⟩
        rw [Dz, if_pos (by omega), Ds (List.getElem?_eq_getElem hi), Option.bind_some, RP, TM, hx, Option.bind_some, Option.bind_some]
        by_cases q : o ≤ (dq (pm t.un.2.2.2.2[i]) : Int)
        · rw [if_pos q, RP, TM, hx, Option.bind_some, AC (by omega), Option.bind_some, AC (by omega)]
          rw [show max o ((dq (pm t.un.2.2.2.2[i]) : Int) + 1) = (dq (pm t.un.2.2.2.2[i]) : Int) + 1 by omega]; rfl
        · rw [if_neg q, Option.bind_some, AC (by omega)]
          rw [show max o ((dq (pm t.un.2.2.2.2[i]) : Int) + 1) = o by omega]; rfl)
      (fun o _ => by rw [Dz, if_neg (by omega)]; rfl) 1 (by simp [mx])
    rw [List.take_length] at h1
    have h2' : AY (Dz (DZ n) t) (1, 0) = some o := h2
    rw [h2', h1, Option.bind_some, Wv]
    exact congrArg some (by omega)
theorem Rr {t : Tr27} (hc : t.cnt ≤ 1048576) : OD t = some (dq (pm t) : Int) := Di (g := fun n => DZ n t) (fun n r h => KJ n t r h) (Pc (SizeOf.sizeOf t + 1) t (by omega) hc)
def wf (k n w : Int) : Int := if k = 3 then min (n * w) 1000 else if k = 4 then min (n + w) 1000 else max n w
def w0 (k : Int) : Int := if k = 3 then 1 else 0
def wd : Tr37 → Int
  | .mk k _ _ _ l => if 3 ≤ k ∧ k ≤ 5 then (l.map wd).foldl (wf k) (w0 k) else 1
theorem Ul (t : Tr37) : wd t = if 3 ≤ t.un.1 ∧ t.un.1 ≤ 5 then (t.un.2.2.2.2.map wd).foldl (wf t.un.1) (w0 t.un.1) else 1 := by cases t; rw [wd]; rfl
theorem Xi {k n w : Int} (hn : 0 ≤ n ∧ n ≤ 1000) (hw : 0 ≤ w ∧ w ≤ 1000) : 0 ≤ wf k n w ∧ wf k n w ≤ 1000 := by
  unfold wf
  have h := Int.mul_nonneg hn.1 hw.1
  by_cases c3 : k = 3
  · rw [if_pos c3]; omega
  · rw [if_neg c3]
    by_cases c4 : k = 4
    · rw [if_pos c4]; omega
    · rw [if_neg c4]; omega
theorem P7 {k : Int} : ∀ (l : List Int) (n : Int), 0 ≤ n ∧ n ≤ 1000 → (∀ w ∈ l, 0 ≤ w ∧ w ≤ 1000) → 0 ≤ l.foldl (wf k) n ∧ l.foldl (wf k) n ≤ 1000
  | [], n, hn, _ => hn
  | w :: l, n, hn, h => P7 l (wf k n w) (Xi hn (h w (List.mem_cons_self ..))) fun x hx => h x (List.mem_cons_of_mem _ hx)
theorem VB (k : Int) : 0 ≤ w0 k ∧ w0 k ≤ 1000 := by unfold w0; split <;> omega
theorem Vf : ∀ (n : Nat) (t : Tr37), SizeOf.sizeOf t < n → 0 ≤ wd t ∧ wd t ≤ 1000
  | 0, t, h => absurd h (Nat.not_lt_zero _)
  | n + 1, t, h => by
    rw [Ul]
    split
    · exact P7 _ _ (VB _) fun w hw => by
        obtain ⟨x, hx, rfl⟩ := List.mem_map.1 hw
        exact Vf n x (by have := Vk hx; omega)
    · omega
theorem Xw (t : Tr37) : 0 ≤ wd t ∧ wd t ≤ 1000 := Vf (SizeOf.sizeOf t + 1) t (by omega)
theorem VG {a b : Int} (ha : 0 ≤ a ∧ a ≤ 1000) (hb : 0 ≤ b ∧ b ≤ 1000) : 0 ≤ a * b ∧ a * b ≤ 1000000 := by
  refine ⟨Int.mul_nonneg ha.1 hb.1, ?_⟩
  have h1 : a * b ≤ 1000 * b := Int.mul_le_mul_of_nonneg_right ha.2 hb.1
  omega
theorem SB (k n : Int) (l : List Int) (w : Int) : (l ++ [w]).foldl (wf k) n = wf k (l.foldl (wf k) n) w := by rw [List.foldl_append]; rfl
theorem Xk (t : Tr27) : wd (pm t) = if 3 ≤ t.un.1 ∧ t.un.1 ≤ 5 then (t.un.2.2.2.2.map fun x => wd (pm x)).foldl (wf t.un.1) (w0 t.un.1) else 1 := by rw [Ul, QB]; show (if _ then ((t.un.2.2.2.2.map pm).map wd).foldl _ _ else _) = _; rw [List.map_map]; rfl
theorem TW (n : Int) : Ic n = min n 1000 := by unfold Ic; split <;> omega
theorem RV : ∀ (n : Nat) (t : Tr27), SizeOf.sizeOf t < n → t.cnt ≤ 1048576 → DG n t = some (wd (pm t))
  | 0, t, h, _ => absurd h (Nat.not_lt_zero _)
  | n + 1, t, h, hc => by
    have hl := lD t
    have hx : ∀ x ∈ t.un.2.2.2.2, DG n x = some (wd (pm x)) := fun x hm => RV n x (by have := Wm hm; omega) (Nat.le_trans (cD hm) hc)
    have bd : ∀ i, ∀ w ∈ ((t.un.2.2.2.2.take i).map fun x => wd (pm x)), 0 ≤ w ∧ w ≤ 1000 := fun i w hw => by
      obtain ⟨x, _, rfl⟩ := List.mem_map.1 hw
      exact Xw (pm x)
    show E3 (DG n) t = _
    rw [Xk]
    unfold E3
    by_cases c : 3 ≤ t.un.1 ∧ t.un.1 ≤ 5
    case neg => rw [if_pos (by simp only [Bool.or_eq_true, decide_eq_true_eq]; omega), if_neg c]
    case pos =>
      have e0 : (if t.un.1 = 3 then some 1 else some 0 : Option Int) = some (w0 t.un.1) := by unfold w0; split <;> rfl
      rw [if_neg (by simp only [Bool.or_eq_true, decide_eq_true_eq]; omega), if_pos c, e0, Option.bind_some]
      obtain ⟨o, h1, h2⟩ := Ha t.un.2.2.2.2.length (fun (o : Int) (i : Nat) => (o, (i : Int))) (Dt (DG n) t) id (fun o i => o = ((t.un.2.2.2.2.take i).map fun x => wd (pm x)).foldl (wf t.un.1) (w0 t.un.1))
        (fun o i hi ho => by
          have hb := P7 (k := t.un.1) _ (w0 t.un.1) (VB _) (bd i)
          rw [← ho] at hb
          have hw := Xw (pm t.un.2.2.2.2[i])
          have hm := VG hb hw
          refine ⟨_, ?_, rfl⟩
          rw [Dt, if_pos (by omega), Ds (List.getElem?_eq_getElem hi), Option.bind_some, RP, TM, hx _ (List.getElem_mem hi), Option.bind_some, AC (by omega), AC (by omega), List.take_succ_eq_append_getElem hi, List.map_append, List.map_cons, List.map_nil, SB, ← ho, TW]
          unfold wf
          by_cases c3 : t.un.1 = 3
          · rw [if_pos c3, if_pos c3, Option.bind_some, if_neg (by omega), Option.bind_some, decide_eq_false (show ¬ t.un.1 = 5 by omega), if_neg (by simp)]; rfl
          rw [if_neg c3, if_neg c3, Option.bind_some, AC (by omega)]
          by_cases c4 : t.un.1 = 4
          · rw [if_pos c4, if_pos c4, Option.bind_some, TW, decide_eq_false (show ¬ t.un.1 = 5 by omega), if_neg (by simp)]; rfl
          rw [if_neg c4, if_neg c4, Option.bind_some, decide_eq_true (show t.un.1 = 5 by omega)]
          by_cases cw : o < wd (pm t.un.2.2.2.2[i])
          · rw [decide_eq_true cw, if_pos (by rfl), show max o (wd (pm t.un.2.2.2.2[i])) = wd (pm t.un.2.2.2.2[i]) by omega]; rfl
          · rw [decide_eq_false cw, if_neg (by decide), show max o (wd (pm t.un.2.2.2.2[i])) = o by omega]; rfl)
        (fun o _ => by rw [Dt, if_neg (by omega)]; rfl) (w0 t.un.1) rfl
      rw [List.take_length] at h1
      have h2' : AY (Dt (DG n) t) (w0 t.un.1, 0) = some o := h2
      rw [h2', h1]; rfl
theorem Tj {t : Tr27} (hc : t.cnt ≤ 1048576) : N1 t = some (wd (pm t)) := Di (g := fun n => DG n t) (fun n r h => KO n t r h) (RV (SizeOf.sizeOf t + 1) t (by omega) hc)
end Go.Proofs.YtpckgggmgijiiaaGreatDoor
