/- Layer 27: policies: how great, how deep, how wide. Conditions: none. -/
import Derived.Test.YtpckgggmgijiiaaGreatDoorbN26B
namespace Go.Proofs.YtpckgggmgijiiaaGreatDoor
set_option linter.unusedVariables false
set_option linter.unusedSimpArgs false
open Go Go.RowKit
theorem Q9 (t : Tr24) : Tr24.of (t.un.1, t.un.2.1, t.un.2.2.1, t.un.2.2.2) = t := by cases t; rfl
theorem Q7 (t : Tr34) : Tr34.of (t.un.1, t.un.2.1, t.un.2.2.1, t.un.2.2.2) = t := by cases t; rfl
theorem SN (t : Tr27) : Tr27.of (t.un.1, t.un.2.1, t.un.2.2.1, t.un.2.2.2.1, t.un.2.2.2.2) = t := by cases t; rfl
theorem SS (t : Tr37) : Tr37.of (t.un.1, t.un.2.1, t.un.2.2.1, t.un.2.2.2.1, t.un.2.2.2.2) = t := by cases t; rfl
theorem Wu {t x : Tr27} (h : x ∈ t.un.2.2.2.2) : SizeOf.sizeOf x < SizeOf.sizeOf t := by
  cases t with
  | mk k p f v l =>
    have h' : x ∈ l := h
    have := List.sizeOf_lt_of_mem h'
    simp only [Tr27.mk.sizeOf_spec]; omega
theorem WM {t x : Tr37} (h : x ∈ t.un.2.2.2.2) : SizeOf.sizeOf x < SizeOf.sizeOf t := by
  cases t with
  | mk k p f v l =>
    have h' : x ∈ l := h
    have := List.sizeOf_lt_of_mem h'
    simp only [Tr37.mk.sizeOf_spec]; omega
theorem Sv (t : Tr37) : t.cnt = 1 + (t.un.2.1.cnt + (t.un.2.2.2.2.map Tr37.cnt).sum) := by cases t; rw [Tr37.cnt]; rfl
theorem cP {t x : Tr37} (h : x ∈ t.un.2.2.2.2) : x.cnt ≤ t.cnt := by rw [Sv t]; have := RH (g := Tr37.cnt) h; omega
theorem qP (t : Tr37) : t.un.2.1.cnt + 1 ≤ t.cnt := by rw [Sv t]; omega
theorem lP (t : Tr37) : t.un.2.2.2.2.length + 1 ≤ t.cnt := by rw [Sv t]; have := Px (g := Tr37.cnt) (fun x => by rw [Sv x]; omega) t.un.2.2.2.2; omega
def pm : Tr27 → Tr37
  | .mk k p f v l => .mk k (mi p) f v (l.map pm)
theorem KB (t : Tr27) : (pm t).un = (t.un.1, mi t.un.2.1, t.un.2.2.1, t.un.2.2.2.1, t.un.2.2.2.2.map pm) := by cases t; rw [pm]; rfl
theorem UW (t : Tr27) : pm t = Tr37.of (t.un.1, mi t.un.2.1, t.un.2.2.1, t.un.2.2.2.1, t.un.2.2.2.2.map pm) := by cases t; rw [pm]; rfl
def pt : Tr37 → Tr27
  | .mk k p f v l => .mk k (th p) f v (l.map pt)
theorem We (t : Tr37) : (pt t).un = (t.un.1, th t.un.2.1, t.un.2.2.1, t.un.2.2.2.1, t.un.2.2.2.2.map pt) := by cases t; rw [pt]; rfl
theorem U2 (t : Tr37) : pt t = Tr27.of (t.un.1, th t.un.2.1, t.un.2.2.1, t.un.2.2.2.1, t.un.2.2.2.2.map pt) := by cases t; rw [pt]; rfl
theorem loop_copy' {α β : Type} (l : List α) (hl : l.length ≤ 1000000000) (f : α → β) (step : Int × List β → Option ((Int × List β) ⊕ List β))
    (hs : ∀ (k : Nat) (hk : k < l.length) (out : List β), out.length = k → step ((k : Int), out) = (HG out [f l[k]]).bind fun x => some (.inl (AO ((k : Int) + 1), x)))
    (he : ∀ out, step ((l.length : Int), out) = some (.inr out)) : AW step (0, []) = some (l.map f) := by
  obtain ⟨s, h1, h2⟩ := I0 l.length (fun (out : List β) (k : Nat) => ((k : Int), out)) step id (fun out k => out = (l.take k).map f)
    (fun out k hk hI => ⟨out ++ [f l[k]], by
      rw [hs k hk out (by rw [hI]; simp; omega), Ni (by rw [hI]; simp; omega), Option.bind_some, AF (by omega)]; rfl, by
      show out ++ [f l[k]] = (l.take (k + 1)).map f
      rw [hI, List.take_succ_eq_append_getElem hk, List.map_append]; rfl⟩) (fun out _ => he out) [] (by simp)
  have h3 : AW step (0, []) = some (id s) := h2
  rw [h3, h1, List.take_length]; rfl
theorem Ph : ∀ (n : Nat) (t : Tr37), SizeOf.sizeOf t < n → t.cnt ≤ 1048576 → C1 n t = some (pt t)
  | 0, t, h, _ => absurd h (Nat.not_lt_zero _)
  | n + 1, t, h, hc => by
    have hl := lP t
    have hq := qP t
    show Di (C1 n) t = _
    unfold Di
    rw [Q7, SA (by omega), Option.bind_some, loop_copy' t.un.2.2.2.2 (by omega) pt (CW (C1 n) t) (fun k hk out ho => by
      have hm := List.getElem_mem hk
      rw [CW, if_pos (by omega), Dv (List.getElem?_eq_getElem hk), Option.bind_some, Q7, SS, Ph n _ (by have := WM hm; omega) (Nat.le_trans (cP hm) hc), Option.bind_some, Q9, SN]) (fun out => by rw [CW, if_neg (by omega)]), Option.bind_some, U2]
theorem Rl {t : Tr37} (hc : t.cnt ≤ 1048576) : FE t = some (pt t) := Dd (g := fun n => C1 n t) (fun n r h => Hq n t r h) (Ph (SizeOf.sizeOf t + 1) t (by omega) hc)
def sz : Tr37 → Nat
  | .mk k p _ _ l => 1 + (if k < 2 ∨ 4 < k then p.cnt else 0) + (l.map sz).sum
def wf (k n w : Int) : Int := if k = 3 then min (n * w) 1000 else if k = 4 then min (n + w) 1000 else max n w
def w0 (k : Int) : Int := if k = 3 then 1 else 0
def wd : Tr37 → Int
  | .mk k _ _ _ l => if 3 ≤ k ∧ k ≤ 5 then (l.map wd).foldl (wf k) (w0 k) else 1
theorem S7 (t : Tr37) : wd t = if 3 ≤ t.un.1 ∧ t.un.1 ≤ 5 then (t.un.2.2.2.2.map wd).foldl (wf t.un.1) (w0 t.un.1) else 1 := by cases t; rw [wd]; rfl
theorem V9 {k n w : Int} (hn : 0 ≤ n ∧ n ≤ 1000) (hw : 0 ≤ w ∧ w ≤ 1000) : 0 ≤ wf k n w ∧ wf k n w ≤ 1000 := by
  unfold wf
  have h := Int.mul_nonneg hn.1 hw.1
  by_cases c3 : k = 3
  · rw [if_pos c3]; omega
  · rw [if_neg c3]
    by_cases c4 : k = 4
    · rw [if_pos c4]; omega
    · rw [if_neg c4]; omega
theorem P1 {k : Int} : ∀ (l : List Int) (n : Int), 0 ≤ n ∧ n ≤ 1000 → (∀ w ∈ l, 0 ≤ w ∧ w ≤ 1000) → 0 ≤ l.foldl (wf k) n ∧ l.foldl (wf k) n ≤ 1000
  | [], n, hn, _ => hn
  | w :: l, n, hn, h => P1 l (wf k n w) (V9 hn (h w (List.mem_cons_self ..))) fun x hx => h x (List.mem_cons_of_mem _ hx)
theorem UM (k : Int) : 0 ≤ w0 k ∧ w0 k ≤ 1000 := by unfold w0; split <;> omega
theorem U3 : ∀ (n : Nat) (t : Tr37), SizeOf.sizeOf t < n → 0 ≤ wd t ∧ wd t ≤ 1000
  | 0, t, h => absurd h (Nat.not_lt_zero _)
  | n + 1, t, h => by
    rw [S7]
    split
    · exact P1 _ _ (UM _) fun w hw => by
        obtain ⟨x, hx, rfl⟩ := List.mem_map.1 hw
        exact U3 n x (by have := WM hx; omega)
    · omega
theorem XL (t : Tr37) : 0 ≤ wd t ∧ wd t ≤ 1000 := U3 (SizeOf.sizeOf t + 1) t (by omega)
theorem VM {a b : Int} (ha : 0 ≤ a ∧ a ≤ 1000) (hb : 0 ≤ b ∧ b ≤ 1000) : 0 ≤ a * b ∧ a * b ≤ 1000000 := by
  refine ⟨Int.mul_nonneg ha.1 hb.1, ?_⟩
  have h1 : a * b ≤ 1000 * b := Int.mul_le_mul_of_nonneg_right ha.2 hb.1
  omega
theorem SL (k n : Int) (l : List Int) (w : Int) : (l ++ [w]).foldl (wf k) n = wf k (l.foldl (wf k) n) w := by rw [List.foldl_append]; rfl
theorem WA (t : Tr27) : wd (pm t) = if 3 ≤ t.un.1 ∧ t.un.1 ≤ 5 then (t.un.2.2.2.2.map fun x => wd (pm x)).foldl (wf t.un.1) (w0 t.un.1) else 1 := by rw [S7, KB]; show (if _ then ((t.un.2.2.2.2.map pm).map wd).foldl _ _ else _) = _; rw [List.map_map]; rfl
theorem TH (n : Int) : H6 n = min n 1000 := by unfold H6; split <;> omega
end Go.Proofs.YtpckgggmgijiiaaGreatDoor
