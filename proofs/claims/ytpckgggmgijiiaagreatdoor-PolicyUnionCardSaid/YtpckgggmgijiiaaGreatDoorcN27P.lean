/- Layer 27: policies: how great, how deep, how wide. Conditions: none. -/
import Derived.Test.YtpckgggmgijiiaaGreatDoorcN26B
namespace Go.Proofs.YtpckgggmgijiiaaGreatDoor
set_option linter.unusedVariables false
set_option linter.unusedSimpArgs false
open Go Go.RowKit
theorem Sw (t : Tr24) : Tr24.of (t.un.1, t.un.2.1, t.un.2.2.1, t.un.2.2.2) = t := by cases t; rfl
theorem So (t : Tr34) : Tr34.of (t.un.1, t.un.2.1, t.un.2.2.1, t.un.2.2.2) = t := by cases t; rfl
theorem TT (t : Tr27) : Tr27.of (t.un.1, t.un.2.1, t.un.2.2.1, t.un.2.2.2.1, t.un.2.2.2.2) = t := by cases t; rfl
theorem T0 (t : Tr37) : Tr37.of (t.un.1, t.un.2.1, t.un.2.2.1, t.un.2.2.2.1, t.un.2.2.2.2) = t := by cases t; rfl
theorem Xc {t x : Tr27} (h : x ∈ t.un.2.2.2.2) : SizeOf.sizeOf x < SizeOf.sizeOf t := by
  cases t with
  | mk k p f v l =>
    have h' : x ∈ l := h
    have := List.sizeOf_lt_of_mem h'
    simp only [Tr27.mk.sizeOf_spec]; omega
theorem Xt {t x : Tr37} (h : x ∈ t.un.2.2.2.2) : SizeOf.sizeOf x < SizeOf.sizeOf t := by
  cases t with
  | mk k p f v l =>
    have h' : x ∈ l := h
    have := List.sizeOf_lt_of_mem h'
    simp only [Tr37.mk.sizeOf_spec]; omega
def pm : Tr27 → Tr37
  | .mk k p f v l => .mk k (mi p) f v (l.map pm)
theorem Lv (t : Tr27) : (pm t).un = (t.un.1, mi t.un.2.1, t.un.2.2.1, t.un.2.2.2.1, t.un.2.2.2.2.map pm) := by cases t; rw [pm]; rfl
theorem Vb (t : Tr27) : pm t = Tr37.of (t.un.1, mi t.un.2.1, t.un.2.2.1, t.un.2.2.2.1, t.un.2.2.2.2.map pm) := by cases t; rw [pm]; rfl
def pt : Tr37 → Tr27
  | .mk k p f v l => .mk k (th p) f v (l.map pt)
theorem W3 (t : Tr37) : (pt t).un = (t.un.1, th t.un.2.1, t.un.2.2.1, t.un.2.2.2.1, t.un.2.2.2.2.map pt) := by cases t; rw [pt]; rfl
theorem WL (t : Tr37) : pt t = Tr27.of (t.un.1, th t.un.2.1, t.un.2.2.1, t.un.2.2.2.1, t.un.2.2.2.2.map pt) := by cases t; rw [pt]; rfl
theorem loop_copy' {α β : Type} (l : List α) (hl : l.length ≤ 1000000000) (f : α → β) (step : Int × List β → Option ((Int × List β) ⊕ List β))
    (hs : ∀ (k : Nat) (hk : k < l.length) (out : List β), out.length = k → step ((k : Int), out) = (IF out [f l[k]]).bind fun x => some (.inl (AU ((k : Int) + 1), x)))
    (he : ∀ out, step ((l.length : Int), out) = some (.inr out)) : Ba step (0, []) = some (l.map f) := by
  obtain ⟨s, h1, h2⟩ := Kg l.length (fun (out : List β) (k : Nat) => ((k : Int), out)) step id (fun out k => out = (l.take k).map f)
    (fun out k hk hI => ⟨out ++ [f l[k]], by
      rw [hs k hk out (by rw [hI]; simp; omega), Qv (by rw [hI]; simp; omega), Option.bind_some, AK (by omega)]; rfl, by
      show out ++ [f l[k]] = (l.take (k + 1)).map f
      rw [hI, List.take_succ_eq_append_getElem hk, List.map_append]; rfl⟩) (fun out _ => he out) [] (by simp)
  have h3 : Ba step (0, []) = some (id s) := h2
  rw [h3, h1, List.take_length]; rfl
def sz : Tr37 → Nat
  | .mk k p _ _ l => 1 + (if k < 2 ∨ 4 < k then p.cnt else 0) + (l.map sz).sum
def wf (k n w : Int) : Int := if k = 3 then min (n * w) 1000 else if k = 4 then min (n + w) 1000 else max n w
def w0 (k : Int) : Int := if k = 3 then 1 else 0
def wd : Tr37 → Int
  | .mk k _ _ _ l => if 3 ≤ k ∧ k ≤ 5 then (l.map wd).foldl (wf k) (w0 k) else 1
theorem TG (t : Tr37) : wd t = if 3 ≤ t.un.1 ∧ t.un.1 ≤ 5 then (t.un.2.2.2.2.map wd).foldl (wf t.un.1) (w0 t.un.1) else 1 := by cases t; rw [wd]; rfl
theorem WA {k n w : Int} (hn : 0 ≤ n ∧ n ≤ 1000) (hw : 0 ≤ w ∧ w ≤ 1000) : 0 ≤ wf k n w ∧ wf k n w ≤ 1000 := by
  unfold wf
  have h := Int.mul_nonneg hn.1 hw.1
  by_cases c3 : k = 3
  · rw [if_pos c3]; omega
  · rw [if_neg c3]
    by_cases c4 : k = 4
    · rw [if_pos c4]; omega
    · rw [if_neg c4]; omega
theorem Qd {k : Int} : ∀ (l : List Int) (n : Int), 0 ≤ n ∧ n ≤ 1000 → (∀ w ∈ l, 0 ≤ w ∧ w ≤ 1000) → 0 ≤ l.foldl (wf k) n ∧ l.foldl (wf k) n ≤ 1000
  | [], n, hn, _ => hn
  | w :: l, n, hn, h => Qd l (wf k n w) (WA hn (h w (List.mem_cons_self ..))) fun x hx => h x (List.mem_cons_of_mem _ hx)
theorem U9 (k : Int) : 0 ≤ w0 k ∧ w0 k ≤ 1000 := by unfold w0; split <;> omega
theorem Vd : ∀ (n : Nat) (t : Tr37), SizeOf.sizeOf t < n → 0 ≤ wd t ∧ wd t ≤ 1000
  | 0, t, h => absurd h (Nat.not_lt_zero _)
  | n + 1, t, h => by
    rw [TG]
    split
    · exact Qd _ _ (U9 _) fun w hw => by
        obtain ⟨x, hx, rfl⟩ := List.mem_map.1 hw
        exact Vd n x (by have := Xt hx; omega)
    · omega
theorem Yg (t : Tr37) : 0 ≤ wd t ∧ wd t ≤ 1000 := Vd (SizeOf.sizeOf t + 1) t (by omega)
theorem Wj {a b : Int} (ha : 0 ≤ a ∧ a ≤ 1000) (hb : 0 ≤ b ∧ b ≤ 1000) : 0 ≤ a * b ∧ a * b ≤ 1000000 := by
  refine ⟨Int.mul_nonneg ha.1 hb.1, ?_⟩
  have h1 : a * b ≤ 1000 * b := Int.mul_le_mul_of_nonneg_right ha.2 hb.1
  omega
theorem SS (k n : Int) (l : List Int) (w : Int) : (l ++ [w]).foldl (wf k) n = wf k (l.foldl (wf k) n) w := by rw [List.foldl_append]; rfl
theorem WQ (t : Tr27) : wd (pm t) = if 3 ≤ t.un.1 ∧ t.un.1 ≤ 5 then (t.un.2.2.2.2.map fun x => wd (pm x)).foldl (wf t.un.1) (w0 t.un.1) else 1 := by rw [TG, Lv]; show (if _ then ((t.un.2.2.2.2.map pm).map wd).foldl _ _ else _) = _; rw [List.map_map]; rfl
theorem Tm (n : Int) : I3 n = min n 1000 := by unfold I3; split <;> omega
end Go.Proofs.YtpckgggmgijiiaaGreatDoor
