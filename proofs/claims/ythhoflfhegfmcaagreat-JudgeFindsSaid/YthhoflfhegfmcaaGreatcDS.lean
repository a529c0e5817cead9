/- Deep rows in two parts, headers and what is within. Conditions: none. -/
import Derived.Test.YthhoflfhegfmcaaGreatcDR
namespace Go.Proofs.YthhoflfhegfmcaaGreat
set_option linter.unusedVariables false
set_option linter.unusedSimpArgs false
set_option linter.unusedSectionVars false
open Go Go.RowKit
section
variable {δ ε σ α : Type} {D : Dp δ} {E : Dp ε} {S : Dp σ} {B : Bs} {w : World} {M : Dg} {Z Z1 : List It} {v : Value} {e : TypeId} {lx l0 : List δ} {x x' : δ} {i : Int}
theorem Cg.sameCells {A : Nat → Prop} : ∀ {l l' : List δ} {xs : List Value}, l'.map D.cells = l.map D.cells → Cg D.hr w A xs l → Cg D.hr w A xs l'
  | [], [], _, _, h => h
  | [], _ :: _, _, h, _ => by simp at h
  | _ :: _, [], _, h, _ => by simp at h
  | a :: l, b :: l', xs, h, ⟨cs, ys, he, h1, h2⟩ => by
    simp only [List.map_cons, List.cons.injEq] at h
    exact ⟨cs, ys, he, ⟨h1.1.trans h.1.symm, by rw [h.1]; exact h1.2⟩, Cg.sameCells h.2 h2⟩
theorem F6.sameCells {A : Nat → Prop} (h : F6 w A e D.hr v lx) (hc : l0.map D.cells = lx.map D.cells) : F6 w A e D.hr v l0 := by
  have hl : l0.length = lx.length := by have := congrArg List.length hc; simpa using this
  rcases h with ⟨ad, rfl, rfl⟩ | ⟨g, off, cap, cur, xs, rfl, hp, hb, h1, h2, h3, h4, h5⟩
  · exact .inl ⟨ad, rfl, List.eq_nil_of_length_eq_zero (by simpa using hl)⟩
  · exact .inr ⟨g, off, cap, cur, xs, by rw [hl], hp, hb, by omega, h2, h3, by rw [hl]; exact h4, Cg.sameCells hc h5⟩
theorem Stw.endZ2 {a b : It} (h : Stw B M (a :: b :: Z1) w) : Stw B M (Z1 ++ [a, b]) w := h.permZ (List.perm_append_comm (l₁ := [a, b]))
theorem Stw.frontZ2 {a b : It} (h : Stw B M (Z1 ++ [a, b]) w) : Stw B M (a :: b :: Z1) w := h.permZ (List.perm_append_comm (l₂ := [a, b]))
theorem Stw.dSplitE (l0 : List δ) (h : Stw B M (Bp v e D lx :: Z1) w) (hc : l0.map D.cells = lx.map D.cells) : Stw B M (Z1 ++ [row v e D.hr l0, Gq (lx.map D.it)]) w :=
  Stw.endZ2 (h.dSplit.itemSame (z := row v e D.hr lx) (z' := row v e D.hr l0) rfl fun A ho => F6.sameCells (show F6 w A e D.hr v lx from ho) hc)
theorem Stw.dJoinE (Z1 : List It) (h : Stw B M (Z1 ++ [row v e D.hr l0, Gq (lx.map D.it)]) w) (hc : l0.map D.cells = lx.map D.cells) : Stw B M (Bp v e D lx :: Z1) w :=
  Stw.dShut (h.frontZ2.itemSame (z := row v e D.hr l0) (z' := row v e D.hr lx) rfl fun A ho => F6.sameCells (show F6 w A e D.hr v l0 from ho) hc.symm)
theorem P1 (k : Nat) (hZ : Z[k]? = some (row v e D.hr l0)) (hc : l0.map D.cells = lx.map D.cells) : NM B M Z D.hr v lx := fun w hw =>
  F6.sl (A := Fz B (Bn M Z)) (e := e) (F6.sameCells (show F6 w _ e D.hr v l0 from hw.item hZ) hc.symm) (fun _ _ => trivial) fun _ _ => trivial
theorem Pi (h : row v e D.hr l0 ∈ Z) (hc : l0.map D.cells = lx.map D.cells) : NM B M Z D.hr v lx := by
  obtain ⟨k, hk⟩ := List.mem_iff_getElem?.1 h
  exact P1 k hk hc
def Vg (B : Bs) (M : Dg) (Z : List It) (D : Dp δ) (lx : List δ) : Prop := ∀ w, Stw B M Z w → (Gq (lx.map D.it)).ok w any
theorem P2 (k : Nat) (hZ : Z[k]? = some (Gq (lx.map D.it))) : Vg B M Z D lx := fun w hw => It.any (z := Gq (lx.map D.it)) (hw.item hZ)
theorem XB (h : Gq (lx.map D.it) ∈ Z) : Vg B M Z D lx := by
  obtain ⟨k, hk⟩ := List.mem_iff_getElem?.1 h
  exact P2 k hk
theorem T9 {A : Nat → Prop} (h : (Gq (lx.map D.it)).ok w A) (hi : ix lx i = some x) : (D.it x).ok w A := h.1 _ (List.mem_map.2 ⟨x, EN (HO hi).2.2, rfl⟩)
theorem Pb (hi : ix lx i = some x) (hc : D.cells x' = D.cells x) : (Ah lx i x').map D.cells = lx.map D.cells := by
  obtain ⟨h0, hk, hx⟩ := HO hi
  unfold Ah
  rw [List.map_set, hc]
  refine List.ext_getElem? fun j => ?_
  by_cases hj : i.toNat = j
  · subst hj
    rw [List.getElem?_set_self (by rw [List.length_map]; exact hk), List.getElem?_map, hx]; rfl
  · rw [List.getElem?_set_ne hj]
theorem Vg.sl {r : Rp α} {e' : TypeId} (h : Vg B M Z D lx) (hi : ix lx i = some x) (f : Foc D (Dp.sl e' r)) {l : List α} {k : Nat} (hx : (f.get x).2 = (k, l)) (hk : k = 1 ∨ k = 2) : NM B M Z r (f.get x).1 l := fun w hw => by
  have h1 := f.okk (T9 (h w hw) hi)
  have h2 : (f.get x).2.2 = l := by rw [hx]
  have h3 : (f.get x).2.1 = k := by rw [hx]
  rw [← h2]
  exact Ts h1 (by rw [h3]; omega) (by rw [h3]; omega)
theorem Vg.dl {D' : Dp ε} {e' : TypeId} (h : Vg B M Z D lx) (hi : ix lx i = some x) (f : Foc D (Dp.dl e' D')) (hk : (f.get x).2.1 = 2) : NG B M Z e' D' (f.get x).1 (f.get x).2.2 := fun w hw => by
  have h1 : (Kk e' D' (f.get x)).ok w any := f.okk (T9 (h w hw) hi)
  unfold Kk at h1
  rw [if_pos hk] at h1
  exact h1
end
end Go.Proofs.YthhoflfhegfmcaaGreat
