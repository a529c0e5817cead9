/- Layer 13: binary heaps over any order. Conditions: none. -/
import Derived.Test.YtlogogcdfdocoaaA2
import Derived.Test.YtlogogcdfdocoaaLP
import Derived.Test.YtlogogcdfdocoaaOC
namespace Go.Proofs.Ytlogogcdfdocoaa
set_option linter.unusedVariables false
set_option linter.unusedSimpArgs false
open Go Go.RowKit

def delP {α : Type} (z : α) (p0 : List α) (p1 p2 : Int) : Option (List α) := (subl p0 p1 p2).bind fun x1 => (if p1 = p2 then some p0 else (subl p0 0 p1).bind fun x2 => (subl p0 p2 (p0.length : Int)).bind fun x3 => (spl p0 (x2.length : Int) x3).bind fun x4 => (subl x4 0 ((x2.length : Int) + (x3.length : Int))).bind fun x5 => (subl x4 (x5.length : Int) (p0.length : Int)).bind fun x6 => (spl x4 (x5.length : Int) (List.replicate (x6.length) z)).bind fun x7 => some x5)
theorem del_eq {α : Type} (z : α) (l : List α) (k : Nat) (hk : k < l.length) : delP z l (k : Int) (((k + 1 : Nat)) : Int) = some (l.eraseIdx k) := by
  unfold delP
  have hspl : ∀ (l : List α) (p : Nat) (m : List α), p + m.length ≤ l.length → spl l (p : Int) m = some (l.take p ++ m ++ l.drop (p + m.length)) := fun l p m h => by
    unfold spl; rw [if_pos (by omega), Int.toNat_natCast]
  rw [subl_is (by omega), Option.bind_some, if_neg (by omega), subl_is (by omega), Option.bind_some, subl_is (by omega), Option.bind_some]
  have e2 : (l.take (k : Int).toNat).drop (0 : Int).toNat = l.take k := by rw [Int.toNat_natCast]; rfl
  have e3 : (l.take ((l.length : Int)).toNat).drop (((k + 1 : Nat) : Int)).toNat = l.drop (k + 1) := by rw [Int.toNat_natCast, Int.toNat_natCast, List.take_length]
  have h2 : (l.take k).length = k := by rw [List.length_take]; omega
  have h3 : (l.drop (k + 1)).length = l.length - (k + 1) := List.length_drop
  rw [e2, e3, h2, hspl _ _ _ (by rw [h3]; omega), Option.bind_some, h3]
  have hx4 : (l.take k ++ l.drop (k + 1) ++ l.drop (k + (l.length - (k + 1)))).length = l.length := by simp only [List.length_append, List.length_take, List.length_drop]; omega
  rw [subl_is (by rw [hx4]; omega), Option.bind_some]
  have e5 : ((l.take k ++ l.drop (k + 1) ++ l.drop (k + (l.length - (k + 1)))).take ((k : Int) + ((l.length - (k + 1) : Nat) : Int)).toNat).drop (0 : Int).toNat = l.eraseIdx k := by
    rw [List.eraseIdx_eq_take_drop_succ]
    have hl : (l.take k ++ l.drop (k + 1)).length = ((k : Int) + ((l.length - (k + 1) : Nat) : Int)).toNat := by simp only [List.length_append, List.length_take, List.length_drop]; omega
    show (l.take k ++ l.drop (k + 1) ++ l.drop (k + (l.length - (k + 1)))).take _ = _
    rw [← hl, List.take_left]
  rw [e5]
  have h5 : (l.eraseIdx k).length = l.length - 1 := by rw [List.length_eraseIdx, if_pos hk]
  rw [h5, subl_is (by rw [hx4]; omega), Option.bind_some, hspl _ _ _ (by rw [hx4]; simp; omega)]; rfl


/-! ### Orders -/
structure Ordr {α : Type} (less : α → α → Bool) : Prop where
  asym : ∀ a b, less a b = true → less b a = false
  tr : ∀ a b c, less b a = false → less c b = false → less c a = false
section
variable {α : Type} (less : α → α → Bool) (d : α)
abbrev le (a b : α) : Prop := less b a = false
def gg (l : List α) (i : Nat) : α := l[i]?.getD d
theorem gg_get {l : List α} {i : Nat} (h : i < l.length) : gg d l i = l[i] := by unfold gg; rw [List.getElem?_eq_getElem h]; rfl
theorem ix_g {l : List α} {i : Nat} (h : i < l.length) : ix l (i : Int) = some (gg d l i) := by rw [ix_nat (List.getElem?_eq_getElem h), gg_get d h]
theorem gg_set {l : List α} {i j : Nat} {x : α} (hi : i < l.length) : gg d (l.set i x) j = if i = j then x else gg d l j := by
  unfold gg
  rw [List.getElem?_set]
  by_cases h : i = j
  · subst h; rw [if_pos rfl, if_pos rfl, if_pos hi]; rfl
  · rw [if_neg h, if_neg h]
def par (j : Nat) : Nat := (j - 1) / 2
def Hp (l : List α) : Prop := ∀ j, 0 < j → j < l.length → le less (gg d l (par j)) (gg d l j)
def HU (l : List α) (i : Nat) : Prop := (∀ j, 0 < j → j < l.length → j ≠ i → le less (gg d l (par j)) (gg d l j)) ∧ ∀ c, 0 < c → c < l.length → par c = i → 0 < i → le less (gg d l (par i)) (gg d l c)
/-! ### The program's functions, over any order -/
noncomputable def upS : (Int × List α) → Option ((Int × List α) ⊕ (List α))
  | (x1, x2) => (if 0 < x1 then (ix x2 x1).bind fun x3 => (ix x2 (w64 (Int.tdiv (w64 (x1 - 1)) 2))).bind fun x4 => (if (!(less x3 x4)) = true then some (.inr x2) else (ix x2 (w64 (Int.tdiv (w64 (x1 - 1)) 2))).bind fun x5 => (ix x2 x1).bind fun x6 => (ix x2 x1).bind fun x7 => (ix (setAt x2 x1 x5) (w64 (Int.tdiv (w64 (x1 - 1)) 2))).bind fun x8 => some (.inl (w64 (Int.tdiv (w64 (x1 - 1)) 2), (setAt (setAt x2 x1 x5) (w64 (Int.tdiv (w64 (x1 - 1)) 2)) x6)))) else some (.inr x2))
noncomputable def downS2 (x1 : Int) (x2 : List α) : (Int × Int) → Option ((Int × Int) ⊕ Int)
  | (x4, x5) => (if (decide (x5 ≤ (w64 ((w64 (2 * x1)) + 2))) && decide (x5 < (x2.length : Int))) = true then ((ix x2 x5).bind fun x7 => (ix x2 x4).bind fun x8 => (if (less x7 x8) = true then some x5 else some x4)).bind fun x6 => some (.inl (x6, w64 (x5 + 1))) else some (.inr x4))
noncomputable def downS : (Int × List α) → Option ((Int × List α) ⊕ (List α))
  | (x1, x2) => (loopW (downS2 less x1 x2) (x1, w64 ((w64 (2 * x1)) + 1))).bind fun x3 => (if x3 = x1 then some (.inr x2) else (ix x2 x3).bind fun x9 => (ix x2 x1).bind fun x10 => (ix x2 x1).bind fun x11 => (ix (setAt x2 x1 x9) x3).bind fun x12 => some (.inl (x3, (setAt (setAt x2 x1 x9) x3 x10))))
noncomputable def upP (l : List α) (i : Int) : Option (List α) := loopW (upS less) (i, l)
noncomputable def downP (l : List α) (i : Int) : Option (List α) := loopW (downS less) (i, l)
noncomputable def pushP (p0 : List α) (p1 : α) : Option (List α) := (app p0 ([p1] : List α)).bind fun x1 => (upP less x1 (w64 ((x1.length : Int) - 1))).bind fun x2 => some x2
noncomputable def removeP (p0 : List α) (p1 : Int) : Option (List α) := (ix p0 (w64 ((p0.length : Int) - 1))).bind fun x1 => (ix p0 p1).bind fun x2 => (delP d (setAt p0 p1 x1) (w64 ((p0.length : Int) - 1)) (w64 ((w64 ((p0.length : Int) - 1)) + 1))).bind fun x3 => (if p1 < (w64 ((p0.length : Int) - 1)) then (downP less x3 p1).bind fun x4 => (upP less x4 p1).bind fun x5 => some x5 else some x3)
noncomputable def peekP (p0 : List α) : Option (α × Bool) := (if (p0.length : Int) = 0 then some (d, false) else (ix p0 0).bind fun x1 => some (x1, true))
noncomputable def drainS (p1 : α) : (List α × List α) → Option ((List α × List α) ⊕ (List α × List α))
  | (x1, x2) => (peekP d x2).bind fun x3 => (if (!x3.2 || (less p1 x3.1)) = true then some (.inr (x1, x2)) else (app x1 ([x3.1] : List α)).bind fun x4 => (removeP less d x2 0).bind fun x5 => some (.inl (x4, x5)))
noncomputable def drainP (p0 : List α) (p1 : α) : Option (List α × List α) := loopW (drainS less d p1) ([], p0)

/-! ### What they do -/
variable {less} {d}
theorem setAt_nat (l : List α) (i : Nat) (x : α) : setAt l (i : Int) x = l.set i x := by unfold setAt; rw [Int.toNat_natCast]
theorem swap_perm {l : List α} {i p : Nat} (hi : i < l.length) (hp : p < l.length) (hne : i ≠ p) : ((l.set i (gg d l p)).set p (gg d l i)).Perm l := by
  have e1 : (l.set i (gg d l p)).set p (gg d l i) = (l.set i l[p]).set p l[i] := by rw [gg_get d hp, gg_get d hi]
  rw [e1]
  exact List.set_set_perm hi hp
theorem Ordr.refl (o : Ordr less) (a : α) : le less a a := by
  cases h : less a a with
  | false => exact h
  | true => have := o.asym a a h; rw [h] at this; cases this
theorem up_ok (o : Ordr less) : ∀ (i : Nat) (l : List α), l.length ≤ 1000 → i < l.length → HU less d l i → ∃ l', upP less l (i : Int) = some l' ∧ Hp less d l' ∧ l'.Perm l := by
  intro i
  induction i using Nat.strongRecOn with
  | ind i ih =>
    intro l hl hi h
    by_cases h0 : i = 0
    · subst h0
      exact ⟨l, loopW_end (by rw [upS, if_neg (by omega)]), fun j h1 h2 => h.1 j h1 h2 (by omega), List.Perm.refl _⟩
    · have hp : par i < i := by unfold par; omega
      have hpl : par i < l.length := by omega
      have e1 : w64 (Int.tdiv (w64 ((i : Int) - 1)) 2) = ((par i : Nat) : Int) := by
        rw [w64_id (x := (i : Int) - 1) (by omega), show (i : Int) - 1 = ((i - 1 : Nat) : Int) by omega]
        have e2 : Int.tdiv ((i - 1 : Nat) : Int) 2 = (((i - 1) / 2 : Nat) : Int) := rfl
        rw [e2, w64_id (by omega)]; rfl
      have hstep : upS less ((i : Int), l) = if (!(less (gg d l i) (gg d l (par i)))) = true then some (.inr l) else some (.inl (((par i : Nat) : Int), (l.set i (gg d l (par i))).set (par i) (gg d l i))) := by
        rw [upS, if_pos (by omega), e1, ix_g d hi, Option.bind_some, ix_g d hpl, Option.bind_some]
        by_cases c : (!(less (gg d l i) (gg d l (par i)))) = true
        · rw [if_pos c, if_pos c]
        · rw [if_neg c, if_neg c, Option.bind_some, Option.bind_some, Option.bind_some, setAt_nat, ix_g d (by rw [List.length_set]; exact hpl), Option.bind_some, setAt_nat]
      cases hc : less (gg d l i) (gg d l (par i)) with
      | false =>
        rw [hc] at hstep
        refine ⟨l, loopW_end (by rw [hstep]; rfl), fun j h1 h2 => ?_, List.Perm.refl _⟩
        by_cases hj : j = i
        · subst hj; exact hc
        · exact h.1 j h1 h2 hj
      | true =>
        rw [hc] at hstep
        have hgl : ∀ j, gg d ((l.set i (gg d l (par i))).set (par i) (gg d l i)) j = if par i = j then gg d l i else if i = j then gg d l (par i) else gg d l j := fun j => by
          rw [gg_set d (by rw [List.length_set]; exact hpl), gg_set d hi]
        have hlen : ((l.set i (gg d l (par i))).set (par i) (gg d l i)).length = l.length := by rw [List.length_set, List.length_set]
        have hle : le less (gg d l i) (gg d l (par i)) := o.asym _ _ hc
        obtain ⟨l', g1, g2, g3⟩ := ih (par i) hp ((l.set i (gg d l (par i))).set (par i) (gg d l i)) (by rw [hlen]; exact hl) (by rw [hlen]; exact hpl) (by
          constructor
          · intro j j1 j2 j3
            rw [hlen] at j2
            rw [hgl, hgl, if_neg (show ¬ par i = j by omega)]
            by_cases hji : i = j
            · subst hji
              rw [if_pos rfl, if_pos rfl]; exact hle
            · rw [if_neg hji]
              by_cases hpj : par i = par j
              · rw [if_pos hpj]
                have := h.1 j j1 j2 (by omega)
                rw [← hpj] at this
                exact o.tr _ _ _ hle this
              · rw [if_neg hpj]
                by_cases hij : i = par j
                · rw [if_pos hij]
                  exact h.2 j j1 j2 hij.symm (by omega)
                · rw [if_neg hij]
                  exact h.1 j j1 j2 (by omega)
          · intro c c1 c2 c3 c4
            rw [hlen] at c2
            have hpp : par (par i) < par i := by unfold par at c4 ⊢; omega
            rw [hgl, hgl, if_neg (by omega), if_neg (by omega), if_neg (show ¬ par i = c by intro e; rw [← e] at c3; omega)]
            have e2 := h.1 (par i) c4 hpl (by omega)
            by_cases hic : i = c
            · rw [if_pos hic]; exact e2
            · rw [if_neg hic]
              have := h.1 c c1 c2 (by omega)
              rw [c3] at this
              exact o.tr _ _ _ e2 this)
        refine ⟨l', ?_, g2, g3.trans (swap_perm hi hpl (by omega))⟩
        show loopW (upS less) ((i : Int), l) = some l'
        rw [loopW_go (by rw [hstep]; rfl)]
        exact g1
theorem heap_up (o : Ordr less) {l : List α} {i : Nat} (h : Hp less d l) : HU less d l i := by
  refine ⟨fun j h1 h2 _ => h j h1 h2, fun c c1 c2 c3 c4 => ?_⟩
  by_cases hi : i < l.length
  · have e1 := h c c1 c2
    rw [c3] at e1
    exact o.tr _ _ _ (h i c4 hi) e1
  · have : par c < c := by unfold par; omega
    omega
theorem push_ok (o : Ordr less) {l : List α} (x : α) (hl : l.length ≤ 900) (h : Hp less d l) : ∃ l', pushP less l x = some l' ∧ Hp less d l' ∧ l'.Perm (x :: l) := by
  have hln : (l ++ [x]).length = l.length + 1 := by simp
  obtain ⟨l', h1, h2, h3⟩ := up_ok (d := d) o l.length (l ++ [x]) (by rw [hln]; omega) (by rw [hln]; omega) (by
    have hg : ∀ j, j < l.length → gg d (l ++ [x]) j = gg d l j := fun j hj => by unfold gg; rw [List.getElem?_append_left hj]
    constructor
    · intro j j1 j2 j3
      rw [hln] at j2
      have : par j < j := by unfold par; omega
      rw [hg _ (by omega), hg _ (by omega)]
      exact h j j1 (by omega)
    · intro c c1 c2 c3 c4
      rw [hln] at c2
      have : par c < c := by unfold par; omega
      omega)
  refine ⟨l', ?_, h2, h3.trans (List.perm_append_comm (l₁ := l) (l₂ := [x]))⟩
  unfold pushP
  rw [app_is (by rw [List.length_singleton]; omega), Option.bind_some, hln, show w64 (((l.length + 1 : Nat) : Int) - 1) = (l.length : Int) by rw [w64_id (by omega)]; omega, h1]; rfl
/-- Which child is the least. -/
theorem down2_ok (o : Ordr less) {l : List α} {i : Nat} (hl : l.length ≤ 1000) (hi : i < l.length) : ∃ m : Nat, loopW (downS2 less (i : Int) l) ((i : Int), w64 ((w64 (2 * (i : Int))) + 1)) = some (m : Int) ∧ m < l.length ∧ (m = i ∨ (par m = i ∧ i < m)) ∧ (m ≠ i → less (gg d l m) (gg d l i) = true) ∧ ∀ c, i < c → c < l.length → par c = i → le less (gg d l m) (gg d l c) := by
  have e0 : w64 ((w64 (2 * (i : Int))) + 1) = ((2 * i + 1 : Nat) : Int) := by rw [w64_id (x := 2 * (i : Int)) (by omega), w64_id (by omega)]; omega
  have e2 : w64 ((w64 (2 * (i : Int))) + 2) = ((2 * i + 2 : Nat) : Int) := by rw [w64_id (x := 2 * (i : Int)) (by omega), w64_id (by omega)]; omega
  have hgo : ∀ (m c : Nat), m < l.length → c < l.length → c ≤ 2 * i + 2 → downS2 less (i : Int) l ((m : Int), (c : Int)) = some (.inl (((if less (gg d l c) (gg d l m) = true then c else m : Nat) : Int), ((c + 1 : Nat) : Int))) := fun m c hm hc h2 => by
    rw [downS2, e2, if_pos (by simp; omega), ix_g d hc, Option.bind_some, ix_g d hm, Option.bind_some]
    by_cases h : less (gg d l c) (gg d l m) = true
    · rw [if_pos h, if_pos h, Option.bind_some, w64_id (by omega)]; rfl
    · rw [if_neg h, if_neg h, Option.bind_some, w64_id (by omega)]; rfl
  have hend : ∀ (m c : Nat), ¬ (c ≤ 2 * i + 2 ∧ c < l.length) → downS2 less (i : Int) l ((m : Int), (c : Int)) = some (.inr (m : Int)) := fun m c h => by
    rw [downS2, e2, if_neg (by simp; omega)]
  rw [e0]
  have hpar : ∀ c, par c = i → i < c → c = 2 * i + 1 ∨ c = 2 * i + 2 := fun c h1 h2 => by unfold par at h1; omega
  have hp1 : par (2 * i + 1) = i := by unfold par; omega
  have hp2 : par (2 * i + 2) = i := by unfold par; omega
  by_cases c1 : 2 * i + 1 < l.length
  · have s1 := hgo i (2 * i + 1) hi c1 (by omega)
    -- the first child
    obtain ⟨m1, hm1, q1, q2, q3, q4⟩ : ∃ m1 : Nat, (if less (gg d l (2 * i + 1)) (gg d l i) = true then 2 * i + 1 else i : Nat) = m1 ∧ m1 < l.length ∧ (m1 = i ∨ m1 = 2 * i + 1) ∧ (m1 ≠ i → less (gg d l m1) (gg d l i) = true) ∧ le less (gg d l m1) (gg d l (2 * i + 1)) := by
      by_cases h : less (gg d l (2 * i + 1)) (gg d l i) = true
      · exact ⟨2 * i + 1, if_pos h, c1, .inr rfl, fun _ => h, o.refl _⟩
      · exact ⟨i, if_neg h, hi, .inl rfl, fun h => absurd rfl h, by simpa using h⟩
    rw [hm1] at s1
    have q5 : le less (gg d l m1) (gg d l i) := by
      by_cases h : m1 = i
      · rw [h]; exact o.refl _
      · exact o.asym _ _ (q3 h)
    by_cases c2 : 2 * i + 2 < l.length
    · have s2 := hgo m1 (2 * i + 2) q1 c2 (by omega)
      obtain ⟨m2, hm2, r1, r2, r3, r4, r5⟩ : ∃ m2 : Nat, (if less (gg d l (2 * i + 2)) (gg d l m1) = true then 2 * i + 2 else m1 : Nat) = m2 ∧ m2 < l.length ∧ (m2 = i ∨ m2 = 2 * i + 1 ∨ m2 = 2 * i + 2) ∧ (m2 ≠ i → less (gg d l m2) (gg d l i) = true) ∧ le less (gg d l m2) (gg d l (2 * i + 1)) ∧ le less (gg d l m2) (gg d l (2 * i + 2)) := by
        by_cases h : less (gg d l (2 * i + 2)) (gg d l m1) = true
        · refine ⟨2 * i + 2, if_pos h, c2, .inr (.inr rfl), fun _ => ?_, o.tr _ _ _ (o.asym _ _ h) q4, o.refl _⟩
          cases hh : less (gg d l (2 * i + 2)) (gg d l i) with
          | true => rfl
          | false =>
            have := o.tr _ _ _ q5 hh
            rw [h] at this; cases this
        · exact ⟨m1, if_neg h, q1, by omega, q3, q4, by simpa using h⟩
      rw [hm2] at s2
      refine ⟨m2, by rw [loopW_go s1, loopW_go s2]; exact loopW_end (hend _ _ (by omega)), r1, ?_, r3, fun c k1 k2 k3 => ?_⟩
      · rcases r2 with h | h | h
        · exact .inl h
        · right; rw [h]; exact ⟨hp1, by omega⟩
        · right; rw [h]; exact ⟨hp2, by omega⟩
      · rcases hpar c k3 k1 with rfl | rfl
        · exact r4
        · exact r5
    · refine ⟨m1, by rw [loopW_go s1]; exact loopW_end (hend _ _ (by omega)), q1, ?_, q3, fun c k1 k2 k3 => ?_⟩
      · rcases q2 with h | h
        · exact .inl h
        · right; rw [h]; exact ⟨hp1, by omega⟩
      · rcases hpar c k3 k1 with rfl | rfl
        · exact q4
        · omega
  · refine ⟨i, loopW_end (hend _ _ (by omega)), hi, .inl rfl, fun h => absurd rfl h, fun c k1 k2 k3 => ?_⟩
    rcases hpar c k3 k1 with rfl | rfl <;> omega
/-- What holds while an element sinks from i0, being at i. -/
def HD (less : α → α → Bool) (d : α) (l : List α) (i0 i : Nat) : Prop := (∀ j, 0 < j → j < l.length → par j ≠ i → (j = i0 ∧ i = i0) ∨ le less (gg d l (par j)) (gg d l j)) ∧ ∀ c, 0 < c → c < l.length → par c = i → 0 < i → le less (gg d l (par i)) (gg d l c)
theorem down_ok (o : Ordr less) (i0 : Nat) : ∀ (n i : Nat) (l : List α), l.length - i ≤ n → l.length ≤ 1000 → i0 ≤ i → i < l.length → HD less d l i0 i → ∃ l', downP less l (i : Int) = some l' ∧ HU less d l' i0 ∧ l'.Perm l := by
  intro n
  induction n with
  | zero => intro i l hn hl h0 hi; omega
  | succ n ih =>
    intro i l hn hl h0 hi h
    obtain ⟨m, m1, m2, m3, m4, m5⟩ := down2_ok (d := d) o hl hi
    have hstep : downS less ((i : Int), l) = if (m : Int) = (i : Int) then some (.inr l) else some (.inl ((m : Int), (l.set i (gg d l m)).set m (gg d l i))) := by
      rw [downS, m1, Option.bind_some]
      by_cases c : (m : Int) = (i : Int)
      · rw [if_pos c, if_pos c]
      · rw [if_neg c, if_neg c, ix_g d m2, Option.bind_some, ix_g d hi, Option.bind_some, Option.bind_some, setAt_nat, ix_g d (by rw [List.length_set]; exact m2), Option.bind_some, setAt_nat]
    by_cases c : m = i
    · subst c
      rw [if_pos rfl] at hstep
      refine ⟨l, loopW_end hstep, ?_, List.Perm.refl _⟩
      have edge : ∀ j, 0 < j → j < l.length → j ≠ i0 → le less (gg d l (par j)) (gg d l j) := fun j j1 j2 j3 => by
        by_cases hj : par j = m
        · rw [hj]
          have : par j < j := by unfold par; omega
          exact m5 j (by omega) j2 hj
        · rcases h.1 j j1 j2 hj with h1 | h1
          · exact absurd h1.1 j3
          · exact h1
      refine ⟨edge, fun c c1 c2 c3 c4 => ?_⟩
      by_cases hii : m = i0
      · subst hii; exact h.2 c c1 c2 c3 c4
      · have e1 := edge c c1 c2 (by have : par c < c := by unfold par; omega
                                    omega)
        rw [c3] at e1
        have e2 : le less (gg d l (par i0)) (gg d l i0) := by
          by_cases hj : par i0 = m
          · have : par i0 < i0 := by unfold par; omega
            omega
          · rcases h.1 i0 c4 (by omega) hj with h1 | h1
            · exact absurd h1.2 hii
            · exact h1
        exact o.tr _ _ _ e2 e1
    · rw [if_neg (by omega)] at hstep
      rcases m3 with m3 | ⟨m3, m6⟩
      · exact absurd m3 c
      have hlt := m4 c
      have hle : le less (gg d l m) (gg d l i) := o.asym _ _ hlt
      have hgl : ∀ j, gg d ((l.set i (gg d l m)).set m (gg d l i)) j = if m = j then gg d l i else if i = j then gg d l m else gg d l j := fun j => by
        rw [gg_set d (by rw [List.length_set]; exact m2), gg_set d hi]
      have hlen : ((l.set i (gg d l m)).set m (gg d l i)).length = l.length := by rw [List.length_set, List.length_set]
      obtain ⟨l', g1, g2, g3⟩ := ih m ((l.set i (gg d l m)).set m (gg d l i)) (by rw [hlen]; omega) (by rw [hlen]; exact hl) (by omega) (by rw [hlen]; exact m2) (by
        constructor
        · intro j j1 j2 j3
          rw [hlen] at j2
          right
          have hpj : par j < j := by unfold par; omega
          rw [hgl, hgl, if_neg (show ¬ m = par j from fun e => j3 e.symm)]
          by_cases hjm : m = j
          · subst hjm
            rw [if_pos rfl, if_pos m3.symm]; exact hle
          · rw [if_neg hjm]
            by_cases hij : i = j
            · subst hij
              rw [if_pos rfl, if_neg (show ¬ i = par i by omega)]
              exact h.2 m (by omega) m2 m3 j1
            · rw [if_neg hij]
              by_cases hip : i = par j
              · rw [if_pos hip]; exact m5 j (by omega) j2 hip.symm
              · rw [if_neg hip]
                rcases h.1 j j1 j2 (fun e => hip e.symm) with h1 | h1
                · omega
                · exact h1
        · intro c' c1 c2 c3 c4
          rw [hlen] at c2
          have hpc : par c' < c' := by unfold par; omega
          rw [hgl, hgl, m3, if_neg (show ¬ m = i by omega), if_pos rfl, if_neg (show ¬ m = c' by omega), if_neg (show ¬ i = c' by omega)]
          rcases h.1 c' c1 c2 (by omega) with h1 | h1
          · omega
          · rw [c3] at h1; exact h1)
      refine ⟨l', ?_, g2, g3.trans (swap_perm hi m2 (fun e => c e.symm))⟩
      show loopW (downS less) ((i : Int), l) = some l'
      rw [loopW_go hstep]
      exact g1
theorem remove_ok (o : Ordr less) {l : List α} {i : Nat} (hl : l.length ≤ 1000) (hi : i < l.length) (h : Hp less d l) : ∃ l', removeP less d l (i : Int) = some l' ∧ Hp less d l' ∧ l.Perm (gg d l i :: l') := by
  obtain ⟨m, x, rfl⟩ : ∃ m x, l = m ++ [x] := by
    rcases List.eq_nil_or_concat l with h | ⟨m, x, h⟩
    · subst h; simp at hi
    · exact ⟨m, x, by rw [h, List.concat_eq_append]⟩
  have hln : (m ++ [x]).length = m.length + 1 := by simp
  have e1 : w64 (((m ++ [x]).length : Int) - 1) = (m.length : Int) := by rw [hln, w64_id (by omega)]; omega
  have gx : gg d (m ++ [x]) m.length = x := by unfold gg; simp
  have hg : ∀ j, j < m.length → gg d (m ++ [x]) j = gg d m j := fun j hj => by unfold gg; rw [List.getElem?_append_left hj]
  unfold removeP
  rw [e1, ix_g d (by rw [hln]; omega), Option.bind_some, ix_g d hi, Option.bind_some, setAt_nat, gx, w64_id (x := (m.length : Int) + 1) (by omega)]
  have hd : delP d ((m ++ [x]).set i x) (m.length : Int) ((m.length : Int) + 1) = some (m.set i x) := by
    have := del_eq d ((m ++ [x]).set i x) m.length (by rw [List.length_set]; omega)
    rw [show ((m.length + 1 : Nat) : Int) = (m.length : Int) + 1 by omega] at this
    rw [this]
    congr 1
    by_cases hc : i < m.length
    · rw [List.set_append_left _ _ hc, List.eraseIdx_append_of_length_le (by rw [List.length_set]; exact Nat.le_refl _), List.length_set, Nat.sub_self]; simp
    · have : i = m.length := by omega
      subst this
      rw [List.set_append_right _ _ (Nat.le_refl _), List.eraseIdx_append_of_length_le (Nat.le_refl _), Nat.sub_self, List.set_eq_of_length_le (Nat.le_refl _)]; simp
  rw [hd, Option.bind_some]
  by_cases hc : i < m.length
  · rw [if_pos (by omega)]
    have hgs : ∀ j, gg d (m.set i x) j = if i = j then x else gg d m j := fun j => gg_set d hc
    have hH : ∀ j, 0 < j → j < m.length → le less (gg d m (par j)) (gg d m j) := fun j j1 j2 => by
      have := h j j1 (by rw [hln]; omega)
      have hpj : par j < j := by unfold par; omega
      rw [hg _ (by omega), hg _ j2] at this; exact this
    obtain ⟨l1, a1, a2, a3⟩ := down_ok (d := d) o i (m.set i x).length i (m.set i x) (by omega) (by rw [List.length_set]; omega) (Nat.le_refl _) (by rw [List.length_set]; exact hc) (by
      constructor
      · intro j j1 j2 j3
        rw [List.length_set] at j2
        by_cases hji : j = i
        · exact .inl ⟨hji, rfl⟩
        · right
          rw [hgs, hgs, if_neg (fun e => j3 e.symm), if_neg (fun e => hji e.symm)]
          exact hH j j1 j2
      · intro c c1 c2 c3 c4
        rw [List.length_set] at c2
        have hpi : par i < i := by unfold par; omega
        have hpc : par c < c := by unfold par; omega
        rw [hgs, hgs, if_neg (by omega), if_neg (by omega)]
        have e2 := hH c c1 c2
        rw [c3] at e2
        exact o.tr _ _ _ (hH i c4 hc) e2)
    have hl1 : l1.length = m.length := by rw [a3.length_eq, List.length_set]
    obtain ⟨l2, b1, b2, b3⟩ := up_ok (d := d) o i l1 (by omega) (by omega) a2
    rw [a1, Option.bind_some, b1]
    refine ⟨l2, rfl, b2, ?_⟩
    have hperm : (m ++ [x]).Perm (gg d m i :: m.set i x) := by
      have e3 : m = m.take i ++ gg d m i :: m.drop (i + 1) := by
        rw [gg_get d hc, ← List.drop_eq_getElem_cons hc, List.take_append_drop]
      have e4 : m.set i x = m.take i ++ x :: m.drop (i + 1) := by rw [List.set_eq_take_append_cons_drop, if_pos hc]
      rw [e4]
      conv => lhs; rw [e3]
      rw [List.append_assoc, List.cons_append]
      refine List.perm_middle.trans (List.Perm.cons _ ?_)
      exact List.Perm.append_left _ (List.perm_append_comm (l₁ := m.drop (i + 1)) (l₂ := [x]))
    rw [hg i hc]
    exact hperm.trans (List.Perm.cons _ ((b3.trans a3).symm))
  · have : i = m.length := by omega
    subst this
    rw [if_neg (by omega), List.set_eq_of_length_le (Nat.le_refl _)]
    refine ⟨m, rfl, fun j j1 j2 => ?_, ?_⟩
    · have := h j j1 (by rw [hln]; omega)
      have hpj : par j < j := by unfold par; omega
      rw [hg _ (by omega), hg _ j2] at this; exact this
    · rw [gx]; exact List.perm_append_comm (l₁ := m) (l₂ := [x])
/-- The root is least. -/
theorem root_least (o : Ordr less) {l : List α} (h : Hp less d l) : ∀ j, j < l.length → le less (gg d l 0) (gg d l j) := by
  intro j
  induction j using Nat.strongRecOn with
  | ind j ih =>
    intro hj
    by_cases h0 : j = 0
    · subst h0; exact o.refl _
    · have hpj : par j < j := by unfold par; omega
      exact o.tr _ _ _ (ih (par j) hpj (by omega)) (h j (by omega) hj)
theorem root_le (o : Ordr less) {l : List α} (h : Hp less d l) : ∀ x ∈ l, le less (gg d l 0) x := fun x hx => by
  obtain ⟨j, hj, rfl⟩ := List.getElem_of_mem hx
  have := root_least o h j hj
  rw [gg_get d hj] at this; exact this
theorem peek_some {l : List α} (h : 0 < l.length) : peekP d l = some (gg d l 0, true) := by
  unfold peekP
  rw [if_neg (by omega)]
  have := ix_g d h
  rw [show (((0 : Nat) : Int)) = 0 from rfl] at this
  rw [this]; rfl
theorem hp_nil : Hp less d ([] : List α) := fun j _ h => by simp at h
theorem drain_ok (o : Ordr less) (most : α) : ∀ (n : Nat) (out l : List α), l.length = n → out.length + l.length ≤ 900 → Hp less d l → out.Pairwise (le less) → (∀ a ∈ out, le less a most) → (∀ a ∈ out, ∀ b ∈ l, le less a b) →
    ∃ out' l', loopW (drainS less d most) (out, l) = some (out', l') ∧ Hp less d l' ∧ out'.Pairwise (le less) ∧ (∀ a ∈ out', le less a most) ∧ (∀ b ∈ l', less most b = true) ∧ (out' ++ l').Perm (out ++ l) := by
  intro n
  induction n with
  | zero =>
    intro out l hn hb hp h1 h2 h3
    obtain rfl : l = [] := List.eq_nil_of_length_eq_zero hn
    exact ⟨out, [], loopW_end rfl, hp, h1, h2, fun b hb => by simp at hb, List.Perm.refl _⟩
  | succ n ih =>
    intro out l hn hb hp h1 h2 h3
    have h0 : 0 < l.length := by omega
    have hmem : gg d l 0 ∈ l := by rw [gg_get d h0]; exact List.getElem_mem h0
    cases hc : less most (gg d l 0) with
    | true =>
      refine ⟨out, l, loopW_end (by rw [drainS, peek_some h0, Option.bind_some, if_pos (by simp [hc])]), hp, h1, h2, fun b hb' => ?_, List.Perm.refl _⟩
      have hr := root_le o hp b hb'
      cases hh : less most b with
      | true => rfl
      | false =>
        have := o.tr _ _ _ hr hh
        rw [hc] at this; cases this
    | false =>
      obtain ⟨l', r1, r2, r3⟩ := remove_ok (d := d) o (i := 0) (by omega) h0 hp
      have hlen := r3.length_eq
      simp only [List.length_cons] at hlen
      have hstep : drainS less d most (out, l) = some (.inl (out ++ [gg d l 0], l')) := by
        have r1' : removeP less d l 0 = some l' := r1
        rw [drainS, peek_some h0, Option.bind_some, if_neg (by simp [hc]), app_is (by rw [List.length_singleton]; omega), Option.bind_some, r1', Option.bind_some]
      have hsub : ∀ b ∈ l', b ∈ l := fun b hb => r3.mem_iff.2 (List.mem_cons_of_mem _ hb)
      obtain ⟨o2, l2, g1, g2, g3, g4, g5, g6⟩ := ih (out ++ [gg d l 0]) l' (by omega) (by simp; omega) r2 (by
        rw [List.pairwise_append]
        exact ⟨h1, by simp, fun a ha b hb => by rw [List.mem_singleton] at hb; subst hb; exact h3 a ha _ hmem⟩) (fun a ha => by
        rcases List.mem_append.1 ha with ha | ha
        · exact h2 a ha
        · rw [List.mem_singleton] at ha; subst ha; exact hc) (fun a ha b hb => by
        rcases List.mem_append.1 ha with ha | ha
        · exact h3 a ha b (hsub b hb)
        · rw [List.mem_singleton] at ha; subst ha; exact root_le o hp b (hsub b hb))
      refine ⟨o2, l2, by rw [loopW_go hstep]; exact g1, g2, g3, g4, g5, g6.trans ?_⟩
      rw [List.append_assoc]
      exact List.Perm.append_left _ r3.symm
end

end Go.Proofs.Ytlogogcdfdocoaa
