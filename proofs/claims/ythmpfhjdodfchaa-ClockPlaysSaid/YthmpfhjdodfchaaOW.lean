/- Bags: items of a number that only the run knows; rows whose elements own rows. Conditions: none. -/
import Derived.Test.YthmpfhjdodfchaaOE
namespace Go.Proofs.Ythmpfhjdodfchaa
set_option linter.unusedVariables false
set_option linter.unusedSimpArgs false
open Go Go.RowKit

/-- Nothing. -/
def emp : It := ⟨[], fun _ _ => True, fun _ _ _ => trivial, fun _ _ hg => (by cases hg), fun _ => List.nodup_nil⟩
/-- Items side by side, as one. -/
def bag (its : List It) : It :=
  ⟨its.flatMap It.bl, fun w A => (∀ z ∈ its, z.ok w A) ∧ (its.flatMap It.bl).Nodup,
   fun ⟨h, hn⟩ hk hg => ⟨fun z hz => z.stab (h z hz) hk fun g hb => hg g (List.mem_flatMap.2 ⟨z, hz, hb⟩), hn⟩,
   fun ⟨h, _⟩ g hg => by
     obtain ⟨z, hz, hb⟩ := List.mem_flatMap.1 hg
     exact z.lt (h z hz) g hb,
   fun h => h.2⟩

section
variable {B : Bs} {w w' : World} {M M' : Blks} {Z Z' Z1 : List It} {its : List It} {z : It}
theorem bag_blks : blks M (bag its :: Z) = blks M (its ++ Z) := by
  unfold blks
  rw [List.flatMap_cons, List.flatMap_append]; rfl
theorem Stw.bagOpen (h : Stw B M (bag its :: Z) w) : Stw B M (its ++ Z) w := by
  refine ⟨h.frm, by rw [← bag_blks]; exact h.own, h.at_, fun z hz => ?_, by rw [← bag_blks]; exact h.nodup, h.disj⟩
  rw [← bag_blks]
  rcases List.mem_append.1 hz with hz | hz
  · exact (show (∀ z ∈ its, z.ok w _) ∧ _ from h.items _ (List.mem_cons_self ..)).1 z hz
  · exact h.items z (List.mem_cons_of_mem _ hz)
theorem Stw.bagShut (h : Stw B M (its ++ Z) w) : Stw B M (bag its :: Z) w := by
  refine ⟨h.frm, by rw [bag_blks]; exact h.own, h.at_, fun z hz => ?_, by rw [bag_blks]; exact h.nodup, h.disj⟩
  rw [bag_blks]
  rcases List.mem_cons.1 hz with rfl | hz
  · refine ⟨fun y hy => h.items y (List.mem_append_left _ hy), ?_⟩
    have hn := h.nodup
    unfold blks at hn
    rw [List.flatMap_append] at hn
    exact (List.nodup_append.1 (List.nodup_append.1 hn).2.1).1
  · exact h.items z (List.mem_append_right _ hz)
theorem Stw.bagNil (h : Stw B M Z w) : Stw B M (bag [] :: Z) w := Stw.bagShut (its := []) h
/-- One more. -/
theorem Stw.bagPush (h : Stw B M (z :: bag its :: Z) w) : Stw B M (bag (its ++ [z]) :: Z) w := by
  have h1 : Stw B M (bag its :: z :: Z) w := h.permZ (List.Perm.swap _ _ _)
  have h2 : Stw B M ((its ++ [z]) ++ Z) w := by rw [List.append_assoc]; exact h1.bagOpen
  exact h2.bagShut
/-- Nothing more is known of an item. -/
theorem Stw.itemDrop (h : Stw B M (z :: Z) w) : Stw B M (emp :: Z) w := by
  have h1 : Stw B M Z w := h.sub (List.Sublist.refl _) (List.sublist_cons_self _ _)
  have hbl : blks M (emp :: Z) = blks M Z := by unfold blks; simp [emp]
  refine ⟨h1.frm, by rw [hbl]; exact h1.own, h1.at_, fun y hy => ?_, by rw [hbl]; exact h1.nodup, h1.disj⟩
  rw [hbl]
  rcases List.mem_cons.1 hy with rfl | hy
  · exact trivial
  · exact h1.items y hy
theorem Stw.addEmp (h : Stw B M Z w) : Stw B M (emp :: Z) w := by
  have hbl : blks M (emp :: Z) = blks M Z := by unfold blks; simp [emp]
  refine ⟨h.frm, by rw [hbl]; exact h.own, h.at_, fun y hy => ?_, by rw [hbl]; exact h.nodup, h.disj⟩
  rw [hbl]
  rcases List.mem_cons.1 hy with rfl | hy
  · exact trivial
  · exact h.items y hy
theorem set_perm {α : Type} : ∀ {l : List α} {i : Nat} {x y : α}, l[i]? = some x → (y :: l).Perm (x :: l.set i y)
  | [], _, _, _, h => by simp at h
  | a :: l, 0, x, y, h => by simp at h; subst h; exact List.Perm.swap _ _ _
  | a :: l, i + 1, x, y, h => by
    simp at h
    exact (List.Perm.swap _ _ _).trans (((set_perm h).cons a).trans (List.Perm.swap _ _ _))
/-- One of them is taken out, another one put in. -/
theorem Stw.bagSwap {i : Nat} {x : It} (h : Stw B M (z :: bag its :: Z) w) (hi : its[i]? = some x) : Stw B M (x :: bag (its.set i z) :: Z) w := by
  have h1 : Stw B M (bag its :: z :: Z) w := h.permZ (List.Perm.swap _ _ _)
  have h2 : Stw B M (its ++ z :: Z) w := h1.bagOpen
  have h3 : Stw B M (its.set i z ++ x :: Z) w := h2.permZ (by
    have p1 : (its ++ z :: Z).Perm ((z :: its) ++ Z) := List.perm_middle
    have p2 : ((x :: its.set i z) ++ Z).Perm (its.set i z ++ x :: Z) := List.perm_middle.symm
    exact p1.trans (((set_perm hi).append_right Z).trans p2))
  exact h3.bagShut.permZ (List.Perm.swap _ _ _)
theorem Stw.bagTake {i : Nat} {x : It} (h : Stw B M (bag its :: Z) w) (hi : its[i]? = some x) : Stw B M (x :: bag (its.set i emp) :: Z) w := h.addEmp.bagSwap hi
theorem Stw.bagPut {i : Nat} {x : It} (h : Stw B M (z :: bag its :: Z) w) (hi : its[i]? = some x) : Stw B M (bag (its.set i z) :: Z) w :=
  (h.bagSwap hi).sub (List.Sublist.refl _) (List.sublist_cons_self _ _)
/-- Each of them turns into what its own memory says as well. -/
theorem Stw.bagDrop {i : Nat} {x : It} (h : Stw B M (bag its :: Z) w) (hi : its[i]? = some x) : Stw B M (bag (its.set i emp) :: Z) w := h.addEmp.bagPut hi
end

/-! ### Rows whose elements are rows -/
section
variable {α : Type} {B : Bs} {w w' : World} {M M' : Blks} {Z Z' Z1 : List It}
/-- An element: its value; whether it is one's own, rests, or is not known; what it holds. -/
abbrev De (α : Type) := Value × Nat × List α
def dIt (e : TypeId) (r : Rp α) (x : De α) : It := if x.2.1 = 2 then row x.1 e r x.2.2 else if x.2.1 = 1 then frz x.1 r x.2.2 else emp
/-- A row of headers. -/
def Rp.hd : Rp Value := Rp.raw
theorem dIt_sl {e : TypeId} {r : Rp α} {x : De α} {A : Nat → Prop} (h : (dIt e r x).ok w A) (h0 : x.2.1 ≠ 0) (h3 : x.2.1 ≤ 2) : Sl w any r x.1 x.2.2 := by
  unfold dIt at h
  by_cases c : x.2.1 = 2
  · rw [if_pos c] at h
    exact Own.sl (show Own w A e r x.1 x.2.2 from h) (fun _ _ => trivial) (fun _ _ => trivial)
  · rw [if_neg c] at h
    by_cases c1 : x.2.1 = 1
    · rw [if_pos c1] at h; exact Sl.any (show Sl w A r x.1 x.2.2 from h)
    · omega
/-- An element's row can be read. -/
theorem rdc_bag {e : TypeId} {r : Rp α} {g : List (De α)} {i : Nat} {x : De α} (k : Nat) (hZ : Z[k]? = some (bag (g.map (dIt e r)))) (hi : g[i]? = some x) (h0 : x.2.1 ≠ 0) (h3 : x.2.1 ≤ 2) : Rdc B M Z r x.1 x.2.2 := fun w hw => by
  have hb : (∀ z ∈ g.map (dIt e r), z.ok w _) ∧ _ := hw.item hZ
  exact dIt_sl (hb.1 _ (List.mem_map.2 ⟨x, mem_of_get hi, rfl⟩)) h0 h3
/-- All own rows of a bag rest from now on. -/
theorem Stw.bagRest {e : TypeId} {r : Rp α} : ∀ {g : List (De α)}, (∀ x ∈ g, x.2.1 ≠ 0 ∧ x.2.1 ≤ 2) → ∀ {Z : List It}, Stw B M (g.map (dIt e r) ++ Z) w → Stw B M (Z ++ g.map fun x => frz x.1 r x.2.2) w
  | [], _, Z, h => by simpa using h
  | x :: g, hf, Z, h => by
    have hx := hf x (List.mem_cons_self ..)
    have h1 : Stw B M (frz x.1 r x.2.2 :: (g.map (dIt e r) ++ Z)) w := by
      have h0 : Stw B M (dIt e r x :: (g.map (dIt e r) ++ Z)) w := h
      unfold dIt at h0
      by_cases c : x.2.1 = 2
      · rw [if_pos c] at h0; exact h0.freeze
      · rw [if_neg c, if_pos (by omega)] at h0; exact h0
    have h2 : Stw B M (g.map (dIt e r) ++ (Z ++ [frz x.1 r x.2.2])) w := h1.permZ (by
      rw [← List.append_assoc]
      exact (List.perm_append_comm (l₁ := [_])))
    have h3 := Stw.bagRest (fun y hy => hf y (List.mem_cons_of_mem _ hy)) h2
    rw [List.append_assoc] at h3
    simpa using h3
theorem RepL.vsl {r : Rp α} {A : Nat → Prop} : ∀ {g : List (De α)} {xs : List Value}, RepL Rp.hd w A xs (g.map (·.1)) → (∀ x ∈ g, Sl w A r x.1 x.2.2) → RepL (Rp.vsl r) w A xs (g.map fun x => (x.1, x.2.2))
  | [], xs, h, _ => h
  | x :: g, xs, ⟨cs, ys, he, h1, h2⟩, hs => ⟨cs, ys, he, ⟨h1.1, hs x (List.mem_cons_self ..)⟩, RepL.vsl h2 fun y hy => hs y (List.mem_cons_of_mem _ hy)⟩
theorem RepL.unvsl {r : Rp α} {A : Nat → Prop} : ∀ {g : List (Value × List α)} {xs : List Value}, RepL (Rp.vsl r) w A xs g → RepL Rp.hd w A xs (g.map (·.1)) ∧ ∀ x ∈ g, Sl w A r x.1 x.2
  | [], xs, h => ⟨h, fun x hx => by cases hx⟩
  | x :: g, xs, ⟨cs, ys, he, h1, h2⟩ => by
    obtain ⟨i1, i2⟩ := RepL.unvsl h2
    refine ⟨⟨cs, ys, he, ⟨h1.1, h1.2.one⟩, i1⟩, fun y hy => ?_⟩
    rcases List.mem_cons.1 hy with rfl | hy
    · exact h1.2
    · exact i2 y hy
theorem Own.vsl {e : TypeId} {r : Rp α} {A : Nat → Prop} {v : Value} {g : List (De α)} (h : Own w A e Rp.hd v (g.map (·.1))) (hs : ∀ x ∈ g, Sl w A r x.1 x.2.2) : Own w A e (Rp.vsl r) v (g.map fun x => (x.1, x.2.2)) := by
  rcases h with ⟨ad, rfl, h0⟩ | ⟨b, off, cap, cur, xs, rfl, hp, hb, h1, h2, h3, h4, h5⟩
  · exact .inl ⟨ad, rfl, by rw [List.map_eq_nil_iff] at h0; rw [h0]; rfl⟩
  · exact .inr ⟨b, off, cap, cur, xs, by simp, hp, hb, by simpa using h1, h2, h3, (by rw [List.length_map] at h4 ⊢; exact h4), RepL.vsl h5 hs⟩
theorem Own.unvsl {e : TypeId} {r : Rp α} {A : Nat → Prop} {v : Value} {g : List (Value × List α)} (h : Own w A e (Rp.vsl r) v g) : Own w A e Rp.hd v (g.map (·.1)) ∧ ∀ x ∈ g, Sl w A r x.1 x.2 := by
  rcases h with ⟨ad, rfl, rfl⟩ | ⟨b, off, cap, cur, xs, rfl, hp, hb, h1, h2, h3, h4, h5⟩
  · exact ⟨.inl ⟨ad, rfl, rfl⟩, fun x hx => by cases hx⟩
  · obtain ⟨i1, i2⟩ := RepL.unvsl h5
    exact ⟨.inr ⟨b, off, cap, cur, xs, by simp, hp, hb, by simpa using h1, h2, h3, (by rw [List.length_map]; exact h4), i1⟩, i2⟩
/-- A row of rows rests within: it can be handed on as a plain row. -/
theorem Stw.dRest {e e' : TypeId} {r : Rp α} {v : Value} {g : List (De α)} (h : Stw B M (row v e Rp.hd (g.map (·.1)) :: bag (g.map (dIt e' r)) :: Z) w) (hf : ∀ x ∈ g, x.2.1 ≠ 0 ∧ x.2.1 ≤ 2) : Stw B M (row v e (Rp.vsl r) (g.map fun x => (x.1, x.2.2)) :: Z) w := by
  have h1 : Stw B M (bag (g.map (dIt e' r)) :: row v e Rp.hd (g.map (·.1)) :: Z) w := h.permZ (List.Perm.swap _ _ _)
  have h2 : Stw B M ((row v e Rp.hd (g.map (·.1)) :: Z) ++ g.map fun x => frz x.1 r x.2.2) w := Stw.bagRest hf h1.bagOpen
  have hbl : blks M ((row v e Rp.hd (g.map (·.1)) :: Z) ++ g.map fun x => frz x.1 r x.2.2) = blks M (row v e Rp.hd (g.map (·.1)) :: Z) := by
    unfold blks
    rw [List.flatMap_append]
    have : (g.map fun x => frz x.1 r x.2.2).flatMap It.bl = [] := by
      rw [List.flatMap_eq_nil_iff]
      intro z hz
      obtain ⟨x, _, rfl⟩ := List.mem_map.1 hz
      rfl
    rw [this, List.append_nil]
  have hs : ∀ x ∈ g, Sl w (Fz B (blks M (row v e Rp.hd (g.map (·.1)) :: Z))) r x.1 x.2.2 := fun x hx => by
    have := h2.items (frz x.1 r x.2.2) (List.mem_append_right _ (List.mem_map.2 ⟨x, hx, rfl⟩))
    rw [hbl] at this; exact this
  have h3 : Stw B M (row v e Rp.hd (g.map (·.1)) :: Z) w := h2.sub (List.Sublist.refl _) (List.sublist_append_left _ _)
  have hb : blks M (row v e (Rp.vsl r) (g.map fun x => (x.1, x.2.2)) :: Z) = blks M (row v e Rp.hd (g.map (·.1)) :: Z) := rfl
  refine ⟨h3.frm, by rw [hb]; exact h3.own, h3.at_, fun z hz => ?_, by rw [hb]; exact h3.nodup, h3.disj⟩
  rw [hb]
  rcases List.mem_cons.1 hz with rfl | hz
  · exact Own.vsl (show Own w _ e Rp.hd v (g.map (·.1)) from h3.items _ (List.mem_cons_self ..)) hs
  · exact h3.items z (List.mem_cons_of_mem _ hz)
/-- A plain row of rows, seen as a row of headers beside what they hold, which rests. -/
theorem Stw.dOpen {e e' : TypeId} {r : Rp α} {v : Value} {g : List (Value × List α)} (h : Stw B M (row v e (Rp.vsl r) g :: Z) w) : Stw B M (row v e Rp.hd ((g.map fun x => ((x.1, 1, x.2) : De α)).map (·.1)) :: bag ((g.map fun x => ((x.1, 1, x.2) : De α)).map (dIt e' r)) :: Z) w := by
  have ho : Own w (Fz B (blks M (row v e (Rp.vsl r) g :: Z))) e (Rp.vsl r) v g := h.items _ (List.mem_cons_self ..)
  obtain ⟨h1, h2⟩ := Own.unvsl ho
  have hmap : (g.map fun x => ((x.1, 1, x.2) : De α)).map (·.1) = g.map (·.1) := by rw [List.map_map]; rfl
  have hz0 : ((g.map fun x => ((x.1, 1, x.2) : De α)).map (dIt e' r)).flatMap It.bl = [] := by
    rw [List.flatMap_eq_nil_iff]
    intro z hz
    obtain ⟨x, hx, rfl⟩ := List.mem_map.1 hz
    obtain ⟨y, _, rfl⟩ := List.mem_map.1 hx
    rfl
  have hbl : blks M (row v e Rp.hd ((g.map fun x => ((x.1, 1, x.2) : De α)).map (·.1)) :: bag ((g.map fun x => ((x.1, 1, x.2) : De α)).map (dIt e' r)) :: Z) = blks M (row v e (Rp.vsl r) g :: Z) := by
    unfold blks
    rw [List.flatMap_cons, List.flatMap_cons, List.flatMap_cons, show (bag ((g.map fun x => ((x.1, 1, x.2) : De α)).map (dIt e' r))).bl = [] from hz0]; rfl
  refine ⟨h.frm, by rw [hbl]; exact h.own, h.at_, fun z hz => ?_, by rw [hbl]; exact h.nodup, h.disj⟩
  rw [hbl]
  rcases List.mem_cons.1 hz with rfl | hz
  · rw [hmap]; exact h1
  · rcases List.mem_cons.1 hz with rfl | hz
    · refine ⟨fun z hz => ?_, by rw [hz0]; exact List.nodup_nil⟩
      obtain ⟨x, hx, rfl⟩ := List.mem_map.1 hz
      obtain ⟨y, hy, rfl⟩ := List.mem_map.1 hx
      exact h2 y hy
    · exact h.items z (List.mem_cons_of_mem _ hz)

/-! ### Elements, by their places in the twin's list of flags and contents -/
theorem dIt_own {e : TypeId} {r : Rp α} {v : Value} {l : List α} : dIt e r (v, 2, l) = row v e r l := by unfold dIt; rw [if_pos rfl]
theorem dIt_frz {e : TypeId} {r : Rp α} {v : Value} {l : List α} : dIt e r (v, 1, l) = frz v r l := by unfold dIt; rw [if_neg (by show ¬ (1 : Nat) = 2; decide), if_pos rfl]
theorem dIt_emp {e : TypeId} {r : Rp α} {v : Value} {l : List α} : dIt e r (v, 0, l) = emp := by unfold dIt; rw [if_neg (by show ¬ (0 : Nat) = 2; decide), if_neg (by show ¬ (0 : Nat) = 1; decide)]
theorem ix_de {g : List (De α)} {p : List (Nat × List α)} {i : Int} {y : Nat × List α} (he : g.map (·.2) = p) (h : ix p i = some y) : ∃ x, ix g i = some x ∧ x.2 = y := ix_ex (er := fun x : De α => x.2) he h
theorem ix_mapS {β γ : Type} {f : β → γ} {g : List β} {i : Int} {x : β} (h : ix g i = some x) : ix (g.map f) i = some (f x) := by
  obtain ⟨h0, hk, hx⟩ := ix_lt h
  unfold ix
  rw [if_pos h0, List.getElem?_map, hx]; rfl
theorem map_setAt {β γ : Type} (f : β → γ) (g : List β) (i : Int) (x : β) : (setAt g i x).map f = setAt (g.map f) i (f x) := by unfold setAt; rw [List.map_set]
/-- An own element is taken out of the bag. -/
theorem Stw.deTake {e : TypeId} {r : Rp α} {g : List (De α)} {i : Int} {x : De α} (h : Stw B M (bag (g.map (dIt e r)) :: Z) w) (hi : ix g i = some x) (h2 : x.2.1 = 2) : Stw B M (row x.1 e r x.2.2 :: bag ((setAt g i (x.1, 0, [])).map (dIt e r)) :: Z) w := by
  obtain ⟨h0, hk, hx⟩ := ix_lt hi
  have hx' : (g.map (dIt e r))[i.toNat]? = some (dIt e r x) := by rw [List.getElem?_map, hx]; rfl
  have h3 := h.bagTake hx'
  obtain ⟨v, k, l⟩ := x
  simp only at h2
  subst h2
  rw [dIt_own] at h3
  rw [map_setAt, dIt_emp]; exact h3
/-- An own row is put into the bag. -/
theorem Stw.dePut {e : TypeId} {r : Rp α} {g : List (De α)} {i : Int} {x : De α} {v : Value} {l : List α} (h : Stw B M (row v e r l :: bag (g.map (dIt e r)) :: Z) w) (hi : ix g i = some x) : Stw B M (bag ((setAt g i (v, 2, l)).map (dIt e r)) :: Z) w := by
  obtain ⟨h0, hk, hx⟩ := ix_lt hi
  have hx' : (g.map (dIt e r))[i.toNat]? = some (dIt e r x) := by rw [List.getElem?_map, hx]; rfl
  rw [map_setAt, dIt_own]
  exact h.bagPut hx'
/-- What rests is put into the bag. -/
theorem Stw.dePutF {e : TypeId} {r : Rp α} {g : List (De α)} {i : Int} {x : De α} {v : Value} {l : List α} (h : Stw B M (frz v r l :: bag (g.map (dIt e r)) :: Z) w) (hi : ix g i = some x) : Stw B M (bag ((setAt g i (v, 1, l)).map (dIt e r)) :: Z) w := by
  obtain ⟨h0, hk, hx⟩ := ix_lt hi
  have hx' : (g.map (dIt e r))[i.toNat]? = some (dIt e r x) := by rw [List.getElem?_map, hx]; rfl
  rw [map_setAt, dIt_frz]
  exact h.bagPut hx'
theorem Stw.dePush {e : TypeId} {r : Rp α} {g : List (De α)} {v : Value} {l : List α} (h : Stw B M (row v e r l :: bag (g.map (dIt e r)) :: Z) w) : Stw B M (bag ((g ++ [(v, 2, l)]).map (dIt e r)) :: Z) w := by
  rw [List.map_append, List.map_singleton, dIt_own]
  exact h.bagPush
/-- Elements of no memory. -/
theorem Stw.deFlat {e : TypeId} {r : Rp α} {g : List (De α)} (h : Stw B M Z w) (hb : ∀ x ∈ g, (dIt e r x).bl = [] ∧ (dIt e r x).ok w (Fz B (blks M Z))) : Stw B M (bag (g.map (dIt e r)) :: Z) w := by
  have hz : (g.map (dIt e r)).flatMap It.bl = [] := by
    rw [List.flatMap_eq_nil_iff]
    intro z hz
    obtain ⟨x, hx, rfl⟩ := List.mem_map.1 hz
    exact (hb x hx).1
  have hbl : blks M (bag (g.map (dIt e r)) :: Z) = blks M Z := by
    unfold blks
    rw [List.flatMap_cons, show (bag (g.map (dIt e r))).bl = [] from hz]; rfl
  refine ⟨h.frm, by rw [hbl]; exact h.own, h.at_, fun z hzm => ?_, by rw [hbl]; exact h.nodup, h.disj⟩
  rw [hbl]
  rcases List.mem_cons.1 hzm with rfl | hzm
  · refine ⟨fun z hz' => ?_, by rw [hz]; exact List.nodup_nil⟩
    obtain ⟨x, hx, rfl⟩ := List.mem_map.1 hz'
    exact (hb x hx).2
  · exact h.items z hzm
theorem Stw.deNils {e : TypeId} {r : Rp α} (n : Nat) (h : Stw B M Z w) : Stw B M (bag ((List.replicate n ((.slice none 0 0, 2, []) : De α)).map (dIt e r)) :: Z) w :=
  h.deFlat fun x hx => by
    obtain rfl := List.eq_of_mem_replicate hx
    rw [dIt_own]
    exact ⟨(ownE_zero none 0 : ownE (.slice none 0 0) = []), .inl ⟨none, rfl, rfl⟩⟩
/-- What is read elsewhere, and rests. -/
theorem Stw.deRests {e : TypeId} {r : Rp α} {lx : List (Value × List α)} (h : Stw B M Z w) (hs : ∀ x ∈ lx, Sl w (Fz B (blks M Z)) r x.1 x.2) : Stw B M (bag ((lx.map fun x => ((x.1, 1, x.2) : De α)).map (dIt e r)) :: Z) w :=
  h.deFlat fun y hy => by
    obtain ⟨x, hx, rfl⟩ := List.mem_map.1 hy
    rw [dIt_frz]
    exact ⟨rfl, hs x hx⟩
end
end Go.Proofs.Ythmpfhjdodfchaa
