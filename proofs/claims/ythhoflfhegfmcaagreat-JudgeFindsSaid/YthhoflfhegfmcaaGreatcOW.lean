/- Bags: items of a number that only the run knows; rows whose elements own rows. Conditions: none. -/
import Derived.Test.YthhoflfhegfmcaaGreatcOE
namespace Go.Proofs.YthhoflfhegfmcaaGreat
set_option linter.unusedVariables false
set_option linter.unusedSimpArgs false
open Go Go.RowKit
def QV : It := ⟨[], fun _ _ => True, fun _ _ _ => trivial, fun _ _ hg => (by cases hg), fun _ => List.nodup_nil⟩
def Gq (its : List It) : It :=
  ⟨its.flatMap It.bl, fun w A => (∀ z ∈ its, z.ok w A) ∧ (its.flatMap It.bl).Nodup,
   fun ⟨h, hn⟩ hk hg => ⟨fun z hz => z.stab (h z hz) hk fun g hb => hg g (List.mem_flatMap.2 ⟨z, hz, hb⟩), hn⟩,
   fun ⟨h, _⟩ g hg => by
     obtain ⟨z, hz, hb⟩ := List.mem_flatMap.1 hg
     exact z.lt (h z hz) g hb,
   fun h => h.2⟩
section
variable {B : Bs} {w w' : World} {M M' : Dg} {Z Z' Z1 : List It} {its : List It} {z : It}
theorem JX : Bn M (Gq its :: Z) = Bn M (its ++ Z) := by
  unfold Bn
  rw [List.flatMap_cons, List.flatMap_append]; rfl
theorem Stw.bagOpen (h : Stw B M (Gq its :: Z) w) : Stw B M (its ++ Z) w := by
  refine ⟨h.frm, by rw [← JX]; exact h.own, h.at_, fun z hz => ?_, by rw [← JX]; exact h.nodup, h.disj⟩
  rw [← JX]
  rcases List.mem_append.1 hz with hz | hz
  · exact (show (∀ z ∈ its, z.ok w _) ∧ _ from h.items _ (List.mem_cons_self ..)).1 z hz
  · exact h.items z (List.mem_cons_of_mem _ hz)
theorem Stw.bagShut (h : Stw B M (its ++ Z) w) : Stw B M (Gq its :: Z) w := by
  refine ⟨h.frm, by rw [JX]; exact h.own, h.at_, fun z hz => ?_, by rw [JX]; exact h.nodup, h.disj⟩
  rw [JX]
  rcases List.mem_cons.1 hz with rfl | hz
  · refine ⟨fun y hy => h.items y (List.mem_append_left _ hy), ?_⟩
    have hn := h.nodup
    unfold Bn at hn
    rw [List.flatMap_append] at hn
    exact (List.nodup_append.1 (List.nodup_append.1 hn).2.1).1
  · exact h.items z (List.mem_append_right _ hz)
theorem Stw.bagNil (h : Stw B M Z w) : Stw B M (Gq [] :: Z) w := Stw.bagShut (its := []) h
theorem Stw.bagPush (h : Stw B M (z :: Gq its :: Z) w) : Stw B M (Gq (its ++ [z]) :: Z) w := by
  have h1 : Stw B M (Gq its :: z :: Z) w := h.permZ (List.Perm.swap _ _ _)
  have h2 : Stw B M ((its ++ [z]) ++ Z) w := by rw [List.append_assoc]; exact h1.bagOpen
  exact h2.bagShut
theorem Stw.addEmp (h : Stw B M Z w) : Stw B M (QV :: Z) w := by
  have hbl : Bn M (QV :: Z) = Bn M Z := by unfold Bn; simp [QV]
  refine ⟨h.frm, by rw [hbl]; exact h.own, h.at_, fun y hy => ?_, by rw [hbl]; exact h.nodup, h.disj⟩
  rw [hbl]
  rcases List.mem_cons.1 hy with rfl | hy
  · exact trivial
  · exact h.items y hy
theorem QL {α : Type} : ∀ {l : List α} {i : Nat} {x y : α}, l[i]? = some x → (y :: l).Perm (x :: l.set i y)
  | [], _, _, _, h => by simp at h
  | a :: l, 0, x, y, h => by simp at h; subst h; exact List.Perm.swap _ _ _
  | a :: l, i + 1, x, y, h => by
    simp at h
    exact (List.Perm.swap _ _ _).trans (((QL h).cons a).trans (List.Perm.swap _ _ _))
theorem Stw.bagSwap {i : Nat} {x : It} (h : Stw B M (z :: Gq its :: Z) w) (hi : its[i]? = some x) : Stw B M (x :: Gq (its.set i z) :: Z) w := by
  have h1 : Stw B M (Gq its :: z :: Z) w := h.permZ (List.Perm.swap _ _ _)
  have h2 : Stw B M (its ++ z :: Z) w := h1.bagOpen
  have h3 : Stw B M (its.set i z ++ x :: Z) w := h2.permZ (by
    have p1 : (its ++ z :: Z).Perm ((z :: its) ++ Z) := List.perm_middle
    have p2 : ((x :: its.set i z) ++ Z).Perm (its.set i z ++ x :: Z) := List.perm_middle.symm
    exact p1.trans (((QL hi).append_right Z).trans p2))
  exact h3.bagShut.permZ (List.Perm.swap _ _ _)
theorem Stw.bagTake {i : Nat} {x : It} (h : Stw B M (Gq its :: Z) w) (hi : its[i]? = some x) : Stw B M (x :: Gq (its.set i QV) :: Z) w := h.addEmp.bagSwap hi
theorem Stw.bagPut {i : Nat} {x : It} (h : Stw B M (z :: Gq its :: Z) w) (hi : its[i]? = some x) : Stw B M (Gq (its.set i z) :: Z) w :=
  (h.bagSwap hi).sub (List.Sublist.refl _) (List.sublist_cons_self _ _)
end
section
variable {α : Type} {B : Bs} {w w' : World} {M M' : Dg} {Z Z' Z1 : List It}
abbrev De (α : Type) := Value × Nat × List α
def St (e : TypeId) (r : Rp α) (x : De α) : It := if x.2.1 = 2 then row x.1 e r x.2.2 else if x.2.1 = 1 then Lz x.1 r x.2.2 else QV
def Rp.hd : Rp Value := Rp.raw
theorem Ts {e : TypeId} {r : Rp α} {x : De α} {A : Nat → Prop} (h : (St e r x).ok w A) (h0 : x.2.1 ≠ 0) (h3 : x.2.1 ≤ 2) : Sl w any r x.1 x.2.2 := by
  unfold St at h
  by_cases c : x.2.1 = 2
  · rw [if_pos c] at h
    exact F6.sl (show F6 w A e r x.1 x.2.2 from h) (fun _ _ => trivial) (fun _ _ => trivial)
  · rw [if_neg c] at h
    by_cases c1 : x.2.1 = 1
    · rw [if_pos c1] at h; exact Sl.any (show Sl w A r x.1 x.2.2 from h)
    · omega
theorem Cg.vsl {r : Rp α} {A : Nat → Prop} : ∀ {g : List (De α)} {xs : List Value}, Cg Rp.hd w A xs (g.map (·.1)) → (∀ x ∈ g, Sl w A r x.1 x.2.2) → Cg (Rp.vsl r) w A xs (g.map fun x => (x.1, x.2.2))
  | [], xs, h, _ => h
  | x :: g, xs, ⟨cs, ys, he, h1, h2⟩, hs => ⟨cs, ys, he, ⟨h1.1, hs x (List.mem_cons_self ..)⟩, Cg.vsl h2 fun y hy => hs y (List.mem_cons_of_mem _ hy)⟩
theorem F6.vsl {e : TypeId} {r : Rp α} {A : Nat → Prop} {v : Value} {g : List (De α)} (h : F6 w A e Rp.hd v (g.map (·.1))) (hs : ∀ x ∈ g, Sl w A r x.1 x.2.2) : F6 w A e (Rp.vsl r) v (g.map fun x => (x.1, x.2.2)) := by
  rcases h with ⟨ad, rfl, h0⟩ | ⟨b, off, cap, cur, xs, rfl, hp, hb, h1, h2, h3, h4, h5⟩
  · exact .inl ⟨ad, rfl, by rw [List.map_eq_nil_iff] at h0; rw [h0]; rfl⟩
  · exact .inr ⟨b, off, cap, cur, xs, by simp, hp, hb, by simpa using h1, h2, h3, (by rw [List.length_map] at h4 ⊢; exact h4), Cg.vsl h5 hs⟩
theorem NH {e : TypeId} {r : Rp α} {v : Value} {l : List α} : St e r (v, 2, l) = row v e r l := by unfold St; rw [if_pos rfl]
theorem Vw {e : TypeId} {r : Rp α} {v : Value} {l : List α} : St e r (v, 0, l) = QV := by unfold St; rw [if_neg (by show ¬ (0 : Nat) = 2; decide), if_neg (by show ¬ (0 : Nat) = 1; decide)]
theorem SJ {β γ : Type} (f : β → γ) (g : List β) (i : Int) (x : β) : (Ah g i x).map f = Ah (g.map f) i (f x) := by unfold Ah; rw [List.map_set]
end
end Go.Proofs.YthhoflfhegfmcaaGreat
