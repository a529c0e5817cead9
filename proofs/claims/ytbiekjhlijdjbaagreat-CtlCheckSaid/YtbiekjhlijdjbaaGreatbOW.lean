/- Bags: items of a number that only the run knows; rows whose elements own rows. Conditions: none. -/
import Derived.Test.YtbiekjhlijdjbaaGreatbOE
set_option linter.unusedVariables false
set_option linter.unusedSimpArgs false
open Go Go.RowKit
namespace Go.Proofs.YtbiekjhlijdjbaaGreat
def Rd : It := ⟨[],fun _ _ => True,fun _ _ _ => trivial,fun _ _ hg => (by cases hg),fun _ => List.nodup_nil⟩
def FU (its : List It) : It :=
  ⟨its.flatMap It.bl,fun w A => (∀ z ∈ its,z.ok w A) ∧ (its.flatMap It.bl).Nodup,
   fun ⟨h,hn⟩ hk hg => ⟨fun z hz => z.stab (h z hz) hk fun g hb => hg g (List.mem_flatMap.2 ⟨z,hz,hb⟩),hn⟩,
   fun ⟨h,_⟩ g hg => by
     obtain ⟨z,hz,hb⟩ := List.mem_flatMap.1 hg
     exact z.lt (h z hz) g hb,
   fun h => h.2⟩
section
variable {B : Bs} {w w' : World} {M M' : Bi} {Z Z' Z1 : List It} {its : List It} {z : It}
theorem Gr : AA M (FU its :: Z) = AA M (its ++ Z) := by
  unfold AA
  rw [List.flatMap_cons,List.flatMap_append]; rfl
theorem Stw.bagOpen (h : Stw B M (FU its :: Z) w) : Stw B M (its ++ Z) w := by
  refine ⟨h.frm,by rw [← Gr]; exact h.own,h.at_,fun z hz => ?_,by rw [← Gr]; exact h.nodup,h.disj⟩
  rw [← Gr]
  rcases List.mem_append.1 hz with hz | hz
  · exact (show (∀ z ∈ its,z.ok w _) ∧ _ from h.items _ (List.mem_cons_self ..)).1 z hz
  · exact h.items z (zc _ hz)
theorem Stw.bagShut (h : Stw B M (its ++ Z) w) : Stw B M (FU its :: Z) w := by
  refine ⟨h.frm,by rw [Gr]; exact h.own,h.at_,fun z hz => ?_,by rw [Gr]; exact h.nodup,h.disj⟩
  rw [Gr]
  rcases List.mem_cons.1 hz with rfl | hz
  · refine ⟨fun y hy => h.items y (List.mem_append_left _ hy), ?_⟩
    have hn := h.nodup
    unfold AA at hn
    rw [List.flatMap_append] at hn
    exact (List.nodup_append.1 (List.nodup_append.1 hn).2.1).1
  · exact h.items z (List.mem_append_right _ hz)
theorem Stw.bagNil (h : Stw B M Z w) : Stw B M (FU [] :: Z) w := Stw.bagShut (its := []) h
theorem Stw.bagPush (h : Stw B M (z :: FU its :: Z) w) : Stw B M (FU (its ++ [z]) :: Z) w := by
  have h1 : Stw B M (FU its :: z :: Z) w := h.permZ (List.Perm.swap _ _ _)
  have h2 : Stw B M ((its ++ [z]) ++ Z) w := by rw [List.append_assoc]; exact h1.bagOpen
  exact h2.bagShut
theorem Stw.addEmp (h : Stw B M Z w) : Stw B M (Rd :: Z) w := by
  have hbl : AA M (Rd :: Z) = AA M Z := by unfold AA; simp [Rd]
  refine ⟨h.frm,by rw [hbl]; exact h.own,h.at_,fun y hy => ?_,by rw [hbl]; exact h.nodup,h.disj⟩
  rw [hbl]
  rcases List.mem_cons.1 hy with rfl | hy
  · exact trivial
  · exact h.items y hy
theorem Oi {α : Type} : ∀ {l : List α} {i : Nat} {x y : α},l[i]? = some x → (y :: l).Perm (x :: l.set i y)
  | [],_,_,_,h => by simp at h
  | a :: l,0,x,y,h => by simp at h; subst h; exact List.Perm.swap _ _ _
  | a :: l,i + 1,x,y,h => by
    simp at h
    exact (List.Perm.swap _ _ _).trans (((Oi h).cons a).trans (List.Perm.swap _ _ _))
theorem Stw.bagSwap {i : Nat} {x : It} (h : Stw B M (z :: FU its :: Z) w) (hi : its[i]? = some x) : Stw B M (x :: FU (its.set i z) :: Z) w := by
  have h1 : Stw B M (FU its :: z :: Z) w := h.permZ (List.Perm.swap _ _ _)
  have h2 : Stw B M (its ++ z :: Z) w := h1.bagOpen
  have h3 : Stw B M (its.set i z ++ x :: Z) w := h2.permZ (by
    have p1 : (its ++ z :: Z).Perm ((z :: its) ++ Z) := List.perm_middle
    have p2 : ((x :: its.set i z) ++ Z).Perm (its.set i z ++ x :: Z) := List.perm_middle.symm
    exact p1.trans (((Oi hi).append_right Z).trans p2))
  exact h3.bagShut.permZ (List.Perm.swap _ _ _)
theorem Stw.bagTake {i : Nat} {x : It} (h : Stw B M (FU its :: Z) w) (hi : its[i]? = some x) : Stw B M (x :: FU (its.set i Rd) :: Z) w := h.addEmp.bagSwap hi
theorem Stw.bagPut {i : Nat} {x : It} (h : Stw B M (z :: FU its :: Z) w) (hi : its[i]? = some x) : Stw B M (FU (its.set i z) :: Z) w :=
  (h.bagSwap hi).sub (List.Sublist.refl _) (List.sublist_cons_self _ _)
end
section
variable {α : Type} {B : Bs} {w w' : World} {M M' : Bi} {Z Z' Z1 : List It}
abbrev De (α : Type) := Value × Nat × List α
def Pl (e : TypeId) (r : Rp α) (x : De α) : It := if x.2.1 = 2 then row x.1 e r x.2.2 else if x.2.1 = 1 then KB x.1 r x.2.2 else Rd
def Rp.hd : Rp Value := Rp.raw
theorem XR {e : TypeId} {r : Rp α} {x : De α} {A : Nat → Prop} (h : (Pl e r x).ok w A) (h0 : x.2.1 ≠ 0) (h3 : x.2.1 ≤ 2) : Sl w any r x.1 x.2.2 := by
  unfold Pl at h
  by_cases c : x.2.1 = 2
  · rw [if_pos c] at h
    exact DZ.sl (show DZ w A e r x.1 x.2.2 from h) (fun _ _ => trivial) (fun _ _ => trivial)
  · rw [if_neg c] at h
    by_cases c1 : x.2.1 = 1
    · rw [if_pos c1] at h; exact Sl.any (show Sl w A r x.1 x.2.2 from h)
    · omega
theorem A8.vsl {r : Rp α} {A : Nat → Prop} : ∀ {g : List (De α)} {xs : List Value},A8 Rp.hd w A xs (g.map (·.1)) → (∀ x ∈ g,Sl w A r x.1 x.2.2) → A8 (Rp.vsl r) w A xs (g.map fun x => (x.1,x.2.2))
  | [],xs,h,_ => h
  | x :: g,xs,⟨cs,ys,he,h1,h2⟩,hs => ⟨cs,ys,he,⟨h1.1,hs x (List.mem_cons_self ..)⟩,A8.vsl h2 fun y hy => hs y (zc _ hy)⟩
theorem DZ.vsl {e : TypeId} {r : Rp α} {A : Nat → Prop} {v : Value} {g : List (De α)} (h : DZ w A e Rp.hd v (g.map (·.1))) (hs : ∀ x ∈ g,Sl w A r x.1 x.2.2) : DZ w A e (Rp.vsl r) v (g.map fun x => (x.1,x.2.2)) := by
  rcases h with ⟨ad,rfl,h0⟩ | ⟨b,off,cap,cur,xs,rfl,hp,hb,h1,h2,h3,h4,h5⟩
  · exact .inl ⟨ad,rfl,by rw [List.map_eq_nil_iff] at h0; rw [h0]; rfl⟩
  · exact .inr ⟨b,off,cap,cur,xs,by simp,hp,hb,by simpa using h1,h2,h3,(by rw [List.length_map] at h4 ⊢; exact h4),A8.vsl h5 hs⟩
theorem NU {e : TypeId} {r : Rp α} {v : Value} {l : List α} : Pl e r (v,2,l) = row v e r l := by unfold Pl; rw [if_pos rfl]
theorem Vd {e : TypeId} {r : Rp α} {v : Value} {l : List α} : Pl e r (v,1,l) = KB v r l := by unfold Pl; rw [if_neg (by show ¬ (1 : Nat) = 2; decide),if_pos rfl]
theorem Uy {e : TypeId} {r : Rp α} {v : Value} {l : List α} : Pl e r (v,0,l) = Rd := by unfold Pl; rw [if_neg (by show ¬ (0 : Nat) = 2; decide),if_neg (by show ¬ (0 : Nat) = 1; decide)]
theorem RN {β γ : Type} (f : β → γ) (g : List β) (i : Int) (x : β) : (Ao g i x).map f = Ao (g.map f) i (f x) := by unfold Ao; rw [List.map_set]
end
end Go.Proofs.YtbiekjhlijdjbaaGreat
