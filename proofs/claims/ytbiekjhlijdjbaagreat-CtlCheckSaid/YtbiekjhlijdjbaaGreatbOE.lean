/- Elements with slices in them: seen with the values of their slices. Conditions: none. -/
import Derived.Test.YtbiekjhlijdjbaaGreatbO8
set_option linter.unusedVariables false
set_option linter.unusedSimpArgs false
open Go Go.RowKit
namespace Go.Proofs.YtbiekjhlijdjbaaGreat
structure Ex {α α' : Type} (r : Rp α) (r' : Rp α') (er : α' → α) : Prop where
  sz : r'.sz = r.sz
  to : ∀ {w A cs a},r.rep w A cs a → ∃ a',er a' = a ∧ r'.rep w A cs a'
  back : ∀ {w A cs a'},r'.rep w A cs a' → r.rep w A cs (er a')
def Rp.vsl {α : Type} (r : Rp α) : Rp (Value × List α) :=
  ⟨1,fun w A cs p => cs = [p.1] ∧ Sl w A r p.1 p.2,fun ⟨h,_⟩ => by subst h; rfl,fun ⟨h,h1⟩ => by subst h; simp [h1.one],fun ⟨h,h1⟩ hk => ⟨h,h1.stab hk⟩⟩
section
variable {α α' β β' : Type} {r : Rp α} {r' : Rp α'} {s : Rp β} {s' : Rp β'} {er : α' → α} {es : β' → β}
theorem A8.ex {w : World} {A : Nat → Prop} (h : Ex r r' er) : ∀ {l : List α} {xs : List Value},A8 r w A xs l → ∃ lx,lx.map er = l ∧ A8 r' w A xs lx
  | [],xs,hr => ⟨[],rfl,hr⟩
  | x :: l,xs,⟨cs,ys,he,h1,h2⟩ => by
    obtain ⟨x',e1,h3⟩ := h.to h1
    obtain ⟨lx,e2,h4⟩ := A8.ex h h2
    exact ⟨x' :: lx,by simp [e1,e2],cs,ys,he,h3,h4⟩
theorem A8.hide {w : World} {A : Nat → Prop} (h : Ex r r' er) : ∀ {lx : List α'} {xs : List Value},A8 r' w A xs lx → A8 r w A xs (lx.map er)
  | [],xs,hr => hr
  | x :: l,xs,⟨cs,ys,he,h1,h2⟩ => ⟨cs,ys,he,h.back h1,A8.hide h h2⟩
theorem Sl.ex {w : World} {A : Nat → Prop} (h : Ex r r' er) {v : Value} {l : List α} (hs : Sl w A r v l) : ∃ lx,lx.map er = l ∧ Sl w A r' v lx := by
  rcases hs with ⟨ad,cap,rfl,rfl⟩ | ⟨b,off,cap,xs,rfl,hc,hA,hb,hx,hr⟩
  · exact ⟨[],rfl,.inl ⟨ad,cap,rfl,rfl⟩⟩
  · obtain ⟨lx,e,h2⟩ := A8.ex h hr
    subst e
    exact ⟨lx,rfl,.inr ⟨b,off,cap,xs,by simp,by simpa using hc,hA,hb,hx,h2⟩⟩
theorem Sl.hide {w : World} {A : Nat → Prop} (h : Ex r r' er) {v : Value} {lx : List α'} {l : List α} (e : lx.map er = l) (hs : Sl w A r' v lx) : Sl w A r v l := by
  subst e
  rcases hs with ⟨ad,cap,rfl,rfl⟩ | ⟨b,off,cap,xs,rfl,hc,hA,hb,hx,hr⟩
  · exact .inl ⟨ad,cap,rfl,rfl⟩
  · exact .inr ⟨b,off,cap,xs,by simp,by simpa using hc,hA,hb,hx,A8.hide h hr⟩
theorem Mg.hide {w : World} {A : Nat → Prop} (h : Ex r r' er) {v : Value} {lx : List α'} {l : List α} (e : lx.map er = l) (hs : Mg w A r' v lx) : Mg w A r v l := by
  subst e
  rcases hs with ⟨ad,cap,rfl,rfl⟩ | ⟨b,off,cap,xs,rfl,hc,hx,hr⟩
  · exact .inl ⟨ad,cap,rfl,rfl⟩
  · exact .inr ⟨b,off,cap,xs,by simp,by simpa using hc,hx,A8.hide h hr⟩
theorem DZ.ex {w : World} {A : Nat → Prop} {e : TypeId} (h : Ex r r' er) {v : Value} {l : List α} (hs : DZ w A e r v l) : ∃ lx,lx.map er = l ∧ DZ w A e r' v lx := by
  rcases hs with ⟨ad,rfl,rfl⟩ | ⟨g,off,cap,cur,xs,rfl,hp,hb,h1,h2,h3,h4,h5⟩
  · exact ⟨[],rfl,.inl ⟨ad,rfl,rfl⟩⟩
  · obtain ⟨lx,e,h6⟩ := A8.ex h h5
    subst e
    exact ⟨lx,rfl,.inr ⟨g,off,cap,cur,xs,by simp,hp,hb,by simpa using h1,h2,by rw [h.sz]; exact h3,by rw [h.sz]; simpa using h4,h6⟩⟩
theorem DZ.hide {w : World} {A : Nat → Prop} {e : TypeId} (h : Ex r r' er) {v : Value} {lx : List α'} {l : List α} (e1 : lx.map er = l) (hs : DZ w A e r' v lx) : DZ w A e r v l := by
  subst e1
  rcases hs with ⟨ad,rfl,rfl⟩ | ⟨g,off,cap,cur,xs,rfl,hp,hb,h1,h2,h3,h4,h5⟩
  · exact .inl ⟨ad,rfl,rfl⟩
  · exact .inr ⟨g,off,cap,cur,xs,by simp,hp,hb,by simpa using h1,h2,by rw [← h.sz]; exact h3,by rw [← h.sz]; simpa using h4,A8.hide h h5⟩
theorem Ex.rfl' : Ex r r (fun a => a) := ⟨rfl,fun h => ⟨_,rfl,h⟩,fun h => h⟩
theorem Ex.pair (h : Ex r r' er) (k : Ex s s' es) : Ex (r.pair s) (r'.pair s') (fun p => (er p.1,es p.2)) :=
  ⟨by show r'.sz + s'.sz = r.sz + s.sz; rw [h.sz,k.sz],fun {w A cs a} ⟨c1,c2,e,h1,h2⟩ => by
    obtain ⟨a1,e1,g1⟩ := h.to h1
    obtain ⟨a2,e2,g2⟩ := k.to h2
    exact ⟨(a1,a2),Prod.ext e1 e2,c1,c2,e,g1,g2⟩,fun ⟨c1,c2,e,h1,h2⟩ => ⟨c1,c2,e,h.back h1,k.back h2⟩⟩
theorem Ex.sliceF : Ex (Rp.slice r) (Rp.vsl r) (fun p => p.2) :=
  ⟨rfl,fun {w A cs a} ⟨v,e,h⟩ => ⟨(v,a),rfl,e,h⟩,fun {w A cs a'} ⟨e,h⟩ => ⟨_,e,h⟩⟩
theorem Ex.slice (k : Ex r r' er) : Ex (Rp.slice r) (Rp.vsl r') (fun p => p.2.map er) :=
  ⟨rfl,fun {w A cs a} ⟨v,e,h⟩ => by
    obtain ⟨lx,e2,h2⟩ := h.ex k
    exact ⟨(v,lx),e2,e,h2⟩,fun {w A cs a'} ⟨e,h⟩ => ⟨_,e,h.hide k rfl⟩⟩
theorem Dm {lx : List α'} {l : List α} {i : Int} {x : α} (he : lx.map er = l) (h : ix l i = some x) : ∃ x',ix lx i = some x' ∧ er x' = x := by
  subst he
  unfold ix at h ⊢
  by_cases c : 0 ≤ i
  · rw [if_pos c] at h ⊢
    rw [List.getElem?_map] at h
    cases hx : lx[i.toNat]? with
    | none => rw [hx] at h; cases h
    | some x' => rw [hx] at h; exact ⟨x',rfl,by simpa using h⟩
  · rw [if_neg c] at h; cases h
theorem Dr.pair {e : α → List Value} {f : β → List Value} (h : Dr r e) (k : Dr s f) : Dr (r.pair s) fun a => e a.1 ++ f a.2 :=
  fun ⟨c1,c2,h0,h1,h2⟩ => by rw [h0,h h1,k h2]
theorem Dr.vsl : Dr (Rp.vsl r) fun p => [p.1] := fun ⟨h,_⟩ => h
def AN (r : Rp α) (s : Rp β) (f : α → Value × List β) : Prop := ∀ {w A cs a},r.rep w A cs a → Sl w A s (f a).1 (f a).2
theorem AN.here : AN (Rp.vsl s) s (fun p => p) := fun ⟨_,h⟩ => h
theorem AN.fst {γ : Type} {t : Rp γ} {f : α → Value × List β} (h : AN r s f) : AN (r.pair t) s (fun p => f p.1) := fun ⟨_,_,_,h1,_⟩ => h h1
theorem AN.snd {γ : Type} {t : Rp γ} {f : α → Value × List β} (h : AN r s f) : AN (t.pair r) s (fun p => f p.2) := fun ⟨_,_,_,_,h2⟩ => h h2
theorem A8.at_ {w : World} {A : Nat → Prop} {xs : List Value} {l : List α} {i : Int} {x : α} (h : A8 r w A xs l) (hx : ix l i = some x) : ∃ cs,r.rep w A cs x := by
  obtain ⟨h0,hk,hx⟩ := F9 hx
  obtain ⟨cs,h1,_⟩ := h.get hx
  exact ⟨cs,h1⟩
theorem Sl.at_ {w : World} {A : Nat → Prop} {v : Value} {l : List α} {i : Int} {x : α} {f : α → Value × List β} (h : Sl w A r v l) (hx : ix l i = some x) (p : AN r s f) {lb : List β} (hl : (f x).2 = lb) : Sl w A s (f x).1 lb := by
  subst hl
  rcases h with ⟨ad,cap,rfl,rfl⟩ | ⟨b,off,cap,xs,rfl,hc,hA,hb,hx2,hr⟩
  · obtain ⟨_,hk,_⟩ := F9 hx; simp at hk
  · obtain ⟨cs,h1⟩ := hr.at_ hx; exact p h1
theorem DZ.at_ {w : World} {A : Nat → Prop} {e : TypeId} {v : Value} {l : List α} {i : Int} {x : α} {f : α → Value × List β} (h : DZ w A e r v l) (hx : ix l i = some x) (p : AN r s f) {lb : List β} (hl : (f x).2 = lb) : Sl w A s (f x).1 lb := by
  subst hl
  rcases h with ⟨ad,rfl,rfl⟩ | ⟨g,off,cap,cur,xs,rfl,hp,hb,h1,h2,h3,h4,h5⟩
  · obtain ⟨_,hk,_⟩ := F9 hx; simp at hk
  · obtain ⟨cs,h1⟩ := h5.at_ hx; exact p h1
end
section
variable {α α' β β' : Type} {r : Rp α} {r' : Rp α'} {s : Rp β} {er : α' → α}
variable {B : Bs} {M : Bi} {Z : List It} {w : World} {v : Value} {l : List α} {lx : List α'} {e : TypeId}
theorem Ch (h : Ex r r' er) (he : lx.map er = l) (hr : Mo B M Z r' v lx) : Mo B M Z r v l := fun w hw => (hr w hw).hide h he
theorem BL {l : List α} {i : Int} {x : α} {f : α → Value × List β} (h : Mo B M Z r v l) (hx : ix l i = some x) (p : AN r s f) {lb : List β} (hl : (f x).2 = lb) : Mo B M Z s (f x).1 lb := fun w hw => (h w hw).at_ hx p hl
theorem Stw.itemSame {z z' : It} (h : Stw B M (z :: Z) w) (hb : z'.bl = z.bl) (ho : ∀ A,z.ok w A → z'.ok w A) : Stw B M (z' :: Z) w :=
  h.itemTurn (z := z) (z' := z') ⟨rfl,rfl,rfl,Nat.le_refl _,fun _ _ _ => rfl⟩ (fun A h1 hk => ho A (z.stab h1 hk fun _ _ => rfl)) (fun g hg => .inl (hb ▸ hg))
theorem Stw.exF (h : Stw B M (KB v r l :: Z) w) (k : Ex r r' er) : ∃ lx,lx.map er = l ∧ Stw B M (KB v r' lx :: Z) w := by
  obtain ⟨lx,e1,_⟩ := Sl.ex k (show Sl w _ r v l from h.items _ (List.mem_cons_self ..))
  have hs : ∀ A,Sl w A r v l → ∃ lx,lx.map er = l ∧ Sl w A r' v lx := fun A h => Sl.ex k h
  obtain ⟨lx,e1,h1⟩ := hs _ (show Sl w _ r v l from h.items _ (List.mem_cons_self ..))
  refine ⟨lx,e1, ?_⟩
  have h2 : Stw B M Z w := h.sub (List.Sublist.refl _) (List.sublist_cons_self _ _)
  have hbl : AA M (KB v r l :: Z) = AA M Z := by unfold AA; simp [KB]
  exact h2.note (by rw [← hbl]; exact h1)
theorem Stw.exR (h : Stw B M (row v e r l :: Z) w) (k : Ex r r' er) : ∃ lx,lx.map er = l ∧ Stw B M (row v e r' lx :: Z) w := by
  obtain ⟨lx,e1,h1⟩ := DZ.ex k (show DZ w _ e r v l from h.items _ (List.mem_cons_self ..))
  refine ⟨lx,e1, ?_⟩
  have hbl : AA M (row v e r' lx :: Z) = AA M (row v e r l :: Z) := rfl
  refine ⟨h.frm,by rw [hbl]; exact h.own,h.at_,fun z hz => ?_,by rw [hbl]; exact h.nodup,h.disj⟩
  rw [hbl]
  rcases List.mem_cons.1 hz with rfl | hz
  · exact h1
  · exact h.items z (zc _ hz)
theorem Stw.hideR (h : Stw B M (row v e r' lx :: Z) w) (k : Ex r r' er) (he : lx.map er = l) : Stw B M (row v e r l :: Z) w :=
  h.itemSame (z := row v e r' lx) (z' := row v e r l) rfl fun A hA => DZ.hide k he hA
theorem Stw.rowAt (h : Stw B M Z w) {k : Nat} {l : List α} {i : Int} {x : α} {f : α → Value × List β} (hZ : Z[k]? = some (row v e r l)) (hx : ix l i = some x) (p : AN r s f) {lb : List β} (hl : (f x).2 = lb) : Sl w (Fz B (AA M Z)) s (f x).1 lb :=
  DZ.at_ (show DZ w _ e r v l from h.item hZ) hx p hl
end
end Go.Proofs.YtbiekjhlijdjbaaGreat
