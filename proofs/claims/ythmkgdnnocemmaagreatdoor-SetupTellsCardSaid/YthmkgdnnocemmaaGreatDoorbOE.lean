/- Elements with slices in them: seen with the values of their slices. Conditions: none. -/
import Derived.Test.YthmkgdnnocemmaaGreatDoorbO10
namespace Go.Proofs.YthmkgdnnocemmaaGreatDoor
set_option linter.unusedVariables false
set_option linter.unusedSimpArgs false
open Go Go.RowKit
structure Ex {α α' : Type} (r : Rp α) (r' : Rp α') (er : α' → α) : Prop where
  sz : r'.sz = r.sz
  to : ∀ {w A cs a}, r.rep w A cs a → ∃ a', er a' = a ∧ r'.rep w A cs a'
  back : ∀ {w A cs a'}, r'.rep w A cs a' → r.rep w A cs (er a')
def Rp.vsl {α : Type} (r : Rp α) : Rp (Value × List α) :=
  ⟨1, fun w A cs p => cs = [p.1] ∧ Sl w A r p.1 p.2, fun ⟨h, _⟩ => by subst h; rfl, fun ⟨h, h1⟩ => by subst h; simp [h1.one], fun ⟨h, h1⟩ hk => ⟨h, h1.stab hk⟩⟩
section
variable {α α' β β' : Type} {r : Rp α} {r' : Rp α'} {s : Rp β} {s' : Rp β'} {er : α' → α} {es : β' → β}
theorem B3.ex {w : World} {A : Nat → Prop} (h : Ex r r' er) : ∀ {l : List α} {xs : List Value}, B3 r w A xs l → ∃ lx, lx.map er = l ∧ B3 r' w A xs lx
  | [], xs, hr => ⟨[], rfl, hr⟩
  | x :: l, xs, ⟨cs, ys, he, h1, h2⟩ => by
    obtain ⟨x', e1, h3⟩ := h.to h1
    obtain ⟨lx, e2, h4⟩ := B3.ex h h2
    exact ⟨x' :: lx, by simp [e1, e2], cs, ys, he, h3, h4⟩
theorem B3.hide {w : World} {A : Nat → Prop} (h : Ex r r' er) : ∀ {lx : List α'} {xs : List Value}, B3 r' w A xs lx → B3 r w A xs (lx.map er)
  | [], xs, hr => hr
  | x :: l, xs, ⟨cs, ys, he, h1, h2⟩ => ⟨cs, ys, he, h.back h1, B3.hide h h2⟩
theorem Sl.ex {w : World} {A : Nat → Prop} (h : Ex r r' er) {v : Value} {l : List α} (hs : Sl w A r v l) : ∃ lx, lx.map er = l ∧ Sl w A r' v lx := by
  rcases hs with ⟨ad, cap, rfl, rfl⟩ | ⟨b, off, cap, xs, rfl, hc, hA, hb, hx, hr⟩
  · exact ⟨[], rfl, .inl ⟨ad, cap, rfl, rfl⟩⟩
  · obtain ⟨lx, e, h2⟩ := B3.ex h hr
    subst e
    exact ⟨lx, rfl, .inr ⟨b, off, cap, xs, by simp, by simpa using hc, hA, hb, hx, h2⟩⟩
theorem Sl.hide {w : World} {A : Nat → Prop} (h : Ex r r' er) {v : Value} {lx : List α'} {l : List α} (e : lx.map er = l) (hs : Sl w A r' v lx) : Sl w A r v l := by
  subst e
  rcases hs with ⟨ad, cap, rfl, rfl⟩ | ⟨b, off, cap, xs, rfl, hc, hA, hb, hx, hr⟩
  · exact .inl ⟨ad, cap, rfl, rfl⟩
  · exact .inr ⟨b, off, cap, xs, by simp, by simpa using hc, hA, hb, hx, B3.hide h hr⟩
theorem Ob.hide {w : World} {A : Nat → Prop} (h : Ex r r' er) {v : Value} {lx : List α'} {l : List α} (e : lx.map er = l) (hs : Ob w A r' v lx) : Ob w A r v l := by
  subst e
  rcases hs with ⟨ad, cap, rfl, rfl⟩ | ⟨b, off, cap, xs, rfl, hc, hx, hr⟩
  · exact .inl ⟨ad, cap, rfl, rfl⟩
  · exact .inr ⟨b, off, cap, xs, by simp, by simpa using hc, hx, B3.hide h hr⟩
theorem GM.ex {w : World} {A : Nat → Prop} {e : TypeId} (h : Ex r r' er) {v : Value} {l : List α} (hs : GM w A e r v l) : ∃ lx, lx.map er = l ∧ GM w A e r' v lx := by
  rcases hs with ⟨ad, rfl, rfl⟩ | ⟨g, off, cap, cur, xs, rfl, hp, hb, h1, h2, h3, h4, h5⟩
  · exact ⟨[], rfl, .inl ⟨ad, rfl, rfl⟩⟩
  · obtain ⟨lx, e, h6⟩ := B3.ex h h5
    subst e
    exact ⟨lx, rfl, .inr ⟨g, off, cap, cur, xs, by simp, hp, hb, by simpa using h1, h2, by rw [h.sz]; exact h3, by rw [h.sz]; simpa using h4, h6⟩⟩
theorem GM.hide {w : World} {A : Nat → Prop} {e : TypeId} (h : Ex r r' er) {v : Value} {lx : List α'} {l : List α} (e1 : lx.map er = l) (hs : GM w A e r' v lx) : GM w A e r v l := by
  subst e1
  rcases hs with ⟨ad, rfl, rfl⟩ | ⟨g, off, cap, cur, xs, rfl, hp, hb, h1, h2, h3, h4, h5⟩
  · exact .inl ⟨ad, rfl, rfl⟩
  · exact .inr ⟨g, off, cap, cur, xs, by simp, hp, hb, by simpa using h1, h2, by rw [← h.sz]; exact h3, by rw [← h.sz]; simpa using h4, B3.hide h h5⟩
theorem Ex.rfl' : Ex r r (fun a => a) := ⟨rfl, fun h => ⟨_, rfl, h⟩, fun h => h⟩
theorem Ex.pair (h : Ex r r' er) (k : Ex s s' es) : Ex (r.pair s) (r'.pair s') (fun p => (er p.1, es p.2)) :=
  ⟨by show r'.sz + s'.sz = r.sz + s.sz; rw [h.sz, k.sz], fun {w A cs a} ⟨c1, c2, e, h1, h2⟩ => by
    obtain ⟨a1, e1, g1⟩ := h.to h1
    obtain ⟨a2, e2, g2⟩ := k.to h2
    exact ⟨(a1, a2), Prod.ext e1 e2, c1, c2, e, g1, g2⟩, fun ⟨c1, c2, e, h1, h2⟩ => ⟨c1, c2, e, h.back h1, k.back h2⟩⟩
theorem Ex.sliceF : Ex (Rp.slice r) (Rp.vsl r) (fun p => p.2) :=
  ⟨rfl, fun {w A cs a} ⟨v, e, h⟩ => ⟨(v, a), rfl, e, h⟩, fun {w A cs a'} ⟨e, h⟩ => ⟨_, e, h⟩⟩
theorem Ex.slice (k : Ex r r' er) : Ex (Rp.slice r) (Rp.vsl r') (fun p => p.2.map er) :=
  ⟨rfl, fun {w A cs a} ⟨v, e, h⟩ => by
    obtain ⟨lx, e2, h2⟩ := h.ex k
    exact ⟨(v, lx), e2, e, h2⟩, fun {w A cs a'} ⟨e, h⟩ => ⟨_, e, h.hide k rfl⟩⟩
theorem I5 {lx : List α'} {l : List α} {i : Int} {x : α} (he : lx.map er = l) (h : ix l i = some x) : ∃ x', ix lx i = some x' ∧ er x' = x := by
  subst he
  unfold ix at h ⊢
  by_cases c : 0 ≤ i
  · rw [if_pos c] at h ⊢
    rw [List.getElem?_map] at h
    cases hx : lx[i.toNat]? with
    | none => rw [hx] at h; cases h
    | some x' => rw [hx] at h; exact ⟨x', rfl, by simpa using h⟩
  · rw [if_neg c] at h; cases h
theorem Kq.pair {e : α → List Value} {f : β → List Value} (h : Kq r e) (k : Kq s f) : Kq (r.pair s) fun a => e a.1 ++ f a.2 :=
  fun ⟨c1, c2, h0, h1, h2⟩ => by rw [h0, h h1, k h2]
theorem Kq.vsl : Kq (Rp.vsl r) fun p => [p.1] := fun ⟨h, _⟩ => h
def HL (r : Rp α) (s : Rp β) (f : α → Value × List β) : Prop := ∀ {w A cs a}, r.rep w A cs a → Sl w A s (f a).1 (f a).2
theorem HL.here : HL (Rp.vsl s) s (fun p => p) := fun ⟨_, h⟩ => h
theorem B3.at_ {w : World} {A : Nat → Prop} {xs : List Value} {l : List α} {i : Int} {x : α} (h : B3 r w A xs l) (hx : ix l i = some x) : ∃ cs, r.rep w A cs x := by
  obtain ⟨h0, hk, hx⟩ := HS hx
  obtain ⟨cs, h1, _⟩ := h.get hx
  exact ⟨cs, h1⟩
theorem Sl.at_ {w : World} {A : Nat → Prop} {v : Value} {l : List α} {i : Int} {x : α} {f : α → Value × List β} (h : Sl w A r v l) (hx : ix l i = some x) (p : HL r s f) {lb : List β} (hl : (f x).2 = lb) : Sl w A s (f x).1 lb := by
  subst hl
  rcases h with ⟨ad, cap, rfl, rfl⟩ | ⟨b, off, cap, xs, rfl, hc, hA, hb, hx2, hr⟩
  · obtain ⟨_, hk, _⟩ := HS hx; simp at hk
  · obtain ⟨cs, h1⟩ := hr.at_ hx; exact p h1
theorem GM.at_ {w : World} {A : Nat → Prop} {e : TypeId} {v : Value} {l : List α} {i : Int} {x : α} {f : α → Value × List β} (h : GM w A e r v l) (hx : ix l i = some x) (p : HL r s f) {lb : List β} (hl : (f x).2 = lb) : Sl w A s (f x).1 lb := by
  subst hl
  rcases h with ⟨ad, rfl, rfl⟩ | ⟨g, off, cap, cur, xs, rfl, hp, hb, h1, h2, h3, h4, h5⟩
  · obtain ⟨_, hk, _⟩ := HS hx; simp at hk
  · obtain ⟨cs, h1⟩ := h5.at_ hx; exact p h1
end
section
variable {α α' β β' : Type} {r : Rp α} {r' : Rp α'} {s : Rp β} {er : α' → α}
variable {B : Bs} {M : Cg} {Z : List It} {w : World} {v : Value} {l : List α} {lx : List α'} {e : TypeId}
theorem B9 (h : Ex r r' er) (he : lx.map er = l) (hr : CW B M Z r' v lx) : CW B M Z r v l := fun w hw => (hr w hw).hide h he
theorem F4 {l : List α} {i : Int} {x : α} {f : α → Value × List β} (h : CW B M Z r v l) (hx : ix l i = some x) (p : HL r s f) {lb : List β} (hl : (f x).2 = lb) : CW B M Z s (f x).1 lb := fun w hw => (h w hw).at_ hx p hl
end
end Go.Proofs.YthmkgdnnocemmaaGreatDoor
