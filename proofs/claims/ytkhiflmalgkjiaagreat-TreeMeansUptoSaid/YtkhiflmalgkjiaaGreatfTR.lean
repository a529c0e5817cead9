/- Types that hold slices of themselves: how their values lie. Conditions: none. -/
import Derived.Test.YtkhiflmalgkjiaaGreatfOE
set_option linter.unusedVariables false
set_option linter.unusedSimpArgs false
open Go Go.RowKit
namespace Go.Proofs.YtkhiflmalgkjiaaGreat
def Rp.via {α β : Type} (r : Rp α) (un : β → α) : Rp β := ⟨r.sz,fun w A cs b => r.rep w A cs (un b),r.len,r.one,r.stab⟩
def bU {α : Type} (r s : Rp α) : Prop := ∀ (w : World) (A : Nat → Prop) (cs : List Value) (a : α),r.rep w A cs a → s.rep w A cs a
section
variable {α β γ : Type}
theorem B1.mono {r s : Rp α} (h : bU r s) {w : World} {A : Nat → Prop} : ∀ {l : List α} {xs : List Value},B1 r w A xs l → B1 s w A xs l
  | [],_,hr => hr
  | x :: l,_,⟨cs,ys,e,h1,h2⟩ => ⟨cs,ys,e,h _ _ _ _ h1,B1.mono h h2⟩
theorem bU.slice {r s : Rp α} (h : bU r s) : bU (Rp.slice r) (Rp.slice s) := fun w A cs l ⟨v,e,hs⟩ => ⟨v,e,by
  rcases hs with hs | ⟨b,off,cap,xs,hv,hc,hA,hb,hx,hr⟩
  · exact .inl hs
  · exact .inr ⟨b,off,cap,xs,hv,hc,hA,hb,hx,hr.mono h⟩⟩
structure Kt (F : Rp β → Rp α) : Prop where
  sz : ∀ r s,(F r).sz = (F s).sz
  mono : ∀ r s,bU r s → bU (F r) (F s)
  cont : ∀ (c : Nat → Rp β) (lim : Rp β),(∀ n,bU (c n) (c (n + 1))) → (∀ w A cs a,lim.rep w A cs a → ∃ n,(c n).rep w A cs a) → ∀ w A cs a,(F lim).rep w A cs a → ∃ n,(F (c n)).rep w A cs a
theorem O8 {c : Nat → Rp β} (h : ∀ n,bU (c n) (c (n + 1))) : ∀ {n m : Nat},n ≤ m → bU (c n) (c m) := by
  intro n m hm
  obtain ⟨d,rfl⟩ : ∃ d,m = n + d := ⟨m - n,by omega⟩
  clear hm
  induction d with
  | zero => exact fun _ _ _ _ h => h
  | succ d ih => exact fun w A cs a h1 => h (n + d) _ _ _ _ (ih _ _ _ _ h1)
theorem Kt.const (r0 : Rp α) : Kt (fun _ : Rp β => r0) := ⟨fun _ _ => rfl,fun _ _ _ _ _ _ _ h => h,fun _ _ _ _ _ _ _ _ h => ⟨0,h⟩⟩
theorem Kt.pair {F : Rp β → Rp α} {G : Rp β → Rp γ} (hF : Kt F) (hG : Kt G) : Kt (fun r => Rp.pair (F r) (G r)) :=
  ⟨fun r s => by show (F r).sz + (G r).sz = (F s).sz + (G s).sz; rw [hF.sz r s,hG.sz r s],
   fun r s h w A cs a ⟨c1,c2,e,h1,h2⟩ => ⟨c1,c2,e,hF.mono r s h _ _ _ _ h1,hG.mono r s h _ _ _ _ h2⟩,
   fun c lim hc hl w A cs a ⟨c1,c2,e,h1,h2⟩ => by
    obtain ⟨n,g1⟩ := hF.cont c lim hc hl _ _ _ _ h1
    obtain ⟨m,g2⟩ := hG.cont c lim hc hl _ _ _ _ h2
    exact ⟨max n m,c1,c2,e,hF.mono _ _ (O8 hc (Nat.le_max_left n m)) _ _ _ _ g1,hG.mono _ _ (O8 hc (Nat.le_max_right n m)) _ _ _ _ g2⟩⟩
theorem B1.cont {c : Nat → Rp β} {lim : Rp β} (hc : ∀ n,bU (c n) (c (n + 1))) (hl : ∀ w A cs a,lim.rep w A cs a → ∃ n,(c n).rep w A cs a) {w : World} {A : Nat → Prop} : ∀ {l : List β} {xs : List Value},B1 lim w A xs l → ∃ n,B1 (c n) w A xs l
  | [],_,hr => ⟨0,hr⟩
  | x :: l,_,⟨cs,ys,e,h1,h2⟩ => by
    obtain ⟨n,g1⟩ := hl _ _ _ _ h1
    obtain ⟨m,g2⟩ := B1.cont hc hl h2
    exact ⟨max n m,cs,ys,e,O8 hc (Nat.le_max_left n m) _ _ _ _ g1,g2.mono (O8 hc (Nat.le_max_right n m))⟩
theorem Kt.hole : Kt (fun r : Rp β => Rp.slice r) :=
  ⟨fun _ _ => rfl,fun r s h => bU.slice h,fun c lim hc hl w A cs a ⟨v,e,hs⟩ => by
    rcases hs with hs | ⟨b,off,cap,xs,hv,hcap,hA,hb,hx,hr⟩
    · exact ⟨0,v,e,.inl hs⟩
    · obtain ⟨n,g⟩ := B1.cont hc hl hr
      exact ⟨n,v,e,.inr ⟨b,off,cap,xs,hv,hcap,hA,hb,hx,g⟩⟩⟩
def Rp.bot (β : Type) (k : Nat) : Rp β := ⟨k,fun _ _ _ _ => False,fun h => h.elim,fun h => h.elim,fun h _ => h.elim⟩
def NN (F : Rp β → Rp α) (un : β → α) : Nat → Rp β
  | 0 => Rp.bot β (F (Rp.bot β 0)).sz
  | n + 1 => (F (NN F un n)).via un
theorem iK {F : Rp β → Rp α} (h : Kt F) (un : β → α) : ∀ n,(NN F un n).sz = (F (Rp.bot β 0)).sz
  | 0 => rfl
  | n + 1 => h.sz _ _
theorem Xo {F : Rp β → Rp α} (h : Kt F) (un : β → α) : ∀ n,bU (NN F un n) (NN F un (n + 1))
  | 0 => fun _ _ _ _ hh => hh.elim
  | n + 1 => fun w A cs a hh => h.mono _ _ (Xo h un n) _ _ _ _ hh
def Rp.knot (F : Rp β → Rp α) (un : β → α) (h : Kt F) : Rp β :=
  ⟨(F (Rp.bot β 0)).sz,fun w A cs a => ∃ n,(NN F un n).rep w A cs a,
   fun ⟨n,hn⟩ => by rw [(NN F un n).len hn,iK h],fun ⟨n,hn⟩ => (NN F un n).one hn,fun ⟨n,hn⟩ hk => ⟨n,(NN F un n).stab hn hk⟩⟩
theorem Gk {F : Rp β → Rp α} {un : β → α} (h : Kt F) {w : World} {A : Nat → Prop} {cs : List Value} {a : β} : (Rp.knot F un h).rep w A cs a ↔ (F (Rp.knot F un h)).rep w A cs (un a) := by
  constructor
  · rintro ⟨n,hn⟩
    cases n with
    | zero => exact hn.elim
    | succ n => exact h.mono (NN F un n) (Rp.knot F un h) (fun _ _ _ _ hh => ⟨n,hh⟩) _ _ _ _ hn
  · intro hh
    obtain ⟨n,hn⟩ := h.cont (NN F un) (Rp.knot F un h) (Xo h un) (fun _ _ _ _ hh => hh) _ _ _ _ hh
    exact ⟨n + 1,hn⟩
theorem Ex.knot {F : Rp β → Rp α} {un : β → α} (h : Kt F) {of : α → β} (h1 : ∀ x,un (of x) = x) (h2 : ∀ x,of (un x) = x) {r' : Rp γ} {er : γ → α} (k : Ex (F (Rp.knot F un h)) r' er) : Ex (Rp.knot F un h) r' (fun p => of (er p)) :=
  ⟨by rw [k.sz]; exact h.sz _ _,fun {w A cs a} hr => by
    obtain ⟨a',e,g⟩ := k.to (Gk h |>.1 hr)
    exact ⟨a',by show of (er a') = a; rw [e,h2],g⟩,fun {w A cs a'} hr => Gk h |>.2 (by rw [h1]; exact k.back hr)⟩
end
end Go.Proofs.YtkhiflmalgkjiaaGreat
