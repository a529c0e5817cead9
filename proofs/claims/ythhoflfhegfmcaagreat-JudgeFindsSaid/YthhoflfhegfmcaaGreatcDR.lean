/- Rows whose elements own rows, at any depth: elements seen with the values of their slices, and whether these are one's own. Conditions: none. -/
import Derived.Test.YthhoflfhegfmcaaGreatcOW
import Derived.Test.YthhoflfhegfmcaaGreatcOX
import Derived.Test.YthhoflfhegfmcaaGreatcOM
namespace Go.Proofs.YthhoflfhegfmcaaGreat
set_option linter.unusedVariables false
set_option linter.unusedSimpArgs false
set_option linter.unusedSectionVars false
open Go Go.RowKit
structure Dp (δ : Type) where
  sz : Nat
  cells : δ → List Value
  it : δ → It
  len : ∀ x, (cells x).length = sz
def Dp.hr {δ : Type} (D : Dp δ) : Rp δ :=
  ⟨D.sz, fun _ _ cs x => cs = D.cells x ∧ (D.cells x).all (·.oneCell') = true, fun h => by rw [h.1, D.len], fun h => by rw [h.1]; exact h.2, fun h _ => h⟩
theorem Dp.flat {δ : Type} (D : Dp δ) : Ke D.hr D.cells := fun h => h.1
def Bp {δ : Type} (v : Value) (e : TypeId) (D : Dp δ) (lx : List δ) : It := Gq [row v e D.hr lx, Gq (lx.map D.it)]
def Dp.fl {α : Type} (n : Nat) (enc : α → List Value) (hn : ∀ a, (enc a).length = n) : Dp α := ⟨n, enc, fun _ => QV, hn⟩
def Dp.pair {δ ε : Type} (D : Dp δ) (E : Dp ε) : Dp (δ × ε) :=
  ⟨D.sz + E.sz, fun x => D.cells x.1 ++ E.cells x.2, fun x => Gq [D.it x.1, E.it x.2], fun x => by rw [List.length_append, D.len, E.len]⟩
def Dp.sl {α : Type} (e : TypeId) (r : Rp α) : Dp (De α) := ⟨1, fun x => [x.1], St e r, fun _ => rfl⟩
def Kk {δ : Type} (e : TypeId) (D : Dp δ) (x : De δ) : It := if x.2.1 = 2 then Bp x.1 e D x.2.2 else QV
def Dp.dl {δ : Type} (e : TypeId) (D : Dp δ) : Dp (De δ) := ⟨1, fun x => [x.1], Kk e D, fun _ => rfl⟩
theorem Mh {δ : Type} {e : TypeId} {D : Dp δ} {v : Value} {l : List δ} : Kk e D (v, 2, l) = Bp v e D l := by unfold Kk; rw [if_pos rfl]
theorem Ue {δ : Type} {e : TypeId} {D : Dp δ} {v : Value} {l : List δ} : Kk e D (v, 0, l) = QV := by unfold Kk; rw [if_neg (by show ¬ (0 : Nat) = 2; decide)]
section
variable {δ ε σ α : Type} {D : Dp δ} {E : Dp ε} {S : Dp σ} {B : Bs} {w w' : World} {M M' : Dg} {Z Z' Z1 : List It} {v u : Value} {e : TypeId} {lx ly : List δ} {x x' : δ} {i : Int}
theorem Stw.dSplit (h : Stw B M (Bp v e D lx :: Z) w) : Stw B M (row v e D.hr lx :: Gq (lx.map D.it) :: Z) w := h.bagOpen
theorem Stw.dShut (h : Stw B M (row v e D.hr lx :: Gq (lx.map D.it) :: Z) w) : Stw B M (Bp v e D lx :: Z) w := Stw.bagShut (its := [_, _]) h
theorem Stw.swapZ {a b : It} (h : Stw B M (a :: b :: Z) w) : Stw B M (b :: a :: Z) w := h.permZ (List.Perm.swap _ _ _)
theorem Stw.rotZ {a b c : It} (h : Stw B M (a :: b :: c :: Z) w) : Stw B M (b :: c :: a :: Z) w := h.permZ ((List.Perm.swap _ _ _).trans ((List.Perm.swap _ _ _).cons _))
theorem Stw.rotZ' {a b c : It} (h : Stw B M (b :: c :: a :: Z) w) : Stw B M (a :: b :: c :: Z) w := h.permZ (((List.Perm.swap _ _ _).cons _).trans (List.Perm.swap _ _ _))
theorem Stw.tailZ {a : It} (h : Stw B M (a :: Z) w) : Stw B M Z w := h.sub (List.Sublist.refl _) (List.sublist_cons_self _ _)
theorem Stw.under {a b c : It} (h : Stw B M (a :: b :: c :: Z) w) : Stw B M (a :: Gq [b, c] :: Z) w := (Stw.bagShut (its := [b, c]) h.rotZ).swapZ
structure Foc (D : Dp δ) (S : Dp σ) where
  get : δ → σ
  put : δ → σ → δ
  cl : ∀ x y, S.cells y = S.cells (get x) → D.cells (put x y) = D.cells x
  op : ∀ {B : Bs} {M : Dg} {Z : List It} {w : World} {x : δ} (y : σ), Stw B M (D.it x :: Z) w → S.it y = QV → Stw B M (S.it (get x) :: D.it (put x y) :: Z) w
  shut : ∀ {B : Bs} {M : Dg} {Z : List It} {w : World} {x : δ} {y : σ}, Stw B M (S.it y :: D.it x :: Z) w → Stw B M (D.it (put x y) :: Z) w
  okk : ∀ {w : World} {A : Nat → Prop} {x : δ}, (D.it x).ok w A → (S.it (get x)).ok w A
def Foc.here : Foc S S := ⟨fun x => x, fun _ y => y, fun x y h => h, fun y h hy => by rw [hy]; exact h.addEmp.swapZ, fun h => h.swapZ.tailZ, fun h => h⟩
def Foc.fst (f : Foc D S) : Foc (D.pair E) S :=
  ⟨fun x => f.get x.1, fun x y => (f.put x.1 y, x.2), fun x y h => congrArg (· ++ E.cells x.2) (f.cl x.1 y h),
   fun y h hy => (f.op y (h : Stw _ _ (Gq [_, _] :: _) _).bagOpen hy).under,
   fun {B M Z w x y} h => by
    have h1 : Stw B M (D.it x.1 :: E.it x.2 :: S.it y :: Z) w := Stw.bagOpen (its := [_, _]) (h : Stw B M (S.it y :: Gq [_, _] :: Z) w).swapZ
    exact Stw.bagShut (its := [_, _]) (f.shut h1.rotZ'),
   fun h => f.okk (h.1 _ (List.mem_cons_self ..))⟩
def Foc.snd (f : Foc E S) : Foc (D.pair E) S :=
  ⟨fun x => f.get x.2, fun x y => (x.1, f.put x.2 y), fun x y h => congrArg (D.cells x.1 ++ ·) (f.cl x.2 y h),
   fun {B M Z w x} y h hy => by
    have h1 : Stw B M (D.it x.1 :: E.it x.2 :: Z) w := (h : Stw B M (Gq [_, _] :: Z) w).bagOpen
    have h2 := f.op y h1.swapZ hy
    exact (h2.permZ ((List.Perm.swap _ _ _).cons _)).under,
   fun {B M Z w x y} h => by
    have h1 : Stw B M (D.it x.1 :: E.it x.2 :: S.it y :: Z) w := Stw.bagOpen (its := [_, _]) (h : Stw B M (S.it y :: Gq [_, _] :: Z) w).swapZ
    have h2 : Stw B M (S.it y :: E.it x.2 :: D.it x.1 :: Z) w := h1.permZ ((List.Perm.swap _ _ _).trans (((List.Perm.swap _ _ _).cons _).trans (List.Perm.swap _ _ _)))
    exact Stw.bagShut (its := [_, _]) (f.shut h2).swapZ,
   fun h => f.okk (h.1 _ (List.mem_cons_of_mem _ (List.mem_cons_self ..)))⟩
def NG (B : Bs) (M : Dg) (Z : List It) (e : TypeId) (D : Dp δ) (v : Value) (lx : List δ) : Prop := ∀ w, Stw B M Z w → (Bp v e D lx).ok w any
theorem It.any {z : It} {A : Nat → Prop} (h : z.ok w A) : z.ok w any := z.stab h (fun _ _ _ => ⟨trivial, rfl⟩) fun _ _ => rfl
theorem Jr (k : Nat) (hZ : Z[k]? = some (Bp v e D lx)) : NG B M Z e D v lx := fun w hw => It.any (z := Bp v e D lx) (hw.item hZ)
theorem NF {A : Nat → Prop} (h : (Bp v e D lx).ok w A) : F6 w A e D.hr v lx := h.1 _ (List.mem_cons_self ..)
theorem R1 {A : Nat → Prop} (h : (Bp v e D lx).ok w A) (hi : ix lx i = some x) : (D.it x).ok w A :=
  (show (Gq (lx.map D.it)).ok w A from h.1 _ (List.mem_cons_of_mem _ (List.mem_cons_self ..))).1 _ (List.mem_map.2 ⟨x, EN (HO hi).2.2, rfl⟩)
theorem NG.hd (h : NG B M Z e D v lx) : NM B M Z D.hr v lx := fun w hw => (NF (h w hw)).sl (fun _ _ => trivial) fun _ _ => trivial
theorem NG.one (h : NG B M Z e D v lx) (hw : Stw B M Z w) : v.oneCell' = true := (NF (h w hw)).one
theorem NG.sl {r : Rp α} {e' : TypeId} (h : NG B M Z e D v lx) (hi : ix lx i = some x) (f : Foc D (Dp.sl e' r)) {l : List α} {k : Nat} (hx : (f.get x).2 = (k, l)) (hk : k = 1 ∨ k = 2) : NM B M Z r (f.get x).1 l := fun w hw => by
  have h1 := f.okk (R1 (h w hw) hi)
  have h2 : (f.get x).2.2 = l := by rw [hx]
  have h3 : (f.get x).2.1 = k := by rw [hx]
  rw [← h2]
  exact Ts h1 (by rw [h3]; omega) (by rw [h3]; omega)
theorem NG.dl {D' : Dp ε} {e' : TypeId} (h : NG B M Z e D v lx) (hi : ix lx i = some x) (f : Foc D (Dp.dl e' D')) (hk : (f.get x).2.1 = 2) : NG B M Z e' D' (f.get x).1 (f.get x).2.2 := fun w hw => by
  have h1 : (Kk e' D' (f.get x)).ok w any := f.okk (R1 (h w hw) hi)
  unfold Kk at h1
  rw [if_pos hk] at h1
  exact h1
theorem KJ {l : List α} {i : Int} {a b : α} (h : ix l i = some a) : ix (Ah l i b) i = some b := by
  obtain ⟨h0, hk, hx⟩ := HO h
  unfold ix Ah
  rw [if_pos h0, List.getElem?_set_self hk]
theorem Qn {l : List α} {i : Int} {a b : α} : Ah (Ah l i a) i b = Ah l i b := by unfold Ah; rw [List.set_set]
theorem Cg.re {r : Rp α} {A : Nat → Prop} {a b : α} (hr : ∀ cs, r.rep w A cs a → r.rep w A cs b) : ∀ {l : List α} {xs : List Value} {k : Nat}, Cg r w A xs l → l[k]? = some a → Cg r w A xs (l.set k b)
  | [], xs, k, h, hk => by simp at hk
  | y :: l, xs, 0, ⟨cs, ys, he, h1, h2⟩, hk => by
    simp at hk; subst hk
    exact ⟨cs, ys, he, hr cs h1, h2⟩
  | y :: l, xs, k + 1, ⟨cs, ys, he, h1, h2⟩, hk => by
    simp at hk
    exact ⟨cs, ys, he, h1, Cg.re hr h2 hk⟩
theorem F6.re {r : Rp α} {A : Nat → Prop} {l : List α} {a b : α} (h : F6 w A e r v l) (hi : ix l i = some a) (hr : ∀ cs, r.rep w A cs a → r.rep w A cs b) : F6 w A e r v (Ah l i b) := by
  obtain ⟨h0, hk, hx⟩ := HO hi
  rcases h with ⟨ad, rfl, rfl⟩ | ⟨g, off, cap, cur, xs, rfl, hp, hb, h1, h2, h3, h4, h5⟩
  · simp at hk
  · exact .inr ⟨g, off, cap, cur, xs, by simp [Ah], hp, hb, by simpa [Ah] using h1, h2, h3, by simpa [Ah] using h4, Cg.re hr h5 hx⟩
theorem Stw.hdSame (h : Stw B M (row v e D.hr lx :: Z) w) (hi : ix lx i = some x) (hc : D.cells x' = D.cells x) : Stw B M (row v e D.hr (Ah lx i x') :: Z) w :=
  h.itemSame (z := row v e D.hr lx) (z' := row v e D.hr (Ah lx i x')) rfl fun A ho => F6.re (show F6 w A e D.hr v lx from ho) hi fun cs hx => ⟨hx.1.trans hc.symm, by rw [hc]; exact hx.2⟩
theorem Stw.itTake (h : Stw B M (Gq (lx.map D.it) :: Z) w) (hi : ix lx i = some x) : Stw B M (D.it x :: Gq ((lx.map D.it).set i.toNat QV) :: Z) w := by
  obtain ⟨h0, hk, hx⟩ := HO hi
  exact h.bagTake (by rw [List.getElem?_map, hx]; rfl)
theorem Stw.itPut {z : It} (h : Stw B M (D.it x' :: Gq ((lx.map D.it).set i.toNat z) :: Z) w) (hi : ix lx i = some x) : Stw B M (Gq ((Ah lx i x').map D.it) :: Z) w := by
  obtain ⟨h0, hk, hx⟩ := HO hi
  have h1 := h.bagPut (i := i.toNat) (x := z) (by rw [List.getElem?_set_self (by simpa using hk)])
  rw [List.set_set] at h1
  unfold Ah
  rw [List.map_set]; exact h1
theorem Stw.dTake (h : Stw B M (Bp v e D lx :: Z) w) (hi : ix lx i = some x) (f : Foc D S) (y : σ) (hy : S.it y = QV) (hc : S.cells y = S.cells (f.get x)) : Stw B M (S.it (f.get x) :: Bp v e D (Ah lx i (f.put x y)) :: Z) w := by
  have h1 := (h.dSplit.hdSame hi (f.cl x y hc)).swapZ.itTake hi
  have h2 := f.op y h1 hy
  have h3 : Stw B M (D.it (f.put x y) :: Gq ((lx.map D.it).set i.toNat QV) :: S.it (f.get x) :: row v e D.hr (Ah lx i (f.put x y)) :: Z) w := h2.rotZ
  have h4 := h3.itPut hi
  exact (h4.frontZ (i := 2) rfl rfl).dShut.swapZ
theorem Stw.dPut {y : σ} (h : Stw B M (S.it y :: Bp v e D lx :: Z) w) (hi : ix lx i = some x) (f : Foc D S) (hc : S.cells y = S.cells (f.get x)) : Stw B M (Bp v e D (Ah lx i (f.put x y)) :: Z) w := by
  have h1 : Stw B M (row v e D.hr lx :: Gq (lx.map D.it) :: S.it y :: Z) w := h.swapZ.dSplit
  have h2 := (h1.hdSame hi (f.cl x y hc)).swapZ.itTake hi
  have h3 : Stw B M (S.it y :: D.it x :: Gq ((lx.map D.it).set i.toNat QV) :: row v e D.hr (Ah lx i (f.put x y)) :: Z) w := h2.frontZ (i := 3) rfl rfl
  exact ((f.shut h3).itPut hi).swapZ.dShut
theorem Qf : ∀ {vs cs : List Value} {j : Nat}, cs.all (·.oneCell') = true → vs.all (·.oneCell') = true → (Ij cs j vs).all (·.oneCell') = true
  | [], cs, j, h, _ => h
  | v :: vs, cs, j, h, h1 => by
    simp only [Ij]
    simp only [List.all_cons, Bool.and_eq_true] at h1
    refine Qf ?_ h1.2
    rw [List.all_eq_true]
    intro u hu
    rcases List.mem_or_eq_of_mem_set hu with hu | rfl
    · exact List.all_eq_true.1 h u hu
    · exact h1.1
theorem WQ {A : Nat → Prop} {cs vs : List Value} {j : Nat} (hx : D.hr.rep w A cs x) (hc : Ij (D.cells x) j vs = D.cells x') (h1 : vs.all (·.oneCell') = true) : D.hr.rep w A (Ij cs j vs) x' :=
  ⟨by rw [hx.1]; exact hc, by rw [← hc]; exact Qf hx.2 h1⟩
def Ji {π α : Type} (g : π → Option α) : List π → Option (List α)
  | [] => some []
  | x :: l => (g x).bind fun a => (Ji g l).bind fun m => some (a :: m)
structure Rst {π : Type} (D : Dp δ) (r : Rp α) (er : δ → π) (g : π → Option α) : Prop where
  sz : r.sz = D.sz
  to : ∀ {w : World} {A A' : Nat → Prop} {x : δ} {a : α}, g (er x) = some a → (D.it x).ok w A → (∀ b, A b → A' b) → (∀ b ∈ (D.it x).bl, A' b) → r.rep w A' (D.cells x) a
section
variable {π : Type} {r : Rp α} {er : δ → π} {g : π → Option α} {l : List α} {A A' : Nat → Prop}
theorem Cg.rest (R : Rst D r er g) (hA : ∀ b, A b → A' b) : ∀ {lx : List δ} {l : List α} {xs : List Value}, Cg D.hr w A xs lx → (∀ x ∈ lx, (D.it x).ok w A) → (∀ x ∈ lx, ∀ b ∈ (D.it x).bl, A' b) → Ji g (lx.map er) = some l → Cg r w A' xs l
  | [], l, xs, h, _, _, hg => by cases hg; exact h
  | x :: lx, l, xs, ⟨cs, ys, he, h1, h2⟩, ho, hb, hg => by
    obtain ⟨a, ha, hg⟩ := Ac hg
    obtain ⟨m, hm, hg⟩ := Ac hg
    cases hg
    refine ⟨cs, ys, he, ?_, Cg.rest R hA h2 (fun y hy => ho y (List.mem_cons_of_mem _ hy)) (fun y hy => hb y (List.mem_cons_of_mem _ hy)) hm⟩
    rw [h1.1]
    exact R.to ha (ho x (List.mem_cons_self ..)) hA (hb x (List.mem_cons_self ..))
theorem O1 : ∀ {l : List π} {m : List α}, Ji g l = some m → m.length = l.length
  | [], m, h => by cases h; rfl
  | x :: l, m, h => by
    obtain ⟨a, ha, h⟩ := Ac h
    obtain ⟨k, hm, h⟩ := Ac h
    cases h
    simp [O1 hm]
theorem Ut (R : Rst D r er g) (h : (Bp v e D lx).ok w A) (hg : Ji g (lx.map er) = some l) (hA : ∀ b, A b → A' b) (hb : ∀ x ∈ lx, ∀ b ∈ (D.it x).bl, A' b) : F6 w A' e r v l := by
  have hit : ∀ x ∈ lx, (D.it x).ok w A := fun x hx => (show (Gq (lx.map D.it)).ok w A from h.1 _ (List.mem_cons_of_mem _ (List.mem_cons_self ..))).1 _ (List.mem_map.2 ⟨x, hx, rfl⟩)
  have hl := O1 hg
  rw [List.length_map] at hl
  rcases NF h with ⟨ad, rfl, rfl⟩ | ⟨b, off, cap, cur, xs, rfl, hp, hbk, h1, h2, h3, h4, h5⟩
  · cases hg; exact .inl ⟨ad, rfl, rfl⟩
  · refine .inr ⟨b, off, cap, cur, xs, by rw [hl], hp, hbk, by rw [hl]; exact h1, h2, by rw [R.sz]; exact h3, by rw [R.sz, hl]; exact h4, Cg.rest R hA h5 hit hb hg⟩
theorem Ux {y : Nat} {x : δ} (hx : x ∈ lx) (hb : y ∈ (D.it x).bl) : y ∈ (Bp v e D lx).bl :=
  List.mem_flatMap.2 ⟨Gq (lx.map D.it), List.mem_cons_of_mem _ (List.mem_cons_self ..), List.mem_flatMap.2 ⟨D.it x, List.mem_map.2 ⟨x, hx, rfl⟩, hb⟩⟩
theorem SK {y : Nat} (hb : y ∈ MY v) : y ∈ (Bp v e D lx).bl := List.mem_flatMap.2 ⟨row v e D.hr lx, List.mem_cons_self .., hb⟩
theorem Sq (R : Rst D r er g) (h : (Bp v e D lx).ok w A) (hg : Ji g (lx.map er) = some l) (hA : ∀ b, A b → A' b) (hb : ∀ b ∈ (Bp v e D lx).bl, A' b) : Sl w A' r v l :=
  (Ut R h hg hA fun x hx b hm => hb b (Ux hx hm)).sl (fun _ h => h) fun q hq => hb q (SK (GW.2 hq))
theorem Rst.flat {enc : α → List Value} (F : Fl r enc) {n : Nat} (hn : ∀ a, (enc a).length = n) (hs : r.sz = n) : Rst (Dp.fl n enc hn) r (fun a => a) some :=
  ⟨hs, fun {w A A' x a} h _ _ _ => by cases h; exact F.mk' w A' x⟩
theorem Rst.pair {β ρ : Type} {s : Rp β} {es : ε → ρ} {k : ρ → Option β} (R : Rst D r er g) (T : Rst E s es k) : Rst (D.pair E) (r.pair s) (fun x => (er x.1, es x.2)) (fun p => (g p.1).bind fun a => (k p.2).bind fun b => some (a, b)) :=
  ⟨by show r.sz + s.sz = D.sz + E.sz; rw [R.sz, T.sz], fun {w A A' x a} h ho hA hb => by
    obtain ⟨a1, h1, h⟩ := Ac h
    obtain ⟨a2, h2, h⟩ := Ac h
    cases h
    exact ⟨_, _, rfl, R.to h1 (ho.1 _ (List.mem_cons_self ..)) hA (fun b hm => hb b (List.mem_flatMap.2 ⟨_, List.mem_cons_self .., hm⟩)), T.to h2 (ho.1 _ (List.mem_cons_of_mem _ (List.mem_cons_self ..))) hA (fun b hm => hb b (List.mem_flatMap.2 ⟨_, List.mem_cons_of_mem _ (List.mem_cons_self ..), hm⟩))⟩⟩
def WV (x : Nat × List α) : Option (List α) := if x.1 = 1 ∨ x.1 = 2 then some x.2 else none
def XZ {π : Type} (g : π → Option α) (x : Nat × List π) : Option (List α) := if x.1 = 2 then Ji g x.2 else none
theorem Rst.sl {e' : TypeId} {r : Rp α} : Rst (Dp.sl e' r) (Rp.slice r) (fun x => x.2) WV :=
  ⟨rfl, fun {w A A' x a} h ho hA hb => by
    unfold WV at h
    split at h
    · rename_i hk
      cases h
      refine ⟨x.1, rfl, ?_⟩
      have ho : (St e' r x).ok w A := ho
      have hb : ∀ b ∈ (St e' r x).bl, A' b := hb
      unfold St at ho hb
      by_cases c : x.2.1 = 2
      · rw [if_pos c] at ho hb
        exact F6.sl (show F6 w A e' r x.1 x.2.2 from ho) hA fun q hq => hb q (GW.2 hq)
      · rw [if_neg c, if_pos (by omega)] at ho
        exact (show Sl w A r x.1 x.2.2 from ho).stab fun b hb _ => ⟨hA b hb, rfl⟩
    · cases h⟩
theorem Rst.dl {e' : TypeId} (R : Rst D r er g) : Rst (Dp.dl e' D) (Rp.slice r) (fun x => (x.2.1, x.2.2.map er)) (XZ g) :=
  ⟨rfl, fun {w A A' x a} h ho hA hb => by
    unfold XZ at h
    split at h
    · rename_i hk
      refine ⟨x.1, rfl, ?_⟩
      have ho : (Kk e' D x).ok w A := ho
      have hb : ∀ b ∈ (Kk e' D x).bl, A' b := hb
      unfold Kk at ho hb
      rw [if_pos hk] at ho hb
      exact Sq R ho h hA hb
    · cases h⟩
theorem NG.plain (R : Rst D r er g) {l0 : List π} (he : lx.map er = l0) (hg : Ji g l0 = some l) (h : NG B M Z e D v lx) : NM B M Z r v l := fun w hw => by
  subst he
  exact Sq R (h w hw) hg (fun _ _ => trivial) fun _ _ => trivial
end
structure Nl (D : Dp δ) (z : δ) : Prop where
  bl : (D.it z).bl = []
  ok : ∀ w A, (D.it z).ok w A
theorem Nl.fl {n : Nat} {enc : α → List Value} {hn : ∀ a, (enc a).length = n} (a : α) : Nl (Dp.fl n enc hn) a := ⟨rfl, fun _ _ => trivial⟩
theorem Nl.pair {z : δ} {y : ε} (h : Nl D z) (k : Nl E y) : Nl (D.pair E) (z, y) := by
  have hb : ([D.it z, E.it y].flatMap It.bl) = [] := by simp [h.bl, k.bl]
  refine ⟨hb, fun w A => ⟨fun q hq => ?_, by rw [hb]; exact List.nodup_nil⟩⟩
  rcases List.mem_cons.1 hq with rfl | hq
  · exact h.ok w A
  · rcases List.mem_cons.1 hq with rfl | hq
    · exact k.ok w A
    · cases hq
theorem Nl.sl {e' : TypeId} {r : Rp α} : Nl (Dp.sl e' r) (.slice none 0 0, 2, []) := by
  have h : (Dp.sl e' r).it (.slice none 0 0, 2, []) = row (.slice none 0 0) e' r [] := NH
  exact ⟨by rw [h]; exact MA none 0, fun w A => by rw [h]; exact .inl ⟨none, rfl, rfl⟩⟩
theorem Nl.dl {e' : TypeId} : Nl (Dp.dl e' D) (.slice none 0 0, 2, []) := by
  have hb : (Kk e' D (.slice none 0 0, 2, [])).bl = [] := by
    rw [Mh]
    show [row _ e' D.hr [], Gq _].flatMap It.bl = []
    simp [row, MA, Gq]
  refine ⟨hb, fun w A => ?_⟩
  have hb' := hb
  show (Kk e' D (.slice none 0 0, 2, [])).ok w A
  clear hb'
  have hb' := hb
  rw [Mh] at hb' ⊢
  refine ⟨fun q hq => ?_, by rw [show [row _ e' D.hr [], Gq _].flatMap It.bl = [] from hb']; exact List.nodup_nil⟩
  rcases List.mem_cons.1 hq with rfl | hq
  · exact .inl ⟨none, rfl, rfl⟩
  · rcases List.mem_cons.1 hq with rfl | hq
    · exact ⟨fun q hq => (by cases hq), List.nodup_nil⟩
    · cases hq
theorem Stw.nlZ {z : δ} (h : Stw B M Z w) (k : Nl D z) : Stw B M (D.it z :: Z) w := by
  have hbl : Bn M (D.it z :: Z) = Bn M Z := by unfold Bn; rw [List.flatMap_cons, k.bl]; rfl
  refine ⟨h.frm, by rw [hbl]; exact h.own, h.at_, fun y hy => ?_, by rw [hbl]; exact h.nodup, h.disj⟩
  rw [hbl]
  rcases List.mem_cons.1 hy with rfl | hy
  · exact k.ok _ _
  · exact h.items y hy
theorem Stw.nlBag {z : δ} (k : Nl D z) (h : Stw B M Z w) : ∀ n : Nat, Stw B M (Gq ((List.replicate n z).map D.it) :: Z) w
  | 0 => h.bagNil
  | n + 1 => by
    have h1 := (Stw.nlBag k h n).nlZ k
    have h2 : Stw B M (Gq ((List.replicate n z).map D.it ++ [D.it z]) :: Z) w := h1.bagPush
    rw [List.replicate_succ', List.map_append]; exact h2
theorem Stw.dNil (h : Stw B M Z w) (e : TypeId) (D : Dp δ) : Stw B M (Bp (.slice none 0 0) e D [] :: Z) w :=
  Stw.dShut (lx := []) ((h.bagNil).emptyRow none e D.hr)
theorem XG {π : Type} {er : δ → π} {n : Int} {z : δ} {l : List π} (h : mk n (er z) = some l) : mk n z = some (List.replicate n.toNat z) ∧ (List.replicate n.toNat z).map er = l := by
  obtain ⟨h0, h1, rfl⟩ := Po h
  exact ⟨by unfold mk; rw [if_pos ⟨h0, h1⟩], by simp⟩
theorem Stw.dNew {z : δ} {n : Nat} (k : Nl D z) (h : Stw B M (row v e D.hr (List.replicate n z) :: Z) w) : Stw B M (Bp v e D (List.replicate n z) :: Z) w := (Stw.nlBag k h n).swapZ.dShut
theorem Stw.dShutL (h : Stw B M (row v e D.hr lx :: (lx.map D.it ++ Z)) w) : Stw B M (Bp v e D lx :: Z) w := by
  have h1 : Stw B M (lx.map D.it ++ row v e D.hr lx :: Z) w := h.permZ List.perm_middle.symm
  exact h1.bagShut.swapZ.dShut
theorem Stw.bagMerge {its jts : List It} (h : Stw B M (Gq its :: Gq jts :: Z) w) : Stw B M (Gq (its ++ jts) :: Z) w := by
  have h1 : Stw B M (its ++ Gq jts :: Z) w := h.bagOpen
  have h2 : Stw B M (Gq jts :: (its ++ Z)) w := h1.permZ List.perm_middle
  have h3 : Stw B M (jts ++ (its ++ Z)) w := h2.bagOpen
  refine Stw.bagShut (its := its ++ jts) (h3.permZ ?_)
  rw [← List.append_assoc]
  exact List.perm_append_comm.append_right _
end
section
variable {P : Program} {B : Bs} {M M' : Dg} {Z Z' Z1 Z2 : List It} {n : Nat} {ds : List Deferred} {F F' : List (Nat × Value)} {a : Act} {w w' : World}
variable {ops : Array Oper} {Q : Exit → Act → World → Prop} {rest : List Oper} {o : Oper}
variable {dst : Option Tmp} {ty : TypeId} {pos : String} {aft : Array Edge} {g : Option (Nat × Bool)}
variable {δ σ : Type} {D : Dp δ} {S : Dp σ} {lx ly l3 : List δ} {v u : Value} {x x' : δ} {i : Int} {t e by_ : Nat}
theorem SZ {t : TypeId} {s q : Operand} {agg : Bool} {sz off j : Nat} {vs : List Value} {y : Value} (hF : Fr n ds F a) (hW : Stw B M (Bp v e D lx :: Z1) w) (hx : D4 F s = some (.pointer (some ⟨LM v, off, none⟩))) (hy : D4 F q = some y)
    (ho : off = Jm v + i.toNat * D.sz + j) (hi : ix lx i = some x) (T : Ty P t agg sz) (hv : y.cells.toList = vs) (hsz : vs.length = sz) (hle : Nat.ble (j + vs.length) D.sz = true) (h1 : vs.all (·.oneCell') = true)
    (hc : Ij (D.cells x) j vs = D.cells x') (hb : ∀ w, Stw B M (Gq (lx.map D.it) :: row v e D.hr lx :: Z1) w → Stw B M (Gq ((Ah lx i x').map D.it) :: row v e D.hr lx :: Z2) w)
    (kk : ∀ w', Stw B M (Bp v e D (Ah lx i x') :: Z2) w' → wpList P ops Q rest a w') : wpList P ops Q (⟨none, .store t s q, ty, pos, aft, none⟩ :: rest) a w :=
  A0 (r := D.hr) (i := i) (j := j) (x' := x') (k := 0) hF (hb w hW.dSplit.swapZ).swapZ hx hy ho rfl rfl hi T hv hsz hle h1 (fun A cs _ hr => WQ hr hc h1) fun w' hW => kk w' hW.dShut
theorem Od {t : TypeId} {s q : Operand} {agg : Bool} {off j : Nat} {y : Value} {b : σ} (f : Foc D S) (hF : Fr n ds F a) (hW : Stw B M (S.it b :: Bp v e D lx :: Z1) w) (hx : D4 F s = some (.pointer (some ⟨LM v, off, none⟩))) (hy : D4 F q = some y)
    (ho : off = Jm v + i.toNat * D.sz + j) (hi : ix lx i = some x) (T : Ty P t agg 1) (hv : y.cells.toList = [y]) (hle : Nat.ble (j + 1) D.sz = true) (h1 : y.oneCell' = true)
    (hc : Ij (D.cells x) j [y] = D.cells (f.put x b))
    (kk : ∀ w', Stw B M (Bp v e D (Ah lx i (f.put x b)) :: Z1) w' → wpList P ops Q rest a w') : wpList P ops Q (⟨none, .store t s q, ty, pos, aft, none⟩ :: rest) a w :=
  SZ (Z1 := S.it b :: Z1) hF hW.swapZ hx hy ho hi T hv rfl hle (by simp [h1]) hc (fun w h => by
    have h2 := (h.itTake hi)
    have h3 : Stw B M (S.it b :: D.it x :: Gq ((lx.map D.it).set i.toNat QV) :: row v e D.hr lx :: Z1) w := h2.frontZ (i := 3) rfl rfl
    exact (f.shut h3).itPut hi) kk
theorem OB {s q : Operand} {d : Nat} (hF : Fr n ds F a) (hW : Stw B M (Bp v e D lx :: Bp u e D ly :: Z) w) (hn : Nat.blt d n = true) (E : Et P t e D.sz by_) (hs : D4 F s = some v) (hx : D4 F q = some u) (hap : HN lx ly = some l3) (hby : Nat.ble by_ 100000 = true)
    (k : ∀ v' a' w', Fr n ds ((d, v') :: F) a' → Stw B M (Bp v' e D l3 :: Z) w' → wpList P ops Q rest a' w') :
    wpList P ops Q (⟨some d, .call ⟨.builtin .append, #[s, q], #[t, t]⟩, ty, pos, aft, none⟩ :: rest) a w := by
  have h1 : Stw B M (Bp u e D ly :: row v e D.hr lx :: Gq (lx.map D.it) :: Z) w := hW.dSplit.frontZ (i := 2) rfl rfl
  have h2 : Stw B M (row v e D.hr lx :: row u e D.hr ly :: Gq (ly.map D.it) :: Gq (lx.map D.it) :: Z) w := h1.dSplit.frontZ (i := 2) rfl rfl
  refine Di (r := D.hr) (i := 0) hF h2 hn E hs hx rfl rfl (D1 h2 1 rfl) hap hby fun v' a' w' hF hW => k v' a' w' hF ?_
  have h3 : Stw B M (Gq (lx.map D.it) :: Gq (ly.map D.it) :: row v' e D.hr l3 :: Z) w' := by
    have h4 : Stw B M (row u e D.hr ly :: row v' e D.hr l3 :: Gq (ly.map D.it) :: Gq (lx.map D.it) :: Z) w' := hW.swapZ
    have h5 : Stw B M (Gq (lx.map D.it) :: row v' e D.hr l3 :: Gq (ly.map D.it) :: Z) w' := h4.tailZ.frontZ (i := 2) rfl rfl
    exact (h5.frontZ (i := 2) rfl rfl).swapZ
  have h6 := h3.bagMerge
  obtain ⟨_, rfl⟩ := NP hap
  rw [← List.map_append] at h6
  exact h6.swapZ.dShut
theorem PZ {π : Type} {er : δ → π} {l m k : List π} (h1 : lx.map er = l) (h2 : ly.map er = m) (h : HN l m = some k) : HN lx ly = some (lx ++ ly) ∧ (lx ++ ly).map er = k := by
  obtain ⟨hl, rfl⟩ := NP h
  subst h1 h2
  exact ⟨by unfold HN; rw [if_pos (by simpa using hl)], by simp⟩
theorem JE {π : Type} {er : δ → π} {l : List π} {b : π} (h1 : lx.map er = l) (h2 : er x' = b) : (Ah lx i x').map er = Ah l i b := by
  subst h1 h2; exact SJ er lx i x'
def KW (k : Nat) : Option Unit := if k = 2 then some () else none
theorem Lg {k : Nat} {u : Unit} (h : KW k = some u) : k = 2 := by unfold KW at h; split at h <;> first | assumption | cases h
def Q6 (k : Nat) : Option Unit := if k = 1 ∨ k = 2 then some () else none
theorem Ve {k : Nat} {u : Unit} (h : Q6 k = some u) : k = 1 ∨ k = 2 := by unfold Q6 at h; split at h <;> first | assumption | cases h
theorem Stw.dTakeR {α : Type} {r : Rp α} {e' : TypeId} {l : List α} (h : Stw B M (Bp v e D lx :: Z) w) (hi : ix lx i = some x) (f : Foc D (Dp.sl e' r)) (hx : (f.get x).2 = (2, l)) : Stw B M (row (f.get x).1 e' r l :: Bp v e D (Ah lx i (f.put x ((f.get x).1, 0, []))) :: Z) w := by
  have h1 := h.dTake hi f ((f.get x).1, 0, []) (show St e' r ((f.get x).1, 0, []) = QV from Vw) rfl
  have h2 : (Dp.sl e' r).it (f.get x) = row (f.get x).1 e' r l := by
    show St e' r (f.get x) = _
    generalize f.get x = q at hx
    obtain ⟨v, k, m⟩ := q
    cases hx
    exact NH
  rw [h2] at h1; exact h1
theorem Stw.dTakeD {ε : Type} {E : Dp ε} {e' : TypeId} (h : Stw B M (Bp v e D lx :: Z) w) (hi : ix lx i = some x) (f : Foc D (Dp.dl e' E)) (hx : (f.get x).2.1 = 2) : Stw B M (Bp (f.get x).1 e' E (f.get x).2.2 :: Bp v e D (Ah lx i (f.put x ((f.get x).1, 0, []))) :: Z) w := by
  have h1 := h.dTake hi f ((f.get x).1, 0, []) (show Kk e' E ((f.get x).1, 0, []) = QV from Ue) rfl
  have h2 : (Dp.dl e' E).it (f.get x) = Bp (f.get x).1 e' E (f.get x).2.2 := by
    show Kk e' E (f.get x) = _
    unfold Kk; rw [if_pos hx]
  rw [h2] at h1; exact h1
theorem Stw.dBack {y : σ} {x2 : δ} (h : Stw B M (S.it y :: Bp v e D (Ah lx i x') :: Z) w) (hi : ix lx i = some x) (f : Foc D S) (hc : S.cells y = S.cells (f.get x')) (hp : f.put x' y = x2) : Stw B M (Bp v e D (Ah lx i x2) :: Z) w := by
  have h1 := h.dPut (KJ hi) f hc
  rw [Qn, hp] at h1; exact h1
theorem Stw.dBackR {α : Type} {r : Rp α} {e' : TypeId} {l : List α} {u : Value} {x2 : δ} (h : Stw B M (row u e' r l :: Bp v e D (Ah lx i x') :: Z) w) (hi : ix lx i = some x) (f : Foc D (Dp.sl e' r)) (hc : u = (f.get x').1) (hp : f.put x' (u, 2, l) = x2) : Stw B M (Bp v e D (Ah lx i x2) :: Z) w :=
  Stw.dBack (S := Dp.sl e' r) (y := (u, 2, l)) (by show Stw B M (St e' r (u, 2, l) :: _) w; rw [NH]; exact h) hi f (congrArg (fun q => [q]) hc) hp
theorem Stw.dBackD {ε : Type} {E : Dp ε} {e' : TypeId} {ly : List ε} {u : Value} {x2 : δ} (h : Stw B M (Bp u e' E ly :: Bp v e D (Ah lx i x') :: Z) w) (hi : ix lx i = some x) (f : Foc D (Dp.dl e' E)) (hc : u = (f.get x').1) (hp : f.put x' (u, 2, ly) = x2) : Stw B M (Bp v e D (Ah lx i x2) :: Z) w :=
  Stw.dBack (S := Dp.dl e' E) (y := (u, 2, ly)) (by show Stw B M (Kk e' E (u, 2, ly) :: _) w; rw [Mh]; exact h) hi f (congrArg (fun q => [q]) hc) hp
theorem Stw.toR {α : Type} {r : Rp α} {e' : TypeId} {l : List α} {u : Value} (h : Stw B M (row u e' r l :: Z) w) : Stw B M ((Dp.sl e' r).it (u, 2, l) :: Z) w := by show Stw B M (St e' r (u, 2, l) :: _) w; rw [NH]; exact h
theorem Stw.toD {ε : Type} {E : Dp ε} {e' : TypeId} {ly : List ε} {u : Value} (h : Stw B M (Bp u e' E ly :: Z) w) : Stw B M ((Dp.dl e' E).it (u, 2, ly) :: Z) w := by show Stw B M (Kk e' E (u, 2, ly) :: _) w; rw [Mh]; exact h
theorem Stw.oneD (h : Stw B M Z w) (k : Nat) (hZ : Z[k]? = some (Bp v e D lx)) : v.oneCell' = true := (NF (h.item hZ)).one
theorem KeyEnc.int {k : TypeId} {kk : IntKind} (hu : P.underlying k = some (.int kk)) : KeyEnc P k (fun x : Int => .int kk x) :=
  ⟨⟨_, hu, .inr fun x y => by show (if kk = kk then some (x == y) else none) = _; rw [if_pos rfl]; rfl⟩, fun x y w => by
    unfold Op.equal
    rw [show Op.maxDepth = 9999 + 1 from rfl, run_equalIn_int w 9999 k kk kk x y hu]
    congr 1, fun b x w => Kb (m := 9999) hu b w, fun x => by simp [Instr.sameBits]⟩
end
end Go.Proofs.YthhoflfhegfmcaaGreat
