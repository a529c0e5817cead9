/- Rows whose elements own rows, at any depth: elements seen with the values of their slices, and whether these are one's own. Conditions: none. -/
import Derived.Test.YtflaelbmglmmcaaeOW
import Derived.Test.YtflaelbmglmmcaaeOX
import Derived.Test.YtflaelbmglmmcaaeOM
namespace Go.Proofs.Ytflaelbmglmmcaa
set_option linter.unusedVariables false
set_option linter.unusedSimpArgs false
set_option linter.unusedSectionVars false
open Go Go.RowKit
structure Dp (δ : Type) where
  sz : Nat
  cells : δ → List Value
  it : δ → It
  len : ∀ x, (cells x).length = sz
def Dp.hr {δ : Type} (D : Dp δ) : Rp δ :=
  ⟨D.sz, fun _ _ cs x => cs = D.cells x ∧ (D.cells x).all (·.oneCell') = true, fun h => by rw [h.1, D.len], fun h => by rw [h.1]; exact h.2, fun h _ => h⟩
theorem Dp.flat {δ : Type} (D : Dp δ) : E8 D.hr D.cells := fun h => h.1
def Bj {δ : Type} (v : Value) (e : TypeId) (D : Dp δ) (lx : List δ) : It := EN [row v e D.hr lx, EN (lx.map D.it)]
def Dp.fl {α : Type} (n : Nat) (enc : α → List Value) (hn : ∀ a, (enc a).length = n) : Dp α := ⟨n, enc, fun _ => LB, hn⟩
def Dp.pair {δ ε : Type} (D : Dp δ) (E : Dp ε) : Dp (δ × ε) :=
  ⟨D.sz + E.sz, fun x => D.cells x.1 ++ E.cells x.2, fun x => EN [D.it x.1, E.it x.2], fun x => by rw [List.length_append, D.len, E.len]⟩
def Dp.sl {α : Type} (e : TypeId) (r : Rp α) : Dp (De α) := ⟨1, fun x => [x.1], LC e r, fun _ => rfl⟩
section
variable {δ ε σ α : Type} {D : Dp δ} {E : Dp ε} {S : Dp σ} {B : Bs} {w w' : World} {M M' : BR} {Z Z' Z1 : List It} {v u : Value} {e : TypeId} {lx ly : List δ} {x x' : δ} {i : Int}
theorem Stw.dSplit (h : Stw B M (Bj v e D lx :: Z) w) : Stw B M (row v e D.hr lx :: EN (lx.map D.it) :: Z) w := h.bagOpen
theorem Stw.dShut (h : Stw B M (row v e D.hr lx :: EN (lx.map D.it) :: Z) w) : Stw B M (Bj v e D lx :: Z) w := Stw.bagShut (its := [_, _]) h
theorem Stw.swapZ {a b : It} (h : Stw B M (a :: b :: Z) w) : Stw B M (b :: a :: Z) w := h.permZ (List.Perm.swap _ _ _)
theorem Stw.rotZ {a b c : It} (h : Stw B M (a :: b :: c :: Z) w) : Stw B M (b :: c :: a :: Z) w := h.permZ ((List.Perm.swap _ _ _).trans ((List.Perm.swap _ _ _).cons _))
theorem Stw.rotZ' {a b c : It} (h : Stw B M (b :: c :: a :: Z) w) : Stw B M (a :: b :: c :: Z) w := h.permZ (((List.Perm.swap _ _ _).cons _).trans (List.Perm.swap _ _ _))
theorem Stw.tailZ {a : It} (h : Stw B M (a :: Z) w) : Stw B M Z w := h.sub (List.Sublist.refl _) (List.sublist_cons_self _ _)
theorem Stw.under {a b c : It} (h : Stw B M (a :: b :: c :: Z) w) : Stw B M (a :: EN [b, c] :: Z) w := (Stw.bagShut (its := [b, c]) h.rotZ).swapZ
structure Foc (D : Dp δ) (S : Dp σ) where
  get : δ → σ
  put : δ → σ → δ
  cl : ∀ x y, S.cells y = S.cells (get x) → D.cells (put x y) = D.cells x
  op : ∀ {B : Bs} {M : BR} {Z : List It} {w : World} {x : δ} (y : σ), Stw B M (D.it x :: Z) w → S.it y = LB → Stw B M (S.it (get x) :: D.it (put x y) :: Z) w
  shut : ∀ {B : Bs} {M : BR} {Z : List It} {w : World} {x : δ} {y : σ}, Stw B M (S.it y :: D.it x :: Z) w → Stw B M (D.it (put x y) :: Z) w
  okk : ∀ {w : World} {A : Nat → Prop} {x : δ}, (D.it x).ok w A → (S.it (get x)).ok w A
def Foc.here : Foc S S := ⟨fun x => x, fun _ y => y, fun x y h => h, fun y h hy => by rw [hy]; exact h.addEmp.swapZ, fun h => h.swapZ.tailZ, fun h => h⟩
def Foc.fst (f : Foc D S) : Foc (D.pair E) S :=
  ⟨fun x => f.get x.1, fun x y => (f.put x.1 y, x.2), fun x y h => congrArg (· ++ E.cells x.2) (f.cl x.1 y h),
   fun y h hy => (f.op y (h : Stw _ _ (EN [_, _] :: _) _).bagOpen hy).under,
   fun {B M Z w x y} h => by
    have h1 : Stw B M (D.it x.1 :: E.it x.2 :: S.it y :: Z) w := Stw.bagOpen (its := [_, _]) (h : Stw B M (S.it y :: EN [_, _] :: Z) w).swapZ
    exact Stw.bagShut (its := [_, _]) (f.shut h1.rotZ'),
   fun h => f.okk (h.1 _ (List.mem_cons_self ..))⟩
def Foc.snd (f : Foc E S) : Foc (D.pair E) S :=
  ⟨fun x => f.get x.2, fun x y => (x.1, f.put x.2 y), fun x y h => congrArg (D.cells x.1 ++ ·) (f.cl x.2 y h),
   fun {B M Z w x} y h hy => by
    have h1 : Stw B M (D.it x.1 :: E.it x.2 :: Z) w := (h : Stw B M (EN [_, _] :: Z) w).bagOpen
    have h2 := f.op y h1.swapZ hy
    exact (h2.permZ ((List.Perm.swap _ _ _).cons _)).under,
   fun {B M Z w x y} h => by
    have h1 : Stw B M (D.it x.1 :: E.it x.2 :: S.it y :: Z) w := Stw.bagOpen (its := [_, _]) (h : Stw B M (S.it y :: EN [_, _] :: Z) w).swapZ
    have h2 : Stw B M (S.it y :: E.it x.2 :: D.it x.1 :: Z) w := h1.permZ ((List.Perm.swap _ _ _).trans (((List.Perm.swap _ _ _).cons _).trans (List.Perm.swap _ _ _)))
    exact Stw.bagShut (its := [_, _]) (f.shut h2).swapZ,
   fun h => f.okk (h.1 _ (List.mem_cons_of_mem _ (List.mem_cons_self ..)))⟩
def LE (B : Bs) (M : BR) (Z : List It) (e : TypeId) (D : Dp δ) (v : Value) (lx : List δ) : Prop := ∀ w, Stw B M Z w → (Bj v e D lx).ok w any
theorem It.any {z : It} {A : Nat → Prop} (h : z.ok w A) : z.ok w any := z.stab h (fun _ _ _ => ⟨trivial, rfl⟩) fun _ _ => rfl
theorem JQ (k : Nat) (hZ : Z[k]? = some (Bj v e D lx)) : LE B M Z e D v lx := fun w hw => It.any (z := Bj v e D lx) (hw.item hZ)
theorem Ov (h : Bj v e D lx ∈ Z) : LE B M Z e D v lx := by
  obtain ⟨k, hk⟩ := List.mem_iff_getElem?.1 h
  exact JQ k hk
theorem HW {A : Nat → Prop} (h : (Bj v e D lx).ok w A) : D1 w A e D.hr v lx := h.1 _ (List.mem_cons_self ..)
theorem Nh {A : Nat → Prop} (h : (Bj v e D lx).ok w A) (hi : ix lx i = some x) : (D.it x).ok w A :=
  (show (EN (lx.map D.it)).ok w A from h.1 _ (List.mem_cons_of_mem _ (List.mem_cons_self ..))).1 _ (List.mem_map.2 ⟨x, Cw (FX hi).2.2, rfl⟩)
theorem LE.hd (h : LE B M Z e D v lx) : CZ B M Z D.hr v lx := fun w hw => (HW (h w hw)).sl (fun _ _ => trivial) fun _ _ => trivial
theorem LE.one (h : LE B M Z e D v lx) (hw : Stw B M Z w) : v.oneCell' = true := (HW (h w hw)).one
theorem LE.sl {r : Rp α} {e' : TypeId} (h : LE B M Z e D v lx) (hi : ix lx i = some x) (f : Foc D (Dp.sl e' r)) {l : List α} {k : Nat} (hx : (f.get x).2 = (k, l)) (hk : k = 1 ∨ k = 2) : CZ B M Z r (f.get x).1 l := fun w hw => by
  have h1 := f.okk (Nh (h w hw) hi)
  have h2 : (f.get x).2.2 = l := by rw [hx]
  have h3 : (f.get x).2.1 = k := by rw [hx]
  rw [← h2]
  exact NV h1 (by rw [h3]; omega) (by rw [h3]; omega)
theorem MK {l : List α} {i : Int} {a b : α} (h : ix l i = some a) : ix (Ax l i b) i = some b := by
  obtain ⟨h0, hk, hx⟩ := FX h
  unfold ix Ax
  rw [if_pos h0, List.getElem?_set_self hk]
theorem F0 {l : List α} {i : Int} {a b : α} : Ax (Ax l i a) i b = Ax l i b := by unfold Ax; rw [List.set_set]
theorem Bp.re {r : Rp α} {A : Nat → Prop} {a b : α} (hr : ∀ cs, r.rep w A cs a → r.rep w A cs b) : ∀ {l : List α} {xs : List Value} {k : Nat}, Bp r w A xs l → l[k]? = some a → Bp r w A xs (l.set k b)
  | [], xs, k, h, hk => by simp at hk
  | y :: l, xs, 0, ⟨cs, ys, he, h1, h2⟩, hk => by
    simp at hk; subst hk
    exact ⟨cs, ys, he, hr cs h1, h2⟩
  | y :: l, xs, k + 1, ⟨cs, ys, he, h1, h2⟩, hk => by
    simp at hk
    exact ⟨cs, ys, he, h1, Bp.re hr h2 hk⟩
theorem D1.re {r : Rp α} {A : Nat → Prop} {l : List α} {a b : α} (h : D1 w A e r v l) (hi : ix l i = some a) (hr : ∀ cs, r.rep w A cs a → r.rep w A cs b) : D1 w A e r v (Ax l i b) := by
  obtain ⟨h0, hk, hx⟩ := FX hi
  rcases h with ⟨ad, rfl, rfl⟩ | ⟨g, off, cap, cur, xs, rfl, hp, hb, h1, h2, h3, h4, h5⟩
  · simp at hk
  · exact .inr ⟨g, off, cap, cur, xs, by simp [Ax], hp, hb, by simpa [Ax] using h1, h2, h3, by simpa [Ax] using h4, Bp.re hr h5 hx⟩
theorem Stw.hdSame (h : Stw B M (row v e D.hr lx :: Z) w) (hi : ix lx i = some x) (hc : D.cells x' = D.cells x) : Stw B M (row v e D.hr (Ax lx i x') :: Z) w :=
  h.itemSame (z := row v e D.hr lx) (z' := row v e D.hr (Ax lx i x')) rfl fun A ho => D1.re (show D1 w A e D.hr v lx from ho) hi fun cs hx => ⟨hx.1.trans hc.symm, by rw [hc]; exact hx.2⟩
theorem Stw.itTake (h : Stw B M (EN (lx.map D.it) :: Z) w) (hi : ix lx i = some x) : Stw B M (D.it x :: EN ((lx.map D.it).set i.toNat LB) :: Z) w := by
  obtain ⟨h0, hk, hx⟩ := FX hi
  exact h.bagTake (by rw [List.getElem?_map, hx]; rfl)
theorem Stw.itPut {z : It} (h : Stw B M (D.it x' :: EN ((lx.map D.it).set i.toNat z) :: Z) w) (hi : ix lx i = some x) : Stw B M (EN ((Ax lx i x').map D.it) :: Z) w := by
  obtain ⟨h0, hk, hx⟩ := FX hi
  have h1 := h.bagPut (i := i.toNat) (x := z) (by rw [List.getElem?_set_self (by simpa using hk)])
  rw [List.set_set] at h1
  unfold Ax
  rw [List.map_set]; exact h1
theorem Stw.dTake (h : Stw B M (Bj v e D lx :: Z) w) (hi : ix lx i = some x) (f : Foc D S) (y : σ) (hy : S.it y = LB) (hc : S.cells y = S.cells (f.get x)) : Stw B M (S.it (f.get x) :: Bj v e D (Ax lx i (f.put x y)) :: Z) w := by
  have h1 := (h.dSplit.hdSame hi (f.cl x y hc)).swapZ.itTake hi
  have h2 := f.op y h1 hy
  have h3 : Stw B M (D.it (f.put x y) :: EN ((lx.map D.it).set i.toNat LB) :: S.it (f.get x) :: row v e D.hr (Ax lx i (f.put x y)) :: Z) w := h2.rotZ
  have h4 := h3.itPut hi
  exact (h4.frontZ (i := 2) rfl rfl).dShut.swapZ
theorem ML (hi : ix lx i = some x) (h : D.it x' = D.it x) : (Ax lx i x').map D.it = lx.map D.it := by
  obtain ⟨h0, hk, hx⟩ := FX hi
  unfold Ax
  rw [List.map_set, h]
  refine List.ext_getElem? fun j => ?_
  by_cases hj : i.toNat = j
  · subst hj; rw [List.getElem?_set_self (by simpa using hk), List.getElem?_map, hx]; rfl
  · rw [List.getElem?_set_ne hj]
theorem Ka : ∀ {vs cs : List Value} {j : Nat}, cs.all (·.oneCell') = true → vs.all (·.oneCell') = true → (ED cs j vs).all (·.oneCell') = true
  | [], cs, j, h, _ => h
  | v :: vs, cs, j, h, h1 => by
    simp only [ED]
    simp only [List.all_cons, Bool.and_eq_true] at h1
    refine Ka ?_ h1.2
    rw [List.all_eq_true]
    intro u hu
    rcases List.mem_or_eq_of_mem_set hu with hu | rfl
    · exact List.all_eq_true.1 h u hu
    · exact h1.1
theorem N0 {A : Nat → Prop} {cs vs : List Value} {j : Nat} (hx : D.hr.rep w A cs x) (hc : ED (D.cells x) j vs = D.cells x') (h1 : vs.all (·.oneCell') = true) : D.hr.rep w A (ED cs j vs) x' :=
  ⟨by rw [hx.1]; exact hc, by rw [← hc]; exact Ka hx.2 h1⟩
def Gf {π α : Type} (g : π → Option α) : List π → Option (List α)
  | [] => some []
  | x :: l => (g x).bind fun a => (Gf g l).bind fun m => some (a :: m)
structure Rst {π : Type} (D : Dp δ) (r : Rp α) (er : δ → π) (g : π → Option α) : Prop where
  sz : r.sz = D.sz
  to : ∀ {w : World} {A A' : Nat → Prop} {x : δ} {a : α}, g (er x) = some a → (D.it x).ok w A → (∀ b, A b → A' b) → (∀ b ∈ (D.it x).bl, A' b) → r.rep w A' (D.cells x) a
section
variable {π : Type} {r : Rp α} {er : δ → π} {g : π → Option α} {l : List α} {A A' : Nat → Prop}
theorem Bp.rest (R : Rst D r er g) (hA : ∀ b, A b → A' b) : ∀ {lx : List δ} {l : List α} {xs : List Value}, Bp D.hr w A xs lx → (∀ x ∈ lx, (D.it x).ok w A) → (∀ x ∈ lx, ∀ b ∈ (D.it x).bl, A' b) → Gf g (lx.map er) = some l → Bp r w A' xs l
  | [], l, xs, h, _, _, hg => by cases hg; exact h
  | x :: lx, l, xs, ⟨cs, ys, he, h1, h2⟩, ho, hb, hg => by
    obtain ⟨a, ha, hg⟩ := Ao hg
    obtain ⟨m, hm, hg⟩ := Ao hg
    cases hg
    refine ⟨cs, ys, he, ?_, Bp.rest R hA h2 (fun y hy => ho y (List.mem_cons_of_mem _ hy)) (fun y hy => hb y (List.mem_cons_of_mem _ hy)) hm⟩
    rw [h1.1]
    exact R.to ha (ho x (List.mem_cons_self ..)) hA (hb x (List.mem_cons_self ..))
theorem Jf : ∀ {l : List π} {m : List α}, Gf g l = some m → m.length = l.length
  | [], m, h => by cases h; rfl
  | x :: l, m, h => by
    obtain ⟨a, ha, h⟩ := Ao h
    obtain ⟨k, hm, h⟩ := Ao h
    cases h
    simp [Jf hm]
theorem JV (R : Rst D r er g) (h : (Bj v e D lx).ok w A) (hg : Gf g (lx.map er) = some l) (hA : ∀ b, A b → A' b) (hb : ∀ x ∈ lx, ∀ b ∈ (D.it x).bl, A' b) : D1 w A' e r v l := by
  have hit : ∀ x ∈ lx, (D.it x).ok w A := fun x hx => (show (EN (lx.map D.it)).ok w A from h.1 _ (List.mem_cons_of_mem _ (List.mem_cons_self ..))).1 _ (List.mem_map.2 ⟨x, hx, rfl⟩)
  have hl := Jf hg
  rw [List.length_map] at hl
  rcases HW h with ⟨ad, rfl, rfl⟩ | ⟨b, off, cap, cur, xs, rfl, hp, hbk, h1, h2, h3, h4, h5⟩
  · cases hg; exact .inl ⟨ad, rfl, rfl⟩
  · refine .inr ⟨b, off, cap, cur, xs, by rw [hl], hp, hbk, by rw [hl]; exact h1, h2, by rw [R.sz]; exact h3, by rw [R.sz, hl]; exact h4, Bp.rest R hA h5 hit hb hg⟩
theorem Kg {y : Nat} {x : δ} (hx : x ∈ lx) (hb : y ∈ (D.it x).bl) : y ∈ (Bj v e D lx).bl :=
  List.mem_flatMap.2 ⟨EN (lx.map D.it), List.mem_cons_of_mem _ (List.mem_cons_self ..), List.mem_flatMap.2 ⟨D.it x, List.mem_map.2 ⟨x, hx, rfl⟩, hb⟩⟩
theorem Ls {y : Nat} (hb : y ∈ Gp v) : y ∈ (Bj v e D lx).bl := List.mem_flatMap.2 ⟨row v e D.hr lx, List.mem_cons_self .., hb⟩
theorem M7 (R : Rst D r er g) (h : (Bj v e D lx).ok w A) (hg : Gf g (lx.map er) = some l) (hA : ∀ b, A b → A' b) (hb : ∀ b ∈ (Bj v e D lx).bl, A' b) : Sl w A' r v l :=
  (JV R h hg hA fun x hx b hm => hb b (Kg hx hm)).sl (fun _ h => h) fun q hq => hb q (Ls (D5.2 hq))
theorem Rst.flat {enc : α → List Value} (F : Fl r enc) {n : Nat} (hn : ∀ a, (enc a).length = n) (hs : r.sz = n) : Rst (Dp.fl n enc hn) r (fun a => a) some :=
  ⟨hs, fun {w A A' x a} h _ _ _ => by cases h; exact F.mk' w A' x⟩
theorem Rst.pair {β ρ : Type} {s : Rp β} {es : ε → ρ} {k : ρ → Option β} (R : Rst D r er g) (T : Rst E s es k) : Rst (D.pair E) (r.pair s) (fun x => (er x.1, es x.2)) (fun p => (g p.1).bind fun a => (k p.2).bind fun b => some (a, b)) :=
  ⟨by show r.sz + s.sz = D.sz + E.sz; rw [R.sz, T.sz], fun {w A A' x a} h ho hA hb => by
    obtain ⟨a1, h1, h⟩ := Ao h
    obtain ⟨a2, h2, h⟩ := Ao h
    cases h
    exact ⟨_, _, rfl, R.to h1 (ho.1 _ (List.mem_cons_self ..)) hA (fun b hm => hb b (List.mem_flatMap.2 ⟨_, List.mem_cons_self .., hm⟩)), T.to h2 (ho.1 _ (List.mem_cons_of_mem _ (List.mem_cons_self ..))) hA (fun b hm => hb b (List.mem_flatMap.2 ⟨_, List.mem_cons_of_mem _ (List.mem_cons_self ..), hm⟩))⟩⟩
def O1 (x : Nat × List α) : Option (List α) := if x.1 = 1 ∨ x.1 = 2 then some x.2 else none
theorem Rst.sl {e' : TypeId} {r : Rp α} : Rst (Dp.sl e' r) (Rp.slice r) (fun x => x.2) O1 :=
  ⟨rfl, fun {w A A' x a} h ho hA hb => by
    unfold O1 at h
    split at h
    · rename_i hk
      cases h
      refine ⟨x.1, rfl, ?_⟩
      have ho : (LC e' r x).ok w A := ho
      have hb : ∀ b ∈ (LC e' r x).bl, A' b := hb
      unfold LC at ho hb
      by_cases c : x.2.1 = 2
      · rw [if_pos c] at ho hb
        exact D1.sl (show D1 w A e' r x.1 x.2.2 from ho) hA fun q hq => hb q (D5.2 hq)
      · rw [if_neg c, if_pos (by omega)] at ho
        exact (show Sl w A r x.1 x.2.2 from ho).stab fun b hb _ => ⟨hA b hb, rfl⟩
    · cases h⟩
theorem Stw.ddRest (R : Rst D r er g) {l0 : List π} (he : lx.map er = l0) (hg : Gf g l0 = some l) (h : Stw B M (Bj v e D lx :: Z) w) : Stw B M (row v e r l :: Z) w := by
  subst he
  have hsub : (AU M (row v e r l :: Z)).Sublist (AU M (Bj v e D lx :: Z)) := by
    unfold AU
    refine List.Sublist.append (List.Sublist.refl _) ?_
    rw [List.flatMap_cons, List.flatMap_cons]
    refine List.Sublist.append ?_ (List.Sublist.refl _)
    exact List.sublist_append_left (Gp v) _
  have hnd := (List.nodup_append.1 h.dSplit.nodup).2.1
  have hno : ∀ x ∈ lx, ∀ b ∈ (D.it x).bl, b ∉ AU M (row v e r l :: Z) := fun x hx b hb hm => by
    have hq : (AU M (Bj v e D lx :: Z)).Nodup := h.nodup
    have hp : (AU M (Bj v e D lx :: Z)).Perm ((EN (lx.map D.it)).bl ++ AU M (row v e r l :: Z)) := by
      unfold AU
      rw [List.flatMap_cons, List.flatMap_cons]
      have e1 : (Bj v e D lx).bl = Gp v ++ (EN (lx.map D.it)).bl := by
        show [row v e D.hr lx, EN (lx.map D.it)].flatMap It.bl = _
        simp only [List.flatMap_cons, List.flatMap_nil, List.append_nil]; rfl
      rw [e1, show (row v e r l).bl = Gp v from rfl]
      exact List.perm_iff_count.2 fun a => by simp only [List.count_append]; omega
    exact (List.nodup_append.1 (hp.nodup_iff.1 hq)).2.2 b (List.mem_flatMap.2 ⟨D.it x, List.mem_map.2 ⟨x, hx, rfl⟩, hb⟩) b hm rfl
  refine ⟨h.frm, fun q hq => h.own q (hsub.subset hq), h.at_, fun z hz => ?_, h.nodup.sublist hsub, h.disj⟩
  rcases List.mem_cons.1 hz with rfl | hz
  · refine JV R (h.items _ (List.mem_cons_self ..)) hg (fun b hb => hb.mono fun q hq => hsub.subset hq) fun x hx b hb => ⟨.inr (h.own b ?_), hno x hx b hb⟩
    exact Co (List.mem_cons_self ..) (Kg hx hb)
  · exact z.stab (h.items z (List.mem_cons_of_mem _ hz)) (fun b hA _ => ⟨hA.mono fun q hq => hsub.subset hq, rfl⟩) fun _ _ => rfl
theorem LE.plain (R : Rst D r er g) {l0 : List π} (he : lx.map er = l0) (hg : Gf g l0 = some l) (h : LE B M Z e D v lx) : CZ B M Z r v l := fun w hw => by
  subst he
  exact M7 R (h w hw) hg (fun _ _ => trivial) fun _ _ => trivial
end
structure Nl (D : Dp δ) (z : δ) : Prop where
  bl : (D.it z).bl = []
  ok : ∀ w A, (D.it z).ok w A
theorem Nl.fl {n : Nat} {enc : α → List Value} {hn : ∀ a, (enc a).length = n} (a : α) : Nl (Dp.fl n enc hn) a := ⟨rfl, fun _ _ => trivial⟩
theorem Nl.pair {z : δ} {y : ε} (h : Nl D z) (k : Nl E y) : Nl (D.pair E) (z, y) := by
  have hb : ([D.it z, E.it y].flatMap It.bl) = [] := by simp [h.bl, k.bl]
  refine ⟨hb, fun w A => ⟨fun q hq => ?_, by rw [hb]; exact List.nodup_nil⟩⟩
  rcases List.mem_cons.1 hq with rfl | hq
  · exact h.ok w A
  · rcases List.mem_cons.1 hq with rfl | hq
    · exact k.ok w A
    · cases hq
theorem Nl.sl {e' : TypeId} {r : Rp α} : Nl (Dp.sl e' r) (.slice none 0 0, 2, []) := by
  have h : (Dp.sl e' r).it (.slice none 0 0, 2, []) = row (.slice none 0 0) e' r [] := JE
  exact ⟨by rw [h]; exact Jk none 0, fun w A => by rw [h]; exact .inl ⟨none, rfl, rfl⟩⟩
theorem Stw.nlZ {z : δ} (h : Stw B M Z w) (k : Nl D z) : Stw B M (D.it z :: Z) w := by
  have hbl : AU M (D.it z :: Z) = AU M Z := by unfold AU; rw [List.flatMap_cons, k.bl]; rfl
  refine ⟨h.frm, by rw [hbl]; exact h.own, h.at_, fun y hy => ?_, by rw [hbl]; exact h.nodup, h.disj⟩
  rw [hbl]
  rcases List.mem_cons.1 hy with rfl | hy
  · exact k.ok _ _
  · exact h.items y hy
theorem Stw.dNil (h : Stw B M Z w) (e : TypeId) (D : Dp δ) : Stw B M (Bj (.slice none 0 0) e D [] :: Z) w :=
  Stw.dShut (lx := []) ((h.bagNil).emptyRow none e D.hr)
theorem Stw.dShutL (h : Stw B M (row v e D.hr lx :: (lx.map D.it ++ Z)) w) : Stw B M (Bj v e D lx :: Z) w := by
  have h1 : Stw B M (lx.map D.it ++ row v e D.hr lx :: Z) w := h.permZ List.perm_middle.symm
  exact h1.bagShut.swapZ.dShut
theorem Stw.bagMerge {its jts : List It} (h : Stw B M (EN its :: EN jts :: Z) w) : Stw B M (EN (its ++ jts) :: Z) w := by
  have h1 : Stw B M (its ++ EN jts :: Z) w := h.bagOpen
  have h2 : Stw B M (EN jts :: (its ++ Z)) w := h1.permZ List.perm_middle
  have h3 : Stw B M (jts ++ (its ++ Z)) w := h2.bagOpen
  refine Stw.bagShut (its := its ++ jts) (h3.permZ ?_)
  rw [← List.append_assoc]
  exact List.perm_append_comm.append_right _
end
section
variable {P : Program} {B : Bs} {M M' : BR} {Z Z' Z1 Z2 : List It} {n : Nat} {ds : List Deferred} {F F' : List (Nat × Value)} {a : Act} {w w' : World}
variable {ops : Array Oper} {Q : Exit → Act → World → Prop} {rest : List Oper} {o : Oper}
variable {dst : Option Tmp} {ty : TypeId} {pos : String} {aft : Array Edge} {g : Option (Nat × Bool)}
variable {δ σ : Type} {D : Dp δ} {S : Dp σ} {lx ly l3 : List δ} {v u : Value} {x x' : δ} {i : Int} {t e by_ : Nat}
theorem Je {t : TypeId} {s q : Operand} {agg : Bool} {sz off j : Nat} {vs : List Value} {y : Value} (hF : Fr n ds F a) (hW : Stw B M (Bj v e D lx :: Z1) w) (hx : Du F s = some (.pointer (some ⟨HP v, off, none⟩))) (hy : Du F q = some y)
    (ho : off = EE v + i.toNat * D.sz + j) (hi : ix lx i = some x) (T : Ty P t agg sz) (hv : y.cells.toList = vs) (hsz : vs.length = sz) (hle : Nat.ble (j + vs.length) D.sz = true) (h1 : vs.all (·.oneCell') = true)
    (hc : ED (D.cells x) j vs = D.cells x') (hb : ∀ w, Stw B M (EN (lx.map D.it) :: row v e D.hr lx :: Z1) w → Stw B M (EN ((Ax lx i x').map D.it) :: row v e D.hr lx :: Z2) w)
    (kk : ∀ w', Stw B M (Bj v e D (Ax lx i x') :: Z2) w' → wpList P ops Q rest a w') : wpList P ops Q (⟨none, .store t s q, ty, pos, aft, none⟩ :: rest) a w :=
  FS (r := D.hr) (i := i) (j := j) (x' := x') (k := 0) hF (hb w hW.dSplit.swapZ).swapZ hx hy ho rfl rfl hi T hv hsz hle h1 (fun A cs _ hr => N0 hr hc h1) fun w' hW => kk w' hW.dShut
theorem Gw {t : TypeId} {s q : Operand} {agg : Bool} {sz off j : Nat} {vs : List Value} {y : Value} (hF : Fr n ds F a) (hW : Stw B M (Bj v e D lx :: Z1) w) (hx : Du F s = some (.pointer (some ⟨HP v, off, none⟩))) (hy : Du F q = some y)
    (ho : off = EE v + i.toNat * D.sz + j) (hi : ix lx i = some x) (T : Ty P t agg sz) (hv : y.cells.toList = vs) (hsz : vs.length = sz) (hle : Nat.ble (j + vs.length) D.sz = true) (h1 : vs.all (·.oneCell') = true)
    (hc : ED (D.cells x) j vs = D.cells x') (hb : D.it x' = D.it x)
    (kk : ∀ w', Stw B M (Bj v e D (Ax lx i x') :: Z1) w' → wpList P ops Q rest a w') : wpList P ops Q (⟨none, .store t s q, ty, pos, aft, none⟩ :: rest) a w :=
  Je hF hW hx hy ho hi T hv hsz hle h1 hc (fun w h => by rw [ML hi hb]; exact h) kk
theorem Kt {t : TypeId} {s q : Operand} {agg : Bool} {off j : Nat} {y : Value} {b : σ} (f : Foc D S) (hF : Fr n ds F a) (hW : Stw B M (S.it b :: Bj v e D lx :: Z1) w) (hx : Du F s = some (.pointer (some ⟨HP v, off, none⟩))) (hy : Du F q = some y)
    (ho : off = EE v + i.toNat * D.sz + j) (hi : ix lx i = some x) (T : Ty P t agg 1) (hv : y.cells.toList = [y]) (hle : Nat.ble (j + 1) D.sz = true) (h1 : y.oneCell' = true)
    (hc : ED (D.cells x) j [y] = D.cells (f.put x b))
    (kk : ∀ w', Stw B M (Bj v e D (Ax lx i (f.put x b)) :: Z1) w' → wpList P ops Q rest a w') : wpList P ops Q (⟨none, .store t s q, ty, pos, aft, none⟩ :: rest) a w :=
  Je (Z1 := S.it b :: Z1) hF hW.swapZ hx hy ho hi T hv rfl hle (by simp [h1]) hc (fun w h => by
    have h2 := (h.itTake hi)
    have h3 : Stw B M (S.it b :: D.it x :: EN ((lx.map D.it).set i.toNat LB) :: row v e D.hr lx :: Z1) w := h2.frontZ (i := 3) rfl rfl
    exact (f.shut h3).itPut hi) kk
theorem KD {s q : Operand} {d : Nat} (hF : Fr n ds F a) (hW : Stw B M (Bj v e D lx :: Bj u e D ly :: Z) w) (hn : Nat.blt d n = true) (E : Et P t e D.sz by_) (hs : Du F s = some v) (hx : Du F q = some u) (hap : FR lx ly = some l3) (hby : Nat.ble by_ 100000 = true)
    (k : ∀ v' a' w', Fr n ds ((d, v') :: F) a' → Stw B M (Bj v' e D l3 :: Z) w' → wpList P ops Q rest a' w') :
    wpList P ops Q (⟨some d, .call ⟨.builtin .append, #[s, q], #[t, t]⟩, ty, pos, aft, none⟩ :: rest) a w := by
  have h1 : Stw B M (Bj u e D ly :: row v e D.hr lx :: EN (lx.map D.it) :: Z) w := hW.dSplit.frontZ (i := 2) rfl rfl
  have h2 : Stw B M (row v e D.hr lx :: row u e D.hr ly :: EN (ly.map D.it) :: EN (lx.map D.it) :: Z) w := h1.dSplit.frontZ (i := 2) rfl rfl
  refine Cz (r := D.hr) (i := 0) hF h2 hn E hs hx rfl rfl (C7 h2 1 rfl) hap hby fun v' a' w' hF hW => k v' a' w' hF ?_
  have h3 : Stw B M (EN (lx.map D.it) :: EN (ly.map D.it) :: row v' e D.hr l3 :: Z) w' := by
    have h4 : Stw B M (row u e D.hr ly :: row v' e D.hr l3 :: EN (ly.map D.it) :: EN (lx.map D.it) :: Z) w' := hW.swapZ
    have h5 : Stw B M (EN (lx.map D.it) :: row v' e D.hr l3 :: EN (ly.map D.it) :: Z) w' := h4.tailZ.frontZ (i := 2) rfl rfl
    exact (h5.frontZ (i := 2) rfl rfl).swapZ
  have h6 := h3.bagMerge
  obtain ⟨_, rfl⟩ := Il hap
  rw [← List.map_append] at h6
  exact h6.swapZ.dShut
theorem Md {π : Type} {er : δ → π} {l m k : List π} (h1 : lx.map er = l) (h2 : ly.map er = m) (h : FR l m = some k) : FR lx ly = some (lx ++ ly) ∧ (lx ++ ly).map er = k := by
  obtain ⟨hl, rfl⟩ := Il h
  subst h1 h2
  exact ⟨by unfold FR; rw [if_pos (by simpa using hl)], by simp⟩
theorem IH {π : Type} {er : δ → π} {l : List π} {b : π} (h1 : lx.map er = l) (h2 : er x' = b) : (Ax lx i x').map er = Ax l i b := by
  subst h1 h2; exact LG er lx i x'
theorem Ns {π : Type} {er : δ → π} {l : List π} {s : Operand} {ts : Array TypeId} (he : lx.map er = l) (ht : P.underlying t = some (.slice e)) (hts : ts[0]? = some t) (hF : Fr n ds F a) (hx : Du F s = some v) (hR : CZ B M Z D.hr v lx) :
    Yx P B M Z a ⟨dst, .call ⟨.builtin .len, #[s], ts⟩, ty, pos, aft, g⟩ (.int .i64 (l.length : Int)) := by
  have h := A7 (dst := dst) (ty := ty) (pos := pos) (aft := aft) (g := g) ht hts hF hx hR
  rw [← he, List.length_map]; exact h
def MA (k : Nat) : Option Unit := if k = 2 then some () else none
theorem Nw {k : Nat} {u : Unit} (h : MA k = some u) : k = 2 := by unfold MA at h; split at h <;> first | assumption | cases h
theorem Stw.dTakeR {α : Type} {r : Rp α} {e' : TypeId} {l : List α} (h : Stw B M (Bj v e D lx :: Z) w) (hi : ix lx i = some x) (f : Foc D (Dp.sl e' r)) (hx : (f.get x).2 = (2, l)) : Stw B M (row (f.get x).1 e' r l :: Bj v e D (Ax lx i (f.put x ((f.get x).1, 0, []))) :: Z) w := by
  have h1 := h.dTake hi f ((f.get x).1, 0, []) (show LC e' r ((f.get x).1, 0, []) = LB from Ng) rfl
  have h2 : (Dp.sl e' r).it (f.get x) = row (f.get x).1 e' r l := by
    show LC e' r (f.get x) = _
    generalize f.get x = q at hx
    obtain ⟨v, k, m⟩ := q
    cases hx
    exact JE
  rw [h2] at h1; exact h1
theorem Stw.toR {α : Type} {r : Rp α} {e' : TypeId} {l : List α} {u : Value} (h : Stw B M (row u e' r l :: Z) w) : Stw B M ((Dp.sl e' r).it (u, 2, l) :: Z) w := by show Stw B M (LC e' r (u, 2, l) :: _) w; rw [JE]; exact h
theorem Stw.pairZ {δ ε : Type} {D : Dp δ} {E : Dp ε} {p : δ} {q : ε} (h : Stw B M (D.it p :: E.it q :: Z) w) : Stw B M ((D.pair E).it (p, q) :: Z) w := Stw.bagShut (its := [_, _]) h
theorem Stw.oneD (h : Stw B M Z w) (k : Nat) (hZ : Z[k]? = some (Bj v e D lx)) : v.oneCell' = true := (HW (h.item hZ)).one
theorem KeyEnc.int {k : TypeId} {kk : IntKind} (hu : P.underlying k = some (.int kk)) : KeyEnc P k (fun x : Int => .int kk x) :=
  ⟨⟨_, hu, .inr fun x y => by show (if kk = kk then some (x == y) else none) = _; rw [if_pos rfl]; rfl⟩, fun x y w => by
    unfold Op.equal
    rw [show Op.maxDepth = 9999 + 1 from rfl, run_equalIn_int w 9999 k kk kk x y hu]
    congr 1, fun b x w => FK (m := 9999) hu b w, fun x => by simp [Instr.sameBits]⟩
end
end Go.Proofs.Ytflaelbmglmmcaa
