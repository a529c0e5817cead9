/- Rows whose elements own rows, at any depth: elements seen with the values of their slices, and whether these are one's own. Conditions: none. -/
import Derived.Test.YthmpfhjdodfchaaOW
import Derived.Test.YthmpfhjdodfchaaOX
namespace Go.Proofs.Ythmpfhjdodfchaa
set_option linter.unusedVariables false
set_option linter.unusedSimpArgs false
set_option linter.unusedSectionVars false
open Go Go.RowKit

/-! ### Elements -/
/-- How an element lies, as far as its own cells say; and what is known of the memory that it owns. -/
structure Dp (δ : Type) where
  sz : Nat
  cells : δ → List Value
  it : δ → It
  len : ∀ x, (cells x).length = sz
/-- The cells alone. -/
def Dp.hr {δ : Type} (D : Dp δ) : Rp δ :=
  ⟨D.sz, fun _ _ cs x => cs = D.cells x ∧ (D.cells x).all (·.oneCell') = true, fun h => by rw [h.1, D.len], fun h => by rw [h.1]; exact h.2, fun h _ => h⟩
theorem Dp.flat {δ : Type} (D : Dp δ) : Flat D.hr D.cells := fun h => h.1
def drow {δ : Type} (v : Value) (e : TypeId) (D : Dp δ) (lx : List δ) : It := bag [row v e D.hr lx, bag (lx.map D.it)]
def Dp.fl {α : Type} (n : Nat) (enc : α → List Value) (hn : ∀ a, (enc a).length = n) : Dp α := ⟨n, enc, fun _ => emp, hn⟩
def Dp.pair {δ ε : Type} (D : Dp δ) (E : Dp ε) : Dp (δ × ε) :=
  ⟨D.sz + E.sz, fun x => D.cells x.1 ++ E.cells x.2, fun x => bag [D.it x.1, E.it x.2], fun x => by rw [List.length_append, D.len, E.len]⟩
def Dp.sl {α : Type} (e : TypeId) (r : Rp α) : Dp (De α) := ⟨1, fun x => [x.1], dIt e r, fun _ => rfl⟩
def ddIt {δ : Type} (e : TypeId) (D : Dp δ) (x : De δ) : It := if x.2.1 = 2 then drow x.1 e D x.2.2 else emp
def Dp.dl {δ : Type} (e : TypeId) (D : Dp δ) : Dp (De δ) := ⟨1, fun x => [x.1], ddIt e D, fun _ => rfl⟩
theorem ddIt_own {δ : Type} {e : TypeId} {D : Dp δ} {v : Value} {l : List δ} : ddIt e D (v, 2, l) = drow v e D l := by unfold ddIt; rw [if_pos rfl]
theorem ddIt_emp {δ : Type} {e : TypeId} {D : Dp δ} {v : Value} {l : List δ} : ddIt e D (v, 0, l) = emp := by unfold ddIt; rw [if_neg (by show ¬ (0 : Nat) = 2; decide)]

section
variable {δ ε σ α : Type} {D : Dp δ} {E : Dp ε} {S : Dp σ} {B : Bs} {w w' : World} {M M' : Blks} {Z Z' Z1 : List It} {v u : Value} {e : TypeId} {lx ly : List δ} {x x' : δ} {i : Int}
theorem Stw.dSplit (h : Stw B M (drow v e D lx :: Z) w) : Stw B M (row v e D.hr lx :: bag (lx.map D.it) :: Z) w := h.bagOpen
theorem Stw.dShut (h : Stw B M (row v e D.hr lx :: bag (lx.map D.it) :: Z) w) : Stw B M (drow v e D lx :: Z) w := Stw.bagShut (its := [_, _]) h
theorem Stw.swapZ {a b : It} (h : Stw B M (a :: b :: Z) w) : Stw B M (b :: a :: Z) w := h.permZ (List.Perm.swap _ _ _)
theorem Stw.rotZ {a b c : It} (h : Stw B M (a :: b :: c :: Z) w) : Stw B M (b :: c :: a :: Z) w := h.permZ ((List.Perm.swap _ _ _).trans ((List.Perm.swap _ _ _).cons _))
theorem Stw.rotZ' {a b c : It} (h : Stw B M (b :: c :: a :: Z) w) : Stw B M (a :: b :: c :: Z) w := h.permZ (((List.Perm.swap _ _ _).cons _).trans (List.Perm.swap _ _ _))
theorem Stw.tailZ {a : It} (h : Stw B M (a :: Z) w) : Stw B M Z w := h.sub (List.Sublist.refl _) (List.sublist_cons_self _ _)
/-- Two of a kind that follow each other are one. -/
theorem Stw.under {a b c : It} (h : Stw B M (a :: b :: c :: Z) w) : Stw B M (a :: bag [b, c] :: Z) w := (Stw.bagShut (its := [b, c]) h.rotZ).swapZ

/-! ### A slice within an element -/
structure Foc (D : Dp δ) (S : Dp σ) where
  get : δ → σ
  put : δ → σ → δ
  cl : ∀ x y, S.cells y = S.cells (get x) → D.cells (put x y) = D.cells x
  op : ∀ {B : Bs} {M : Blks} {Z : List It} {w : World} {x : δ} (y : σ), Stw B M (D.it x :: Z) w → S.it y = emp → Stw B M (S.it (get x) :: D.it (put x y) :: Z) w
  shut : ∀ {B : Bs} {M : Blks} {Z : List It} {w : World} {x : δ} {y : σ}, Stw B M (S.it y :: D.it x :: Z) w → Stw B M (D.it (put x y) :: Z) w
  okk : ∀ {w : World} {A : Nat → Prop} {x : δ}, (D.it x).ok w A → (S.it (get x)).ok w A
def Foc.here : Foc S S := ⟨fun x => x, fun _ y => y, fun x y h => h, fun y h hy => by rw [hy]; exact h.addEmp.swapZ, fun h => h.swapZ.tailZ, fun h => h⟩
def Foc.fst (f : Foc D S) : Foc (D.pair E) S :=
  ⟨fun x => f.get x.1, fun x y => (f.put x.1 y, x.2), fun x y h => congrArg (· ++ E.cells x.2) (f.cl x.1 y h),
   fun y h hy => (f.op y (h : Stw _ _ (bag [_, _] :: _) _).bagOpen hy).under,
   fun {B M Z w x y} h => by
    have h1 : Stw B M (D.it x.1 :: E.it x.2 :: S.it y :: Z) w := Stw.bagOpen (its := [_, _]) (h : Stw B M (S.it y :: bag [_, _] :: Z) w).swapZ
    exact Stw.bagShut (its := [_, _]) (f.shut h1.rotZ'),
   fun h => f.okk (h.1 _ (List.mem_cons_self ..))⟩
def Foc.snd (f : Foc E S) : Foc (D.pair E) S :=
  ⟨fun x => f.get x.2, fun x y => (x.1, f.put x.2 y), fun x y h => congrArg (D.cells x.1 ++ ·) (f.cl x.2 y h),
   fun {B M Z w x} y h hy => by
    have h1 : Stw B M (D.it x.1 :: E.it x.2 :: Z) w := (h : Stw B M (bag [_, _] :: Z) w).bagOpen
    have h2 := f.op y h1.swapZ hy
    exact (h2.permZ ((List.Perm.swap _ _ _).cons _)).under,
   fun {B M Z w x y} h => by
    have h1 : Stw B M (D.it x.1 :: E.it x.2 :: S.it y :: Z) w := Stw.bagOpen (its := [_, _]) (h : Stw B M (S.it y :: bag [_, _] :: Z) w).swapZ
    have h2 : Stw B M (S.it y :: E.it x.2 :: D.it x.1 :: Z) w := h1.permZ ((List.Perm.swap _ _ _).trans (((List.Perm.swap _ _ _).cons _).trans (List.Perm.swap _ _ _)))
    exact Stw.bagShut (its := [_, _]) (f.shut h2).swapZ,
   fun h => f.okk (h.1 _ (List.mem_cons_of_mem _ (List.mem_cons_self ..)))⟩

/-! ### What can be read -/
/-- A deep row, somewhere. -/
def Rdd (B : Bs) (M : Blks) (Z : List It) (e : TypeId) (D : Dp δ) (v : Value) (lx : List δ) : Prop := ∀ w, Stw B M Z w → (drow v e D lx).ok w any
theorem It.any {z : It} {A : Nat → Prop} (h : z.ok w A) : z.ok w any := z.stab h (fun _ _ _ => ⟨trivial, rfl⟩) fun _ _ => rfl
theorem rdd_top (k : Nat) (hZ : Z[k]? = some (drow v e D lx)) : Rdd B M Z e D v lx := fun w hw => It.any (z := drow v e D lx) (hw.item hZ)
theorem rdd_m (h : drow v e D lx ∈ Z) : Rdd B M Z e D v lx := by
  obtain ⟨k, hk⟩ := List.mem_iff_getElem?.1 h
  exact rdd_top k hk
theorem drow_hd {A : Nat → Prop} (h : (drow v e D lx).ok w A) : Own w A e D.hr v lx := h.1 _ (List.mem_cons_self ..)
theorem drow_el {A : Nat → Prop} (h : (drow v e D lx).ok w A) (hi : ix lx i = some x) : (D.it x).ok w A :=
  (show (bag (lx.map D.it)).ok w A from h.1 _ (List.mem_cons_of_mem _ (List.mem_cons_self ..))).1 _ (List.mem_map.2 ⟨x, mem_of_get (ix_lt hi).2.2, rfl⟩)
theorem Rdd.hd (h : Rdd B M Z e D v lx) : Rdc B M Z D.hr v lx := fun w hw => (drow_hd (h w hw)).sl (fun _ _ => trivial) fun _ _ => trivial
theorem Rdd.one (h : Rdd B M Z e D v lx) (hw : Stw B M Z w) : v.oneCell' = true := (drow_hd (h w hw)).one
/-- A slice of plain elements within. -/
theorem Rdd.sl {r : Rp α} {e' : TypeId} (h : Rdd B M Z e D v lx) (hi : ix lx i = some x) (f : Foc D (Dp.sl e' r)) {l : List α} {k : Nat} (hx : (f.get x).2 = (k, l)) (hk : k = 1 ∨ k = 2) : Rdc B M Z r (f.get x).1 l := fun w hw => by
  have h1 := f.okk (drow_el (h w hw) hi)
  have h2 : (f.get x).2.2 = l := by rw [hx]
  have h3 : (f.get x).2.1 = k := by rw [hx]
  rw [← h2]
  exact dIt_sl h1 (by rw [h3]; omega) (by rw [h3]; omega)
/-- A deep row within. -/
theorem Rdd.dl {D' : Dp ε} {e' : TypeId} (h : Rdd B M Z e D v lx) (hi : ix lx i = some x) (f : Foc D (Dp.dl e' D')) (hk : (f.get x).2.1 = 2) : Rdd B M Z e' D' (f.get x).1 (f.get x).2.2 := fun w hw => by
  have h1 : (ddIt e' D' (f.get x)).ok w any := f.okk (drow_el (h w hw) hi)
  unfold ddIt at h1
  rw [if_pos hk] at h1
  exact h1

/-! ### Taking out, putting in -/
theorem ix_setAt {l : List α} {i : Int} {a b : α} (h : ix l i = some a) : ix (setAt l i b) i = some b := by
  obtain ⟨h0, hk, hx⟩ := ix_lt h
  unfold ix setAt
  rw [if_pos h0, List.getElem?_set_self hk]
theorem setAt_setAt {l : List α} {i : Int} {a b : α} : setAt (setAt l i a) i b = setAt l i b := by unfold setAt; rw [List.set_set]
theorem setAt_self {l : List α} {i : Int} {a : α} (h : ix l i = some a) : setAt l i a = l := by
  obtain ⟨h0, hk, hx⟩ := ix_lt h
  unfold setAt
  refine List.ext_getElem? fun j => ?_
  by_cases hj : i.toNat = j
  · subst hj; rw [List.getElem?_set_self hk, hx]
  · rw [List.getElem?_set_ne hj]
theorem RepL.re {r : Rp α} {A : Nat → Prop} {a b : α} (hr : ∀ cs, r.rep w A cs a → r.rep w A cs b) : ∀ {l : List α} {xs : List Value} {k : Nat}, RepL r w A xs l → l[k]? = some a → RepL r w A xs (l.set k b)
  | [], xs, k, h, hk => by simp at hk
  | y :: l, xs, 0, ⟨cs, ys, he, h1, h2⟩, hk => by
    simp at hk; subst hk
    exact ⟨cs, ys, he, hr cs h1, h2⟩
  | y :: l, xs, k + 1, ⟨cs, ys, he, h1, h2⟩, hk => by
    simp at hk
    exact ⟨cs, ys, he, h1, RepL.re hr h2 hk⟩
theorem Own.re {r : Rp α} {A : Nat → Prop} {l : List α} {a b : α} (h : Own w A e r v l) (hi : ix l i = some a) (hr : ∀ cs, r.rep w A cs a → r.rep w A cs b) : Own w A e r v (setAt l i b) := by
  obtain ⟨h0, hk, hx⟩ := ix_lt hi
  rcases h with ⟨ad, rfl, rfl⟩ | ⟨g, off, cap, cur, xs, rfl, hp, hb, h1, h2, h3, h4, h5⟩
  · simp at hk
  · exact .inr ⟨g, off, cap, cur, xs, by simp [setAt], hp, hb, by simpa [setAt] using h1, h2, h3, by simpa [setAt] using h4, RepL.re hr h5 hx⟩
theorem Stw.hdSame (h : Stw B M (row v e D.hr lx :: Z) w) (hi : ix lx i = some x) (hc : D.cells x' = D.cells x) : Stw B M (row v e D.hr (setAt lx i x') :: Z) w :=
  h.itemSame (z := row v e D.hr lx) (z' := row v e D.hr (setAt lx i x')) rfl fun A ho => Own.re (show Own w A e D.hr v lx from ho) hi fun cs hx => ⟨hx.1.trans hc.symm, by rw [hc]; exact hx.2⟩
theorem Stw.itTake (h : Stw B M (bag (lx.map D.it) :: Z) w) (hi : ix lx i = some x) : Stw B M (D.it x :: bag ((lx.map D.it).set i.toNat emp) :: Z) w := by
  obtain ⟨h0, hk, hx⟩ := ix_lt hi
  exact h.bagTake (by rw [List.getElem?_map, hx]; rfl)
theorem Stw.itPut {z : It} (h : Stw B M (D.it x' :: bag ((lx.map D.it).set i.toNat z) :: Z) w) (hi : ix lx i = some x) : Stw B M (bag ((setAt lx i x').map D.it) :: Z) w := by
  obtain ⟨h0, hk, hx⟩ := ix_lt hi
  have h1 := h.bagPut (i := i.toNat) (x := z) (by rw [List.getElem?_set_self (by simpa using hk)])
  rw [List.set_set] at h1
  unfold setAt
  rw [List.map_set]; exact h1
/-- A slice is taken out of an element; a hole is left. -/
theorem Stw.dTake (h : Stw B M (drow v e D lx :: Z) w) (hi : ix lx i = some x) (f : Foc D S) (y : σ) (hy : S.it y = emp) (hc : S.cells y = S.cells (f.get x)) : Stw B M (S.it (f.get x) :: drow v e D (setAt lx i (f.put x y)) :: Z) w := by
  have h1 := (h.dSplit.hdSame hi (f.cl x y hc)).swapZ.itTake hi
  have h2 := f.op y h1 hy
  have h3 : Stw B M (D.it (f.put x y) :: bag ((lx.map D.it).set i.toNat emp) :: S.it (f.get x) :: row v e D.hr (setAt lx i (f.put x y)) :: Z) w := h2.rotZ
  have h4 := h3.itPut hi
  exact (h4.frontZ (i := 2) rfl rfl).dShut.swapZ
/-- A slice is put into an element, where it has been. -/
theorem Stw.dPut {y : σ} (h : Stw B M (S.it y :: drow v e D lx :: Z) w) (hi : ix lx i = some x) (f : Foc D S) (hc : S.cells y = S.cells (f.get x)) : Stw B M (drow v e D (setAt lx i (f.put x y)) :: Z) w := by
  have h1 : Stw B M (row v e D.hr lx :: bag (lx.map D.it) :: S.it y :: Z) w := h.swapZ.dSplit
  have h2 := (h1.hdSame hi (f.cl x y hc)).swapZ.itTake hi
  have h3 : Stw B M (S.it y :: D.it x :: bag ((lx.map D.it).set i.toNat emp) :: row v e D.hr (setAt lx i (f.put x y)) :: Z) w := h2.frontZ (i := 3) rfl rfl
  exact ((f.shut h3).itPut hi).swapZ.dShut
theorem bag_same (hi : ix lx i = some x) (h : D.it x' = D.it x) : (setAt lx i x').map D.it = lx.map D.it := by
  obtain ⟨h0, hk, hx⟩ := ix_lt hi
  unfold setAt
  rw [List.map_set, h]
  refine List.ext_getElem? fun j => ?_
  by_cases hj : i.toNat = j
  · subst hj; rw [List.getElem?_set_self (by simpa using hk), List.getElem?_map, hx]; rfl
  · rw [List.getElem?_set_ne hj]
theorem putL_one : ∀ {vs cs : List Value} {j : Nat}, cs.all (·.oneCell') = true → vs.all (·.oneCell') = true → (putL cs j vs).all (·.oneCell') = true
  | [], cs, j, h, _ => h
  | v :: vs, cs, j, h, h1 => by
    simp only [putL]
    simp only [List.all_cons, Bool.and_eq_true] at h1
    refine putL_one ?_ h1.2
    rw [List.all_eq_true]
    intro u hu
    rcases List.mem_or_eq_of_mem_set hu with hu | rfl
    · exact List.all_eq_true.1 h u hu
    · exact h1.1
theorem hr_put {A : Nat → Prop} {cs vs : List Value} {j : Nat} (hx : D.hr.rep w A cs x) (hc : putL (D.cells x) j vs = D.cells x') (h1 : vs.all (·.oneCell') = true) : D.hr.rep w A (putL cs j vs) x' :=
  ⟨by rw [hx.1]; exact hc, by rw [← hc]; exact putL_one hx.2 h1⟩

/-! ### A row comes to rest -/
def restL {π α : Type} (g : π → Option α) : List π → Option (List α)
  | [] => some []
  | x :: l => (g x).bind fun a => (restL g l).bind fun m => some (a :: m)
structure Rst {π : Type} (D : Dp δ) (r : Rp α) (er : δ → π) (g : π → Option α) : Prop where
  sz : r.sz = D.sz
  to : ∀ {w : World} {A A' : Nat → Prop} {x : δ} {a : α}, g (er x) = some a → (D.it x).ok w A → (∀ b, A b → A' b) → (∀ b ∈ (D.it x).bl, A' b) → r.rep w A' (D.cells x) a
section
variable {π : Type} {r : Rp α} {er : δ → π} {g : π → Option α} {l : List α} {A A' : Nat → Prop}
theorem RepL.rest (R : Rst D r er g) (hA : ∀ b, A b → A' b) : ∀ {lx : List δ} {l : List α} {xs : List Value}, RepL D.hr w A xs lx → (∀ x ∈ lx, (D.it x).ok w A) → (∀ x ∈ lx, ∀ b ∈ (D.it x).bl, A' b) → restL g (lx.map er) = some l → RepL r w A' xs l
  | [], l, xs, h, _, _, hg => by cases hg; exact h
  | x :: lx, l, xs, ⟨cs, ys, he, h1, h2⟩, ho, hb, hg => by
    obtain ⟨a, ha, hg⟩ := bindE hg
    obtain ⟨m, hm, hg⟩ := bindE hg
    cases hg
    refine ⟨cs, ys, he, ?_, RepL.rest R hA h2 (fun y hy => ho y (List.mem_cons_of_mem _ hy)) (fun y hy => hb y (List.mem_cons_of_mem _ hy)) hm⟩
    rw [h1.1]
    exact R.to ha (ho x (List.mem_cons_self ..)) hA (hb x (List.mem_cons_self ..))
theorem restL_len : ∀ {l : List π} {m : List α}, restL g l = some m → m.length = l.length
  | [], m, h => by cases h; rfl
  | x :: l, m, h => by
    obtain ⟨a, ha, h⟩ := bindE h
    obtain ⟨k, hm, h⟩ := bindE h
    cases h
    simp [restL_len hm]
theorem drow_own (R : Rst D r er g) (h : (drow v e D lx).ok w A) (hg : restL g (lx.map er) = some l) (hA : ∀ b, A b → A' b) (hb : ∀ x ∈ lx, ∀ b ∈ (D.it x).bl, A' b) : Own w A' e r v l := by
  have hit : ∀ x ∈ lx, (D.it x).ok w A := fun x hx => (show (bag (lx.map D.it)).ok w A from h.1 _ (List.mem_cons_of_mem _ (List.mem_cons_self ..))).1 _ (List.mem_map.2 ⟨x, hx, rfl⟩)
  have hl := restL_len hg
  rw [List.length_map] at hl
  rcases drow_hd h with ⟨ad, rfl, rfl⟩ | ⟨b, off, cap, cur, xs, rfl, hp, hbk, h1, h2, h3, h4, h5⟩
  · cases hg; exact .inl ⟨ad, rfl, rfl⟩
  · refine .inr ⟨b, off, cap, cur, xs, by rw [hl], hp, hbk, by rw [hl]; exact h1, h2, by rw [R.sz]; exact h3, by rw [R.sz, hl]; exact h4, RepL.rest R hA h5 hit hb hg⟩
theorem mem_drow {y : Nat} {x : δ} (hx : x ∈ lx) (hb : y ∈ (D.it x).bl) : y ∈ (drow v e D lx).bl :=
  List.mem_flatMap.2 ⟨bag (lx.map D.it), List.mem_cons_of_mem _ (List.mem_cons_self ..), List.mem_flatMap.2 ⟨D.it x, List.mem_map.2 ⟨x, hx, rfl⟩, hb⟩⟩
theorem mem_drow0 {y : Nat} (hb : y ∈ ownE v) : y ∈ (drow v e D lx).bl := List.mem_flatMap.2 ⟨row v e D.hr lx, List.mem_cons_self .., hb⟩
theorem drow_sl (R : Rst D r er g) (h : (drow v e D lx).ok w A) (hg : restL g (lx.map er) = some l) (hA : ∀ b, A b → A' b) (hb : ∀ b ∈ (drow v e D lx).bl, A' b) : Sl w A' r v l :=
  (drow_own R h hg hA fun x hx b hm => hb b (mem_drow hx hm)).sl (fun _ h => h) fun q hq => hb q (mem_drow0 (mem_ownE.2 hq))
theorem Rst.flat {enc : α → List Value} (F : Fl r enc) {n : Nat} (hn : ∀ a, (enc a).length = n) (hs : r.sz = n) : Rst (Dp.fl n enc hn) r (fun a => a) some :=
  ⟨hs, fun {w A A' x a} h _ _ _ => by cases h; exact F.mk' w A' x⟩
theorem Rst.pair {β ρ : Type} {s : Rp β} {es : ε → ρ} {k : ρ → Option β} (R : Rst D r er g) (T : Rst E s es k) : Rst (D.pair E) (r.pair s) (fun x => (er x.1, es x.2)) (fun p => (g p.1).bind fun a => (k p.2).bind fun b => some (a, b)) :=
  ⟨by show r.sz + s.sz = D.sz + E.sz; rw [R.sz, T.sz], fun {w A A' x a} h ho hA hb => by
    obtain ⟨a1, h1, h⟩ := bindE h
    obtain ⟨a2, h2, h⟩ := bindE h
    cases h
    exact ⟨_, _, rfl, R.to h1 (ho.1 _ (List.mem_cons_self ..)) hA (fun b hm => hb b (List.mem_flatMap.2 ⟨_, List.mem_cons_self .., hm⟩)), T.to h2 (ho.1 _ (List.mem_cons_of_mem _ (List.mem_cons_self ..))) hA (fun b hm => hb b (List.mem_flatMap.2 ⟨_, List.mem_cons_of_mem _ (List.mem_cons_self ..), hm⟩))⟩⟩
def rsl (x : Nat × List α) : Option (List α) := if x.1 = 1 ∨ x.1 = 2 then some x.2 else none
def rdl {π : Type} (g : π → Option α) (x : Nat × List π) : Option (List α) := if x.1 = 2 then restL g x.2 else none
theorem Rst.sl {e' : TypeId} {r : Rp α} : Rst (Dp.sl e' r) (Rp.slice r) (fun x => x.2) rsl :=
  ⟨rfl, fun {w A A' x a} h ho hA hb => by
    unfold rsl at h
    split at h
    · rename_i hk
      cases h
      refine ⟨x.1, rfl, ?_⟩
      have ho : (dIt e' r x).ok w A := ho
      have hb : ∀ b ∈ (dIt e' r x).bl, A' b := hb
      unfold dIt at ho hb
      by_cases c : x.2.1 = 2
      · rw [if_pos c] at ho hb
        exact Own.sl (show Own w A e' r x.1 x.2.2 from ho) hA fun q hq => hb q (mem_ownE.2 hq)
      · rw [if_neg c, if_pos (by omega)] at ho
        exact (show Sl w A r x.1 x.2.2 from ho).stab fun b hb _ => ⟨hA b hb, rfl⟩
    · cases h⟩
theorem Rst.dl {e' : TypeId} (R : Rst D r er g) : Rst (Dp.dl e' D) (Rp.slice r) (fun x => (x.2.1, x.2.2.map er)) (rdl g) :=
  ⟨rfl, fun {w A A' x a} h ho hA hb => by
    unfold rdl at h
    split at h
    · rename_i hk
      refine ⟨x.1, rfl, ?_⟩
      have ho : (ddIt e' D x).ok w A := ho
      have hb : ∀ b ∈ (ddIt e' D x).bl, A' b := hb
      unfold ddIt at ho hb
      rw [if_pos hk] at ho hb
      exact drow_sl R ho h hA hb
    · cases h⟩
theorem Stw.ddRest (R : Rst D r er g) {l0 : List π} (he : lx.map er = l0) (hg : restL g l0 = some l) (h : Stw B M (drow v e D lx :: Z) w) : Stw B M (row v e r l :: Z) w := by
  subst he
  have hsub : (blks M (row v e r l :: Z)).Sublist (blks M (drow v e D lx :: Z)) := by
    unfold blks
    refine List.Sublist.append (List.Sublist.refl _) ?_
    rw [List.flatMap_cons, List.flatMap_cons]
    refine List.Sublist.append ?_ (List.Sublist.refl _)
    exact List.sublist_append_left (ownE v) _
  have hnd := (List.nodup_append.1 h.dSplit.nodup).2.1
  have hno : ∀ x ∈ lx, ∀ b ∈ (D.it x).bl, b ∉ blks M (row v e r l :: Z) := fun x hx b hb hm => by
    have hq : (blks M (drow v e D lx :: Z)).Nodup := h.nodup
    have hp : (blks M (drow v e D lx :: Z)).Perm ((bag (lx.map D.it)).bl ++ blks M (row v e r l :: Z)) := by
      unfold blks
      rw [List.flatMap_cons, List.flatMap_cons]
      have e1 : (drow v e D lx).bl = ownE v ++ (bag (lx.map D.it)).bl := by
        show [row v e D.hr lx, bag (lx.map D.it)].flatMap It.bl = _
        simp only [List.flatMap_cons, List.flatMap_nil, List.append_nil]; rfl
      rw [e1, show (row v e r l).bl = ownE v from rfl]
      exact List.perm_iff_count.2 fun a => by simp only [List.count_append]; omega
    exact (List.nodup_append.1 (hp.nodup_iff.1 hq)).2.2 b (List.mem_flatMap.2 ⟨D.it x, List.mem_map.2 ⟨x, hx, rfl⟩, hb⟩) b hm rfl
  refine ⟨h.frm, fun q hq => h.own q (hsub.subset hq), h.at_, fun z hz => ?_, h.nodup.sublist hsub, h.disj⟩
  rcases List.mem_cons.1 hz with rfl | hz
  · refine drow_own R (h.items _ (List.mem_cons_self ..)) hg (fun b hb => hb.mono fun q hq => hsub.subset hq) fun x hx b hb => ⟨.inr (h.own b ?_), hno x hx b hb⟩
    exact mem_blks_Z (List.mem_cons_self ..) (mem_drow hx hb)
  · exact z.stab (h.items z (List.mem_cons_of_mem _ hz)) (fun b hA _ => ⟨hA.mono fun q hq => hsub.subset hq, rfl⟩) fun _ _ => rfl
/-- A deep row read as a plain one. -/
theorem Rdd.plain (R : Rst D r er g) {l0 : List π} (he : lx.map er = l0) (hg : restL g l0 = some l) (h : Rdd B M Z e D v lx) : Rdc B M Z r v l := fun w hw => by
  subst he
  exact drow_sl R (h w hw) hg (fun _ _ => trivial) fun _ _ => trivial
theorem drowX (R : Rst D r er g) {l0 : List π} (he : lx.map er = l0) (hg : restL g l0 = some l) {Ml : Blks} {Zl : List It} (h : Stw B (Ml ++ M) (Zl ++ Z) w) (k : Nat) (hZ : Z[k]? = some (drow v e D lx)) : Sl w (NX (blks Ml Zl)) r v l := by
  subst he
  have hZ2 : (Zl ++ Z)[Zl.length + k]? = some (drow v e D lx) := by rw [List.getElem?_append_right (by omega), Nat.add_sub_cancel_left]; exact hZ
  have hp : (blks (Ml ++ M) (Zl ++ Z)).Perm (blks Ml Zl ++ blks M Z) := by
    unfold blks
    rw [List.map_append, List.flatMap_append]
    simp only [List.append_assoc]
    refine List.Perm.append_left _ ?_
    rw [← List.append_assoc, ← List.append_assoc]
    exact List.Perm.append_right _ List.perm_append_comm
  have hnd := List.nodup_append.1 (hp.nodup_iff.1 h.nodup)
  refine drow_sl R (h.item hZ2) hg (fun b hb hm => hb.2 (hp.mem_iff.2 (List.mem_append_left _ hm))) fun q hq hm => ?_
  exact hnd.2.2 q hm q (mem_blks_Z (mem_of_get hZ) hq) rfl
end

/-! ### New elements, new rows -/
structure Nl (D : Dp δ) (z : δ) : Prop where
  bl : (D.it z).bl = []
  ok : ∀ w A, (D.it z).ok w A
theorem Nl.fl {n : Nat} {enc : α → List Value} {hn : ∀ a, (enc a).length = n} (a : α) : Nl (Dp.fl n enc hn) a := ⟨rfl, fun _ _ => trivial⟩
theorem Nl.pair {z : δ} {y : ε} (h : Nl D z) (k : Nl E y) : Nl (D.pair E) (z, y) := by
  have hb : ([D.it z, E.it y].flatMap It.bl) = [] := by simp [h.bl, k.bl]
  refine ⟨hb, fun w A => ⟨fun q hq => ?_, by rw [hb]; exact List.nodup_nil⟩⟩
  rcases List.mem_cons.1 hq with rfl | hq
  · exact h.ok w A
  · rcases List.mem_cons.1 hq with rfl | hq
    · exact k.ok w A
    · cases hq
theorem Nl.sl {e' : TypeId} {r : Rp α} : Nl (Dp.sl e' r) (.slice none 0 0, 2, []) := by
  have h : (Dp.sl e' r).it (.slice none 0 0, 2, []) = row (.slice none 0 0) e' r [] := dIt_own
  exact ⟨by rw [h]; exact ownE_zero none 0, fun w A => by rw [h]; exact .inl ⟨none, rfl, rfl⟩⟩
theorem Nl.dl {e' : TypeId} : Nl (Dp.dl e' D) (.slice none 0 0, 2, []) := by
  have hb : (ddIt e' D (.slice none 0 0, 2, [])).bl = [] := by
    rw [ddIt_own]
    show [row _ e' D.hr [], bag _].flatMap It.bl = []
    simp [row, ownE_zero, bag]
  refine ⟨hb, fun w A => ?_⟩
  have hb' := hb
  show (ddIt e' D (.slice none 0 0, 2, [])).ok w A
  clear hb'
  have hb' := hb
  rw [ddIt_own] at hb' ⊢
  refine ⟨fun q hq => ?_, by rw [show [row _ e' D.hr [], bag _].flatMap It.bl = [] from hb']; exact List.nodup_nil⟩
  rcases List.mem_cons.1 hq with rfl | hq
  · exact .inl ⟨none, rfl, rfl⟩
  · rcases List.mem_cons.1 hq with rfl | hq
    · exact ⟨fun q hq => (by cases hq), List.nodup_nil⟩
    · cases hq
theorem Stw.nlZ {z : δ} (h : Stw B M Z w) (k : Nl D z) : Stw B M (D.it z :: Z) w := by
  have hbl : blks M (D.it z :: Z) = blks M Z := by unfold blks; rw [List.flatMap_cons, k.bl]; rfl
  refine ⟨h.frm, by rw [hbl]; exact h.own, h.at_, fun y hy => ?_, by rw [hbl]; exact h.nodup, h.disj⟩
  rw [hbl]
  rcases List.mem_cons.1 hy with rfl | hy
  · exact k.ok _ _
  · exact h.items y hy
theorem Stw.nlBag {z : δ} (k : Nl D z) (h : Stw B M Z w) : ∀ n : Nat, Stw B M (bag ((List.replicate n z).map D.it) :: Z) w
  | 0 => h.bagNil
  | n + 1 => by
    have h1 := (Stw.nlBag k h n).nlZ k
    have h2 : Stw B M (bag ((List.replicate n z).map D.it ++ [D.it z]) :: Z) w := h1.bagPush
    rw [List.replicate_succ', List.map_append]; exact h2
theorem Stw.dNil (h : Stw B M Z w) (e : TypeId) (D : Dp δ) : Stw B M (drow (.slice none 0 0) e D [] :: Z) w :=
  Stw.dShut (lx := []) ((h.bagNil).emptyRow none e D.hr)
theorem mk_ex {π : Type} {er : δ → π} {n : Int} {z : δ} {l : List π} (h : mk n (er z) = some l) : mk n z = some (List.replicate n.toNat z) ∧ (List.replicate n.toNat z).map er = l := by
  obtain ⟨h0, h1, rfl⟩ := mk_some h
  exact ⟨by unfold mk; rw [if_pos ⟨h0, h1⟩], by simp⟩
theorem Stw.dMade {z : δ} {n : Nat} (k : Nl D z) (h : Stw B M (row v e D.hr (List.replicate n z) :: Z) w) : Stw B M (drow v e D (List.replicate n z) :: Z) w := (Stw.nlBag k h n).swapZ.dShut
theorem Stw.dShutL (h : Stw B M (row v e D.hr lx :: (lx.map D.it ++ Z)) w) : Stw B M (drow v e D lx :: Z) w := by
  have h1 : Stw B M (lx.map D.it ++ row v e D.hr lx :: Z) w := h.permZ List.perm_middle.symm
  exact h1.bagShut.swapZ.dShut
theorem Stw.bagSub {its its2 : List It} (hs : its2.Sublist its) (h : Stw B M (bag its :: Z) w) : Stw B M (bag its2 :: Z) w := ((h : Stw B M (bag its :: Z) w).bagOpen.sub (List.Sublist.refl _) (hs.append_right Z)).bagShut
theorem Stw.bagMerge {its jts : List It} (h : Stw B M (bag its :: bag jts :: Z) w) : Stw B M (bag (its ++ jts) :: Z) w := by
  have h1 : Stw B M (its ++ bag jts :: Z) w := h.bagOpen
  have h2 : Stw B M (bag jts :: (its ++ Z)) w := h1.permZ List.perm_middle
  have h3 : Stw B M (jts ++ (its ++ Z)) w := h2.bagOpen
  refine Stw.bagShut (its := its ++ jts) (h3.permZ ?_)
  rw [← List.append_assoc]
  exact List.perm_append_comm.append_right _
end

section
variable {P : Program} {B : Bs} {M M' : Blks} {Z Z' Z1 Z2 : List It} {n : Nat} {ds : List Deferred} {F F' : List (Nat × Value)} {a : Act} {w w' : World}
variable {ops : Array Oper} {Q : Exit → Act → World → Prop} {rest : List Oper} {o : Oper}
variable {dst : Option Tmp} {ty : TypeId} {pos : String} {aft : Array Edge} {g : Option (Nat × Bool)}
variable {δ σ : Type} {D : Dp δ} {S : Dp σ} {lx ly l3 : List δ} {v u : Value} {x x' : δ} {i : Int} {t e by_ : Nat}
/-- A store into an element. -/
theorem l_store_d {t : TypeId} {s q : Operand} {agg : Bool} {sz off j : Nat} {vs : List Value} {y : Value} (hF : Fr n ds F a) (hW : Stw B M (drow v e D lx :: Z1) w) (hx : opv F s = some (.pointer (some ⟨vblk v, off, none⟩))) (hy : opv F q = some y)
    (ho : off = voff v + i.toNat * D.sz + j) (hi : ix lx i = some x) (T : Ty P t agg sz) (hv : y.cells.toList = vs) (hsz : vs.length = sz) (hle : Nat.ble (j + vs.length) D.sz = true) (h1 : vs.all (·.oneCell') = true)
    (hc : putL (D.cells x) j vs = D.cells x') (hb : ∀ w, Stw B M (bag (lx.map D.it) :: row v e D.hr lx :: Z1) w → Stw B M (bag ((setAt lx i x').map D.it) :: row v e D.hr lx :: Z2) w)
    (kk : ∀ w', Stw B M (drow v e D (setAt lx i x') :: Z2) w' → wpList P ops Q rest a w') : wpList P ops Q (⟨none, .store t s q, ty, pos, aft, none⟩ :: rest) a w :=
  l_store_el (r := D.hr) (i := i) (j := j) (x' := x') (k := 0) hF (hb w hW.dSplit.swapZ).swapZ hx hy ho rfl rfl hi T hv hsz hle h1 (fun A cs _ hr => hr_put hr hc h1) fun w' hW => kk w' hW.dShut
/-- A store of plain cells. -/
theorem l_store_dF {t : TypeId} {s q : Operand} {agg : Bool} {sz off j : Nat} {vs : List Value} {y : Value} (hF : Fr n ds F a) (hW : Stw B M (drow v e D lx :: Z1) w) (hx : opv F s = some (.pointer (some ⟨vblk v, off, none⟩))) (hy : opv F q = some y)
    (ho : off = voff v + i.toNat * D.sz + j) (hi : ix lx i = some x) (T : Ty P t agg sz) (hv : y.cells.toList = vs) (hsz : vs.length = sz) (hle : Nat.ble (j + vs.length) D.sz = true) (h1 : vs.all (·.oneCell') = true)
    (hc : putL (D.cells x) j vs = D.cells x') (hb : D.it x' = D.it x)
    (kk : ∀ w', Stw B M (drow v e D (setAt lx i x') :: Z1) w' → wpList P ops Q rest a w') : wpList P ops Q (⟨none, .store t s q, ty, pos, aft, none⟩ :: rest) a w :=
  l_store_d hF hW hx hy ho hi T hv hsz hle h1 hc (fun w h => by rw [bag_same hi hb]; exact h) kk
/-- A store of a slice, with what it holds. -/
theorem l_store_dH {t : TypeId} {s q : Operand} {agg : Bool} {off j : Nat} {y : Value} {b : σ} (f : Foc D S) (hF : Fr n ds F a) (hW : Stw B M (S.it b :: drow v e D lx :: Z1) w) (hx : opv F s = some (.pointer (some ⟨vblk v, off, none⟩))) (hy : opv F q = some y)
    (ho : off = voff v + i.toNat * D.sz + j) (hi : ix lx i = some x) (T : Ty P t agg 1) (hv : y.cells.toList = [y]) (hle : Nat.ble (j + 1) D.sz = true) (h1 : y.oneCell' = true)
    (hc : putL (D.cells x) j [y] = D.cells (f.put x b))
    (kk : ∀ w', Stw B M (drow v e D (setAt lx i (f.put x b)) :: Z1) w' → wpList P ops Q rest a w') : wpList P ops Q (⟨none, .store t s q, ty, pos, aft, none⟩ :: rest) a w :=
  l_store_d (Z1 := S.it b :: Z1) hF hW.swapZ hx hy ho hi T hv rfl hle (by simp [h1]) hc (fun w h => by
    have h2 := (h.itTake hi)
    have h3 : Stw B M (S.it b :: D.it x :: bag ((lx.map D.it).set i.toNat emp) :: row v e D.hr lx :: Z1) w := h2.frontZ (i := 3) rfl rfl
    exact (f.shut h3).itPut hi) kk
theorem l_append_d {s q : Operand} {d : Nat} (hF : Fr n ds F a) (hW : Stw B M (drow v e D lx :: drow u e D ly :: Z) w) (hn : Nat.blt d n = true) (E : Et P t e D.sz by_) (hs : opv F s = some v) (hx : opv F q = some u) (hap : app lx ly = some l3) (hby : Nat.ble by_ 100000 = true)
    (k : ∀ v' a' w', Fr n ds ((d, v') :: F) a' → Stw B M (drow v' e D l3 :: Z) w' → wpList P ops Q rest a' w') :
    wpList P ops Q (⟨some d, .call ⟨.builtin .append, #[s, q], #[t, t]⟩, ty, pos, aft, none⟩ :: rest) a w := by
  have h1 : Stw B M (drow u e D ly :: row v e D.hr lx :: bag (lx.map D.it) :: Z) w := hW.dSplit.frontZ (i := 2) rfl rfl
  have h2 : Stw B M (row v e D.hr lx :: row u e D.hr ly :: bag (ly.map D.it) :: bag (lx.map D.it) :: Z) w := h1.dSplit.frontZ (i := 2) rfl rfl
  refine l_append (r := D.hr) (i := 0) hF h2 hn E hs hx rfl rfl (src_row h2 1 rfl) hap hby fun v' a' w' hF hW => k v' a' w' hF ?_
  have h3 : Stw B M (bag (lx.map D.it) :: bag (ly.map D.it) :: row v' e D.hr l3 :: Z) w' := by
    have h4 : Stw B M (row u e D.hr ly :: row v' e D.hr l3 :: bag (ly.map D.it) :: bag (lx.map D.it) :: Z) w' := hW.swapZ
    have h5 : Stw B M (bag (lx.map D.it) :: row v' e D.hr l3 :: bag (ly.map D.it) :: Z) w' := h4.tailZ.frontZ (i := 2) rfl rfl
    exact (h5.frontZ (i := 2) rfl rfl).swapZ
  have h6 := h3.bagMerge
  obtain ⟨_, rfl⟩ := app_some hap
  rw [← List.map_append] at h6
  exact h6.swapZ.dShut
theorem app_ex {π : Type} {er : δ → π} {l m k : List π} (h1 : lx.map er = l) (h2 : ly.map er = m) (h : app l m = some k) : app lx ly = some (lx ++ ly) ∧ (lx ++ ly).map er = k := by
  obtain ⟨hl, rfl⟩ := app_some h
  subst h1 h2
  exact ⟨by unfold app; rw [if_pos (by simpa using hl)], by simp⟩
theorem set_ex {π : Type} {er : δ → π} {l : List π} {b : π} (h1 : lx.map er = l) (h2 : er x' = b) : (setAt lx i x').map er = setAt l i b := by
  subst h1 h2; exact map_setAt er lx i x'
/-- The length of a deep row. -/
theorem y_len_d {π : Type} {er : δ → π} {l : List π} {s : Operand} {ts : Array TypeId} (he : lx.map er = l) (ht : P.underlying t = some (.slice e)) (hts : ts[0]? = some t) (hF : Fr n ds F a) (hx : opv F s = some v) (hR : Rdc B M Z D.hr v lx) :
    Yx P B M Z a ⟨dst, .call ⟨.builtin .len, #[s], ts⟩, ty, pos, aft, g⟩ (.int .i64 (l.length : Int)) := by
  have h := y_len (dst := dst) (ty := ty) (pos := pos) (aft := aft) (g := g) ht hts hF hx hR
  rw [← he, List.length_map]; exact h
/-- Into a deep row out of one that rests. -/
theorem l_copy_d {α : Type} {r : Rp α} {e' : TypeId} {t2 : TypeId} {s q : Operand} {d k : Nat} {lx : List (De α)} {ly : List (Value × List α)} (hF : Fr n ds F a) (hW : Stw B M (drow v e (Dp.sl e' r) lx :: Z) w) (hn : Nat.blt d n = true) (E : Et P t e 1 by_) (hs : opv F s = some v) (hx : opv F q = some u)
    (hsl : Sl w (Fz B (blks M (drow v e (Dp.sl e' r) lx :: Z))) (Rp.vsl r) u ly)
    (kk : ∀ a' w', Fr n ds ((d, .int .i64 ((min ly.length lx.length : Nat) : Int)) :: F) a' → Stw B M (drow v e (Dp.sl e' r) (cpy lx 0 (min ly.length lx.length) (ly.map fun p => ((p.1, 1, p.2) : De α))) :: Z) w' → wpList P ops Q rest a' w') :
    wpList P ops Q (⟨some d, .call ⟨.builtin .copy, #[s, q], #[t, t2]⟩, ty, pos, aft, none⟩ :: rest) a w := by
  obtain ⟨kk0, hk0⟩ : ∃ m, m = min ly.length lx.length := ⟨_, rfl⟩
  rw [← hk0] at kk
  have key : ∀ {A : Nat → Prop} {ly : List (Value × List α)} {xs : List Value}, RepL (Rp.vsl r) w A xs ly → RepL (Dp.sl e' r).hr w A xs (ly.map fun p => ((p.1, 1, p.2) : De α)) ∧ ∀ p ∈ ly, Sl w A r p.1 p.2 := by
    intro A ly
    induction ly with
    | nil => intro xs h; exact ⟨h, fun p hp => by cases hp⟩
    | cons p ly ih =>
      rintro xs ⟨cs, ys, he, h1, h2⟩
      obtain ⟨i1, i2⟩ := ih h2
      refine ⟨⟨cs, ys, he, ⟨h1.1, ?_⟩, i1⟩, fun q hq => ?_⟩
      · show ([p.1] : List Value).all _ = true
        simp [h1.2.one]
      · rcases List.mem_cons.1 hq with rfl | hq
        · exact h1.2
        · exact i2 q hq
  have hsrc : ∀ {A : Nat → Prop}, Sl w A (Rp.vsl r) u ly → Src w A (Dp.sl e' r).hr u (ly.map fun p => ((p.1, 1, p.2) : De α)) ∧ ∀ p ∈ ly, Sl w A r p.1 p.2 := by
    rintro A (⟨ad, cap, rfl, rfl⟩ | ⟨b, off, cap, xs, rfl, hc, hA, hb, hx2, hr⟩)
    · exact ⟨.inl ⟨ad, cap, rfl, rfl⟩, fun p hp => by cases hp⟩
    · exact ⟨.inr ⟨b, off, cap, xs, by simp, by simpa using hc, hx2, (key hr).1⟩, (key hr).2⟩
  have h1 : Stw B M (bag (lx.map (Dp.sl e' r).it) :: row v e (Dp.sl e' r).hr lx :: Z) w := hW.dSplit.swapZ
  have h2 : Stw B M (bag ((lx.drop kk0).map (Dp.sl e' r).it) :: row v e (Dp.sl e' r).hr lx :: Z) w := h1.bagSub ((List.drop_sublist kk0 lx).map _)
  have hm1 : ∀ b, Fz B (blks M (drow v e (Dp.sl e' r) lx :: Z)) b → Fz B (blks M (bag ((lx.drop kk0).map (Dp.sl e' r).it) :: row v e (Dp.sl e' r).hr lx :: Z)) b := fun b hb => hb.mono fun g hg => by
    unfold blks at hg ⊢
    rcases List.mem_append.1 hg with hg | hg
    · exact List.mem_append_left _ hg
    · rw [List.flatMap_cons] at hg ⊢
      rw [List.flatMap_cons] at hg
      refine List.mem_append_right _ ?_
      rcases List.mem_append.1 hg with hg | hg
      · obtain ⟨z, hz, hg⟩ := List.mem_flatMap.1 hg
        obtain ⟨x, hx, rfl⟩ := List.mem_map.1 hz
        exact List.mem_append_left _ (mem_drow ((List.drop_sublist kk0 lx).subset hx) hg)
      · rcases List.mem_append.1 hg with hg | hg
        · exact List.mem_append_left _ (mem_drow0 hg)
        · exact List.mem_append_right _ hg
  have h3 := h2.deRests (e := e') (r := r) (lx := ly.take kk0) fun p hp => ((hsrc hsl).2 p (List.mem_of_mem_take hp)).stab fun b hb _ => ⟨hm1 b hb, rfl⟩
  have h4 := h3.bagMerge
  have e1 : ((ly.take kk0).map fun x => ((x.1, 1, x.2) : De α)).map (dIt e' r) ++ (lx.drop kk0).map (Dp.sl e' r).it = (cpy lx 0 kk0 (ly.map fun p => ((p.1, 1, p.2) : De α))).map (Dp.sl e' r).it := by
    unfold cpy
    simp only [Int.toNat_zero, List.take_zero, List.nil_append, Nat.zero_add, List.map_append, List.map_take]
    rfl
  rw [e1] at h4
  have h5 := h4.swapZ
  have hm2 : ∀ b, Fz B (blks M (drow v e (Dp.sl e' r) lx :: Z)) b → Fz B (blks M (row v e (Dp.sl e' r).hr lx :: bag ((cpy lx 0 kk0 (ly.map fun p => ((p.1, 1, p.2) : De α))).map (Dp.sl e' r).it) :: Z)) b := fun b hb => by
    refine (hm1 b hb).mono fun g hg => ?_
    have hz : ∀ g ∈ (bag ((cpy lx 0 kk0 (ly.map fun p => ((p.1, 1, p.2) : De α))).map (Dp.sl e' r).it)).bl, g ∈ (bag ((lx.drop kk0).map (Dp.sl e' r).it)).bl := fun g hg => by
      rw [← e1] at hg
      obtain ⟨z, hz, hg⟩ := List.mem_flatMap.1 hg
      rcases List.mem_append.1 hz with hz | hz
      · obtain ⟨y, hy, rfl⟩ := List.mem_map.1 hz
        obtain ⟨p, hp, rfl⟩ := List.mem_map.1 hy
        rw [dIt_frz] at hg; cases hg
      · exact List.mem_flatMap.2 ⟨z, hz, hg⟩
    unfold blks at hg ⊢
    rcases List.mem_append.1 hg with hg | hg
    · exact List.mem_append_left _ hg
    · refine List.mem_append_right _ ?_
      rw [List.flatMap_cons, List.flatMap_cons] at hg ⊢
      rcases List.mem_append.1 hg with hg | hg
      · exact List.mem_append_right _ (List.mem_append_left _ hg)
      · rcases List.mem_append.1 hg with hg | hg
        · exact List.mem_append_left _ (hz g hg)
        · exact List.mem_append_right _ (List.mem_append_right _ hg)
  have hlen : (ly.map fun p => ((p.1, 1, p.2) : De α)).length = ly.length := List.length_map ..
  refine l_copy (r := (Dp.sl e' r).hr) (k := 0) (l2 := ly.map fun p => ((p.1, 1, p.2) : De α)) hF h5 hn E hs hx rfl rfl (hsrc (hsl.stab fun b hb _ => ⟨hm2 b hb, rfl⟩)).1 (fun a' w' hF hW => kk a' w' ?_ ?_)
  · rw [hlen, ← hk0] at hF; exact hF
  · rw [hlen, ← hk0] at hW; exact hW.dShut
/-! ### In the words of the lifted texts -/
def own2 (k : Nat) : Option Unit := if k = 2 then some () else none
theorem own2_eq {k : Nat} {u : Unit} (h : own2 k = some u) : k = 2 := by unfold own2 at h; split at h <;> first | assumption | cases h
def rd12 (k : Nat) : Option Unit := if k = 1 ∨ k = 2 then some () else none
theorem rd12_eq {k : Nat} {u : Unit} (h : rd12 k = some u) : k = 1 ∨ k = 2 := by unfold rd12 at h; split at h <;> first | assumption | cases h
theorem Stw.dTakeR {α : Type} {r : Rp α} {e' : TypeId} {l : List α} (h : Stw B M (drow v e D lx :: Z) w) (hi : ix lx i = some x) (f : Foc D (Dp.sl e' r)) (hx : (f.get x).2 = (2, l)) : Stw B M (row (f.get x).1 e' r l :: drow v e D (setAt lx i (f.put x ((f.get x).1, 0, []))) :: Z) w := by
  have h1 := h.dTake hi f ((f.get x).1, 0, []) (show dIt e' r ((f.get x).1, 0, []) = emp from dIt_emp) rfl
  have h2 : (Dp.sl e' r).it (f.get x) = row (f.get x).1 e' r l := by
    show dIt e' r (f.get x) = _
    generalize f.get x = q at hx
    obtain ⟨v, k, m⟩ := q
    cases hx
    exact dIt_own
  rw [h2] at h1; exact h1
theorem Stw.dTakeD {ε : Type} {E : Dp ε} {e' : TypeId} (h : Stw B M (drow v e D lx :: Z) w) (hi : ix lx i = some x) (f : Foc D (Dp.dl e' E)) (hx : (f.get x).2.1 = 2) : Stw B M (drow (f.get x).1 e' E (f.get x).2.2 :: drow v e D (setAt lx i (f.put x ((f.get x).1, 0, []))) :: Z) w := by
  have h1 := h.dTake hi f ((f.get x).1, 0, []) (show ddIt e' E ((f.get x).1, 0, []) = emp from ddIt_emp) rfl
  have h2 : (Dp.dl e' E).it (f.get x) = drow (f.get x).1 e' E (f.get x).2.2 := by
    show ddIt e' E (f.get x) = _
    unfold ddIt; rw [if_pos hx]
  rw [h2] at h1; exact h1
/-- What was taken out is put back. -/
theorem Stw.dBack {y : σ} {x2 : δ} (h : Stw B M (S.it y :: drow v e D (setAt lx i x') :: Z) w) (hi : ix lx i = some x) (f : Foc D S) (hc : S.cells y = S.cells (f.get x')) (hp : f.put x' y = x2) : Stw B M (drow v e D (setAt lx i x2) :: Z) w := by
  have h1 := h.dPut (ix_setAt hi) f hc
  rw [setAt_setAt, hp] at h1; exact h1
theorem Stw.dBackR {α : Type} {r : Rp α} {e' : TypeId} {l : List α} {u : Value} {x2 : δ} (h : Stw B M (row u e' r l :: drow v e D (setAt lx i x') :: Z) w) (hi : ix lx i = some x) (f : Foc D (Dp.sl e' r)) (hc : u = (f.get x').1) (hp : f.put x' (u, 2, l) = x2) : Stw B M (drow v e D (setAt lx i x2) :: Z) w :=
  Stw.dBack (S := Dp.sl e' r) (y := (u, 2, l)) (by show Stw B M (dIt e' r (u, 2, l) :: _) w; rw [dIt_own]; exact h) hi f (congrArg (fun q => [q]) hc) hp
theorem Stw.dBackD {ε : Type} {E : Dp ε} {e' : TypeId} {ly : List ε} {u : Value} {x2 : δ} (h : Stw B M (drow u e' E ly :: drow v e D (setAt lx i x') :: Z) w) (hi : ix lx i = some x) (f : Foc D (Dp.dl e' E)) (hc : u = (f.get x').1) (hp : f.put x' (u, 2, ly) = x2) : Stw B M (drow v e D (setAt lx i x2) :: Z) w :=
  Stw.dBack (S := Dp.dl e' E) (y := (u, 2, ly)) (by show Stw B M (ddIt e' E (u, 2, ly) :: _) w; rw [ddIt_own]; exact h) hi f (congrArg (fun q => [q]) hc) hp
theorem Stw.toR {α : Type} {r : Rp α} {e' : TypeId} {l : List α} {u : Value} (h : Stw B M (row u e' r l :: Z) w) : Stw B M ((Dp.sl e' r).it (u, 2, l) :: Z) w := by show Stw B M (dIt e' r (u, 2, l) :: _) w; rw [dIt_own]; exact h
theorem Stw.toF {α : Type} {r : Rp α} {l : List α} {u : Value} (e' : TypeId) (h : Stw B M (frz u r l :: Z) w) : Stw B M ((Dp.sl e' r).it (u, 1, l) :: Z) w := by show Stw B M (dIt e' r (u, 1, l) :: _) w; rw [dIt_frz]; exact h
theorem Stw.toD {ε : Type} {E : Dp ε} {e' : TypeId} {ly : List ε} {u : Value} (h : Stw B M (drow u e' E ly :: Z) w) : Stw B M ((Dp.dl e' E).it (u, 2, ly) :: Z) w := by show Stw B M (ddIt e' E (u, 2, ly) :: _) w; rw [ddIt_own]; exact h
theorem Stw.pairZ {δ ε : Type} {D : Dp δ} {E : Dp ε} {p : δ} {q : ε} (h : Stw B M (D.it p :: E.it q :: Z) w) : Stw B M ((D.pair E).it (p, q) :: Z) w := Stw.bagShut (its := [_, _]) h
theorem Stw.oneD (h : Stw B M Z w) (k : Nat) (hZ : Z[k]? = some (drow v e D lx)) : v.oneCell' = true := (drow_hd (h.item hZ)).one
theorem cpy_ex {α : Type} {lx : List (De α)} {ly : List (Value × List α)} {l : List (Nat × List α)} {m : List (List α)} (h1 : lx.map (fun x => x.2) = l) (h2 : ly.map (fun p => p.2) = m) :
    (cpy lx 0 (min ly.length lx.length) (ly.map fun p => ((p.1, 1, p.2) : De α))).map (fun x => x.2) = cpy l 0 (min m.length l.length) (m.map fun q => (1, q)) := by
  subst h1 h2
  unfold cpy
  simp [List.map_take, List.map_drop]
  rfl
end
end Go.Proofs.Ythmpfhjdodfchaa
