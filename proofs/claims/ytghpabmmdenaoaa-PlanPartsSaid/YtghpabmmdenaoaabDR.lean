/- Rows whose elements own rows, at any depth: elements seen with the values of their slices, and whether these are one's own. Conditions: none. -/
import Derived.Test.YtghpabmmdenaoaabOW
import Derived.Test.YtghpabmmdenaoaabOX
import Derived.Test.YtghpabmmdenaoaabOM
namespace Go.Proofs.Ytghpabmmdenaoaa
set_option linter.unusedVariables false
set_option linter.unusedSimpArgs false
set_option linter.unusedSectionVars false
open Go Go.RowKit
structure Dp (δ : Type) where
  sz : Nat
  cells : δ → List Value
  it : δ → It
  len : ∀ x, (cells x).length = sz
def Dp.hr {δ : Type} (D : Dp δ) : Rp δ :=
  ⟨D.sz, fun _ _ cs x => cs = D.cells x ∧ (D.cells x).all (·.oneCell') = true, fun h => by rw [h.1, D.len], fun h => by rw [h.1]; exact h.2, fun h _ => h⟩
theorem Dp.flat {δ : Type} (D : Dp δ) : HO D.hr D.cells := fun h => h.1
def C8 {δ : Type} (v : Value) (e : TypeId) (D : Dp δ) (lx : List δ) : It := Gr [row v e D.hr lx, Gr (lx.map D.it)]
def Dp.fl {α : Type} (n : Nat) (enc : α → List Value) (hn : ∀ a, (enc a).length = n) : Dp α := ⟨n, enc, fun _ => PM, hn⟩
def Dp.pair {δ ε : Type} (D : Dp δ) (E : Dp ε) : Dp (δ × ε) :=
  ⟨D.sz + E.sz, fun x => D.cells x.1 ++ E.cells x.2, fun x => Gr [D.it x.1, E.it x.2], fun x => by rw [List.length_append, D.len, E.len]⟩
def Dp.sl {α : Type} (e : TypeId) (r : Rp α) : Dp (De α) := ⟨1, fun x => [x.1], LQ e r, fun _ => rfl⟩
section
variable {δ ε σ α : Type} {D : Dp δ} {E : Dp ε} {S : Dp σ} {B : Bs} {w w' : World} {M M' : Dk} {Z Z' Z1 : List It} {v u : Value} {e : TypeId} {lx ly : List δ} {x x' : δ} {i : Int}
theorem Stw.dSplit (h : Stw B M (C8 v e D lx :: Z) w) : Stw B M (row v e D.hr lx :: Gr (lx.map D.it) :: Z) w := h.bagOpen
theorem Stw.dShut (h : Stw B M (row v e D.hr lx :: Gr (lx.map D.it) :: Z) w) : Stw B M (C8 v e D lx :: Z) w := Stw.bagShut (its := [_, _]) h
theorem Stw.swapZ {a b : It} (h : Stw B M (a :: b :: Z) w) : Stw B M (b :: a :: Z) w := h.permZ (List.Perm.swap _ _ _)
theorem Stw.rotZ {a b c : It} (h : Stw B M (a :: b :: c :: Z) w) : Stw B M (b :: c :: a :: Z) w := h.permZ ((List.Perm.swap _ _ _).trans ((List.Perm.swap _ _ _).cons _))
theorem Stw.rotZ' {a b c : It} (h : Stw B M (b :: c :: a :: Z) w) : Stw B M (a :: b :: c :: Z) w := h.permZ (((List.Perm.swap _ _ _).cons _).trans (List.Perm.swap _ _ _))
theorem Stw.tailZ {a : It} (h : Stw B M (a :: Z) w) : Stw B M Z w := h.sub (List.Sublist.refl _) (List.sublist_cons_self _ _)
theorem Stw.under {a b c : It} (h : Stw B M (a :: b :: c :: Z) w) : Stw B M (a :: Gr [b, c] :: Z) w := (Stw.bagShut (its := [b, c]) h.rotZ).swapZ
structure Foc (D : Dp δ) (S : Dp σ) where
  get : δ → σ
  put : δ → σ → δ
  cl : ∀ x y, S.cells y = S.cells (get x) → D.cells (put x y) = D.cells x
  op : ∀ {B : Bs} {M : Dk} {Z : List It} {w : World} {x : δ} (y : σ), Stw B M (D.it x :: Z) w → S.it y = PM → Stw B M (S.it (get x) :: D.it (put x y) :: Z) w
  shut : ∀ {B : Bs} {M : Dk} {Z : List It} {w : World} {x : δ} {y : σ}, Stw B M (S.it y :: D.it x :: Z) w → Stw B M (D.it (put x y) :: Z) w
  okk : ∀ {w : World} {A : Nat → Prop} {x : δ}, (D.it x).ok w A → (S.it (get x)).ok w A
def Foc.here : Foc S S := ⟨fun x => x, fun _ y => y, fun x y h => h, fun y h hy => by rw [hy]; exact h.addEmp.swapZ, fun h => h.swapZ.tailZ, fun h => h⟩
def Foc.fst (f : Foc D S) : Foc (D.pair E) S :=
  ⟨fun x => f.get x.1, fun x y => (f.put x.1 y, x.2), fun x y h => congrArg (· ++ E.cells x.2) (f.cl x.1 y h),
   fun y h hy => (f.op y (h : Stw _ _ (Gr [_, _] :: _) _).bagOpen hy).under,
   fun {B M Z w x y} h => by
    have h1 : Stw B M (D.it x.1 :: E.it x.2 :: S.it y :: Z) w := Stw.bagOpen (its := [_, _]) (h : Stw B M (S.it y :: Gr [_, _] :: Z) w).swapZ
    exact Stw.bagShut (its := [_, _]) (f.shut h1.rotZ'),
   fun h => f.okk (h.1 _ (List.mem_cons_self ..))⟩
def Foc.snd (f : Foc E S) : Foc (D.pair E) S :=
  ⟨fun x => f.get x.2, fun x y => (x.1, f.put x.2 y), fun x y h => congrArg (D.cells x.1 ++ ·) (f.cl x.2 y h),
   fun {B M Z w x} y h hy => by
    have h1 : Stw B M (D.it x.1 :: E.it x.2 :: Z) w := (h : Stw B M (Gr [_, _] :: Z) w).bagOpen
    have h2 := f.op y h1.swapZ hy
    exact (h2.permZ ((List.Perm.swap _ _ _).cons _)).under,
   fun {B M Z w x y} h => by
    have h1 : Stw B M (D.it x.1 :: E.it x.2 :: S.it y :: Z) w := Stw.bagOpen (its := [_, _]) (h : Stw B M (S.it y :: Gr [_, _] :: Z) w).swapZ
    have h2 : Stw B M (S.it y :: E.it x.2 :: D.it x.1 :: Z) w := h1.permZ ((List.Perm.swap _ _ _).trans (((List.Perm.swap _ _ _).cons _).trans (List.Perm.swap _ _ _)))
    exact Stw.bagShut (its := [_, _]) (f.shut h2).swapZ,
   fun h => f.okk (h.1 _ (List.mem_cons_of_mem _ (List.mem_cons_self ..)))⟩
def MH (B : Bs) (M : Dk) (Z : List It) (e : TypeId) (D : Dp δ) (v : Value) (lx : List δ) : Prop := ∀ w, Stw B M Z w → (C8 v e D lx).ok w any
theorem It.any {z : It} {A : Nat → Prop} (h : z.ok w A) : z.ok w any := z.stab h (fun _ _ _ => ⟨trivial, rfl⟩) fun _ _ => rfl
theorem F8 (k : Nat) (hZ : Z[k]? = some (C8 v e D lx)) : MH B M Z e D v lx := fun w hw => It.any (z := C8 v e D lx) (hw.item hZ)
theorem NY {A : Nat → Prop} (h : (C8 v e D lx).ok w A) : FI w A e D.hr v lx := h.1 _ (List.mem_cons_self ..)
theorem RU {A : Nat → Prop} (h : (C8 v e D lx).ok w A) (hi : ix lx i = some x) : (D.it x).ok w A :=
  (show (Gr (lx.map D.it)).ok w A from h.1 _ (List.mem_cons_of_mem _ (List.mem_cons_self ..))).1 _ (List.mem_map.2 ⟨x, E1 (HW hi).2.2, rfl⟩)
theorem MH.hd (h : MH B M Z e D v lx) : EM B M Z D.hr v lx := fun w hw => (NY (h w hw)).sl (fun _ _ => trivial) fun _ _ => trivial
theorem MH.one (h : MH B M Z e D v lx) (hw : Stw B M Z w) : v.oneCell' = true := (NY (h w hw)).one
theorem MH.sl {r : Rp α} {e' : TypeId} (h : MH B M Z e D v lx) (hi : ix lx i = some x) (f : Foc D (Dp.sl e' r)) {l : List α} {k : Nat} (hx : (f.get x).2 = (k, l)) (hk : k = 1 ∨ k = 2) : EM B M Z r (f.get x).1 l := fun w hw => by
  have h1 := f.okk (RU (h w hw) hi)
  have h2 : (f.get x).2.2 = l := by rw [hx]
  have h3 : (f.get x).2.1 = k := by rw [hx]
  rw [← h2]
  exact SC h1 (by rw [h3]; omega) (by rw [h3]; omega)
theorem QM {l : List α} {i : Int} {a b : α} (h : ix l i = some a) : ix (AE l i b) i = some b := by
  obtain ⟨h0, hk, hx⟩ := HW h
  unfold ix AE
  rw [if_pos h0, List.getElem?_set_self hk]
theorem Og {l : List α} {i : Int} {a b : α} : AE (AE l i a) i b = AE l i b := by unfold AE; rw [List.set_set]
theorem Cp.re {r : Rp α} {A : Nat → Prop} {a b : α} (hr : ∀ cs, r.rep w A cs a → r.rep w A cs b) : ∀ {l : List α} {xs : List Value} {k : Nat}, Cp r w A xs l → l[k]? = some a → Cp r w A xs (l.set k b)
  | [], xs, k, h, hk => by simp at hk
  | y :: l, xs, 0, ⟨cs, ys, he, h1, h2⟩, hk => by
    simp at hk; subst hk
    exact ⟨cs, ys, he, hr cs h1, h2⟩
  | y :: l, xs, k + 1, ⟨cs, ys, he, h1, h2⟩, hk => by
    simp at hk
    exact ⟨cs, ys, he, h1, Cp.re hr h2 hk⟩
theorem FI.re {r : Rp α} {A : Nat → Prop} {l : List α} {a b : α} (h : FI w A e r v l) (hi : ix l i = some a) (hr : ∀ cs, r.rep w A cs a → r.rep w A cs b) : FI w A e r v (AE l i b) := by
  obtain ⟨h0, hk, hx⟩ := HW hi
  rcases h with ⟨ad, rfl, rfl⟩ | ⟨g, off, cap, cur, xs, rfl, hp, hb, h1, h2, h3, h4, h5⟩
  · simp at hk
  · exact .inr ⟨g, off, cap, cur, xs, by simp [AE], hp, hb, by simpa [AE] using h1, h2, h3, by simpa [AE] using h4, Cp.re hr h5 hx⟩
theorem Stw.hdSame (h : Stw B M (row v e D.hr lx :: Z) w) (hi : ix lx i = some x) (hc : D.cells x' = D.cells x) : Stw B M (row v e D.hr (AE lx i x') :: Z) w :=
  h.itemSame (z := row v e D.hr lx) (z' := row v e D.hr (AE lx i x')) rfl fun A ho => FI.re (show FI w A e D.hr v lx from ho) hi fun cs hx => ⟨hx.1.trans hc.symm, by rw [hc]; exact hx.2⟩
theorem Stw.itTake (h : Stw B M (Gr (lx.map D.it) :: Z) w) (hi : ix lx i = some x) : Stw B M (D.it x :: Gr ((lx.map D.it).set i.toNat PM) :: Z) w := by
  obtain ⟨h0, hk, hx⟩ := HW hi
  exact h.bagTake (by rw [List.getElem?_map, hx]; rfl)
theorem Stw.itPut {z : It} (h : Stw B M (D.it x' :: Gr ((lx.map D.it).set i.toNat z) :: Z) w) (hi : ix lx i = some x) : Stw B M (Gr ((AE lx i x').map D.it) :: Z) w := by
  obtain ⟨h0, hk, hx⟩ := HW hi
  have h1 := h.bagPut (i := i.toNat) (x := z) (by rw [List.getElem?_set_self (by simpa using hk)])
  rw [List.set_set] at h1
  unfold AE
  rw [List.map_set]; exact h1
theorem Stw.dTake (h : Stw B M (C8 v e D lx :: Z) w) (hi : ix lx i = some x) (f : Foc D S) (y : σ) (hy : S.it y = PM) (hc : S.cells y = S.cells (f.get x)) : Stw B M (S.it (f.get x) :: C8 v e D (AE lx i (f.put x y)) :: Z) w := by
  have h1 := (h.dSplit.hdSame hi (f.cl x y hc)).swapZ.itTake hi
  have h2 := f.op y h1 hy
  have h3 : Stw B M (D.it (f.put x y) :: Gr ((lx.map D.it).set i.toNat PM) :: S.it (f.get x) :: row v e D.hr (AE lx i (f.put x y)) :: Z) w := h2.rotZ
  have h4 := h3.itPut hi
  exact (h4.frontZ (i := 2) rfl rfl).dShut.swapZ
theorem Stw.dPut {y : σ} (h : Stw B M (S.it y :: C8 v e D lx :: Z) w) (hi : ix lx i = some x) (f : Foc D S) (hc : S.cells y = S.cells (f.get x)) : Stw B M (C8 v e D (AE lx i (f.put x y)) :: Z) w := by
  have h1 : Stw B M (row v e D.hr lx :: Gr (lx.map D.it) :: S.it y :: Z) w := h.swapZ.dSplit
  have h2 := (h1.hdSame hi (f.cl x y hc)).swapZ.itTake hi
  have h3 : Stw B M (S.it y :: D.it x :: Gr ((lx.map D.it).set i.toNat PM) :: row v e D.hr (AE lx i (f.put x y)) :: Z) w := h2.frontZ (i := 3) rfl rfl
  exact ((f.shut h3).itPut hi).swapZ.dShut
theorem Ot : ∀ {vs cs : List Value} {j : Nat}, cs.all (·.oneCell') = true → vs.all (·.oneCell') = true → (HH cs j vs).all (·.oneCell') = true
  | [], cs, j, h, _ => h
  | v :: vs, cs, j, h, h1 => by
    simp only [HH]
    simp only [List.all_cons, Bool.and_eq_true] at h1
    refine Ot ?_ h1.2
    rw [List.all_eq_true]
    intro u hu
    rcases List.mem_or_eq_of_mem_set hu with hu | rfl
    · exact List.all_eq_true.1 h u hu
    · exact h1.1
theorem SQ {A : Nat → Prop} {cs vs : List Value} {j : Nat} (hx : D.hr.rep w A cs x) (hc : HH (D.cells x) j vs = D.cells x') (h1 : vs.all (·.oneCell') = true) : D.hr.rep w A (HH cs j vs) x' :=
  ⟨by rw [hx.1]; exact hc, by rw [← hc]; exact Ot hx.2 h1⟩
def JT {π α : Type} (g : π → Option α) : List π → Option (List α)
  | [] => some []
  | x :: l => (g x).bind fun a => (JT g l).bind fun m => some (a :: m)
structure Rst {π : Type} (D : Dp δ) (r : Rp α) (er : δ → π) (g : π → Option α) : Prop where
  sz : r.sz = D.sz
  to : ∀ {w : World} {A A' : Nat → Prop} {x : δ} {a : α}, g (er x) = some a → (D.it x).ok w A → (∀ b, A b → A' b) → (∀ b ∈ (D.it x).bl, A' b) → r.rep w A' (D.cells x) a
section
variable {π : Type} {r : Rp α} {er : δ → π} {g : π → Option α} {l : List α} {A A' : Nat → Prop}
theorem Cp.rest (R : Rst D r er g) (hA : ∀ b, A b → A' b) : ∀ {lx : List δ} {l : List α} {xs : List Value}, Cp D.hr w A xs lx → (∀ x ∈ lx, (D.it x).ok w A) → (∀ x ∈ lx, ∀ b ∈ (D.it x).bl, A' b) → JT g (lx.map er) = some l → Cp r w A' xs l
  | [], l, xs, h, _, _, hg => by cases hg; exact h
  | x :: lx, l, xs, ⟨cs, ys, he, h1, h2⟩, ho, hb, hg => by
    obtain ⟨a, ha, hg⟩ := Ak hg
    obtain ⟨m, hm, hg⟩ := Ak hg
    cases hg
    refine ⟨cs, ys, he, ?_, Cp.rest R hA h2 (fun y hy => ho y (List.mem_cons_of_mem _ hy)) (fun y hy => hb y (List.mem_cons_of_mem _ hy)) hm⟩
    rw [h1.1]
    exact R.to ha (ho x (List.mem_cons_self ..)) hA (hb x (List.mem_cons_self ..))
theorem Nq : ∀ {l : List π} {m : List α}, JT g l = some m → m.length = l.length
  | [], m, h => by cases h; rfl
  | x :: l, m, h => by
    obtain ⟨a, ha, h⟩ := Ak h
    obtain ⟨k, hm, h⟩ := Ak h
    cases h
    simp [Nq hm]
theorem OB (R : Rst D r er g) (h : (C8 v e D lx).ok w A) (hg : JT g (lx.map er) = some l) (hA : ∀ b, A b → A' b) (hb : ∀ x ∈ lx, ∀ b ∈ (D.it x).bl, A' b) : FI w A' e r v l := by
  have hit : ∀ x ∈ lx, (D.it x).ok w A := fun x hx => (show (Gr (lx.map D.it)).ok w A from h.1 _ (List.mem_cons_of_mem _ (List.mem_cons_self ..))).1 _ (List.mem_map.2 ⟨x, hx, rfl⟩)
  have hl := Nq hg
  rw [List.length_map] at hl
  rcases NY h with ⟨ad, rfl, rfl⟩ | ⟨b, off, cap, cur, xs, rfl, hp, hbk, h1, h2, h3, h4, h5⟩
  · cases hg; exact .inl ⟨ad, rfl, rfl⟩
  · refine .inr ⟨b, off, cap, cur, xs, by rw [hl], hp, hbk, by rw [hl]; exact h1, h2, by rw [R.sz]; exact h3, by rw [R.sz, hl]; exact h4, Cp.rest R hA h5 hit hb hg⟩
theorem Me {y : Nat} {x : δ} (hx : x ∈ lx) (hb : y ∈ (D.it x).bl) : y ∈ (C8 v e D lx).bl :=
  List.mem_flatMap.2 ⟨Gr (lx.map D.it), List.mem_cons_of_mem _ (List.mem_cons_self ..), List.mem_flatMap.2 ⟨D.it x, List.mem_map.2 ⟨x, hx, rfl⟩, hb⟩⟩
theorem Nj {y : Nat} (hb : y ∈ JK v) : y ∈ (C8 v e D lx).bl := List.mem_flatMap.2 ⟨row v e D.hr lx, List.mem_cons_self .., hb⟩
theorem R1 (R : Rst D r er g) (h : (C8 v e D lx).ok w A) (hg : JT g (lx.map er) = some l) (hA : ∀ b, A b → A' b) (hb : ∀ b ∈ (C8 v e D lx).bl, A' b) : Sl w A' r v l :=
  (OB R h hg hA fun x hx b hm => hb b (Me hx hm)).sl (fun _ h => h) fun q hq => hb q (Nj (FD.2 hq))
theorem Rst.flat {enc : α → List Value} (F : Fl r enc) {n : Nat} (hn : ∀ a, (enc a).length = n) (hs : r.sz = n) : Rst (Dp.fl n enc hn) r (fun a => a) some :=
  ⟨hs, fun {w A A' x a} h _ _ _ => by cases h; exact F.mk' w A' x⟩
theorem Rst.pair {β ρ : Type} {s : Rp β} {es : ε → ρ} {k : ρ → Option β} (R : Rst D r er g) (T : Rst E s es k) : Rst (D.pair E) (r.pair s) (fun x => (er x.1, es x.2)) (fun p => (g p.1).bind fun a => (k p.2).bind fun b => some (a, b)) :=
  ⟨by show r.sz + s.sz = D.sz + E.sz; rw [R.sz, T.sz], fun {w A A' x a} h ho hA hb => by
    obtain ⟨a1, h1, h⟩ := Ak h
    obtain ⟨a2, h2, h⟩ := Ak h
    cases h
    exact ⟨_, _, rfl, R.to h1 (ho.1 _ (List.mem_cons_self ..)) hA (fun b hm => hb b (List.mem_flatMap.2 ⟨_, List.mem_cons_self .., hm⟩)), T.to h2 (ho.1 _ (List.mem_cons_of_mem _ (List.mem_cons_self ..))) hA (fun b hm => hb b (List.mem_flatMap.2 ⟨_, List.mem_cons_of_mem _ (List.mem_cons_self ..), hm⟩))⟩⟩
def TP (x : Nat × List α) : Option (List α) := if x.1 = 1 ∨ x.1 = 2 then some x.2 else none
theorem Rst.sl {e' : TypeId} {r : Rp α} : Rst (Dp.sl e' r) (Rp.slice r) (fun x => x.2) TP :=
  ⟨rfl, fun {w A A' x a} h ho hA hb => by
    unfold TP at h
    split at h
    · rename_i hk
      cases h
      refine ⟨x.1, rfl, ?_⟩
      have ho : (LQ e' r x).ok w A := ho
      have hb : ∀ b ∈ (LQ e' r x).bl, A' b := hb
      unfold LQ at ho hb
      by_cases c : x.2.1 = 2
      · rw [if_pos c] at ho hb
        exact FI.sl (show FI w A e' r x.1 x.2.2 from ho) hA fun q hq => hb q (FD.2 hq)
      · rw [if_neg c, if_pos (by omega)] at ho
        exact (show Sl w A r x.1 x.2.2 from ho).stab fun b hb _ => ⟨hA b hb, rfl⟩
    · cases h⟩
theorem Stw.ddRest (R : Rst D r er g) {l0 : List π} (he : lx.map er = l0) (hg : JT g l0 = some l) (h : Stw B M (C8 v e D lx :: Z) w) : Stw B M (row v e r l :: Z) w := by
  subst he
  have hsub : (Bl M (row v e r l :: Z)).Sublist (Bl M (C8 v e D lx :: Z)) := by
    unfold Bl
    refine List.Sublist.append (List.Sublist.refl _) ?_
    rw [List.flatMap_cons, List.flatMap_cons]
    refine List.Sublist.append ?_ (List.Sublist.refl _)
    exact List.sublist_append_left (JK v) _
  have hnd := (List.nodup_append.1 h.dSplit.nodup).2.1
  have hno : ∀ x ∈ lx, ∀ b ∈ (D.it x).bl, b ∉ Bl M (row v e r l :: Z) := fun x hx b hb hm => by
    have hq : (Bl M (C8 v e D lx :: Z)).Nodup := h.nodup
    have hp : (Bl M (C8 v e D lx :: Z)).Perm ((Gr (lx.map D.it)).bl ++ Bl M (row v e r l :: Z)) := by
      unfold Bl
      rw [List.flatMap_cons, List.flatMap_cons]
      have e1 : (C8 v e D lx).bl = JK v ++ (Gr (lx.map D.it)).bl := by
        show [row v e D.hr lx, Gr (lx.map D.it)].flatMap It.bl = _
        simp only [List.flatMap_cons, List.flatMap_nil, List.append_nil]; rfl
      rw [e1, show (row v e r l).bl = JK v from rfl]
      exact List.perm_iff_count.2 fun a => by simp only [List.count_append]; omega
    exact (List.nodup_append.1 (hp.nodup_iff.1 hq)).2.2 b (List.mem_flatMap.2 ⟨D.it x, List.mem_map.2 ⟨x, hx, rfl⟩, hb⟩) b hm rfl
  refine ⟨h.frm, fun q hq => h.own q (hsub.subset hq), h.at_, fun z hz => ?_, h.nodup.sublist hsub, h.disj⟩
  rcases List.mem_cons.1 hz with rfl | hz
  · refine OB R (h.items _ (List.mem_cons_self ..)) hg (fun b hb => hb.mono fun q hq => hsub.subset hq) fun x hx b hb => ⟨.inr (h.own b ?_), hno x hx b hb⟩
    exact Dr (List.mem_cons_self ..) (Me hx hb)
  · exact z.stab (h.items z (List.mem_cons_of_mem _ hz)) (fun b hA _ => ⟨hA.mono fun q hq => hsub.subset hq, rfl⟩) fun _ _ => rfl
theorem MH.plain (R : Rst D r er g) {l0 : List π} (he : lx.map er = l0) (hg : JT g l0 = some l) (h : MH B M Z e D v lx) : EM B M Z r v l := fun w hw => by
  subst he
  exact R1 R (h w hw) hg (fun _ _ => trivial) fun _ _ => trivial
end
structure Nl (D : Dp δ) (z : δ) : Prop where
  bl : (D.it z).bl = []
  ok : ∀ w A, (D.it z).ok w A
theorem Nl.fl {n : Nat} {enc : α → List Value} {hn : ∀ a, (enc a).length = n} (a : α) : Nl (Dp.fl n enc hn) a := ⟨rfl, fun _ _ => trivial⟩
theorem Nl.pair {z : δ} {y : ε} (h : Nl D z) (k : Nl E y) : Nl (D.pair E) (z, y) := by
  have hb : ([D.it z, E.it y].flatMap It.bl) = [] := by simp [h.bl, k.bl]
  refine ⟨hb, fun w A => ⟨fun q hq => ?_, by rw [hb]; exact List.nodup_nil⟩⟩
  rcases List.mem_cons.1 hq with rfl | hq
  · exact h.ok w A
  · rcases List.mem_cons.1 hq with rfl | hq
    · exact k.ok w A
    · cases hq
theorem Nl.sl {e' : TypeId} {r : Rp α} : Nl (Dp.sl e' r) (.slice none 0 0, 2, []) := by
  have h : (Dp.sl e' r).it (.slice none 0 0, 2, []) = row (.slice none 0 0) e' r [] := LP
  exact ⟨by rw [h]; exact Nm none 0, fun w A => by rw [h]; exact .inl ⟨none, rfl, rfl⟩⟩
theorem Stw.nlZ {z : δ} (h : Stw B M Z w) (k : Nl D z) : Stw B M (D.it z :: Z) w := by
  have hbl : Bl M (D.it z :: Z) = Bl M Z := by unfold Bl; rw [List.flatMap_cons, k.bl]; rfl
  refine ⟨h.frm, by rw [hbl]; exact h.own, h.at_, fun y hy => ?_, by rw [hbl]; exact h.nodup, h.disj⟩
  rw [hbl]
  rcases List.mem_cons.1 hy with rfl | hy
  · exact k.ok _ _
  · exact h.items y hy
theorem Stw.nlBag {z : δ} (k : Nl D z) (h : Stw B M Z w) : ∀ n : Nat, Stw B M (Gr ((List.replicate n z).map D.it) :: Z) w
  | 0 => h.bagNil
  | n + 1 => by
    have h1 := (Stw.nlBag k h n).nlZ k
    have h2 : Stw B M (Gr ((List.replicate n z).map D.it ++ [D.it z]) :: Z) w := h1.bagPush
    rw [List.replicate_succ', List.map_append]; exact h2
theorem TE {π : Type} {er : δ → π} {n : Int} {z : δ} {l : List π} (h : mk n (er z) = some l) : mk n z = some (List.replicate n.toNat z) ∧ (List.replicate n.toNat z).map er = l := by
  obtain ⟨h0, h1, rfl⟩ := PC h
  exact ⟨by unfold mk; rw [if_pos ⟨h0, h1⟩], by simp⟩
theorem Stw.dNew {z : δ} {n : Nat} (k : Nl D z) (h : Stw B M (row v e D.hr (List.replicate n z) :: Z) w) : Stw B M (C8 v e D (List.replicate n z) :: Z) w := (Stw.nlBag k h n).swapZ.dShut
theorem Stw.bagSub {its its2 : List It} (hs : its2.Sublist its) (h : Stw B M (Gr its :: Z) w) : Stw B M (Gr its2 :: Z) w := ((h : Stw B M (Gr its :: Z) w).bagOpen.sub (List.Sublist.refl _) (hs.append_right Z)).bagShut
theorem Stw.bagMerge {its jts : List It} (h : Stw B M (Gr its :: Gr jts :: Z) w) : Stw B M (Gr (its ++ jts) :: Z) w := by
  have h1 : Stw B M (its ++ Gr jts :: Z) w := h.bagOpen
  have h2 : Stw B M (Gr jts :: (its ++ Z)) w := h1.permZ List.perm_middle
  have h3 : Stw B M (jts ++ (its ++ Z)) w := h2.bagOpen
  refine Stw.bagShut (its := its ++ jts) (h3.permZ ?_)
  rw [← List.append_assoc]
  exact List.perm_append_comm.append_right _
end
section
variable {P : Program} {B : Bs} {M M' : Dk} {Z Z' Z1 Z2 : List It} {n : Nat} {ds : List Deferred} {F F' : List (Nat × Value)} {a : Act} {w w' : World}
variable {ops : Array Oper} {Q : Exit → Act → World → Prop} {rest : List Oper} {o : Oper}
variable {dst : Option Tmp} {ty : TypeId} {pos : String} {aft : Array Edge} {g : Option (Nat × Bool)}
variable {δ σ : Type} {D : Dp δ} {S : Dp σ} {lx ly l3 : List δ} {v u : Value} {x x' : δ} {i : Int} {t e by_ : Nat}
theorem P0 {t : TypeId} {s q : Operand} {agg : Bool} {sz off j : Nat} {vs : List Value} {y : Value} (hF : Fr n ds F a) (hW : Stw B M (C8 v e D lx :: Z1) w) (hx : EE F s = some (.pointer (some ⟨Jg v, off, none⟩))) (hy : EE F q = some y)
    (ho : off = GJ v + i.toNat * D.sz + j) (hi : ix lx i = some x) (T : Ty P t agg sz) (hv : y.cells.toList = vs) (hsz : vs.length = sz) (hle : Nat.ble (j + vs.length) D.sz = true) (h1 : vs.all (·.oneCell') = true)
    (hc : HH (D.cells x) j vs = D.cells x') (hb : ∀ w, Stw B M (Gr (lx.map D.it) :: row v e D.hr lx :: Z1) w → Stw B M (Gr ((AE lx i x').map D.it) :: row v e D.hr lx :: Z2) w)
    (kk : ∀ w', Stw B M (C8 v e D (AE lx i x') :: Z2) w' → wpList P ops Q rest a w') : wpList P ops Q (⟨none, .store t s q, ty, pos, aft, none⟩ :: rest) a w :=
  A8 (r := D.hr) (i := i) (j := j) (x' := x') (k := 0) hF (hb w hW.dSplit.swapZ).swapZ hx hy ho rfl rfl hi T hv hsz hle h1 (fun A cs _ hr => SQ hr hc h1) fun w' hW => kk w' hW.dShut
theorem Pi {t : TypeId} {s q : Operand} {agg : Bool} {off j : Nat} {y : Value} {b : σ} (f : Foc D S) (hF : Fr n ds F a) (hW : Stw B M (S.it b :: C8 v e D lx :: Z1) w) (hx : EE F s = some (.pointer (some ⟨Jg v, off, none⟩))) (hy : EE F q = some y)
    (ho : off = GJ v + i.toNat * D.sz + j) (hi : ix lx i = some x) (T : Ty P t agg 1) (hv : y.cells.toList = [y]) (hle : Nat.ble (j + 1) D.sz = true) (h1 : y.oneCell' = true)
    (hc : HH (D.cells x) j [y] = D.cells (f.put x b))
    (kk : ∀ w', Stw B M (C8 v e D (AE lx i (f.put x b)) :: Z1) w' → wpList P ops Q rest a w') : wpList P ops Q (⟨none, .store t s q, ty, pos, aft, none⟩ :: rest) a w :=
  P0 (Z1 := S.it b :: Z1) hF hW.swapZ hx hy ho hi T hv rfl hle (by simp [h1]) hc (fun w h => by
    have h2 := (h.itTake hi)
    have h3 : Stw B M (S.it b :: D.it x :: Gr ((lx.map D.it).set i.toNat PM) :: row v e D.hr lx :: Z1) w := h2.frontZ (i := 3) rfl rfl
    exact (f.shut h3).itPut hi) kk
theorem Pc {π : Type} {er : δ → π} {l : List π} {b : π} (h1 : lx.map er = l) (h2 : er x' = b) : (AE lx i x').map er = AE l i b := by
  subst h1 h2; exact Qq er lx i x'
theorem Pt {π : Type} {er : δ → π} {l : List π} {s : Operand} {ts : Array TypeId} (he : lx.map er = l) (ht : P.underlying t = some (.slice e)) (hts : ts[0]? = some t) (hF : Fr n ds F a) (hx : EE F s = some v) (hR : EM B M Z D.hr v lx) :
    Yx P B M Z a ⟨dst, .call ⟨.builtin .len, #[s], ts⟩, ty, pos, aft, g⟩ (.int .i64 (l.length : Int)) := by
  have h := B1 (dst := dst) (ty := ty) (pos := pos) (aft := aft) (g := g) ht hts hF hx hR
  rw [← he, List.length_map]; exact h
theorem Qz {α : Type} {r : Rp α} {e' : TypeId} {t2 : TypeId} {s q : Operand} {d : Nat} {lx : List (De α)} {ly : List (Value × List α)} (hF : Fr n ds F a) (hW : Stw B M (C8 v e (Dp.sl e' r) lx :: Z) w) (hn : Nat.blt d n = true) (E : Et P t e 1 by_) (hs : EE F s = some v) (hx : EE F q = some u)
    (hsl : Sl w (Fz B (Bl M (C8 v e (Dp.sl e' r) lx :: Z))) (Rp.vsl r) u ly)
    (kk : ∀ a' w', Fr n ds ((d, .int .i64 ((min ly.length lx.length : Nat) : Int)) :: F) a' → Stw B M (C8 v e (Dp.sl e' r) (MC lx 0 (min ly.length lx.length) (ly.map fun p => ((p.1, 1, p.2) : De α))) :: Z) w' → wpList P ops Q rest a' w') :
    wpList P ops Q (⟨some d, .call ⟨.builtin .copy, #[s, q], #[t, t2]⟩, ty, pos, aft, none⟩ :: rest) a w := by
  obtain ⟨kk0, hk0⟩ : ∃ m, m = min ly.length lx.length := ⟨_, rfl⟩
  rw [← hk0] at kk
  have key : ∀ {A : Nat → Prop} {ly : List (Value × List α)} {xs : List Value}, Cp (Rp.vsl r) w A xs ly → Cp (Dp.sl e' r).hr w A xs (ly.map fun p => ((p.1, 1, p.2) : De α)) ∧ ∀ p ∈ ly, Sl w A r p.1 p.2 := by
    intro A ly
    induction ly with
    | nil => intro xs h; exact ⟨h, fun p hp => by cases hp⟩
    | cons p ly ih =>
      rintro xs ⟨cs, ys, he, h1, h2⟩
      obtain ⟨i1, i2⟩ := ih h2
      refine ⟨⟨cs, ys, he, ⟨h1.1, ?_⟩, i1⟩, fun q hq => ?_⟩
      · show ([p.1] : List Value).all _ = true
        simp [h1.2.one]
      · rcases List.mem_cons.1 hq with rfl | hq
        · exact h1.2
        · exact i2 q hq
  have hsrc : ∀ {A : Nat → Prop}, Sl w A (Rp.vsl r) u ly → NP w A (Dp.sl e' r).hr u (ly.map fun p => ((p.1, 1, p.2) : De α)) ∧ ∀ p ∈ ly, Sl w A r p.1 p.2 := by
    rintro A (⟨ad, cap, rfl, rfl⟩ | ⟨b, off, cap, xs, rfl, hc, hA, hb, hx2, hr⟩)
    · exact ⟨.inl ⟨ad, cap, rfl, rfl⟩, fun p hp => by cases hp⟩
    · exact ⟨.inr ⟨b, off, cap, xs, by simp, by simpa using hc, hx2, (key hr).1⟩, (key hr).2⟩
  have h1 : Stw B M (Gr (lx.map (Dp.sl e' r).it) :: row v e (Dp.sl e' r).hr lx :: Z) w := hW.dSplit.swapZ
  have h2 : Stw B M (Gr ((lx.drop kk0).map (Dp.sl e' r).it) :: row v e (Dp.sl e' r).hr lx :: Z) w := h1.bagSub ((List.drop_sublist kk0 lx).map _)
  have hm1 : ∀ b, Fz B (Bl M (C8 v e (Dp.sl e' r) lx :: Z)) b → Fz B (Bl M (Gr ((lx.drop kk0).map (Dp.sl e' r).it) :: row v e (Dp.sl e' r).hr lx :: Z)) b := fun b hb => hb.mono fun g hg => by
    unfold Bl at hg ⊢
    rcases List.mem_append.1 hg with hg | hg
    · exact List.mem_append_left _ hg
    · rw [List.flatMap_cons] at hg ⊢
      rw [List.flatMap_cons] at hg
      refine List.mem_append_right _ ?_
      rcases List.mem_append.1 hg with hg | hg
      · obtain ⟨z, hz, hg⟩ := List.mem_flatMap.1 hg
        obtain ⟨x, hx, rfl⟩ := List.mem_map.1 hz
        exact List.mem_append_left _ (Me ((List.drop_sublist kk0 lx).subset hx) hg)
      · rcases List.mem_append.1 hg with hg | hg
        · exact List.mem_append_left _ (Nj hg)
        · exact List.mem_append_right _ hg
  have h3 := h2.deRests (e := e') (r := r) (lx := ly.take kk0) fun p hp => ((hsrc hsl).2 p (List.mem_of_mem_take hp)).stab fun b hb _ => ⟨hm1 b hb, rfl⟩
  have h4 := h3.bagMerge
  have e1 : ((ly.take kk0).map fun x => ((x.1, 1, x.2) : De α)).map (LQ e' r) ++ (lx.drop kk0).map (Dp.sl e' r).it = (MC lx 0 kk0 (ly.map fun p => ((p.1, 1, p.2) : De α))).map (Dp.sl e' r).it := by
    unfold MC
    simp only [Int.toNat_zero, List.take_zero, List.nil_append, Nat.zero_add, List.map_append, List.map_take]
    rfl
  rw [e1] at h4
  have h5 := h4.swapZ
  have hm2 : ∀ b, Fz B (Bl M (C8 v e (Dp.sl e' r) lx :: Z)) b → Fz B (Bl M (row v e (Dp.sl e' r).hr lx :: Gr ((MC lx 0 kk0 (ly.map fun p => ((p.1, 1, p.2) : De α))).map (Dp.sl e' r).it) :: Z)) b := fun b hb => by
    refine (hm1 b hb).mono fun g hg => ?_
    have hz : ∀ g ∈ (Gr ((MC lx 0 kk0 (ly.map fun p => ((p.1, 1, p.2) : De α))).map (Dp.sl e' r).it)).bl, g ∈ (Gr ((lx.drop kk0).map (Dp.sl e' r).it)).bl := fun g hg => by
      rw [← e1] at hg
      obtain ⟨z, hz, hg⟩ := List.mem_flatMap.1 hg
      rcases List.mem_append.1 hz with hz | hz
      · obtain ⟨y, hy, rfl⟩ := List.mem_map.1 hz
        obtain ⟨p, hp, rfl⟩ := List.mem_map.1 hy
        rw [Pz] at hg; cases hg
      · exact List.mem_flatMap.2 ⟨z, hz, hg⟩
    unfold Bl at hg ⊢
    rcases List.mem_append.1 hg with hg | hg
    · exact List.mem_append_left _ hg
    · refine List.mem_append_right _ ?_
      rw [List.flatMap_cons, List.flatMap_cons] at hg ⊢
      rcases List.mem_append.1 hg with hg | hg
      · exact List.mem_append_right _ (List.mem_append_left _ hg)
      · rcases List.mem_append.1 hg with hg | hg
        · exact List.mem_append_left _ (hz g hg)
        · exact List.mem_append_right _ (List.mem_append_right _ hg)
  have hlen : (ly.map fun p => ((p.1, 1, p.2) : De α)).length = ly.length := List.length_map ..
  refine SE (r := (Dp.sl e' r).hr) (k := 0) (l2 := ly.map fun p => ((p.1, 1, p.2) : De α)) hF h5 hn E hs hx rfl rfl (hsrc (hsl.stab fun b hb _ => ⟨hm2 b hb, rfl⟩)).1 (fun a' w' hF hW => kk a' w' ?_ ?_)
  · rw [hlen, ← hk0] at hF; exact hF
  · rw [hlen, ← hk0] at hW; exact hW.dShut
def RR (k : Nat) : Option Unit := if k = 2 then some () else none
theorem RQ {k : Nat} {u : Unit} (h : RR k = some u) : k = 2 := by unfold RR at h; split at h <;> first | assumption | cases h
def Oz (k : Nat) : Option Unit := if k = 1 ∨ k = 2 then some () else none
theorem NO {k : Nat} {u : Unit} (h : Oz k = some u) : k = 1 ∨ k = 2 := by unfold Oz at h; split at h <;> first | assumption | cases h
theorem Stw.dTakeR {α : Type} {r : Rp α} {e' : TypeId} {l : List α} (h : Stw B M (C8 v e D lx :: Z) w) (hi : ix lx i = some x) (f : Foc D (Dp.sl e' r)) (hx : (f.get x).2 = (2, l)) : Stw B M (row (f.get x).1 e' r l :: C8 v e D (AE lx i (f.put x ((f.get x).1, 0, []))) :: Z) w := by
  have h1 := h.dTake hi f ((f.get x).1, 0, []) (show LQ e' r ((f.get x).1, 0, []) = PM from RG) rfl
  have h2 : (Dp.sl e' r).it (f.get x) = row (f.get x).1 e' r l := by
    show LQ e' r (f.get x) = _
    generalize f.get x = q at hx
    obtain ⟨v, k, m⟩ := q
    cases hx
    exact LP
  rw [h2] at h1; exact h1
theorem Stw.dBack {y : σ} {x2 : δ} (h : Stw B M (S.it y :: C8 v e D (AE lx i x') :: Z) w) (hi : ix lx i = some x) (f : Foc D S) (hc : S.cells y = S.cells (f.get x')) (hp : f.put x' y = x2) : Stw B M (C8 v e D (AE lx i x2) :: Z) w := by
  have h1 := h.dPut (QM hi) f hc
  rw [Og, hp] at h1; exact h1
theorem Stw.dBackR {α : Type} {r : Rp α} {e' : TypeId} {l : List α} {u : Value} {x2 : δ} (h : Stw B M (row u e' r l :: C8 v e D (AE lx i x') :: Z) w) (hi : ix lx i = some x) (f : Foc D (Dp.sl e' r)) (hc : u = (f.get x').1) (hp : f.put x' (u, 2, l) = x2) : Stw B M (C8 v e D (AE lx i x2) :: Z) w :=
  Stw.dBack (S := Dp.sl e' r) (y := (u, 2, l)) (by show Stw B M (LQ e' r (u, 2, l) :: _) w; rw [LP]; exact h) hi f (congrArg (fun q => [q]) hc) hp
theorem Stw.toR {α : Type} {r : Rp α} {e' : TypeId} {l : List α} {u : Value} (h : Stw B M (row u e' r l :: Z) w) : Stw B M ((Dp.sl e' r).it (u, 2, l) :: Z) w := by show Stw B M (LQ e' r (u, 2, l) :: _) w; rw [LP]; exact h
theorem Ss {α : Type} {lx : List (De α)} {ly : List (Value × List α)} {l : List (Nat × List α)} {m : List (List α)} (h1 : lx.map (fun x => x.2) = l) (h2 : ly.map (fun p => p.2) = m) :
    (MC lx 0 (min ly.length lx.length) (ly.map fun p => ((p.1, 1, p.2) : De α))).map (fun x => x.2) = MC l 0 (min m.length l.length) (m.map fun q => (1, q)) := by
  subst h1 h2
  unfold MC
  simp [List.map_take, List.map_drop]
  rfl
theorem Fl.reA {α : Type} {r : Rp α} {enc : α → List Value} (F : Fl r enc) {A A' : Nat → Prop} : ∀ {l : List α} {xs : List Value}, Cp r w A xs l → Cp r w A' xs l
  | [], xs, h => h
  | x :: l, xs, ⟨cs, ys, he, h1, h2⟩ => ⟨cs, ys, he, by rw [F.to h1]; exact F.mk' w A' x, Fl.reA F h2⟩
theorem QR {α : Type} {r : Rp α} {enc : α → List Value} {l : List α} (F : Fl r enc) (hR : EM B M Z r u l) (hW : Stw B M Z w) {A : Nat → Prop} : NP w A r u l := by
  rcases hR w hW with h | ⟨b, off, cap, xs, h1, hc, _, _, h2, h3⟩
  · exact .inl h
  · exact .inr ⟨b, off, cap, xs, h1, hc, h2, F.reA h3⟩
theorem KeyEnc.int {k : TypeId} {kk : IntKind} (hu : P.underlying k = some (.int kk)) : KeyEnc P k (fun x : Int => .int kk x) :=
  ⟨⟨_, hu, .inr fun x y => by show (if kk = kk then some (x == y) else none) = _; rw [if_pos rfl]; rfl⟩, fun x y w => by
    unfold Op.equal
    rw [show Op.maxDepth = 9999 + 1 from rfl, run_equalIn_int w 9999 k kk kk x y hu]
    congr 1, fun b x w => Jc (m := 9999) hu b w, fun x => by simp [Instr.sameBits]⟩
end
end Go.Proofs.Ytghpabmmdenaoaa
