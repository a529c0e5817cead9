/- Rows whose elements own rows, at any depth: elements seen with the values of their slices, and whether these are one's own. Conditions: none. -/
import Derived.Test.YtbiekjhlijdjbaaGreatbOW
import Derived.Test.YtbiekjhlijdjbaaGreatbOX
import Derived.Test.YtbiekjhlijdjbaaGreatbOM
set_option linter.unusedVariables false
set_option linter.unusedSimpArgs false
set_option linter.unusedSectionVars false
open Go Go.RowKit
namespace Go.Proofs.YtbiekjhlijdjbaaGreat
structure Dp (δ : Type) where
  sz : Nat
  cells : δ → List Value
  it : δ → It
  len : ∀ x,(cells x).length = sz
def Dp.hr {δ : Type} (D : Dp δ) : Rp δ :=
  ⟨D.sz,fun _ _ cs x => cs = D.cells x ∧ (D.cells x).all (·.oneCell') = true,fun h => by rw [h.1,D.len],fun h => by rw [h.1]; exact h.2,fun h _ => h⟩
theorem Dp.flat {δ : Type} (D : Dp δ) : Dr D.hr D.cells := fun h => h.1
def Cq {δ : Type} (v : Value) (e : TypeId) (D : Dp δ) (lx : List δ) : It := FU [row v e D.hr lx,FU (lx.map D.it)]
def Dp.fl {α : Type} (n : Nat) (enc : α → List Value) (hn : ∀ a,(enc a).length = n) : Dp α := ⟨n,enc,fun _ => Rd,hn⟩
def Dp.pair {δ ε : Type} (D : Dp δ) (E : Dp ε) : Dp (δ × ε) :=
  ⟨D.sz + E.sz,fun x => D.cells x.1 ++ E.cells x.2,fun x => FU [D.it x.1,E.it x.2],fun x => by rw [List.length_append,D.len,E.len]⟩
def Dp.sl {α : Type} (e : TypeId) (r : Rp α) : Dp (De α) := ⟨1,fun x => [x.1],Pl e r,fun _ => rfl⟩
def LZ {δ : Type} (e : TypeId) (D : Dp δ) (x : De δ) : It := if x.2.1 = 2 then Cq x.1 e D x.2.2 else Rd
def Dp.dl {δ : Type} (e : TypeId) (D : Dp δ) : Dp (De δ) := ⟨1,fun x => [x.1],LZ e D,fun _ => rfl⟩
theorem Oj {δ : Type} {e : TypeId} {D : Dp δ} {v : Value} {l : List δ} : LZ e D (v,2,l) = Cq v e D l := by unfold LZ; rw [if_pos rfl]
section
variable {δ ε σ α : Type} {D : Dp δ} {E : Dp ε} {S : Dp σ} {B : Bs} {w w' : World} {M M' : Bi} {Z Z' Z1 : List It} {v u : Value} {e : TypeId} {lx ly : List δ} {x x' : δ} {i : Int}
theorem Stw.dSplit (h : Stw B M (Cq v e D lx :: Z) w) : Stw B M (row v e D.hr lx :: FU (lx.map D.it) :: Z) w := h.bagOpen
theorem Stw.dShut (h : Stw B M (row v e D.hr lx :: FU (lx.map D.it) :: Z) w) : Stw B M (Cq v e D lx :: Z) w := Stw.bagShut (its := [_,_]) h
theorem Stw.swapZ {a b : It} (h : Stw B M (a :: b :: Z) w) : Stw B M (b :: a :: Z) w := h.permZ (List.Perm.swap _ _ _)
theorem Stw.rotZ {a b c : It} (h : Stw B M (a :: b :: c :: Z) w) : Stw B M (b :: c :: a :: Z) w := h.permZ ((List.Perm.swap _ _ _).trans ((List.Perm.swap _ _ _).cons _))
theorem Stw.rotZ' {a b c : It} (h : Stw B M (b :: c :: a :: Z) w) : Stw B M (a :: b :: c :: Z) w := h.permZ (((List.Perm.swap _ _ _).cons _).trans (List.Perm.swap _ _ _))
theorem Stw.tailZ {a : It} (h : Stw B M (a :: Z) w) : Stw B M Z w := h.sub (List.Sublist.refl _) (List.sublist_cons_self _ _)
theorem Stw.under {a b c : It} (h : Stw B M (a :: b :: c :: Z) w) : Stw B M (a :: FU [b,c] :: Z) w := (Stw.bagShut (its := [b,c]) h.rotZ).swapZ
structure Foc (D : Dp δ) (S : Dp σ) where
  get : δ → σ
  put : δ → σ → δ
  cl : ∀ x y,S.cells y = S.cells (get x) → D.cells (put x y) = D.cells x
  op : ∀ {B : Bs} {M : Bi} {Z : List It} {w : World} {x : δ} (y : σ),Stw B M (D.it x :: Z) w → S.it y = Rd → Stw B M (S.it (get x) :: D.it (put x y) :: Z) w
  shut : ∀ {B : Bs} {M : Bi} {Z : List It} {w : World} {x : δ} {y : σ},Stw B M (S.it y :: D.it x :: Z) w → Stw B M (D.it (put x y) :: Z) w
  okk : ∀ {w : World} {A : Nat → Prop} {x : δ},(D.it x).ok w A → (S.it (get x)).ok w A
def Foc.here : Foc S S := ⟨fun x => x,fun _ y => y,fun x y h => h,fun y h hy => by rw [hy]; exact h.addEmp.swapZ,fun h => h.swapZ.tailZ,fun h => h⟩
def Foc.fst (f : Foc D S) : Foc (D.pair E) S :=
  ⟨fun x => f.get x.1,fun x y => (f.put x.1 y,x.2),fun x y h => congrArg (· ++ E.cells x.2) (f.cl x.1 y h),
   fun y h hy => (f.op y (h : Stw _ _ (FU [_,_] :: _) _).bagOpen hy).under,
   fun {B M Z w x y} h => by
    have h1 : Stw B M (D.it x.1 :: E.it x.2 :: S.it y :: Z) w := Stw.bagOpen (its := [_,_]) (h : Stw B M (S.it y :: FU [_,_] :: Z) w).swapZ
    exact Stw.bagShut (its := [_,_]) (f.shut h1.rotZ'),
   fun h => f.okk (h.1 _ (List.mem_cons_self ..))⟩
def Foc.snd (f : Foc E S) : Foc (D.pair E) S :=
  ⟨fun x => f.get x.2,fun x y => (x.1,f.put x.2 y),fun x y h => congrArg (D.cells x.1 ++ ·) (f.cl x.2 y h),
   fun {B M Z w x} y h hy => by
    have h1 : Stw B M (D.it x.1 :: E.it x.2 :: Z) w := (h : Stw B M (FU [_,_] :: Z) w).bagOpen
    have h2 := f.op y h1.swapZ hy
    exact (h2.permZ ((List.Perm.swap _ _ _).cons _)).under,
   fun {B M Z w x y} h => by
    have h1 : Stw B M (D.it x.1 :: E.it x.2 :: S.it y :: Z) w := Stw.bagOpen (its := [_,_]) (h : Stw B M (S.it y :: FU [_,_] :: Z) w).swapZ
    have h2 : Stw B M (S.it y :: E.it x.2 :: D.it x.1 :: Z) w := h1.permZ ((List.Perm.swap _ _ _).trans (((List.Perm.swap _ _ _).cons _).trans (List.Perm.swap _ _ _)))
    exact Stw.bagShut (its := [_,_]) (f.shut h2).swapZ,
   fun h => f.okk (h.1 _ (zc _ (List.mem_cons_self ..)))⟩
def Pq (B : Bs) (M : Bi) (Z : List It) (e : TypeId) (D : Dp δ) (v : Value) (lx : List δ) : Prop := ∀ w,Stw B M Z w → (Cq v e D lx).ok w any
theorem It.any {z : It} {A : Nat → Prop} (h : z.ok w A) : z.ok w any := z.stab h (fun _ _ _ => ⟨trivial,rfl⟩) fun _ _ => rfl
theorem NK (k : Nat) (hZ : Z[k]? = some (Cq v e D lx)) : Pq B M Z e D v lx := fun w hw => It.any (z := Cq v e D lx) (hw.item hZ)
theorem NT {A : Nat → Prop} (h : (Cq v e D lx).ok w A) : DZ w A e D.hr v lx := h.1 _ (List.mem_cons_self ..)
theorem Rl {A : Nat → Prop} (h : (Cq v e D lx).ok w A) (hi : ix lx i = some x) : (D.it x).ok w A :=
  (show (FU (lx.map D.it)).ok w A from h.1 _ (zc _ (List.mem_cons_self ..))).1 _ (List.mem_map.2 ⟨x,BZ (F9 hi).2.2,rfl⟩)
theorem Pq.hd (h : Pq B M Z e D v lx) : Mo B M Z D.hr v lx := fun w hw => (NT (h w hw)).sl (fun _ _ => trivial) fun _ _ => trivial
theorem Pq.one (h : Pq B M Z e D v lx) (hw : Stw B M Z w) : v.oneCell' = true := (NT (h w hw)).one
theorem Pq.sl {r : Rp α} {e' : TypeId} (h : Pq B M Z e D v lx) (hi : ix lx i = some x) (f : Foc D (Dp.sl e' r)) {l : List α} {k : Nat} (hx : (f.get x).2 = (k,l)) (hk : k = 1 ∨ k = 2) : Mo B M Z r (f.get x).1 l := fun w hw => by
  have h1 := f.okk (Rl (h w hw) hi)
  have h2 : (f.get x).2.2 = l := by rw [hx]
  have h3 : (f.get x).2.1 = k := by rw [hx]
  rw [← h2]
  exact XR h1 (by rw [h3]; omega) (by rw [h3]; omega)
theorem Pq.dl {D' : Dp ε} {e' : TypeId} (h : Pq B M Z e D v lx) (hi : ix lx i = some x) (f : Foc D (Dp.dl e' D')) (hk : (f.get x).2.1 = 2) : Pq B M Z e' D' (f.get x).1 (f.get x).2.2 := fun w hw => by
  have h1 : (LZ e' D' (f.get x)).ok w any := f.okk (Rl (h w hw) hi)
  unfold LZ at h1
  rw [if_pos hk] at h1
  exact h1
theorem A8.re {r : Rp α} {A : Nat → Prop} {a b : α} (hr : ∀ cs,r.rep w A cs a → r.rep w A cs b) : ∀ {l : List α} {xs : List Value} {k : Nat},A8 r w A xs l → l[k]? = some a → A8 r w A xs (l.set k b)
  | [],xs,k,h,hk => by simp at hk
  | y :: l,xs,0,⟨cs,ys,he,h1,h2⟩,hk => by
    simp at hk; subst hk
    exact ⟨cs,ys,he,hr cs h1,h2⟩
  | y :: l,xs,k + 1,⟨cs,ys,he,h1,h2⟩,hk => by
    simp at hk
    exact ⟨cs,ys,he,h1,A8.re hr h2 hk⟩
theorem DZ.re {r : Rp α} {A : Nat → Prop} {l : List α} {a b : α} (h : DZ w A e r v l) (hi : ix l i = some a) (hr : ∀ cs,r.rep w A cs a → r.rep w A cs b) : DZ w A e r v (Ao l i b) := by
  obtain ⟨h0,hk,hx⟩ := F9 hi
  rcases h with ⟨ad,rfl,rfl⟩ | ⟨g,off,cap,cur,xs,rfl,hp,hb,h1,h2,h3,h4,h5⟩
  · simp at hk
  · exact .inr ⟨g,off,cap,cur,xs,by simp [Ao],hp,hb,by simpa [Ao] using h1,h2,h3,by simpa [Ao] using h4,A8.re hr h5 hx⟩
theorem Stw.hdSame (h : Stw B M (row v e D.hr lx :: Z) w) (hi : ix lx i = some x) (hc : D.cells x' = D.cells x) : Stw B M (row v e D.hr (Ao lx i x') :: Z) w :=
  h.itemSame (z := row v e D.hr lx) (z' := row v e D.hr (Ao lx i x')) rfl fun A ho => DZ.re (show DZ w A e D.hr v lx from ho) hi fun cs hx => ⟨hx.1.trans hc.symm,by rw [hc]; exact hx.2⟩
theorem Stw.itTake (h : Stw B M (FU (lx.map D.it) :: Z) w) (hi : ix lx i = some x) : Stw B M (D.it x :: FU ((lx.map D.it).set i.toNat Rd) :: Z) w := by
  obtain ⟨h0,hk,hx⟩ := F9 hi
  exact h.bagTake (by rw [List.getElem?_map,hx]; rfl)
theorem Stw.itPut {z : It} (h : Stw B M (D.it x' :: FU ((lx.map D.it).set i.toNat z) :: Z) w) (hi : ix lx i = some x) : Stw B M (FU ((Ao lx i x').map D.it) :: Z) w := by
  obtain ⟨h0,hk,hx⟩ := F9 hi
  have h1 := h.bagPut (i := i.toNat) (x := z) (by rw [List.getElem?_set_self (by simpa using hk)])
  rw [List.set_set] at h1
  unfold Ao
  rw [List.map_set]; exact h1
theorem Stw.dTake (h : Stw B M (Cq v e D lx :: Z) w) (hi : ix lx i = some x) (f : Foc D S) (y : σ) (hy : S.it y = Rd) (hc : S.cells y = S.cells (f.get x)) : Stw B M (S.it (f.get x) :: Cq v e D (Ao lx i (f.put x y)) :: Z) w := by
  have h1 := (h.dSplit.hdSame hi (f.cl x y hc)).swapZ.itTake hi
  have h2 := f.op y h1 hy
  have h3 : Stw B M (D.it (f.put x y) :: FU ((lx.map D.it).set i.toNat Rd) :: S.it (f.get x) :: row v e D.hr (Ao lx i (f.put x y)) :: Z) w := h2.rotZ
  have h4 := h3.itPut hi
  exact (h4.frontZ (i := 2) rfl rfl).dShut.swapZ
theorem Oy : ∀ {vs cs : List Value} {j : Nat},cs.all (·.oneCell') = true → vs.all (·.oneCell') = true → (DI cs j vs).all (·.oneCell') = true
  | [],cs,j,h,_ => h
  | v :: vs,cs,j,h,h1 => by
    simp only [DI]
    simp only [List.all_cons,zf] at h1
    refine Oy ?_ h1.2
    rw [List.all_eq_true]
    intro u hu
    rcases List.mem_or_eq_of_mem_set hu with hu | rfl
    · exact List.all_eq_true.1 h u hu
    · exact h1.1
theorem W9 {A : Nat → Prop} {cs vs : List Value} {j : Nat} (hx : D.hr.rep w A cs x) (hc : DI (D.cells x) j vs = D.cells x') (h1 : vs.all (·.oneCell') = true) : D.hr.rep w A (DI cs j vs) x' :=
  ⟨by rw [hx.1]; exact hc,by rw [← hc]; exact Oy hx.2 h1⟩
def Hz {π α : Type} (g : π → Option α) : List π → Option (List α)
  | [] => some []
  | x :: l => (g x).bind fun a => (Hz g l).bind fun m => some (a :: m)
structure Rst {π : Type} (D : Dp δ) (r : Rp α) (er : δ → π) (g : π → Option α) : Prop where
  sz : r.sz = D.sz
  to : ∀ {w : World} {A A' : Nat → Prop} {x : δ} {a : α},g (er x) = some a → (D.it x).ok w A → (∀ b,A b → A' b) → (∀ b ∈ (D.it x).bl,A' b) → r.rep w A' (D.cells x) a
section
variable {π : Type} {r : Rp α} {er : δ → π} {g : π → Option α} {l : List α} {A A' : Nat → Prop}
theorem A8.rest (R : Rst D r er g) (hA : ∀ b,A b → A' b) : ∀ {lx : List δ} {l : List α} {xs : List Value},A8 D.hr w A xs lx → (∀ x ∈ lx,(D.it x).ok w A) → (∀ x ∈ lx, ∀ b ∈ (D.it x).bl,A' b) → Hz g (lx.map er) = some l → A8 r w A' xs l
  | [],l,xs,h,_,_,hg => by cases hg; exact h
  | x :: lx,l,xs,⟨cs,ys,he,h1,h2⟩,ho,hb,hg => by
    obtain ⟨a,ha,hg⟩ := Ad hg
    obtain ⟨m,hm,hg⟩ := Ad hg
    cases hg
    refine ⟨cs,ys,he, ?_,A8.rest R hA h2 (fun y hy => ho y (zc _ hy)) (fun y hy => hb y (zc _ hy)) hm⟩
    rw [h1.1]
    exact R.to ha (ho x (List.mem_cons_self ..)) hA (hb x (List.mem_cons_self ..))
theorem MS : ∀ {l : List π} {m : List α},Hz g l = some m → m.length = l.length
  | [],m,h => by cases h; rfl
  | x :: l,m,h => by
    obtain ⟨a,ha,h⟩ := Ad h
    obtain ⟨k,hm,h⟩ := Ad h
    cases h
    simp [MS hm]
theorem Ot (R : Rst D r er g) (h : (Cq v e D lx).ok w A) (hg : Hz g (lx.map er) = some l) (hA : ∀ b,A b → A' b) (hb : ∀ x ∈ lx, ∀ b ∈ (D.it x).bl,A' b) : DZ w A' e r v l := by
  have hit : ∀ x ∈ lx,(D.it x).ok w A := fun x hx => (show (FU (lx.map D.it)).ok w A from h.1 _ (zc _ (List.mem_cons_self ..))).1 _ (List.mem_map.2 ⟨x,hx,rfl⟩)
  have hl := MS hg
  rw [List.length_map] at hl
  rcases NT h with ⟨ad,rfl,rfl⟩ | ⟨b,off,cap,cur,xs,rfl,hp,hbk,h1,h2,h3,h4,h5⟩
  · cases hg; exact .inl ⟨ad,rfl,rfl⟩
  · refine .inr ⟨b,off,cap,cur,xs,by rw [hl],hp,hbk,by rw [hl]; exact h1,h2,by rw [R.sz]; exact h3,by rw [R.sz,hl]; exact h4,A8.rest R hA h5 hit hb hg⟩
theorem OK {y : Nat} {x : δ} (hx : x ∈ lx) (hb : y ∈ (D.it x).bl) : y ∈ (Cq v e D lx).bl :=
  List.mem_flatMap.2 ⟨FU (lx.map D.it),zc _ (List.mem_cons_self ..),List.mem_flatMap.2 ⟨D.it x,List.mem_map.2 ⟨x,hx,rfl⟩,hb⟩⟩
theorem RD {y : Nat} (hb : y ∈ HV v) : y ∈ (Cq v e D lx).bl := List.mem_flatMap.2 ⟨row v e D.hr lx,List.mem_cons_self ..,hb⟩
theorem Ro (R : Rst D r er g) (h : (Cq v e D lx).ok w A) (hg : Hz g (lx.map er) = some l) (hA : ∀ b,A b → A' b) (hb : ∀ b ∈ (Cq v e D lx).bl,A' b) : Sl w A' r v l :=
  (Ot R h hg hA fun x hx b hm => hb b (OK hx hm)).sl (fun _ h => h) fun q hq => hb q (RD (Dx.2 hq))
theorem Rst.flat {enc : α → List Value} (F : Fl r enc) {n : Nat} (hn : ∀ a,(enc a).length = n) (hs : r.sz = n) : Rst (Dp.fl n enc hn) r (fun a => a) some :=
  ⟨hs,fun {w A A' x a} h _ _ _ => by cases h; exact F.mk' w A' x⟩
theorem Rst.pair {β ρ : Type} {s : Rp β} {es : ε → ρ} {k : ρ → Option β} (R : Rst D r er g) (T : Rst E s es k) : Rst (D.pair E) (r.pair s) (fun x => (er x.1,es x.2)) (fun p => (g p.1).bind fun a => (k p.2).bind fun b => some (a,b)) :=
  ⟨by show r.sz + s.sz = D.sz + E.sz; rw [R.sz,T.sz],fun {w A A' x a} h ho hA hb => by
    obtain ⟨a1,h1,h⟩ := Ad h
    obtain ⟨a2,h2,h⟩ := Ad h
    cases h
    exact ⟨_,_,rfl,R.to h1 (ho.1 _ (List.mem_cons_self ..)) hA (fun b hm => hb b (List.mem_flatMap.2 ⟨_,List.mem_cons_self ..,hm⟩)),T.to h2 (ho.1 _ (zc _ (List.mem_cons_self ..))) hA (fun b hm => hb b (List.mem_flatMap.2 ⟨_,zc _ (List.mem_cons_self ..),hm⟩))⟩⟩
def Zy (x : Nat × List α) : Option (List α) := if x.1 = 1 ∨ x.1 = 2 then some x.2 else none
def eJ {π : Type} (g : π → Option α) (x : Nat × List π) : Option (List α) := if x.1 = 2 then Hz g x.2 else none
theorem Rst.sl {e' : TypeId} {r : Rp α} : Rst (Dp.sl e' r) (Rp.slice r) (fun x => x.2) Zy :=
  ⟨rfl, fun {w A A' x a} h ho hA hb => by
    unfold Zy at h
    split at h
    · rename_i hk
      cases h
      refine ⟨x.1,rfl, ?_⟩
      have ho : (Pl e' r x).ok w A := ho
      have hb : ∀ b ∈ (Pl e' r x).bl,A' b := hb
      unfold Pl at ho hb
      by_cases c : x.2.1 = 2
      · rw [if_pos c] at ho hb
        exact DZ.sl (show DZ w A e' r x.1 x.2.2 from ho) hA fun q hq => hb q (Dx.2 hq)
      · rw [if_neg c,if_pos (by omega)] at ho
        exact (show Sl w A r x.1 x.2.2 from ho).stab fun b hb _ => ⟨hA b hb,rfl⟩
    · cases h⟩
theorem Rst.dl {e' : TypeId} (R : Rst D r er g) : Rst (Dp.dl e' D) (Rp.slice r) (fun x => (x.2.1,x.2.2.map er)) (eJ g) :=
  ⟨rfl,fun {w A A' x a} h ho hA hb => by
    unfold eJ at h
    split at h
    · rename_i hk
      refine ⟨x.1,rfl, ?_⟩
      have ho : (LZ e' D x).ok w A := ho
      have hb : ∀ b ∈ (LZ e' D x).bl,A' b := hb
      unfold LZ at ho hb
      rw [if_pos hk] at ho hb
      exact Ro R ho h hA hb
    · cases h⟩
theorem Stw.ddRest (R : Rst D r er g) {l0 : List π} (he : lx.map er = l0) (hg : Hz g l0 = some l) (h : Stw B M (Cq v e D lx :: Z) w) : Stw B M (row v e r l :: Z) w := by
  subst he
  have hsub : (AA M (row v e r l :: Z)).Sublist (AA M (Cq v e D lx :: Z)) := by
    unfold AA
    refine List.Sublist.append (List.Sublist.refl _) ?_
    rw [List.flatMap_cons,List.flatMap_cons]
    refine List.Sublist.append ?_ (List.Sublist.refl _)
    exact List.sublist_append_left (HV v) _
  have hnd := (List.nodup_append.1 h.dSplit.nodup).2.1
  have hno : ∀ x ∈ lx, ∀ b ∈ (D.it x).bl,b ∉ AA M (row v e r l :: Z) := fun x hx b hb hm => by
    have hq : (AA M (Cq v e D lx :: Z)).Nodup := h.nodup
    have hp : (AA M (Cq v e D lx :: Z)).Perm ((FU (lx.map D.it)).bl ++ AA M (row v e r l :: Z)) := by
      unfold AA
      rw [List.flatMap_cons,List.flatMap_cons]
      have e1 : (Cq v e D lx).bl = HV v ++ (FU (lx.map D.it)).bl := by
        show [row v e D.hr lx,FU (lx.map D.it)].flatMap It.bl = _
        simp only [List.flatMap_cons,List.flatMap_nil,List.append_nil]; rfl
      rw [e1,show (row v e r l).bl = HV v from rfl]
      exact List.perm_iff_count.2 fun a => by simp only [List.count_append]; omega
    exact (List.nodup_append.1 (hp.nodup_iff.1 hq)).2.2 b (List.mem_flatMap.2 ⟨D.it x,List.mem_map.2 ⟨x,hx,rfl⟩,hb⟩) b hm rfl
  refine ⟨h.frm,fun q hq => h.own q (hsub.subset hq),h.at_,fun z hz => ?_,h.nodup.sublist hsub,h.disj⟩
  rcases List.mem_cons.1 hz with rfl | hz
  · refine Ot R (h.items _ (List.mem_cons_self ..)) hg (fun b hb => hb.mono fun q hq => hsub.subset hq) fun x hx b hb => ⟨.inr (h.own b ?_),hno x hx b hb⟩
    exact BT (List.mem_cons_self ..) (OK hx hb)
  · exact z.stab (h.items z (zc _ hz)) (fun b hA _ => ⟨hA.mono fun q hq => hsub.subset hq,rfl⟩) fun _ _ => rfl
theorem Pq.plain (R : Rst D r er g) {l0 : List π} (he : lx.map er = l0) (hg : Hz g l0 = some l) (h : Pq B M Z e D v lx) : Mo B M Z r v l := fun w hw => by
  subst he
  exact Ro R (h w hw) hg (fun _ _ => trivial) fun _ _ => trivial
end
structure Nl (D : Dp δ) (z : δ) : Prop where
  bl : (D.it z).bl = []
  ok : ∀ w A,(D.it z).ok w A
theorem Nl.fl {n : Nat} {enc : α → List Value} {hn : ∀ a,(enc a).length = n} (a : α) : Nl (Dp.fl n enc hn) a := ⟨rfl,fun _ _ => trivial⟩
theorem Nl.pair {z : δ} {y : ε} (h : Nl D z) (k : Nl E y) : Nl (D.pair E) (z,y) := by
  have hb : ([D.it z,E.it y].flatMap It.bl) = [] := by simp [h.bl,k.bl]
  refine ⟨hb,fun w A => ⟨fun q hq => ?_,by rw [hb]; exact List.nodup_nil⟩⟩
  rcases List.mem_cons.1 hq with rfl | hq
  · exact h.ok w A
  · rcases List.mem_cons.1 hq with rfl | hq
    · exact k.ok w A
    · cases hq
theorem Nl.sl {e' : TypeId} {r : Rp α} : Nl (Dp.sl e' r) (.slice none 0 0,2,[]) := by
  have h : (Dp.sl e' r).it (.slice none 0 0,2,[]) = row (.slice none 0 0) e' r [] := NU
  exact ⟨by rw [h]; exact JJ none 0,fun w A => by rw [h]; exact .inl ⟨none,rfl,rfl⟩⟩
theorem Nl.dl {e' : TypeId} : Nl (Dp.dl e' D) (.slice none 0 0,2,[]) := by
  have hb : (LZ e' D (.slice none 0 0,2,[])).bl = [] := by
    rw [Oj]
    show [row _ e' D.hr [],FU _].flatMap It.bl = []
    simp [row,JJ,FU]
  refine ⟨hb,fun w A => ?_⟩
  have hb' := hb
  show (LZ e' D (.slice none 0 0,2,[])).ok w A
  clear hb'
  have hb' := hb
  rw [Oj] at hb' ⊢
  refine ⟨fun q hq => ?_,by rw [show [row _ e' D.hr [],FU _].flatMap It.bl = [] from hb']; exact List.nodup_nil⟩
  rcases List.mem_cons.1 hq with rfl | hq
  · exact .inl ⟨none,rfl,rfl⟩
  · rcases List.mem_cons.1 hq with rfl | hq
    · exact ⟨fun q hq => (by cases hq),List.nodup_nil⟩
    · cases hq
theorem Stw.nlZ {z : δ} (h : Stw B M Z w) (k : Nl D z) : Stw B M (D.it z :: Z) w := by
  have hbl : AA M (D.it z :: Z) = AA M Z := by unfold AA; rw [List.flatMap_cons,k.bl]; rfl
  refine ⟨h.frm,by rw [hbl]; exact h.own,h.at_,fun y hy => ?_,by rw [hbl]; exact h.nodup,h.disj⟩
  rw [hbl]
  rcases List.mem_cons.1 hy with rfl | hy
  · exact k.ok _ _
  · exact h.items y hy
theorem Stw.nlBag {z : δ} (k : Nl D z) (h : Stw B M Z w) : ∀ n : Nat,Stw B M (FU ((List.replicate n z).map D.it) :: Z) w
  | 0 => h.bagNil
  | n + 1 => by
    have h1 := (Stw.nlBag k h n).nlZ k
    have h2 : Stw B M (FU ((List.replicate n z).map D.it ++ [D.it z]) :: Z) w := h1.bagPush
    rw [List.replicate_succ',List.map_append]; exact h2
theorem Stw.dNil (h : Stw B M Z w) (e : TypeId) (D : Dp δ) : Stw B M (Cq (.slice none 0 0) e D [] :: Z) w :=
  Stw.dShut (lx := []) ((h.bagNil).emptyRow none e D.hr)
theorem YZ {π : Type} {er : δ → π} {n : Int} {z : δ} {l : List π} (h : mk n (er z) = some l) : mk n z = some (List.replicate n.toNat z) ∧ (List.replicate n.toNat z).map er = l := by
  obtain ⟨h0,h1,rfl⟩ := Re h
  exact ⟨by unfold mk; rw [if_pos ⟨h0,h1⟩],by simp⟩
theorem Stw.dNew {z : δ} {n : Nat} (k : Nl D z) (h : Stw B M (row v e D.hr (List.replicate n z) :: Z) w) : Stw B M (Cq v e D (List.replicate n z) :: Z) w := (Stw.nlBag k h n).swapZ.dShut
end
section
variable {P : Program} {B : Bs} {M M' : Bi} {Z Z' Z1 Z2 : List It} {n : Nat} {ds : List Deferred} {F F' : List (Nat × Value)} {a : Act} {w w' : World}
variable {ops : Array Oper} {Q : Exit → Act → World → Prop} {rest : List Oper} {o : Oper}
variable {dst : Option Tmp} {ty : TypeId} {pos : String} {aft : Array Edge} {g : Option (Nat × Bool)}
variable {δ σ : Type} {D : Dp δ} {S : Dp σ} {lx ly l3 : List δ} {v u : Value} {x x' : δ} {i : Int} {t e by_ : Nat}
theorem RH {t : TypeId} {s q : Operand} {agg : Bool} {sz off j : Nat} {vs : List Value} {y : Value} (hF : Fr n ds F a) (hW : Stw B M (Cq v e D lx :: Z1) w) (hx : Bo F s = some (.pointer (some ⟨GR v,off,none⟩))) (hy : Bo F q = some y)
    (ho : off = Dt v + i.toNat * D.sz + j) (hi : ix lx i = some x) (T : Ty P t agg sz) (hv : y.cells.toList = vs) (hsz : vs.length = sz) (hle : Nat.ble (j + vs.length) D.sz = true) (h1 : vs.all (·.oneCell') = true)
    (hc : DI (D.cells x) j vs = D.cells x') (hb : ∀ w,Stw B M (FU (lx.map D.it) :: row v e D.hr lx :: Z1) w → Stw B M (FU ((Ao lx i x').map D.it) :: row v e D.hr lx :: Z2) w)
    (kk : ∀ w',Stw B M (Cq v e D (Ao lx i x') :: Z2) w' → wpList P ops Q rest a w') : wpList P ops Q (⟨none,.store t s q,ty,pos,aft,none⟩ :: rest) a w :=
  BE (r := D.hr) (i := i) (j := j) (x' := x') (k := 0) hF (hb w hW.dSplit.swapZ).swapZ hx hy ho rfl rfl hi T hv hsz hle h1 (fun A cs _ hr => W9 hr hc h1) fun w' hW => kk w' hW.dShut
theorem PB {t : TypeId} {s q : Operand} {agg : Bool} {off j : Nat} {y : Value} {b : σ} (f : Foc D S) (hF : Fr n ds F a) (hW : Stw B M (S.it b :: Cq v e D lx :: Z1) w) (hx : Bo F s = some (.pointer (some ⟨GR v,off,none⟩))) (hy : Bo F q = some y)
    (ho : off = Dt v + i.toNat * D.sz + j) (hi : ix lx i = some x) (T : Ty P t agg 1) (hv : y.cells.toList = [y]) (hle : Nat.ble (j + 1) D.sz = true) (h1 : y.oneCell' = true)
    (hc : DI (D.cells x) j [y] = D.cells (f.put x b))
    (kk : ∀ w',Stw B M (Cq v e D (Ao lx i (f.put x b)) :: Z1) w' → wpList P ops Q rest a w') : wpList P ops Q (⟨none,.store t s q,ty,pos,aft,none⟩ :: rest) a w :=
  RH (Z1 := S.it b :: Z1) hF hW.swapZ hx hy ho hi T hv rfl hle (by simp [h1]) hc (fun w h => by
    have h2 := (h.itTake hi)
    have h3 : Stw B M (S.it b :: D.it x :: FU ((lx.map D.it).set i.toNat Rd) :: row v e D.hr lx :: Z1) w := h2.frontZ (i := 3) rfl rfl
    exact (f.shut h3).itPut hi) kk
theorem SJ {π : Type} {er : δ → π} {l : List π} {b : π} (h1 : lx.map er = l) (h2 : er x' = b) : (Ao lx i x').map er = Ao l i b := by
  subst h1 h2; exact RN er lx i x'
def UV (k : Nat) : Option Unit := if k = 2 then some () else none
theorem U7 {k : Nat} {u : Unit} (h : UV k = some u) : k = 2 := by unfold UV at h; split at h <;> first | assumption | cases h
theorem Stw.dTakeR {α : Type} {r : Rp α} {e' : TypeId} {l : List α} (h : Stw B M (Cq v e D lx :: Z) w) (hi : ix lx i = some x) (f : Foc D (Dp.sl e' r)) (hx : (f.get x).2 = (2,l)) : Stw B M (row (f.get x).1 e' r l :: Cq v e D (Ao lx i (f.put x ((f.get x).1,0,[]))) :: Z) w := by
  have h1 := h.dTake hi f ((f.get x).1,0,[]) (show Pl e' r ((f.get x).1,0,[]) = Rd from Uy) rfl
  have h2 : (Dp.sl e' r).it (f.get x) = row (f.get x).1 e' r l := by
    show Pl e' r (f.get x) = _
    generalize f.get x = q at hx
    obtain ⟨v,k,m⟩ := q
    cases hx
    exact NU
  rw [h2] at h1; exact h1
theorem Stw.toR {α : Type} {r : Rp α} {e' : TypeId} {l : List α} {u : Value} (h : Stw B M (row u e' r l :: Z) w) : Stw B M ((Dp.sl e' r).it (u,2,l) :: Z) w := by show Stw B M (Pl e' r (u,2,l) :: _) w; rw [NU]; exact h
theorem Stw.toF {α : Type} {r : Rp α} {l : List α} {u : Value} (e' : TypeId) (h : Stw B M (KB u r l :: Z) w) : Stw B M ((Dp.sl e' r).it (u,1,l) :: Z) w := by show Stw B M (Pl e' r (u,1,l) :: _) w; rw [Vd]; exact h
theorem KeyEnc.int {k : TypeId} {kk : IntKind} (hu : P.underlying k = some (.int kk)) : KeyEnc P k (fun x : Int => .int kk x) :=
  ⟨⟨_,hu,.inr fun x y => by show (if kk = kk then some (x == y) else none) = _; rw [if_pos rfl]; rfl⟩,fun x y w => by
    unfold Op.equal
    rw [show Op.maxDepth = 9999 + 1 from rfl,run_equalIn_int w 9999 k kk kk x y hu]
    congr 1,fun b x w => GE (m := 9999) hu b w,fun x => by simp [Instr.sameBits]⟩
end
end Go.Proofs.YtbiekjhlijdjbaaGreat
