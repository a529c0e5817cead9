/- A run that is computed: memory. Conditions: none. -/
import Derived.Test.YtbiekjhlijdjbaaGreatbXC
set_option linter.unusedVariables false
set_option linter.unusedSimpArgs false
open Go Go.RowKit
namespace Go.Proofs.YtbiekjhlijdjbaaGreat
abbrev BW := Nat × Option Nat × List CW
inductive ZK where | mp (c : Nat) (l : List (Value × AW × Nat)) | it (m c : Nat) (seen : List Nat)
abbrev ZW := Nat × ZK
structure SW where
  M : List BW
  Z : List ZW
  us : List Nat
  nx : Nat
def RM (e : En) (n : Nat) (o : Option Nat) (us tl : List Value) : Prop := match o with
  | none => tl = []
  | some sz => (us ++ tl).length = e.κ n * sz ∧ 0 < sz
def BR (e : En) (x : BW) (y : Nat × List Value) : Prop := e.b x.1 = some y.1 ∧ ∃ pr us tl,pr.length = e.β x.1 ∧ EP e x.2.2 = some us ∧ y.2 = pr ++ (us ++ tl) ∧ RM e x.1 x.2.1 us tl
def MR (e : En) : List BW → Bi → Prop
  | [],[] => True
  | x :: r,y :: r' => BR e x y ∧ MR e r r'
  | _,_ => False
def Kd : List BW → Nat → Option (Nat × Option Nat × List CW)
  | [],_ => none
  | (m,o,cs) :: r,n => match Nat.beq m n with
    | true => some (0,o,cs)
    | false => match Kd r n with | some (i,q) => some (i + 1,q) | none => none
noncomputable def Lf (L : List BW) (n : Nat) : Option (Option Nat × List CW) := List.rec none (fun x _ ih => Bool.rec ih (some x.2) (Nat.beq x.1 n)) L
theorem EY {n : Nat} {q : Option Nat × List CW} : ∀ {L : List BW},Lf L n = some q → ∃ i,Kd L n = some (i,q)
  | [],h => by cases h
  | (m,o,cs) :: r,h => by
    have h : @Bool.rec (fun _ => Option (Option Nat × List CW)) (Lf r n) (some (o,cs)) (Nat.beq m n) = some q := h
    unfold Kd
    cases hb : Nat.beq m n with
    | true => rw [hb] at h; cases h; exact ⟨0,rfl⟩
    | false =>
      rw [hb] at h
      obtain ⟨i,hi⟩ := EY h
      exact ⟨i + 1,by rw [hi]⟩
def KT (n : Nat) (o : Option Nat) (cs : List CW) : List BW → List BW
  | [] => []
  | (m,o',cs') :: r => match Nat.beq m n with | true => (m,o,cs) :: r | false => (m,o',cs') :: KT n o cs r
def KW (n : Nat) : List BW → List BW
  | [] => []
  | (m,x) :: r => match Nat.beq m n with | true => r | false => (m,x) :: KW n r
def U1 (x : BW) : List BW → List BW
  | [] => [x]
  | y :: r => match Nat.blt x.1 y.1 with | true => y :: U1 x r | false => x :: y :: r
def VL (b : Nat) (es : Array MapEntry) (clock : Nat) : It := ⟨[b],fun w _ => w.heap[b]? = some (.map es clock),fun h _ hg => by rw [hg b (by simp)]; exact h,fun h g hg => by
  rw [List.mem_singleton] at hg; subst hg
  exact (Array.getElem?_eq_some_iff.1 h).1,fun _ => by simp⟩
def ER (e : En) : List (Value × AW × Nat) → List MapEntry → Prop
  | [],[] => True
  | (k,v,t) :: r,x :: r' => (x.key = k ∧ v.dn e = some x.val ∧ x.born = t) ∧ ER e r r'
  | _,_ => False
def XZ (i b since : Nat) (seen : Array Nat) : It := ⟨[i],fun w _ => w.heap[i]? = some (.mapIter (some b) since seen since),fun h _ hg => by rw [hg i (by simp)]; exact h,fun h g hg => by
  rw [List.mem_singleton] at hg; subst hg
  exact (Array.getElem?_eq_some_iff.1 h).1,fun _ => by simp⟩
def XX (e : En) (n : Nat) (x : ZK) (z : It) : Prop := match x with
  | .mp c l => ∃ b es,e.b n = some b ∧ ER e l es ∧ z = VL b es.toArray c
  | .it m c seen => ∃ i b,e.b n = some i ∧ e.b m = some b ∧ z = XZ i b c seen.toArray ∧ e.β n = 0
def ZR (e : En) : List ZW → List It → Prop
  | [],[] => True
  | x :: r,z :: r' => XX e x.1 x.2 z ∧ ZR e r r'
  | _,_ => False
noncomputable def X3 (n : Nat) (us : List Nat) : Bool := List.rec true (fun m _ ih => Bool.rec (Bool.rec ih false (Nat.beq n m)) true (Nat.blt m n)) us
def Yc : List Nat → Prop
  | [] => True
  | m :: r => (∀ x ∈ r,x ≤ m) ∧ Yc r
def ZL (e : En) (us : List Nat) : Prop := (∀ n b,e.b n = some b → n ∈ us) ∧ Yc us
def Bx (B : Bs) (e : En) (S : SW) (w : World) : Prop := ∃ M Z,Stw B M Z w ∧ MR e S.M M ∧ ZR e S.Z Z ∧ ZL e S.us
def Mm (n : Nat) : List Nat → List Nat
  | [] => [n]
  | m :: r => match Nat.blt n m with | true => m :: Mm n r | false => n :: m :: r
theorem TO {n : Nat} : ∀ {l : List Nat},Yc l → X3 n l = true → n ∉ l
  | [],_,h,hm => by cases hm
  | m :: r,⟨h1,h2⟩,h,hm => by
    have h : @Bool.rec (fun _ => Bool) (@Bool.rec (fun _ => Bool) (X3 n r) false (Nat.beq n m)) true (Nat.blt m n) = true := h
    cases hb : Nat.blt m n with
    | true =>
      have hb : m < n := ze hb
      rcases List.mem_cons.1 hm with rfl | hm
      · omega
      · have := h1 n hm; omega
    | false =>
      rw [hb] at h
      cases he : Nat.beq n m with
      | true => rw [he] at h; cases h
      | false =>
        rw [he] at h
        rcases List.mem_cons.1 hm with rfl | hm
        · rw [Nat.beq_refl] at he; cases he
        · exact TO h2 h hm
theorem Lw {n m : Nat} : ∀ {l : List Nat},m ∈ Mm n l ↔ m = n ∨ m ∈ l
  | [] => by simp [Mm]
  | x :: r => by
    unfold Mm
    split
    · simp only [List.mem_cons,Lw (l := r)]
      constructor
      · rintro (h | h | h)
        · exact .inr (.inl h)
        · exact .inl h
        · exact .inr (.inr h)
      · rintro (h | h | h)
        · exact .inr (.inl h)
        · exact .inl h
        · exact .inr (.inr h)
    · simp
theorem O3 {n : Nat} : ∀ {l : List Nat},Yc l → Yc (Mm n l)
  | [],_ => ⟨fun _ h => (nomatch h),trivial⟩
  | m :: r,⟨h1,h2⟩ => by
    unfold Mm
    split
    · rename_i hb
      have hb : n < m := ze hb
      refine ⟨fun x hx => ?_,O3 h2⟩
      rcases Lw.1 hx with rfl | hx
      · omega
      · exact h1 x hx
    · rename_i hb
      have hb : ¬ n < m := fun hh => by rw [show Nat.blt n m = true from Nat.ble_eq_true_of_le hh] at hb; cases hb
      refine ⟨fun x hx => ?_,h1,h2⟩
      rcases List.mem_cons.1 hx with rfl | hx
      · omega
      · have := h1 x hx; omega
section
variable {e e' : En}
theorem RM.mono (hx : Xt e e') {n b : Nat} (hb : e.b n = some b) {o : Option Nat} {us tl : List Value} (h : RM e n o us tl) : RM e' n o us tl := by
  cases o with
  | none => exact h
  | some sz => exact ⟨by rw [(hx.1 n b hb).2.1]; exact h.1,h.2⟩
theorem BR.mono (hx : Xt e e') {x : BW} {y : Nat × List Value} (h : BR e x y) : BR e' x y := by
  obtain ⟨h1,pr,us,tl,h0,h2,h3,h4⟩ := h
  exact ⟨(hx.1 _ _ h1).1,pr,us,tl,by rw [(hx.1 _ _ h1).2.2]; exact h0,Fx hx h2,h3,h4.mono hx h1⟩
theorem MR.mono (hx : Xt e e') : ∀ {L : List BW} {M : Bi},MR e L M → MR e' L M
  | [],[],_ => trivial
  | [],_ :: _,h => h.elim
  | _ :: _,[],h => h.elim
  | _ :: _,_ :: _,h => ⟨h.1.mono hx,MR.mono hx h.2⟩
theorem ER.mono (hx : Xt e e') : ∀ {l : List (Value × AW × Nat)} {es : List MapEntry},ER e l es → ER e' l es
  | [],[],_ => trivial
  | [],_ :: _,h => h.elim
  | _ :: _,[],h => h.elim
  | (k,v,t) :: _,_ :: _,h => ⟨⟨h.1.1,AW.mono hx h.1.2.1,h.1.2.2⟩,ER.mono hx h.2⟩
theorem ZR.mono (hx : Xt e e') : ∀ {L : List ZW} {Z : List It},ZR e L Z → ZR e' L Z
  | [],[],_ => trivial
  | [],_ :: _,h => h.elim
  | _ :: _,[],h => h.elim
  | (n,.mp c l) :: _,_ :: _,⟨⟨b,es,h1,h2,h3⟩,h⟩ => ⟨⟨b,es,(hx.1 _ _ h1).1,h2.mono hx,h3⟩,ZR.mono hx h⟩
  | (n,.it m c l) :: _,_ :: _,⟨⟨i,b,h1,h2,h3,h4⟩,h⟩ => ⟨⟨i,b,(hx.1 _ _ h1).1,(hx.1 _ _ h2).1,h3,by rw [(hx.1 _ _ h1).2.2]; exact h4⟩,ZR.mono hx h⟩
theorem MR.get : ∀ {L : List BW} {M : Bi} {n i : Nat} {o : Option Nat} {cs : List CW},MR e L M → Kd L n = some (i,o,cs) → ∃ b pr us tl,M[i]? = some (b,pr ++ (us ++ tl)) ∧ pr.length = e.β n ∧ e.b n = some b ∧ EP e cs = some us ∧ RM e n o us tl
  | [],_,n,i,o,cs,_,h => by cases h
  | (m,o',cs') :: r,[],n,i,o,cs,hR,h => hR.elim
  | (m, o', cs') :: r, (b, vs) :: M, n, i, o, cs, ⟨⟨h1, pr, us, tl, h0, h2, h3, h4⟩, hr⟩, h => by
    unfold Kd at h
    split at h
    · rename_i hm
      cases h
      have := zd hm
      subst this
      exact ⟨b,pr,us,tl,by rw [show vs = pr ++ (us ++ tl) from h3]; rfl,h0,h1,h2,h4⟩
    · split at h
      · rename_i j q hq
        cases h
        obtain ⟨b',pr',us',tl',g1,g2⟩ := MR.get hr hq
        exact ⟨b',pr',us',tl',by simpa using g1,g2⟩
      · cases h
theorem MR.set {n : Nat} {o' : Option Nat} {cs' : List CW} {pr us' tl' : List Value} (h0 : pr.length = e.β n) (h1 : EP e cs' = some us') (h2 : RM e n o' us' tl') : ∀ {L : List BW} {M : Bi} {i b : Nat} {o : Option Nat} {cs : List CW},MR e L M → Kd L n = some (i,o,cs) → e.b n = some b → MR e (KT n o' cs' L) (M.set i (b,pr ++ (us' ++ tl')))
  | [],_,i,b,o,cs,_,h,_ => by cases h
  | (m,q,cs0) :: r,[],i,b,o,cs,hR,h,_ => hR.elim
  | (m, q, cs0) :: r, (bb, vs) :: M, i, b, o, cs, ⟨hB, hr⟩, h, hb => by
    unfold Kd at h
    unfold KT
    split at h
    · rename_i hm
      cases h
      have := zd hm
      subst this
      exact ⟨⟨hb,pr,us',tl',h0,h1,rfl,h2⟩,hr⟩
    · rename_i hm
      split at h
      · rename_i j q hq
        cases h
        exact ⟨hB,MR.set h0 h1 h2 hr hq hb⟩
      · cases h
theorem MR.drop {n : Nat} : ∀ {L : List BW} {M : Bi} {i : Nat} {o : Option Nat} {cs : List CW},MR e L M → Kd L n = some (i,o,cs) → MR e (KW n L) (M.eraseIdx i)
  | [],_,i,o,cs,_,h => by cases h
  | (m,q,cs0) :: r,[],i,o,cs,hR,h => hR.elim
  | (m, q, cs0) :: r, (bb, vs) :: M, i, o, cs, ⟨hB, hr⟩, h => by
    unfold Kd at h
    unfold KW
    split at h
    · rename_i hm
      cases h
      exact hr
    · rename_i hm
      split at h
      · rename_i j q hq
        cases h
        exact ⟨hB,MR.drop hr hq⟩
      · cases h
theorem MR.ins {x : BW} {y : Nat × List Value} (hx : BR e x y) : ∀ {L : List BW} {M : Bi},MR e L M → ∃ M',MR e (U1 x L) M' ∧ (y :: M).Perm M'
  | [],[],_ => ⟨[y],⟨hx,trivial⟩,.refl _⟩
  | [],_ :: _,h => h.elim
  | _ :: _,[],h => h.elim
  | z :: L,m :: M,⟨h1,h2⟩ => by
    unfold U1
    split
    · obtain ⟨M',g1,g2⟩ := MR.ins hx h2
      exact ⟨m :: M',⟨h1,g1⟩,(List.Perm.swap m y M).trans (g2.cons m)⟩
    · exact ⟨y :: m :: M,⟨hx,h1,h2⟩,.refl _⟩
def En.newO (e : En) (n b k o : Nat) : En := ⟨fun m => if m = n then some b else e.b m,fun m => if m = n then k else e.κ m,e.g,fun m => if m = n then o else e.β m⟩
abbrev En.new (e : En) (n b k : Nat) : En := e.newO n b k 0
theorem En.new_b {n b k o : Nat} : (e.newO n b k o).b n = some b := if_pos rfl
theorem En.new_k {n b k o : Nat} : (e.newO n b k o).κ n = k := if_pos rfl
theorem En.new_o {n b k o : Nat} : (e.newO n b k o).β n = o := if_pos rfl
theorem En.new_xt {n b k o : Nat} {us : List Nat} (hu : ZL e us) (hf : X3 n us = true) : Xt e (e.newO n b k o) := ⟨fun m c hm => by
  have : m ≠ n := fun h => TO hu.2 hf (h ▸ hu.1 m c hm)
  exact ⟨(if_neg this).trans hm,if_neg this,if_neg this⟩,rfl⟩
theorem En.new_us {n b k o : Nat} {us : List Nat} (hu : ZL e us) : ZL (e.newO n b k o) (Mm n us) := ⟨fun m c hm => by
  rw [Lw]
  by_cases h : m = n
  · exact .inl h
  · exact .inr (hu.1 m c (by rw [← hm]; exact (if_neg h).symm)),O3 hu.2⟩
end
noncomputable def IA (S : SW) (o : Option Nat) (cs : List CW) : Option (Nat × SW) := match X3 S.nx S.us with
  | true => some (S.nx,⟨U1 (S.nx,o,cs) S.M,S.Z,Mm S.nx S.us,S.nx + 1⟩)
  | false => none
section
variable {P : Program} {B : Bs} {e : En} {S S' : SW} {w w' : World}
theorem Bx.below (h : Bx B e S w) (hb : Below w.heap.size w w') : Bx B e S w' := by
  obtain ⟨M,Z,h1,h2⟩ := h
  exact ⟨M,Z,h1.below hb,h2⟩
theorem Bx.alloc (h : Bx B e S w) {o : Option Nat} {cs : List CW} {n k : Nat} (hn : IA S o cs = some (n,S')) {us tl : List Value} (hc : EP e cs = some us) (ho : match o with | none => tl = [] | some sz => (us ++ tl).length = k * sz ∧ 0 < sz) (t : TypeId) :
    Xt e (e.new n w.heap.size k) ∧ Bx B (e.new n w.heap.size k) S' (w.alloc (.cells (us ++ tl).toArray t)) ∧ (e.new n w.heap.size k).b n = some w.heap.size := by
  unfold IA at hn
  split at hn
  · rename_i hf
    cases hn
    obtain ⟨M,Z,h1,h2,h3,h4⟩ := h
    have hx := En.new_xt (o := 0) (k := k) (b := w.heap.size) h4 hf
    obtain ⟨M',g1,g2⟩ := MR.ins (e := e.new S.nx w.heap.size k) (x := (S.nx,o,cs)) (y := (w.heap.size,us ++ tl)) ⟨En.new_b,[],us,tl,by rw [En.new_o]; rfl,Fx hx hc,rfl,by
      cases o with
      | none => exact ho
      | some sz => exact ⟨by show _ = (e.new S.nx w.heap.size k).κ S.nx * sz; rw [En.new_k]; exact ho.1,ho.2⟩⟩ (h2.mono hx)
    exact ⟨hx,⟨M',Z,(h1.alloc (us ++ tl) t).perm g2,g1,h3.mono hx,En.new_us h4⟩,En.new_b⟩
  · cases hn
theorem UK {agg : Bool} {sz o : Nat} {pr us : List Value} {u : Value} (h : Jx agg sz us o = some u) : Jx agg sz (pr ++ us) (pr.length + o) = some u := by
  unfold Jx at *
  cases agg with
  | false =>
    simp only [Bool.false_eq_true,if_false] at *
    rw [List.getElem?_append_right (by omega),Nat.add_sub_cancel_left]; exact h
  | true =>
    simp only [if_true] at *
    split at h
    · rename_i hl
      cases h
      rw [if_pos (by rw [List.length_append]; omega),List.drop_append,List.drop_eq_nil_of_le (by omega),List.nil_append,Nat.add_sub_cancel_left]
    · cases h
theorem Lj {pr us vs : List Value} {o : Nat} (h : o + vs.length ≤ us.length) : DI (pr ++ us) (pr.length + o) vs = pr ++ DI us o vs := by
  rw [Gy _ _ _ (by rw [List.length_append]; omega),Gy _ _ _ h,List.take_append,List.take_of_length_le (by omega),Nat.add_sub_cancel_left,List.drop_append,List.drop_eq_nil_of_le (by omega),List.nil_append,Nat.add_assoc,Nat.add_sub_cancel_left,List.append_assoc,List.append_assoc,List.append_assoc]
theorem Bx.load (h : Bx B e S w) {n i o : Nat} {q : Option Nat} {cs : List CW} (hg : Kd S.M n = some (i,q,cs)) {b : Nat} (hb : e.b n = some b) {t : TypeId} {agg : Bool} {sz : Nat} (T : Ty P t agg sz) {v : AW} (hv : Wu agg sz cs o = some v) : ∃ u,v.dn e = some u ∧ (loadVar t ⟨b,e.β n + o,none⟩).run P w = .ok u w := by
  obtain ⟨M,Z,h1,h2,_⟩ := h
  obtain ⟨b',pr,us,tl,g1,g0,g2,g3,g4⟩ := h2.get hg
  rw [hb] at g2; cases g2
  obtain ⟨u,k1,k2⟩ := PZ hv g3
  refine ⟨u,k1,FD T (fun j _ => h1.cell g1 j) ?_⟩
  rw [← g0]
  exact UK (UF k2)
theorem Bx.store (h : Bx B e S w) {n i o : Nat} {q : Option Nat} {cs new : List CW} (hg : Kd S.M n = some (i,q,cs)) {b : Nat} (hb : e.b n = some b) {vs : List Value} (hv : EP e new = some vs) (hl : o + new.length ≤ cs.length) :
    ∃ w',(storeCells ⟨b,e.β n + o,none⟩ vs).run P w = .ok () w' ∧ Bx B e ⟨KT n q (TZ cs o new) S.M,S.Z,S.us,S.nx⟩ w' := by
  obtain ⟨M,Z,h1,h2,h3,h4⟩ := h
  obtain ⟨b',pr,us,tl,g1,g0,g2,g3,g4⟩ := h2.get hg
  rw [hb] at g2; cases g2
  have l1 := B9 g3
  have l2 := B9 hv
  obtain ⟨ws,p1,p2,p3⟩ := TN (tl := tl) g3 hv hl
  obtain ⟨w',k1,k2⟩ := Cu (P := P) vs (e.β n + o) 0 (pr ++ (us ++ tl)) M w h1 g1 (by simp only [List.length_append]; omega) (fun v hm => List.all_eq_true.1 (Kw hv) v hm)
  rw [Nat.add_zero, ← g0,Lj (by rw [List.length_append]; omega),p2] at k2
  refine ⟨w',k1,_,Z,k2,h2.set g0 p1 ?_ hg hb,h3,h4⟩
  cases q with
  | none => exact g4
  | some sz => exact ⟨by rw [List.length_append,p3, ← List.length_append]; exact g4.1,g4.2⟩
end
end Go.Proofs.YtbiekjhlijdjbaaGreat
namespace Go.Proofs.YtbiekjhlijdjbaaGreat
noncomputable section
abbrev IG := Option AW × SW
def XS (P : Program) (B : Bs) (op : Op) (a : Act) (e : En) (w : World) (x : IG) : Prop := ∃ e' w',Xt e e' ∧ Bx B e' x.2 w' ∧ match x.1 with
  | some v => ∃ u,v.dn e' = some u ∧ ∀ dst ty pos aft g,(execOp a.eval ⟨dst,op,ty,pos,aft,g⟩).run P w = .ok (.value u) w'
  | none => ∀ dst ty pos aft g,(execOp a.eval ⟨dst,op,ty,pos,aft,g⟩).run P w = .ok .skip w'
def Uz (S : SW) (sz : Nat) : AW → Option (Nat × List CW)
  | .one .nils => some (0,[])
  | .one (.tl _ _ _ _) => some (0,[])
  | .one (.sl n o z len _) => match Lf S.M n with
    | some (_,cs) => match Nat.ble (o + len * sz) cs.length with | true => some (len,(cs.drop o).take (len * sz)) | false => none
    | none => none
  | _ => none
def RY (zs : List CW) (m : Nat) : List CW := (List.replicate m zs).flatten
def YB (zs : List CW) (sz m : Nat) : List CW := (List.range (m * sz)).map fun i => zs.getD (i % sz) .nils
def Uo (S : SW) (sz by_ : Nat) (x : AW) (m : Nat) (news : List CW) : Option (AW × SW) := match x with
  | .one .nils => match m with
    | 0 => some (.one .nils,S)
    | m + 1 => match Nat.ble ((m + 1) * by_) 140737488355328 && Nat.ble (m + 1) 140737488355328 with
      | true => (IA S (some sz) news).map fun r => (.one (.sl r.1 0 sz (m + 1) none),r.2)
      | false => none
  | .one (.sl n o z len c) => match Lf S.M n,Nat.beq z sz && (Nat.ble ((len + m) * by_) 140737488355328 && Nat.ble (len + m) 140737488355328) with
    | some (q,cs),true => match c with
      | some cap => match Nat.ble (len + m) cap with
        | true => match Nat.ble (o + len * sz + m * sz) cs.length with
          | true => some (.one (.sl n o sz (len + m) (some cap)),⟨KT n q (TZ cs (o + len * sz) news) S.M,S.Z,S.us,S.nx⟩)
          | false => none
        | false => match Nat.ble (o + len * sz) cs.length && Nat.blt 0 m with
          | true => (IA S (some sz) ((cs.drop o).take (len * sz) ++ news)).map fun r => (.one (.sl r.1 0 sz (len + m) none),r.2)
          | false => none
      | none => match q,Nat.beq o 0 with
        | some z',true => match Nat.beq z' sz,Nat.ble ((len + m) * sz) cs.length,Nat.ble (len * sz) cs.length with
          | true,true,_ => some (.one (.sl n 0 sz (len + m) none),⟨KT n q (TZ cs (len * sz) news) S.M,S.Z,S.us,S.nx⟩)
          | true,false,true => (IA ⟨KW n S.M,S.Z,S.us,S.nx⟩ (some sz) (cs.take (len * sz) ++ news)).map fun r => (.one (.sl r.1 0 sz (len + m) none),r.2)
          | _,_,_ => none
        | _,_ => none
    | _,_ => none
  | .one (.tl n o z l) => match Lf S.M n,Nat.beq z sz && (Nat.ble (m * by_) 140737488355328 && (Nat.ble m 140737488355328 && (Nat.beq (Nat.mod o sz) 0 && Nat.blt 0 m))) with
    | some (some z',cs),true => match Nat.beq z' sz with
      | true => (IA ⟨KW n S.M,S.Z,S.us,S.nx⟩ (some sz) news).map fun r => (.one (.sl r.1 0 sz m none),r.2)
      | false => none
    | _,_ => none
  | _ => none
def LW (tb : TB) (F : FW) (S : SW) (t : Nat) (x y : Operand) : Option IG := match D9 F x,(D9 F y).bind AW.cs,ti tb t with
  | some (.one (.ptr n o)),some new,some y => match Lf S.M n with
    | some (q,cs) => match Nat.beq new.length y.sz && Nat.ble (o + new.length) cs.length with
      | true => some (none,⟨KT n q (TZ cs o new) S.M,S.Z,S.us,S.nx⟩)
      | false => none
    | none => none
  | _,_,_ => none
def Ms (tb : TB) (S : SW) (t : Nat) : Option IG := match ti tb t with
  | some y => (IA S none y.zs).map fun r => (some (.one (.ptr r.1 0)),r.2)
  | none => none
def Md (F : FW) (S : SW) (x : Operand) : Option IG := match (D9 F x).bind AW.cs with
  | some cs => (IA S none cs).map fun r => (some (.one (.ptr r.1 0)),r.2)
  | none => none
def Mh (tb : TB) (F : FW) (S : SW) (t m : Nat) (ps : Array (Nat × Operand)) : Option IG := match ti tb t,Y1 F ps.toList with
  | some ⟨_,_,_,.slice el⟩,some pr => match ti tb el with
    | some y => match Nat.ble (m * y.sz) 16777216 && Nat.blt 0 y.sz with
      | true => match Mw (fun i => some (i * y.sz,y.sz)) (YB y.zs y.sz m) pr with
        | some cs => (IA S none cs).map fun r => (some (.one (.sl r.1 0 y.sz m (some m))),r.2)
        | none => none
      | false => none
    | none => none
  | _,_ => none
def Me (tb : TB) (F : FW) (S : SW) (t : Nat) (l c : Operand) : Option IG := match ti tb t,D9 F l,D9 F c with
  | some ⟨_,_,_,.slice el⟩,some (.one (.int _ l)),some (.one (.int _ c)) => match ti tb el with
    | some y => match decide (0 ≤ l ∧ l ≤ c ∧ (y.by_ : Int) * c ≤ 281474976710656 ∧ c ≤ 9223372036854775807 ∧ 0 < y.sz) with
      | true => (IA S none (RY y.zs c.toNat)).map fun r => (some (.one (.sl r.1 0 y.sz l.toNat (some c.toNat))),r.2)
      | false => none
    | none => none
  | _,_,_ => none
def Mv (tb : TB) (F : FW) (S : SW) (x y : Operand) (t t' : Nat) : Option IG := match ti tb t,D9 F x,D9 F y,Nat.beq t t' with
  | some ⟨_,_,_,.slice el⟩,some x,some y,true => match ti tb el with
    | some z => match Nat.blt 0 z.sz,Uz S z.sz y with
      | true,some (m,news) => (Uo S z.sz z.by_ x m news).map fun r => (some r.1,r.2)
      | _,_ => none
    | none => none
  | _,_,_,_ => none
def LV (tb : TB) (F : FW) (S : SW) (x y : Operand) (t : Nat) : Option IG := match ti tb t,D9 F x,D9 F y with
  | some ⟨_,_,_,.slice el⟩,some (.one (.sl n o _ len _)),some y => match ti tb el with
    | some z => match Uz S z.sz y,Lf S.M n with
      | some (m,news),some (q,cs) => match Nat.ble (o + Nat.min m len * z.sz) cs.length with
        | true => some (some (.one (.int .i64 ((Nat.min m len : Nat) : Int))),⟨KT n q (TZ cs o (news.take (Nat.min m len * z.sz))) S.M,S.Z,S.us,S.nx⟩)
        | false => none
      | _,_ => none
    | none => none
  | _,_,_ => none
def Mt (tb : TB) (F : FW) (S : SW) (x : Operand) (t : Nat) : Option IG := match ti tb t,D9 F x with
  | some ⟨_,_,_,.slice el⟩,some (.one (.sl n o _ len _)) => match ti tb el,Lf S.M n with
    | some z,some (q,cs) => match Nat.ble (o + len * z.sz) cs.length && Nat.blt 0 z.sz with
      | true => some (some (.tup []),⟨KT n q (TZ cs o (RY z.zs len)) S.M,S.Z,S.us,S.nx⟩)
      | false => none
    | _,_ => none
  | some ⟨_,_,_,.slice _⟩,some (.one .nils) => some (some (.tup []),S)
  | _,_ => none
def Rn (P : Program) (tb : TB) (F : FW) (S : SW) : Op → Option IG
  | .store t x y => LW tb F S t x y
  | .alloc t => Ms tb S t
  | .box _ x => Md F S x
  | .buildSlice t m ps => Mh tb F S t m ps
  | .makeSlice t l c => Me tb F S t l c
  | .call ⟨.builtin .append,⟨[x,y]⟩,⟨[t,t']⟩⟩ => Mv tb F S x y t t'
  | .call ⟨.builtin .copy,⟨[x,y]⟩,⟨[t,_]⟩⟩ => LV tb F S x y t
  | .call ⟨.builtin .clear,⟨[x]⟩,⟨[t]⟩⟩ => Mt tb F S x t
  | _ => none
theorem NC {e : En} {zs : List CW} {zv : List Value} (h : EP e zs = some zv) : ∀ m,EP e (RY zs m) = some (List.replicate m zv).flatten
  | 0 => rfl
  | m + 1 => by
    unfold RY
    rw [List.replicate_succ,List.replicate_succ,List.flatten_cons,List.flatten_cons]
    exact HS h (NC h m)
theorem Rx {e : En} {f : Nat → CW} {g : Nat → Value} : ∀ l : List Nat,(∀ i ∈ l,(f i).dn e = some (g i)) → EP e (l.map f) = some (l.map g)
  | [],_ => rfl
  | i :: l,h => Ha (h i (List.mem_cons_self ..)) (Rx l fun j hj => h j (zc _ hj))
theorem VD {e : En} {zs : List CW} {zv : List Value} {sz : Nat} (h : EP e zs = some zv) (hl : zs.length = sz) (hp : 0 < sz) (m : Nat) : EP e (YB zs sz m) = some ((List.range (m * sz)).map fun i => zv[i % sz]!) :=
  Rx _ fun i _ => by
    have hi : i % sz < zs.length := by rw [hl]; exact Nat.mod_lt _ hp
    obtain ⟨v,h1,h2⟩ := NS h (zb hi)
    rw [List.getD_eq_getElem?_getD,zb hi,Option.getD_some,h2]
    rw [List.getElem!_eq_getElem?_getD,h1]; rfl
section
variable {P : Program} {tb : TB} {B : Bs} {e : En} {n : Nat} {ds : List Deferred} {F : FW} {S : SW} {a : Act} {w : World} {op : Op} {x : IG}
theorem QI (hS : Bx B e S w) {y : AW} {v : Value} {sz m : Nat} {news : List CW} (h : Uz S sz y = some (m,news)) (hv : y.dn e = some v) : news.length = m * sz ∧ ∃ us,EP e news = some us ∧
    ((v = .slice none 0 0 ∧ m = 0 ∧ news = []) ∨ ∃ b o c,v = .slice (some ⟨b,o,none⟩) m c ∧ ∀ j u,us[j]? = some u → w.cell? ((⟨b,o,none⟩ : Addr).add j) = some u) := by
  unfold Uz at h
  split at h
  · cases h; cases hv
    exact ⟨by simp,[],rfl,.inl ⟨rfl,rfl,rfl⟩⟩
  · cases h
    obtain ⟨b,p,c,rfl⟩ := VF hv
    exact ⟨by simp,[],rfl,.inr ⟨b,p,c,rfl,fun j u hj => by simp at hj⟩⟩
  · rename_i k o z len c
    split at h
    · rename_i q cs hg
      replace hg := EY hg; obtain ⟨i,hg⟩ := hg
      split at h
      · rename_i hl
        cases h
        have hl := ze hl
        obtain ⟨b,hb,rfl,_⟩ := Ii hv
        obtain ⟨M,Z,h1,h2,_⟩ := hS
        obtain ⟨b',pr,us,tl,g1,g0,g2,g3,g4⟩ := h2.get hg
        rw [hb] at g2; cases g2
        have l1 := B9 g3
        refine ⟨by rw [List.length_take,List.length_drop]; omega,_,Fs _ (G0 o g3),.inr ⟨b,e.β k + o,_,rfl,fun j u hu => ?_⟩⟩
        rw [Bg,h1.cell g1, ← g0,Nat.add_assoc,List.getElem?_append_right (by omega),Nat.add_sub_cancel_left]
        rw [List.getElem?_take] at hu
        split at hu
        · rw [List.getElem?_drop] at hu
          rw [List.getElem?_append_left (List.getElem?_eq_some_iff.1 hu).1]; exact hu
        · cases hu
      · cases h
    · cases h
  · cases h
theorem Bx.put (hS : Bx B e S w) {k i o : Nat} {q : Option Nat} {cs new : List CW} (hg : Kd S.M k = some (i,q,cs)) {b : Nat} (hb : e.b k = some b) {vs : List Value} (hv : EP e new = some vs) (hl : o + new.length ≤ cs.length) :
    ∃ w',(storeCells ⟨b,e.β k + o,none⟩ vs).run P w = .ok () w' ∧ Bx B e ⟨KT k q (TZ cs o new) S.M,S.Z,S.us,S.nx⟩ w' := hS.store hg hb hv hl
theorem Tz (hS : Bx B e S w) {t el ty : Nat} {y : TI} (ht : P.underlying t = some (.slice el)) (hy : TIo P el y) (hp : 0 < y.sz) {x : AW} {v sv : Value} (hv : x.dn e = some v) {m : Nat} {news : List CW} {r : AW × SW} (h : Uo S y.sz y.by_ x m news = some r)
    {us : List Value} (hn : news.length = m * y.sz) (hu : EP e news = some us) (hsrc : (sv = .slice none 0 0 ∧ m = 0 ∧ news = []) ∨ ∃ b o c,sv = .slice (some ⟨b,o,none⟩) m c ∧ ∀ j u,us[j]? = some u → w.cell? ((⟨b,o,none⟩ : Addr).add j) = some u) :
    ∃ e' w' u,Xt e e' ∧ Bx B e' r.2 w' ∧ r.1.dn e' = some u ∧ (Builtin.append_ #[t,t] ty #[v,sv]).run P w = .ok u w' := by
  obtain ⟨inf,z,hi,his,hib,hz,hzz,hzl,_⟩ := hy.info
  have hul := B9 hu
  have hzs : z.cells.size = y.sz := by have := B9 (hzz e); rw [hzl] at this; simpa using this
  have hdraw : ∀ {S : SW} ,Bx B e S w → Bx B e S w.drew := fun h => h.below ⟨rfl,rfl,rfl,Nat.le_refl _,fun _ _ => rfl⟩
  -- a new row
  have hnew : ∀ {S0 : SW} {olds : List CW} {os : List Value} {len old : Nat} {r0 : Nat × SW},Bx B e S0 w → IA S0 (some y.sz) (olds ++ news) = some r0 → EP e olds = some os → olds.length = len * y.sz → len + m ≤ 140737488355328 →
      ∃ e' u,Xt e e' ∧ Bx B e' r0.2 (w.drew.alloc (.cells (os.toArray ++ us.toArray ++ Builtin.zeroCells z.cells (grownCap w (len + m) old el - (len + m))) el)) ∧ (AW.one (.sl r0.1 0 y.sz (len + m) none)).dn e' = some u ∧ u = .slice (some ⟨w.heap.size,0,none⟩) (len + m) (grownCap w (len + m) old el) := by
    intro S0 olds os len old r0 h0 hnb ho hol hb
    obtain ⟨rn,rS⟩ := r0
    have hge := grownCap_ge w (len + m) old el
    have hos := B9 ho
    obtain ⟨g1,g2,g3⟩ := (hdraw h0).alloc (k := grownCap w (len + m) old el) hnb (us := os ++ us) (tl := (Builtin.zeroCells z.cells (grownCap w (len + m) old el - (len + m))).toList) (HS ho hu) (by
      refine ⟨?_,hp⟩
      simp only [List.length_append,Array.length_toList,size_zeroCells,hzs,hos,hol,hul,hn, ← Nat.add_mul]
      congr 1; omega) el
    refine ⟨_,_,g1, ?_, ?_,rfl⟩
    · have e1 : (os ++ us ++ (Builtin.zeroCells z.cells (grownCap w (len + m) old el - (len + m))).toList).toArray = os.toArray ++ us.toArray ++ Builtin.zeroCells z.cells (grownCap w (len + m) old el - (len + m)) := by
        simp
      rw [e1] at g2; exact g2
    · have hk : (e.new rn w.drew.heap.size (grownCap w (len + m) old el)).κ rn - 0 / y.sz = grownCap w (len + m) old el := by rw [En.new_k,Nat.zero_div,Nat.sub_zero]
      show CW.dn (e.new rn w.drew.heap.size (grownCap w (len + m) old el)) (.sl rn 0 y.sz (len + m) none) = _
      rw [J2 g3 (fun _ => by rw [hk]; exact hge),hk,En.new_o]; rfl
  unfold Uo at h
  split at h
  · cases hv
    split at h
    · cases h
      rcases hsrc with ⟨rfl,_,_⟩ | ⟨b,o,c,rfl,_⟩
      · exact ⟨e,w,_,Xt.rfl',hS,rfl,by simp [Builtin.append_,run_underlying ht,sizeOf,typeInfo,hi,Builtin.lenOf,Builtin.firstCells,storeCells]⟩
      · exact ⟨e,w,_,Xt.rfl',hS,rfl,by simp [Builtin.append_,run_underlying ht,sizeOf,typeInfo,hi,Builtin.lenOf,Builtin.firstCells,storeCells,loadCells,loadCellsFrom]⟩
    · rename_i m
      split at h
      · rename_i hbd
        rw [zf] at hbd
        have b1 := ze hbd.1
        have b2 := ze hbd.2
        obtain ⟨r0,h1,rfl⟩ := map_some h
        rcases hsrc with ⟨_,h0,_⟩ | ⟨b,o,c,rfl,hcell⟩
        · omega
        · obtain ⟨e',u,k1,k2,k3,k4⟩ := hnew (olds := []) (os := []) (len := 0) (old := 0) hS (by simpa using h1) rfl (by simp) (by omega)
          have hr := run_append_nil (P := P) w t ty el inf z ht hi hz ⟨b,o,none⟩ (m + 1) c us (by rw [hul,hn,his]) (fun j u hj => hcell j u hj) (by omega) (by omega) (by rw [hib]; omega)
          refine ⟨e',_,u,k1,k2,by simpa using k3, ?_⟩
          rw [hr,k4]
          simp
      · cases h
  · rename_i k o z' len c
    split at h
    · rename_i q cs hg hbd
      replace hg := EY hg; obtain ⟨i,hg⟩ := hg
      simp only [zf] at hbd
      have hz' := zd hbd.1
      have b1 := ze hbd.2.1
      have b2 := ze hbd.2.2
      subst hz'
      obtain ⟨b,hb,hve,hcn⟩ := Ii hv
      subst hve
      obtain ⟨M,Z,s1,s2,s3,s4⟩ := hS
      obtain ⟨b',pr,os,tl,g1,g0,g2,g3,g4⟩ := s2.get hg
      rw [hb] at g2; cases g2
      have hol := B9 g3
      have hS : Bx B e S w := ⟨M,Z,s1,s2,s3,s4⟩
      -- the old elements
      have hold : ∀ j u,((os.drop o).take (len * y.sz))[j]? = some u → w.cell? ((⟨b,e.β k + o,none⟩ : Addr).add j) = some u := fun j u hj => by
        rw [Bg,s1.cell g1, ← g0,Nat.add_assoc,List.getElem?_append_right (by omega),Nat.add_sub_cancel_left]
        rw [List.getElem?_take] at hj
        split at hj
        · rw [List.getElem?_drop] at hj
          rw [List.getElem?_append_left (List.getElem?_eq_some_iff.1 hj).1]; exact hj
        · cases hj
      -- what stands in place
      have hplace : ∀ cap,len + m ≤ cap → o + len * y.sz + m * y.sz ≤ cs.length → ∃ w',Bx B e ⟨KT k q (TZ cs (o + len * y.sz) news) S.M,S.Z,S.us,S.nx⟩ w' ∧ (Builtin.append_ #[t,t] ty #[.slice (some ⟨b,e.β k + o,none⟩) len cap,sv]).run P w = .ok (.slice (some ⟨b,e.β k + o,none⟩) (len + m) cap) w' := fun cap hc hl => by
        obtain ⟨w',st,hS'⟩ := hS.put (P := P) hg hb hu (o := o + len * y.sz) (by rw [hn]; exact hl)
        refine ⟨w',hS', ?_⟩
        rcases hsrc with ⟨rfl,h0,h1⟩ | ⟨b2,o2,c2,rfl,hcell⟩
        · subst h0 h1
          cases hu
          cases st
          simp [Builtin.append_,run_underlying ht,sizeOf,typeInfo,hi,his,Builtin.lenOf,Builtin.firstCells,storeCells,show len ≤ cap by omega]
        · have hf := run_firstCells_some (P := P) w y.sz m ⟨b2,o2,none⟩ m c2 us (by rw [hul,hn]) hcell
          rw [← Nat.add_assoc] at st
          simp [Builtin.append_,run_underlying ht,sizeOf,typeInfo,hi,his,Builtin.lenOf,hc,hf,Bg,st]
      -- what grows
      have hgrow : ∀ {S0 : SW} {r0 : Nat × SW} (cap : Nat),Bx B e S0 w → cap < len + m → 0 < m → o + len * y.sz ≤ cs.length → IA S0 (some y.sz) ((cs.drop o).take (len * y.sz) ++ news) = some r0 →
          ∃ e' w' u,Xt e e' ∧ Bx B e' r0.2 w' ∧ (AW.one (.sl r0.1 0 y.sz (len + m) none)).dn e' = some u ∧ (Builtin.append_ #[t,t] ty #[.slice (some ⟨b,e.β k + o,none⟩) len cap,sv]).run P w = .ok u w' := fun {S0 r0} cap h0 hc hm hl hnb => by
        obtain ⟨e',u,k1,k2,k3,k4⟩ := hnew (len := len) (old := cap) h0 hnb (Fs _ (G0 o g3)) (by rw [List.length_take,List.length_drop]; omega) (by omega)
        refine ⟨e',_,u,k1,k2,k3, ?_⟩
        rcases hsrc with ⟨rfl,h0,h1⟩ | ⟨b2,o2,c2,rfl,hcell⟩
        · omega
        · have hr := run_append_grow (P := P) w t ty el inf z ht hi hz ⟨b,e.β k + o,none⟩ len cap ((os.drop o).take (len * y.sz)) (by rw [List.length_take,List.length_drop,his]; omega) hold ⟨b2,o2,none⟩ m c2 us (by rw [hul,hn,his]) hcell hc (by omega) (growslice_fits hc (by rw [hib]; exact b1))
          rw [hr,k4]
      cases c with
      | some cap =>
        simp only at h
        split at h
        · rename_i hc
          have hc := ze hc
          split at h
          · rename_i hl
            cases h
            obtain ⟨w',k1,k2⟩ := hplace cap hc (ze hl)
            exact ⟨e,w',.slice (some ⟨b,e.β k + o,none⟩) (len + m) cap,Xt.rfl',k1,(show CW.dn e (.sl k o y.sz (len + m) (some cap)) = _ from J2 (c := some cap) hb (fun h => by cases h)),k2⟩
          · cases h
        · rename_i hc
          have hc : ¬ (len + m ≤ cap) := fun hh => by rw [Nat.ble_eq_true_of_le hh] at hc; cases hc
          split at h
          · rename_i hl
            rw [zf] at hl
            obtain ⟨r0,h1,rfl⟩ := map_some h
            exact hgrow cap hS (by omega) (ze hl.2) (ze hl.1) h1
          · cases h
      | none =>
        simp only at h
        split at h
        · rename_i z2 ho
          have ho := zd ho
          subst ho
          have hcn := hcn rfl
          simp only [Nat.zero_div,Nat.sub_zero,Nat.zero_add] at hcn hplace hgrow ⊢
          split at h
          · rename_i _ hz2 hl
            have hz2 := zd hz2
            subst hz2
            have hl := ze hl
            cases h
            have hk : len + m ≤ e.κ k := by
              have := g4.1
              rw [List.length_append,hol] at this
              exact Nat.le_of_mul_le_mul_right (show (len + m) * y.sz ≤ e.κ k * y.sz by omega) hp
            obtain ⟨w',k1,k2⟩ := hplace (e.κ k) hk (by rw [← Nat.add_mul]; exact hl)
            have hk0 : e.κ k - 0 / y.sz = e.κ k := by rw [Nat.zero_div,Nat.sub_zero]
            exact ⟨e,w',.slice (some ⟨b,e.β k + 0,none⟩) (len + m) (e.κ k),Xt.rfl',k1,(show CW.dn e (.sl k 0 y.sz (len + m) none) = _ by rw [J2 (c := none) hb (fun _ => by rw [hk0]; exact hk),hk0]; rfl),k2⟩
          · rename_i hz2 hl hl2
            have hz2 := zd hz2
            subst hz2
            have hl : ¬ ((len + m) * y.sz ≤ cs.length) := fun hh => by rw [Nat.ble_eq_true_of_le hh] at hl; cases hl
            have hl2 := ze hl2
            have hm : 0 < m := by
              rcases Nat.eq_zero_or_pos m with h0 | h0
              · rw [h0,Nat.add_zero] at hl; exact absurd hl2 hl
              · exact h0
            obtain ⟨r0,h1,rfl⟩ := map_some h
            by_cases hc : len + m ≤ e.κ k
            · have hlen := g4.1
              rw [List.length_append] at hlen
              have hmul : len * y.sz + m * y.sz ≤ e.κ k * y.sz := by rw [← Nat.add_mul]; exact Nat.mul_le_mul_right _ hc
              obtain ⟨w',k1,k2⟩ := Cu (P := P) us (e.β k + len * y.sz) 0 (pr ++ (os ++ tl)) M w s1 g1 (by simp only [List.length_append,hul,hn]; omega) (fun v hm => List.all_eq_true.1 (Kw hu) v hm)
              rw [Nat.add_zero, ← g0,Lj (by rw [List.length_append,hul,hn]; omega)] at k2
              have hpl := Gy us (os ++ tl) (len * y.sz) (by rw [List.length_append,hul,hn]; omega)
              rw [List.take_append_of_le_length (by omega)] at hpl
              obtain ⟨rn,rS⟩ := r0
              unfold IA at h1
              split at h1
              · rename_i hf
                cases h1
                have hx := En.new_xt (o := e.β k) (k := e.κ k) (b := b) s4 hf
                have hnl : (os.take (len * y.sz) ++ us ++ (os ++ tl).drop (len * y.sz + us.length)).length = e.κ k * y.sz := by
                  simp only [List.length_append,List.length_take,List.length_drop,hul,hn]; omega
                obtain ⟨M',q1,q2⟩ := MR.ins (e := e.newO S.nx b (e.κ k) (e.β k)) (x := (S.nx,some y.sz,cs.take (len * y.sz) ++ news)) (y := (b,pr ++ DI (os ++ tl) (len * y.sz) us)) ⟨En.new_b,pr,os.take (len * y.sz) ++ us,(os ++ tl).drop (len * y.sz + us.length),by rw [En.new_o]; exact g0,Fx hx (HS (Fs _ g3) hu),by rw [hpl],by
                  refine ⟨?_,hp⟩
                  show _ = (e.newO S.nx b (e.κ k) (e.β k)).κ S.nx * y.sz
                  rw [En.new_k]; exact hnl⟩ ((s2.drop hg).mono hx)
                have hi' := (List.getElem?_eq_some_iff.1 g1).1
                have hperm : (M.set i (b,pr ++ DI (os ++ tl) (len * y.sz) us)).Perm M' := (CH (i := i) (r := (b,pr ++ DI (os ++ tl) (len * y.sz) us)) (l1 := M.eraseIdx i) (by rw [List.getElem?_set_self hi']) (by rw [List.eraseIdx_set_eq])).trans q2
                refine ⟨e.newO S.nx b (e.κ k) (e.β k),w',.slice (some ⟨b,e.β k + 0,none⟩) (len + m) (e.κ k),hx,⟨M',Z,k2.perm hperm,q1,s3.mono hx,En.new_us s4⟩, ?_, ?_⟩
                · have hk : (e.newO S.nx b (e.κ k) (e.β k)).κ S.nx - 0 / y.sz = e.κ k := by rw [En.new_k,Nat.zero_div,Nat.sub_zero]
                  show CW.dn (e.newO S.nx b (e.κ k) (e.β k)) (.sl S.nx 0 y.sz (len + m) none) = _
                  rw [J2 En.new_b (fun _ => by rw [hk]; exact hc),hk,En.new_o]; rfl
                · rcases hsrc with ⟨rfl,h0,_⟩ | ⟨b2,o2,c2,rfl,hcell⟩
                  · omega
                  · have hf := run_firstCells_some (P := P) w y.sz m ⟨b2,o2,none⟩ m c2 us (by rw [hul,hn]) hcell
                    simp [Builtin.append_,run_underlying ht,sizeOf,typeInfo,hi,his,Builtin.lenOf,hc,hf,Bg,k1]
              · cases h1
            · exact hgrow (S0 := ⟨KW k S.M,S.Z,S.us,S.nx⟩) (r0 := r0) (e.κ k) ⟨M.eraseIdx i,Z,s1.sub (List.eraseIdx_sublist ..) (.refl _),s2.drop hg,s3,s4⟩ (by omega) hm hl2 (by rw [List.drop_zero]; exact h1)
          · cases h
        · cases h
    · cases h
  · rename_i k o z' l
    split at h
    · rename_i z2 cs hg hbd
      replace hg := EY hg; obtain ⟨i,hg⟩ := hg
      simp only [zf] at hbd
      have hz' := zd hbd.1
      have b1 := ze hbd.2.1
      have b2 := ze hbd.2.2.1
      have b3 : o % y.sz = 0 := zd hbd.2.2.2.1
      have b4 : 0 < m := ze hbd.2.2.2.2
      subst hz'
      split at h
      case h_2 => cases h
      rename_i hz2
      have hz2 := zd hz2
      subst hz2
      obtain ⟨r0,h1,rfl⟩ := map_some h
      obtain ⟨M,Z,s1,s2,s3,s4⟩ := hS
      obtain ⟨b,pr,os,tl,g1,g0,g2,g3,g4⟩ := s2.get hg
      have hol := B9 g3
      have ho : o / y.sz * y.sz = o := Nat.div_mul_cancel (Nat.dvd_of_mod_eq_zero b3)
      have hve : l ≤ e.κ k - o / y.sz ∧ v = .slice (if e.κ k - o / y.sz = l then some ⟨b,e.β k + o,none⟩ else some ⟨b,e.β k + o + l * y.sz,none⟩) 0 (e.κ k - o / y.sz - l) := by
        have hv' : CW.dn e (.tl k o y.sz l) = some v := hv
        simp only [CW.dn,g2,Option.map_some] at hv'
        split at hv'
        · rename_i hl; cases hv'; exact ⟨hl,rfl⟩
        · cases hv'
      obtain ⟨hl,rfl⟩ := hve
      by_cases hc : m ≤ e.κ k - o / y.sz - l
      · have hne : ¬ e.κ k - o / y.sz = l := by omega
        rw [if_neg hne]
        have hlen := g4.1
        rw [List.length_append] at hlen
        have hsum : o + l * y.sz + m * y.sz ≤ e.κ k * y.sz := by
          have := Nat.mul_le_mul_right y.sz (show o / y.sz + l + m ≤ e.κ k by omega)
          rw [Nat.add_mul,Nat.add_mul,ho] at this
          exact this
        obtain ⟨w',k1,k2⟩ := Cu (P := P) us (e.β k + (o + l * y.sz)) 0 (pr ++ (os ++ tl)) M w s1 g1 (by simp only [List.length_append,hul,hn]; omega) (fun v hm => List.all_eq_true.1 (Kw hu) v hm)
        rw [Nat.add_zero, ← g0,Lj (by rw [List.length_append,hul,hn]; omega)] at k2
        have hpl := Gy us (os ++ tl) (o + l * y.sz) (by rw [List.length_append,hul,hn]; omega)
        obtain ⟨rn,rS⟩ := r0
        unfold IA at h1
        split at h1
        · rename_i hf
          cases h1
          have hx := En.new_xt (o := e.β k + (o + l * y.sz)) (k := e.κ k - o / y.sz - l) (b := b) s4 hf
          have hsub : (e.κ k - o / y.sz - l) * y.sz = e.κ k * y.sz - (o + l * y.sz) := by rw [Nat.sub_mul,Nat.sub_mul,ho,Nat.sub_sub]
          obtain ⟨M',q1,q2⟩ := MR.ins (e := e.newO S.nx b (e.κ k - o / y.sz - l) (e.β k + (o + l * y.sz))) (x := (S.nx,some y.sz,news)) (y := (b,pr ++ DI (os ++ tl) (o + l * y.sz) us)) ⟨En.new_b,pr ++ (os ++ tl).take (o + l * y.sz),us,(os ++ tl).drop (o + l * y.sz + us.length),by rw [En.new_o,List.length_append,List.length_take,List.length_append]; omega,Fx hx hu,by rw [hpl]; simp only [List.append_assoc],by
            refine ⟨?_,hp⟩
            show _ = (e.newO S.nx b (e.κ k - o / y.sz - l) (e.β k + (o + l * y.sz))).κ S.nx * y.sz
            rw [En.new_k,hsub]
            simp only [List.length_append,List.length_drop,hul,hn]; omega⟩ ((s2.drop hg).mono hx)
          have hi' := (List.getElem?_eq_some_iff.1 g1).1
          have hperm : (M.set i (b,pr ++ DI (os ++ tl) (o + l * y.sz) us)).Perm M' := (CH (i := i) (r := (b,pr ++ DI (os ++ tl) (o + l * y.sz) us)) (l1 := M.eraseIdx i) (by rw [List.getElem?_set_self hi']) (by rw [List.eraseIdx_set_eq])).trans q2
          refine ⟨_,w',.slice (some ⟨b,e.β k + (o + l * y.sz) + 0,none⟩) m (e.κ k - o / y.sz - l),hx,⟨M',Z,k2.perm hperm,q1,s3.mono hx,En.new_us s4⟩, ?_, ?_⟩
          · have hk : (e.newO S.nx b (e.κ k - o / y.sz - l) (e.β k + (o + l * y.sz))).κ S.nx - 0 / y.sz = e.κ k - o / y.sz - l := by rw [En.new_k,Nat.zero_div,Nat.sub_zero]
            show CW.dn (e.newO S.nx b (e.κ k - o / y.sz - l) (e.β k + (o + l * y.sz))) (.sl S.nx 0 y.sz m none) = _
            rw [J2 En.new_b (fun _ => by rw [hk]; exact hc),hk,En.new_o]; rfl
          · rcases hsrc with ⟨rfl,h0,_⟩ | ⟨b2,o2,c2,rfl,hcell⟩
            · omega
            · have hf := run_firstCells_some (P := P) w y.sz m ⟨b2,o2,none⟩ m c2 us (by rw [hul,hn]) hcell
              simp [Builtin.append_,run_underlying ht,sizeOf,typeInfo,hi,his,Builtin.lenOf,hc,hf,Bg,k1,Nat.add_assoc]
        · cases h1
      · obtain ⟨e',u,k1,k2,k3,k4⟩ := hnew (len := 0) (old := e.κ k - o / y.sz - l) (olds := []) (os := []) (S0 := ⟨KW k S.M,S.Z,S.us,S.nx⟩) (r0 := r0) ⟨M.eraseIdx i,Z,s1.sub (List.eraseIdx_sublist ..) (.refl _),s2.drop hg,s3,s4⟩ (by simpa using h1) rfl (by simp) (by omega)
        refine ⟨e',_,u,k1,k2,by simpa using k3, ?_⟩
        rcases hsrc with ⟨rfl,h0,h1⟩ | ⟨b2,o2,c2,rfl,hcell⟩
        · omega
        · have hr := fun ad : Addr => run_append_grow (P := P) w t ty el inf z ht hi hz ad 0 (e.κ k - o / y.sz - l) [] (by simp) (fun j u hj => by simp at hj) ⟨b2,o2,none⟩ m c2 us (by rw [hul,hn,his]) hcell (by omega) (by omega) (growslice_fits (by omega) (by rw [hib]; simpa using b1))
          by_cases hh : e.κ k - o / y.sz = l
          · rw [if_pos hh,hr,k4]
          · rw [if_neg hh,hr,k4]
    · cases h
  · cases h
end
end
end Go.Proofs.YtbiekjhlijdjbaaGreat
namespace Go.Proofs.YtbiekjhlijdjbaaGreat
section
variable {P : Program} {tb : TB} {B : Bs} {e : En} {n : Nat} {ds : List Deferred} {F : FW} {S : SW} {a : Act} {w : World} {op : Op} {x : IG}
theorem KA (hS : Bx B e S w) {cs : List CW} {us : List Value} {r : Nat × SW} (hr : IA S none cs = some r) (hu : EP e cs = some us) {v : AW} {t : Nat} (hv : ∀ e',e'.b r.1 = some w.heap.size → e'.β r.1 = 0 → ∃ u,v.dn e' = some u ∧ ∀ dst ty pos aft g,(execOp a.eval ⟨dst,op,ty,pos,aft,g⟩).run P w = .ok (.value u) (w.alloc (.cells us.toArray t))) : XS P B op a e w (some v,r.2) := by
  obtain ⟨n,S'⟩ := r
  obtain ⟨h1,h2,h3⟩ := hS.alloc (k := 0) hr (tl := []) hu rfl t
  rw [List.append_nil] at h2
  exact ⟨_,_,h1,h2,hv _ h3 En.new_o⟩
theorem Wr (hb : TbO P tb) (hF : FG e n ds F a) (hS : Bx B e S w) (h : Rn P tb F S op = some x) : XS P B op a e w x := by
  have hR := hF.2
  cases op with
  | store t y z =>
    simp only [Rn,LW,Ms,Md,Mh,Me,Mv,LV,Mt] at h
    split at h
    · rename_i k o new q hy hz ht
      obtain ⟨_,dx,ox,ax⟩ := hF.op hy
      obtain ⟨b,hb',rfl⟩ := map_some dx
      obtain ⟨v,hv,hc⟩ := bind_some' hz
      obtain ⟨u,du,ou,au⟩ := hF.op hv
      have hcs := T9 hc du
      split at h
      · rename_i q' cs hg
        replace hg := EY hg; obtain ⟨i,hg⟩ := hg
        split at h
        · rename_i hl
          cases h
          rw [zf] at hl
          have l1 := zd hl.1
          obtain ⟨w',s1,s2⟩ := hS.store (P := P) hg hb' hcs (ze hl.2)
          have hsz : u.cells.size = q.sz := by rw [← l1, ← B9 hcs]; simp
          exact ⟨e,w',Xt.rfl',s2,fun _ _ _ _ _ => by simp [execOp,ax,au,Instr.storeAt,Instr.sureAddr,storeVar,(A3 hb ht).sizeOf,hsz,s1]⟩
        · cases h
      · cases h
    · cases h
  | alloc t =>
    simp only [Rn,LW,Ms,Md,Mh,Me,Mv,LV,Mt] at h
    split at h
    · rename_i y ht
      obtain ⟨r,h1,rfl⟩ := map_some h
      obtain ⟨z,z1,z2,_⟩ := (A3 hb ht).zero
      refine KA hS h1 (z2 e) (t := t) fun e' he ho => ⟨.pointer (some ⟨w.heap.size,0,none⟩),by show (e'.b r.1).map _ = _; rw [he,ho]; rfl,fun _ _ _ _ _ => ?_⟩
      simp [execOp,Instr.alloc,z1,newVar,newRow]
    · cases h
  | box t y =>
    simp only [Rn,LW,Ms,Md,Mh,Me,Mv,LV,Mt] at h
    split at h
    · rename_i cs hc
      obtain ⟨r,h1,rfl⟩ := map_some h
      obtain ⟨v,hv,hc⟩ := bind_some' hc
      obtain ⟨u,du,ou,au⟩ := hF.op hv
      refine KA hS h1 (T9 hc du) (t := t) fun e' he ho => ⟨.pointer (some ⟨w.heap.size,0,none⟩),by show (e'.b r.1).map _ = _; rw [he,ho]; rfl,fun _ _ _ _ _ => ?_⟩
      simp [execOp,Instr.box,au,newVar,newRow]
    · cases h
  | buildSlice t m ps =>
    simp only [Rn,LW,Ms,Md,Mh,Me,Mv,LV,Mt] at h
    split at h
    · rename_i _ _ _ el pr ht hp
      split at h
      · rename_i y hy
        split at h
        · rename_i hl
          rw [zf] at hl
          have l1 := ze hl.1
          have l2 := ze hl.2
          split at h
          · rename_i cs hf
            obtain ⟨r,h1,rfl⟩ := map_some h
            have hT := (A3 hb ht).slice rfl
            have hY := A3 hb hy
            obtain ⟨inf,z',hi,his,hib,hz',hzz',hzl,_⟩ := hY.info
            obtain ⟨vp,p1,p2⟩ := Nb hF hp
            obtain ⟨z,z1,z2,z3⟩ := hY.zero
            have hzs : z.cells.toList.length = y.sz := by rw [B9 (z2 e),hzl]
            obtain ⟨ws,w1,w2⟩ := Ju hf p2 (VD (z2 e) hzl l2 m)
            refine KA hS h1 w1 (t := el) fun e' he ho => ⟨.slice (some ⟨w.heap.size,0,none⟩) m m,by show (AW.one (.sl r.1 0 y.sz m (some m))).dn e' = _; show (e'.b r.1).map _ = _; rw [he,ho]; rfl,fun _ _ _ _ _ => ?_⟩
            have hfill := FB w2
            have he' : (ps.map fun (i,x) => (i,a.eval x)) = vp.toArray := by
              have := hR.evalp p1
              apply Array.toList_inj.1
              rw [Array.toList_map]; exact this
            have hle : ¬ (m * y.sz > 2 ^ 24) := by omega
            by_cases h0 : m * y.sz = 0
            · have harr : ((Array.range (m * y.sz)).map fun x => (#[] : Array Value)[x % (#[] : Array Value).size]!) = ((List.range (m * y.sz)).map fun i => (z.cells.toList)[i % y.sz]!).toArray := by
                rw [h0]; simp
              simp only [execOp,Instr.buildSlice,he',Sem.run_bind,run_underlying hT,Result.andThen_ok,hY.sizeOf,if_neg hle,if_pos h0,Sem.run_pure,Sem.run_ite]
              simp only [harr,hfill,Sem.run_bind,newRow,run_newObj,Result.andThen_ok,Sem.run_pure]
              rfl
            · have harr : ((Array.range (m * y.sz)).map fun x => z.cells[x % z.cells.size]!) = ((List.range (m * y.sz)).map fun i => (z.cells.toList)[i % y.sz]!).toArray := by
                rw [show z.cells.size = y.sz by simpa using hzs, ← Array.toList_inj]
                simp only [Array.toList_map,Array.toList_range]
                refine List.map_congr_left fun i _ => ?_
                exact Ok _ _
              simp only [execOp,Instr.buildSlice,he',Sem.run_bind,run_underlying hT,Result.andThen_ok,hY.sizeOf,if_neg hle,if_neg h0,Sem.run_pure,Sem.run_ite,z1]
              simp only [harr,hfill,Sem.run_bind,newRow,run_newObj,Result.andThen_ok,Sem.run_pure]
              rfl
          · cases h
        · cases h
      · cases h
    · cases h
  | makeSlice t lo co =>
    simp only [Rn,LW,Ms,Md,Mh,Me,Mv,LV,Mt] at h
    split at h
    · rename_i _ _ _ el kl l kc c ht hl hc
      obtain ⟨_,dl,ol,al⟩ := hF.op hl
      obtain ⟨_,dc,oc,ac⟩ := hF.op hc
      cases dl; cases dc
      split at h
      · rename_i y hy
        split at h
        · rename_i hd
          obtain ⟨d1,d2,d3,d4,d5⟩ := of_decide_eq_true hd
          obtain ⟨r,h1,rfl⟩ := map_some h
          have hT := (A3 hb ht).slice rfl
          have hY := A3 hb hy
          obtain ⟨inf,z,hi,his,hib,hz,hzz,hzl,_⟩ := hY.info
          have hzs : z.cells.toList.length = y.sz := by rw [B9 (hzz e),hzl]
          have hrun := run_make (P := P) w t el inf z hT hi hz kl kc l c d1 d2 (by rw [hib]; exact d3) d4
          have hcells : (madeCells z.cells (c.toNat * inf.size)) = (List.replicate c.toNat z.cells.toList).flatten.toArray := by
            have := Ng z.cells.toList (by rw [hzs]; exact d5) c.toNat
            rw [hzs] at this
            apply Array.toList_inj.1
            rw [his]; simpa using this
          rw [hcells] at hrun
          refine KA hS h1 (NC (hzz e) c.toNat) (t := el) fun e' he ho => ⟨.slice (some ⟨w.heap.size,0,none⟩) l.toNat c.toNat,by show (e'.b r.1).map _ = _; rw [he,ho]; rfl,fun _ _ _ _ _ => ?_⟩
          simp [execOp,al,ac,hrun]
        · cases h
      · cases h
    · cases h
  | call c =>
    obtain ⟨callee,args,ts⟩ := c
    cases callee <;> first | (cases h; done) | skip
    rename_i bi
    obtain ⟨args⟩ := args
    obtain ⟨ts⟩ := ts
    cases bi <;> first | (cases h; done) | skip
    · match args,ts,h with
      | [x', y'], [t, t'], h =>
        simp only [Rn,LW,Ms,Md,Mh,Me,Mv,LV,Mt] at h
        split at h
        · rename_i _ _ _ el xv yv ht hx hy htt
          have htt := zd htt
          subst htt
          split at h
          · rename_i z hz
            split at h
            · rename_i m news hp hs
              obtain ⟨r,h1,rfl⟩ := map_some h
              obtain ⟨u,dx,ox,ax⟩ := hF.op hx
              obtain ⟨v,dy,oy,ay⟩ := hF.op hy
              obtain ⟨hn,us,hu,hsrc⟩ := QI hS hs dy
              obtain ⟨e',w',u',k1,k2,k3,k4⟩ := Tz (P := P) (ty := 0) hS ((A3 hb ht).slice rfl) (A3 hb hz) (ze hp) dx h1 hn hu hsrc
              refine ⟨e',w',k1,k2,u',k3,fun _ ty _ _ _ => ?_⟩
              have : ∀ ty,Builtin.append_ #[t,t] ty #[u,v] = Builtin.append_ #[t,t] 0 #[u,v] := fun _ => rfl
              simp [execOp,Ax,invoke,builtin,ax,ay,this ty,k4]
            · cases h
          · cases h
        · cases h
    · match args,ts,h with
      | [x'], [t], h =>
        simp only [Rn,LW,Ms,Md,Mh,Me,Mv,LV,Mt] at h
        split at h
        · rename_i _ _ _ el k o z len c ht hx
          split at h
          · rename_i y q cs hy hg
            replace hg := EY hg; obtain ⟨i,hg⟩ := hg
            split at h
            · rename_i hl
              cases h
              rw [zf] at hl
              have l1 := ze hl.1
              have l2 := ze hl.2
              obtain ⟨u,dx,ox,ax⟩ := hF.op hx
              obtain ⟨b,hb',rfl,_⟩ := Ii dx
              have hT := (A3 hb ht).slice rfl
              have hY := A3 hb hy
              obtain ⟨inf,zv,hi,his,hib,hz,hzz,hzl,_⟩ := hY.info
              have hzs : zv.cells.toList.length = y.sz := by rw [B9 (hzz e),hzl]
              have hzlen : (RY y.zs len).length = len * y.sz := by unfold RY; simp [hzl]
              obtain ⟨w',s1,s2⟩ := hS.store (P := P) hg hb' (NC (hzz e) len) (o := o) (by rw [hzlen]; exact l1)
              refine ⟨e,w',Xt.rfl',s2,.tuple #[],rfl,fun _ _ _ _ _ => ?_⟩
              have hcz : (Builtin.zeroCells zv.cells len).toList = (List.replicate len zv.cells.toList).flatten := by
                have := Ng zv.cells.toList (by rw [hzs]; exact l2) len
                rw [← this]
                simp [Builtin.zeroCells,madeCells]
              obtain ⟨z',z1,_,z3⟩ := hY.zero
              have hzz' : z' = zv := by rw [hi] at z3; simp only [za] at z3; rw [hz] at z3; exact (Option.some.inj z3).symm
              subst hzz'
              cases len with
              | zero =>
                cases s1
                simp [execOp,Ax,invoke,builtin,ax,Builtin.clear_,run_underlying hT]
              | succ len => simp [execOp,Ax,invoke,builtin,ax,Builtin.clear_,run_underlying hT,z1,hcz,s1]
            · cases h
          · cases h
        · rename_i _ _ _ el ht hx
          cases h
          obtain ⟨u,dx,ox,ax⟩ := hF.op hx
          cases dx
          have hT := (A3 hb ht).slice rfl
          exact ⟨e,w,Xt.rfl',hS,.tuple #[],rfl,fun _ _ _ _ _ => by simp [execOp,Ax,invoke,builtin,ax,Builtin.clear_,run_underlying hT]⟩
        · cases h
    · match args, ts, h with
      | [x', y'], [t, t'], h =>
        simp only [Rn,LW,Ms,Md,Mh,Me,Mv,LV,Mt] at h
        split at h
        · rename_i _ _ _ el k o z len c yv ht hx hy
          split at h
          · rename_i q hq
            split at h
            · rename_i m news q' cs hs hg
              replace hg := EY hg; obtain ⟨i,hg⟩ := hg
              split at h
              · rename_i hl
                cases h
                have hl := ze hl
                obtain ⟨u,dx,ox,ax⟩ := hF.op hx
                obtain ⟨v,dy,oy,ay⟩ := hF.op hy
                obtain ⟨b,hb',rfl,_⟩ := Ii dx
                obtain ⟨hn,us,hu,hsrc⟩ := QI hS hs dy
                have hT := (A3 hb ht).slice rfl
                have hY := A3 hb hq
                have hmin : Nat.min m len ≤ m := Nat.min_le_left ..
                have hmul := Nat.mul_le_mul_right q.sz hmin
                have hlt : (news.take (Nat.min m len * q.sz)).length = Nat.min m len * q.sz := by rw [List.length_take,hn]; omega
                obtain ⟨w',s1,s2⟩ := hS.store (P := P) hg hb' (Fs (Nat.min m len * q.sz) hu) (o := o) (by rw [hlt]; exact hl)
                refine ⟨e,w',Xt.rfl',s2,_,rfl,fun _ _ _ _ _ => ?_⟩
                rcases hsrc with ⟨rfl,h0,h1⟩ | ⟨b2,o2,c2,rfl,hcell⟩
                · subst h0 h1
                  cases hu
                  simp only [List.take_nil] at s1
                  cases s1
                  simp [execOp,Ax,invoke,builtin,ax,ay,Builtin.copy_,run_underlying hT,Builtin.lenOf,Builtin.firstCells,hY.sizeOf,storeCells,goInt]
                · have hul := B9 hu
                  have hf := run_firstCells_some (P := P) w q.sz (Nat.min m len) ⟨b2,o2,none⟩ m c2 (us.take (Nat.min m len * q.sz)) (by rw [List.length_take,hul,hn]; omega) (fun j u hj => by
                    rw [List.getElem?_take] at hj
                    split at hj
                    · exact hcell j u hj
                    · cases hj)
                  simp [execOp,Ax,invoke,builtin,ax,ay,Builtin.copy_,run_underlying hT,Builtin.lenOf,hY.sizeOf,hf,s1,goInt]
              · cases h
            · cases h
          · cases h
        · cases h
  | _ => cases h
end
end Go.Proofs.YtbiekjhlijdjbaaGreat
