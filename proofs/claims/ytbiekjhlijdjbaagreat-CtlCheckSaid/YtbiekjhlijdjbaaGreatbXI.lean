/- A run that is computed: maps. Conditions: none. -/
import Derived.Test.YtbiekjhlijdjbaaGreatbXF
set_option linter.unusedVariables false
set_option linter.unusedSimpArgs false
open Go Go.RowKit
namespace Go.Proofs.YtbiekjhlijdjbaaGreat
noncomputable section
def getK : List ZW → Nat → Option (Nat × ZK)
  | [],_ => none
  | (m,x) :: r,n => match Nat.beq m n with
    | true => some (0,x)
    | false => match getK r n with | some (i,q) => some (i + 1,q) | none => none
def setK (n : Nat) (y : ZK) : List ZW → List ZW
  | [] => []
  | (m,x) :: r => match Nat.beq m n with | true => (m,y) :: r | false => (m,x) :: setK n y r
def Kh (L : List ZW) (n : Nat) : Option (Nat × Nat × List (Value × AW × Nat)) := match getK L n with
  | some (i,.mp c l) => some (i,c,l)
  | _ => none
def SX (n : Nat) (c : Nat) (l : List (Value × AW × Nat)) (L : List ZW) : List ZW := setK n (.mp c l) L
def T8 (x : ZW) : List ZW → List ZW
  | [] => [x]
  | y :: r => match Nat.blt x.1 y.1 with | true => y :: T8 x r | false => x :: y :: r
def ZN (p : Value × AW × Nat) : MapEntry := ⟨p.1,.nilFunc,0⟩
def ZD (P : Program) (kt : Nat) (k : Value) : List (Value × AW × Nat) → Nat → Option (Option Nat)
  | [],_ => some none
  | p :: r,i => match GB P (Op.equal kt k p.1) with
    | some true => some (some i)
    | some false => ZD P kt k r (i + 1)
    | none => none
def X1 (P : Program) (kt : Nat) (k : Value) (l : List (Value × AW × Nat)) : Option (Option Nat) := match P.underlying kt with
  | none => none
  | some d => match Instr.findNow d k (l.map ZN) 0 with
    | some r => some (r.map (·.1))
    | none => ZD P kt k l 0
def a9 (y : TI) : Option AW := match y.k.agg with
  | true => some (.agg y.zs)
  | false => match y.zs with | [c] => some (.one c) | _ => none
def WQ (P : Program) (b : Bool) (kt : Nat) (k : Value) : Bool := match GB P (Instr.checkKey b 10000 kt k) with | some () => true | none => false
def Yh (ok : Bool) (v : AW) (b : Bool) : Option AW := match ok with
  | true => v.cp.map fun p => .tup [p,(false,[.bool b])]
  | false => some v
def YQ (S : SW) : Option IG := match X3 S.nx S.us with
  | true => some (some (.one (.map S.nx)),⟨S.M,T8 (S.nx,.mp 0 []) S.Z,Mm S.nx S.us,S.nx + 1⟩)
  | false => none
def Yk (P : Program) (tb : TB) (F : FW) (S : SW) (t : Nat) (x k v : Operand) : Option IG := match D9 F x,(D9 F k).bind (AW.dn e0),D9 F v,ti tb t with
  | some (.one (.map n)),some k,some v,some ⟨_,_,_,.map kt _⟩ => match Kh S.Z n with
    | some (_,c,l) => match WQ P false kt k,X1 P kt k l with
      | true,some none => some (none,⟨S.M,SX n (c + 1) (l ++ [(k,v,c)]) S.Z,S.us,S.nx⟩)
      | true,some (some i) => match l[i]? with
        | some p => match Instr.sameBits 10000 p.1 k with
          | true => some (none,⟨S.M,SX n c (l.set i (k,v,p.2.2)) S.Z,S.us,S.nx⟩)
          | false => none
        | none => none
      | _,_ => none
    | none => none
  | _,_,_,_ => none
def Zb (P : Program) (tb : TB) (F : FW) (S : SW) (x k : Operand) (t : Nat) : Option IG := match D9 F x,(D9 F k).bind (AW.dn e0),ti tb t with
  | some (.one (.map n)),some k,some ⟨_,_,_,.map kt _⟩ => match Kh S.Z n with
    | some (_,c,l) => match WQ P l.isEmpty kt k,X1 P kt k l with
      | true,some none => some (some (.tup []),S)
      | true,some (some i) => some (some (.tup []),⟨S.M,SX n c (l.eraseIdx i) S.Z,S.us,S.nx⟩)
      | _,_ => none
    | none => none
  | some (.one .nilm),some k,some ⟨_,_,_,.map kt _⟩ => match WQ P true kt k with | true => some (some (.tup []),S) | false => none
  | _,_,_ => none
def VH (P : Program) (tb : TB) (F : FW) (S : SW) : Op → Option IG
  | .makeMap t none => YQ S
  | .mapUpdate t x k v => Yk P tb F S t x k v
  | .call ⟨.builtin .delete,⟨[x,k]⟩,⟨[t,_]⟩⟩ => Zb P tb F S x k t
  | _ => none
def Xm (tb : TB) (F : FW) (S : SW) (t : Nat) (x : Operand) : Option AW := match D9 F x,ti tb t with
  | some (.one (.ptr n o)),some y => match Lf S.M n with
    | some (_,cs) => Wu y.k.agg y.sz cs o
    | none => none
  | _,_ => none
def WT (P : Program) (tb : TB) (F : FW) (S : SW) (t : Nat) (x k : Operand) (ok : Bool) : Option AW := match D9 F x,(D9 F k).bind (AW.dn e0),ti tb t with
  | some x,some k,some ⟨_,_,_,.map kt el⟩ => match x,(ti tb el).bind a9 with
    | .one (.map n),some z => match Kh S.Z n with
      | some (_,_,l) => match WQ P l.isEmpty kt k,X1 P kt k l with
        | true,some none => Yh ok z false
        | true,some (some i) => match l[i]? with | some p => Yh ok p.2.1 true | none => none
        | _,_ => none
      | none => none
    | .one .nilm,some z => match WQ P true kt k,X1 P kt k [] with
      | true,some none => Yh ok z false
      | _,_ => none
    | _,_ => none
  | _,_,_ => none
def Wy (tb : TB) (F : FW) (S : SW) (t : Nat) (x : Operand) (lo hi : Option Operand) : Option AW := match D9 F x,ti tb t,Z9 F lo with
  | some (.one (.sl n o sz len none)),some ⟨_,_,_,.slice el⟩,some l => match XW F len hi,ti tb el,Lf S.M n with
    | some h,some y,some (some z,cs) => match Nat.beq y.sz sz && (Nat.beq z sz && Nat.ble ((o / sz + h.toNat) * sz) cs.length) with
      | true => (Tl n o sz h.toNat none l h none).map .one
      | false => none
    | _,_,_ => none
  | _,_,_ => none
def X0 (tb : TB) (F : FW) (S : SW) (x : Operand) (t : Nat) : Option AW := match D9 F x,ti tb t with
  | some (.one (.map n)),some ⟨_,_,_,.map _ _⟩ => match Kh S.Z n with
    | some (_,_,l) => some (.one (.int .i64 (l.length : Int)))
    | none => none
  | some (.one .nilm),some ⟨_,_,_,.map _ _⟩ => some (.one (.int .i64 0))
  | _,_ => none
def PR (P : Program) (tb : TB) (F : FW) (S : SW) : Op → Option AW
  | .load t x => Xm tb F S t x
  | .lookup t x k ok => WT P tb F S t x k ok
  | .slice t x lo hi none => Wy tb F S t x lo hi
  | .call ⟨.builtin .len,⟨[x]⟩,⟨[t]⟩⟩ => X0 tb F S x t
  | _ => none
section
variable {P : Program} {tb : TB} {B : Bs} {e : En} {n : Nat} {ds : List Deferred} {F : FW} {S : SW} {a : Act} {w : World} {op : Op} {x : IG}
theorem Hk {b : Bool} {kt : Nat} {k : Value} (h : WQ P b kt k = true) (w : World) : (Instr.checkKey b 10000 kt k).run P w = .ok () w := by
  unfold WQ at h
  split at h
  · rename_i hh; exact Eh hh w
  · cases h
theorem ER.get : ∀ {l : List (Value × AW × Nat)} {es : List MapEntry} {i : Nat} {p : Value × AW × Nat},ER e l es → l[i]? = some p → ∃ x,es[i]? = some x ∧ x.key = p.1 ∧ p.2.1.dn e = some x.val ∧ x.born = p.2.2
  | [],_,i,p,_,h => by simp at h
  | _ :: _,[],i,p,hE,h => hE.elim
  | (k,v,t) :: l,y :: es,0,p,hE,h => by
    simp at h; subst h
    exact ⟨y,rfl,hE.1.1,hE.1.2.1,hE.1.2.2⟩
  | (k,v,t) :: l,y :: es,i + 1,p,hE,h => by
    obtain ⟨x,h1,h2⟩ := ER.get (l := l) (i := i) hE.2 (by simpa using h)
    exact ⟨x,by simpa using h1,h2⟩
theorem ER.len : ∀ {l : List (Value × AW × Nat)} {es : List MapEntry},ER e l es → es.length = l.length
  | [],[],_ => rfl
  | [],_ :: _,h => h.elim
  | _ :: _,[],h => h.elim
  | _ :: _,_ :: _,h => by simp [ER.len h.2]
theorem ER.app : ∀ {l m : List (Value × AW × Nat)} {es fs : List MapEntry},ER e l es → ER e m fs → ER e (l ++ m) (es ++ fs)
  | [],_,[],_,_,h => h
  | [],_,_ :: _,_,h,_ => h.elim
  | _ :: _,_,[],_,h,_ => h.elim
  | _ :: _,_,_ :: _,_,h,h' => ⟨h.1,ER.app h.2 h'⟩
theorem ER.erase : ∀ {l : List (Value × AW × Nat)} {es : List MapEntry} (i : Nat),ER e l es → ER e (l.eraseIdx i) (es.eraseIdx i)
  | [],[],_,h => h
  | [],_ :: _,_,h => h.elim
  | _ :: _,[],_,h => h.elim
  | _ :: _,_ :: _,0,h => h.2
  | _ :: _,_ :: _,i + 1,h => ⟨h.1,ER.erase i h.2⟩
theorem ER.mod {k : Value} {v : AW} {u : Value} (hv : v.dn e = some u) : ∀ {l : List (Value × AW × Nat)} {es : List MapEntry} {i : Nat} {p : Value × AW × Nat},ER e l es → l[i]? = some p → ER e (l.set i (k,v,p.2.2)) (es.modify i fun x => { x with key := k,val := u })
  | [],_,i,p,_,h => by simp at h
  | _ :: _,[],i,p,hE,h => hE.elim
  | (k',v',t) :: l,y :: es,0,p,hE,h => by
    simp at h; subst h
    exact ⟨⟨rfl,hv,hE.1.2.2⟩,hE.2⟩
  | (k',v',t) :: l,y :: es,i + 1,p,hE,h => by
    rw [List.set_cons_succ,List.modify_succ_cons]
    exact ⟨hE.1,ER.mod (l := l) (i := i) hv hE.2 (by simpa using h)⟩
theorem LS (d : TypeDesc) (k : Value) : ∀ {l : List (Value × AW × Nat)} {es : List MapEntry},ER e l es → ∀ i,match Instr.findNow d k (l.map ZN) i with
    | none => Instr.findNow d k es i = none
    | some none => Instr.findNow d k es i = some none
    | some (some q) => ∃ x,i ≤ q.1 ∧ es[q.1 - i]? = some x ∧ Instr.findNow d k es i = some (some (q.1,x.val))
  | [],[],_,i => rfl
  | [],_ :: _,h,_ => h.elim
  | _ :: _,[],h,_ => h.elim
  | (k', v, t) :: l, y :: es, h, i => by
    have ih := LS d k (l := l) (es := es) h.2 (i + 1)
    have hk : y.key = k' := h.1.1
    simp only [List.map_cons,Instr.findNow,ZN,hk]
    cases hs : Instr.sameNow d k k' with
    | none => rfl
    | some b =>
      cases b with
      | true => exact ⟨y,Nat.le_refl _,by simp,rfl⟩
      | false =>
        simp only
        show match Instr.findNow d k (l.map ZN) (i + 1) with
          | none => _
          | some none => _
          | some (some q) => _
        split <;> rename_i hq <;> rw [hq] at ih
        · exact ih
        · exact ih
        · rename_i q
          obtain ⟨x,h1,h2,h3⟩ := ih
          refine ⟨x,by omega, ?_,h3⟩
          rw [show q.1 - i = (q.1 - (i + 1)) + 1 by omega,List.getElem?_cons_succ]; exact h2
theorem TY {kt : Nat} {k : Value} : ∀ {l : List (Value × AW × Nat)} {es : List MapEntry} {i : Nat} {r : Option Nat},ER e l es → ZD P kt k l i = some r → ∃ q,(∀ w,(Instr.findAsking kt k es i).run P w = .ok q w) ∧ match r with
    | none => q = none
    | some j => ∃ x,i ≤ j ∧ es[j - i]? = some x ∧ q = some (j,x.val)
  | [],[],i,r,_,h => by cases h; exact ⟨none,fun w => rfl,rfl⟩
  | [],_ :: _,_,_,h,_ => h.elim
  | _ :: _,[],_,_,h,_ => h.elim
  | (k', v, t) :: l, y :: es, i, r, h, hf => by
    have hk : y.key = k' := h.1.1
    unfold ZD at hf
    unfold Instr.findAsking
    rw [hk]
    split at hf
    · rename_i hp
      cases hf
      exact ⟨some (i,y.val),fun w => by rw [Sem.run_bind,Eh hp w]; rfl,y,Nat.le_refl _,by simp,rfl⟩
    · rename_i hp
      obtain ⟨q,h1,h2⟩ := TY h.2 hf
      refine ⟨q,fun w => by rw [Sem.run_bind,Eh hp w]; exact h1 w, ?_⟩
      cases r with
      | none => exact h2
      | some j =>
        obtain ⟨x,g1,g2,g3⟩ := h2
        exact ⟨x,by omega,by rw [show j - i = (j - (i + 1)) + 1 by omega,List.getElem?_cons_succ]; exact g2,g3⟩
    · cases hf
theorem Is {kt : Nat} {k : Value} {l : List (Value × AW × Nat)} {es : List MapEntry} {r : Option Nat} (hE : ER e l es) (h : X1 P kt k l = some r) : ∃ q,(∀ w,(Instr.findKey kt k es).run P w = .ok q w) ∧ match r with
    | none => q = none
    | some j => ∃ x,es[j]? = some x ∧ q = some (j,x.val) := by
  unfold X1 at h
  split at h
  · cases h
  · rename_i d hd
    have hn := LS d k hE 0
    have hrun : ∀ w,(Instr.findKey kt k es).run P w = (match Instr.findNow d k es 0 with | some r => pure r | none => Instr.findAsking kt k es : Sem _).run P w := fun w => by
      rw [Instr.findKey,Sem.run_bind,run_underlying hd,Result.andThen_ok]
      cases Instr.findNow d k es 0 <;> rfl
    split at h
    · rename_i r' hr'
      cases h
      rw [hr'] at hn
      cases r' with
      | none =>
        refine ⟨none,fun w => by rw [hrun,show Instr.findNow d k es 0 = some none from hn]; rfl,rfl⟩
      | some q =>
        obtain ⟨x,_,h2,h3⟩ := hn
        exact ⟨some (q.1,x.val),fun w => by rw [hrun,h3]; rfl,x,by simpa using h2,rfl⟩
    · rename_i hr'
      rw [hr'] at hn
      obtain ⟨q,h1,h2⟩ := TY hE h
      refine ⟨q,fun w => by rw [hrun,show Instr.findNow d k es 0 = none from hn]; exact h1 w, ?_⟩
      cases r with
      | none => exact h2
      | some j =>
        obtain ⟨x,_,g2,g3⟩ := h2
        exact ⟨x,by simpa using g2,g3⟩
theorem AW.cl {v : AW} {k : Value} (h : v.dn e0 = some k) (e : En) : v.dn e = some k := by
  have hx : ∀ {l : List (Bool × List CW)} {vs : List Value},Fa e0 l = some vs → Fa e l = some vs := fun {l} => by
    induction l with
    | nil => exact fun h => h
    | cons p l ih =>
      intro vs h
      obtain ⟨u,us,h1,h2,rfl⟩ := F3 h
      refine EN ?_ (ih h2)
      obtain ⟨b,m⟩ := p
      cases b with
      | true => obtain ⟨ws,g1,rfl⟩ := map_some h1; simp only [P2,KQ g1 e,Option.map_some]
      | false =>
        match m,h1 with
        | [c],h1 => exact CW.cl h1 e
  cases v with
  | one c => exact CW.cl h e
  | agg l => obtain ⟨vs,h1,rfl⟩ := map_some h; simp only [AW.dn,KQ h1 e,Option.map_some]
  | tup l => obtain ⟨vs,h1,rfl⟩ := map_some h; simp only [AW.dn,hx h1,Option.map_some]
  | fnv f gs ps =>
    obtain ⟨us,h1,h⟩ := bind_some' h
    obtain ⟨vs,h2,rfl⟩ := map_some h
    simp only [AW.dn,hx h1,hx h2,za,Option.map_some]
  | und => exact h
theorem SO {t : Nat} {y : TI} (hy : TIo P t y) {v : AW} (h : a9 y = some v) (e : En) : ∃ z,v.dn e = some z ∧ ∀ w,(zeroValue t).run P w = .ok z w := by
  obtain ⟨i,z,h1,h2,h3,h4,h5,h6,h7⟩ := hy.info
  have hz : ∀ w,(zeroValue t).run P w = .ok z w := HA (by rw [h1]; exact h4)
  refine ⟨z, ?_,hz⟩
  unfold a9 at h
  have h5 := h5 e
  split at h
  · rename_i ha
    cases h
    obtain ⟨cs,rfl⟩ := h7.2 ha
    show (EP e y.zs).map _ = _
    rw [h5]; simp [Value.cells]
  · rename_i ha
    split at h
    · rename_i c hc
      cases h
      rw [hc] at h5
      obtain ⟨v,us,g1,g2,g3⟩ := D6 h5
      cases g2
      have hn : ¬ ∃ cs,z = .agg cs := fun hh => by rw [h7.1 hh] at ha; cases ha
      have hcz : z.cells = #[z] := by
        cases z <;> first | rfl | (exact absurd ⟨_,rfl⟩ hn)
      rw [hcz] at g3
      cases g3
      exact g1
    · cases h
theorem ZR.getK : ∀ {L : List ZW} {Z : List It} {n i : Nat} {x : ZK},ZR e L Z → getK L n = some (i,x) → ∃ z,Z[i]? = some z ∧ XX e n x z
  | [],_,n,i,x,_,h => by cases h
  | _ :: _,[],n,i,x,hR,h => hR.elim
  | (m, y) :: r, z :: Z, n, i, x, ⟨h1, hr⟩, h => by
    unfold Go.Proofs.YtbiekjhlijdjbaaGreat.getK at h
    split at h
    · rename_i hm
      cases h
      have := zd hm
      subst this
      exact ⟨z,rfl,h1⟩
    · split at h
      · rename_i j q hq
        cases h
        obtain ⟨z',g1,g2⟩ := ZR.getK hr hq
        exact ⟨z',by simpa using g1,g2⟩
      · cases h
theorem ZR.setK {n : Nat} {x' : ZK} {z' : It} (h' : XX e n x' z') : ∀ {L : List ZW} {Z : List It} {i : Nat} {x : ZK},ZR e L Z → Go.Proofs.YtbiekjhlijdjbaaGreat.getK L n = some (i,x) → ZR e (setK n x' L) (Z.set i z')
  | [],_,i,x,_,h => by cases h
  | _ :: _,[],i,x,hR,h => hR.elim
  | (m, y) :: r, z :: Z, i, x, ⟨hz, hr⟩, h => by
    unfold Go.Proofs.YtbiekjhlijdjbaaGreat.getK at h
    unfold Go.Proofs.YtbiekjhlijdjbaaGreat.setK
    split at h
    · rename_i hm
      cases h
      have := zd hm
      subst this
      exact ⟨h',hr⟩
    · split at h
      · rename_i j q hq
        cases h
        exact ⟨hz,ZR.setK h' hr hq⟩
      · cases h
theorem Uf {L : List ZW} {n i c : Nat} {l : List (Value × AW × Nat)} (h : Kh L n = some (i,c,l)) : getK L n = some (i,.mp c l) := by
  unfold Kh at h
  split at h
  · rename_i h1; cases h; exact h1
  · cases h
theorem ZR.get {L : List ZW} {Z : List It} {n i c : Nat} {l : List (Value × AW × Nat)} (hR : ZR e L Z) (h : Kh L n = some (i,c,l)) : ∃ b es,Z[i]? = some (VL b es.toArray c) ∧ e.b n = some b ∧ ER e l es := by
  obtain ⟨z,h1,b,es,h2,h3,rfl⟩ := hR.getK (Uf h)
  exact ⟨b,es,h1,h2,h3⟩
theorem ZR.set {n c' : Nat} {l' : List (Value × AW × Nat)} {es' : List MapEntry} (h' : ER e l' es') {L : List ZW} {Z : List It} {i c b : Nat} {l : List (Value × AW × Nat)} (hR : ZR e L Z) (h : Kh L n = some (i,c,l)) (hb : e.b n = some b) : ZR e (SX n c' l' L) (Z.set i (VL b es'.toArray c')) :=
  ZR.setK (x' := .mp c' l') (show XX e n (.mp c' l') _ from ⟨b,es',hb,h',rfl⟩) hR (Uf h)
theorem ZR.ins {y : ZW} {z : It} (hy : XX e y.1 y.2 z) : ∀ {L : List ZW} {Z : List It},ZR e L Z → ∃ Z',ZR e (T8 y L) Z' ∧ (z :: Z).Perm Z'
  | [],[],_ => ⟨[z],⟨hy,trivial⟩,.refl _⟩
  | [],_ :: _,h => h.elim
  | _ :: _,[],h => h.elim
  | u :: L,m :: Z,⟨h1,h2⟩ => by
    unfold T8
    split
    · obtain ⟨Z',g1,g2⟩ := ZR.ins hy h2
      exact ⟨m :: Z',⟨h1,g1⟩,(List.Perm.swap m z Z).trans (g2.cons m)⟩
    · exact ⟨z :: m :: Z,⟨hy,h1,h2⟩,.refl _⟩
theorem Bx.map (hS : Bx B e S w) {k i c : Nat} {l : List (Value × AW × Nat)} (hg : Kh S.Z k = some (i,c,l)) : ∃ b es,e.b k = some b ∧ ER e l es ∧ w.heap[b]? = some (.map es.toArray c) ∧
    ∀ l' c' es',ER e l' es' → Bx B e ⟨S.M,SX k c' l' S.Z,S.us,S.nx⟩ { w with heap := w.heap.setIfInBounds b (.map es'.toArray c') } := by
  obtain ⟨M,Z,h1,h2,h3,h4⟩ := hS
  obtain ⟨b,es,g1,g2,g3⟩ := h3.get hg
  have hit : w.heap[b]? = some (.map es.toArray c) := h1.item g1
  have hlt := (Array.getElem?_eq_some_iff.1 hit).1
  refine ⟨b,es,g2,g3,hit,fun l' c' es' hE => ⟨M,Z.set i (VL b es'.toArray c'), ?_,h2,h3.set hE hg g2,h4⟩⟩
  have hW1 := h1.frontZ g1 rfl
  have hi := (List.getElem?_eq_some_iff.1 g1).1
  refine (hW1.itemTurn (z' := VL b es'.toArray c') (w' := { w with heap := w.heap.setIfInBounds b (.map es'.toArray c') }) ⟨rfl,rfl,rfl,by simp,fun j hj hne => ?_⟩ (fun A _ _ => ?_) (fun g hg => .inl hg)).permZ (CH (i := i) (r := VL b es'.toArray c') (by rw [List.getElem?_set_self hi]) (by rw [List.eraseIdx_set_eq])).symm
  · have : b ≠ j := fun h => hne (by show j ∈ [b]; simp [h])
    simp [Array.getElem?_setIfInBounds,this]
  · show ({ w with heap := w.heap.setIfInBounds b (.map es'.toArray c') } : World).heap[b]? = _
    simp [hlt]
theorem Qk {ok : Bool} {v r : AW} {b : Bool} {u : Value} (h : Yh ok v b = some r) (hv : v.dn e = some u) : r.dn e = some (if ok then .tuple #[u,.bool b] else u) := by
  unfold Yh at h
  split at h
  · obtain ⟨p,h1,rfl⟩ := map_some h
    have : P2 e p = some u := by rw [OJ h1]; exact hv
    show (Fa e [p,(false,[.bool b])]).map _ = _
    rw [EN this (EN (show P2 e (false,[.bool b]) = some (.bool b) from rfl) rfl)]
    rfl
  · cases h; exact hv
theorem XJ (hb : TbO P tb) (hF : FG e n ds F a) (hS : Bx B e S w) (h : VH P tb F S op = some x) : XS P B op a e w x := by
  cases op with
  | makeMap t r =>
    cases r <;> simp only [VH,YQ,Yk,Zb] at h <;> first | (cases h; done) | skip
    split at h
    · rename_i hf
      cases h
      obtain ⟨M,Z,h1,h2,h3,h4⟩ := hS
      have hx := En.new_xt (o := 0) (k := 0) (b := w.heap.size) h4 hf
      obtain ⟨Z',g1,g2⟩ := ZR.ins (e := e.new S.nx w.heap.size 0) (y := (S.nx,.mp 0 [])) (z := VL w.heap.size (#[] : Array MapEntry) 0) ⟨w.heap.size,[],En.new_b,trivial,rfl⟩ (h3.mono hx)
      have hW := h1.newIt (.map #[] 0) (VL w.heap.size #[] 0) rfl (fun A => by show (w.heap.push _)[w.heap.size]? = _; simp)
      refine ⟨_,w.alloc (.map #[] 0),hx,⟨M,Z',hW.permZ g2,h2.mono hx,g1,En.new_us h4⟩,.map (some w.heap.size),by show ((e.new S.nx w.heap.size 0).b S.nx).map _ = _; rw [En.new_b]; rfl,fun _ _ _ _ _ => by simp [execOp,Instr.makeMap]⟩
    · cases h
  | mapUpdate t y k v =>
    simp only [VH,YQ,Yk,Zb] at h
    split at h
    · rename_i m kv vv _ _ _ kt el hx hk hv ht
      obtain ⟨ka,hka,hkd⟩ := bind_some' hk
      obtain ⟨uk,dk,_,ak⟩ := hF.op hka
      rw [AW.cl hkd e] at dk; cases dk
      obtain ⟨ux,dx,_,ax⟩ := hF.op hx
      obtain ⟨uv,dv,_,av⟩ := hF.op hv
      obtain ⟨bb,hbb,rfl⟩ := map_some dx
      have hT := (A3 hb ht).map rfl
      split at h
      · rename_i i c l hg
        obtain ⟨b,es,g1,g2,g3,g4⟩ := hS.map hg
        rw [hbb] at g1; cases g1
        split at h
        · rename_i hc hf
          cases h
          obtain ⟨q,q1,rfl⟩ := Is g2 hf
          refine ⟨e,_,Xt.rfl',g4 _ _ (es ++ [{ key := kv,val := uv,born := c }]) (g2.app ⟨⟨rfl,dv,rfl⟩,trivial⟩),fun _ _ _ _ _ => ?_⟩
          simp [execOp,ax,ak,av,Instr.mapUpdate,run_underlying hT,BG g3,Hk hc,q1,Dd _ g3]
        · rename_i j hc hf
          split at h
          · rename_i p hp
            split at h
            · rename_i hsb
              cases h
              obtain ⟨q,q1,y,q2,rfl⟩ := Is g2 hf
              obtain ⟨y2,e1,e2,e3,_⟩ := g2.get hp
              rw [q2] at e1; cases e1
              have hkey : (Instr.keyThatStays (((es.toArray[j]?).map (·.key)).getD kv) kv).run P w = .ok kv w := by
                have : (es.toArray[j]?).map (·.key) = some p.1 := by simp [q2,e2]
                rw [this]
                simp [Instr.keyThatStays,hsb]
              refine ⟨e,_,Xt.rfl',g4 _ _ (es.modify j fun x => { x with key := kv,val := uv }) (ER.mod dv g2 hp),fun _ _ _ _ _ => ?_⟩
              simp only [execOp,ax,ak,av,Instr.mapUpdate,Sem.run_bind,run_underlying hT,Result.andThen_ok,BG g3,Hk hc,q1,hkey,Dd _ g3,Sem.run_pure]
              have : (es.toArray.modify j fun x => ({ x with key := kv,val := uv } : MapEntry)) = (es.modify j fun x => { x with key := kv,val := uv }).toArray := by simp
              rw [this]
            · cases h
          · cases h
        · cases h
      · cases h
    · cases h
  | call c =>
    obtain ⟨callee,args,ts⟩ := c
    cases callee <;> first | (cases h; done) | skip
    rename_i bi
    obtain ⟨args⟩ := args
    obtain ⟨ts⟩ := ts
    cases bi <;> first | (cases h; done) | skip
    · match args, ts, h with
      | [x', k'], [t, t'], h =>
        simp only [VH,YQ,Yk,Zb] at h
        split at h
        · rename_i m kv _ _ _ kt el hx hk ht
          obtain ⟨ka,hka,hkd⟩ := bind_some' hk
          obtain ⟨uk,dk,_,ak⟩ := hF.op hka
          rw [AW.cl hkd e] at dk; cases dk
          obtain ⟨ux,dx,_,ax⟩ := hF.op hx
          obtain ⟨bb,hbb,rfl⟩ := map_some dx
          have hT := (A3 hb ht).map rfl
          split at h
          · rename_i i c l hg
            obtain ⟨b,es,g1,g2,g3,g4⟩ := hS.map hg
            rw [hbb] at g1; cases g1
            have hemp : es.toArray.isEmpty = l.isEmpty := by
              have := g2.len
              cases l <;> cases es <;> first | rfl | (simp at this)
            split at h
            · rename_i hc hf
              cases h
              obtain ⟨q,q1,rfl⟩ := Is g2 hf
              have hself : ({ w with heap := w.heap.setIfInBounds bb (.map es.toArray c) } : World) = w := by
                have : w.heap.setIfInBounds bb (.map es.toArray c) = w.heap := by
                  apply Array.ext_getElem?
                  intro j
                  rw [Array.getElem?_setIfInBounds]
                  by_cases hj : bb = j
                  · subst hj; rw [if_pos rfl,if_pos (Array.getElem?_eq_some_iff.1 g3).1]; exact g3.symm
                  · rw [if_neg hj]
                rw [this]
              refine ⟨e,w,Xt.rfl',hS,.tuple #[],rfl,fun _ _ _ _ _ => ?_⟩
              simp [execOp,Ax,invoke,builtin,ax,ak,Builtin.delete_,run_underlying hT,BG g3,hemp,Hk hc,q1,Dd _ g3,hself]
            · rename_i j hc hf
              cases h
              obtain ⟨q,q1,y,q2,rfl⟩ := Is g2 hf
              refine ⟨e,_,Xt.rfl',g4 _ _ (es.eraseIdx j) (g2.erase j),.tuple #[],rfl,fun _ _ _ _ _ => ?_⟩
              simp [execOp,Ax,invoke,builtin,ax,ak,Builtin.delete_,run_underlying hT,BG g3,hemp,Hk hc,q1,Dd _ g3]
            · cases h
          · cases h
        · rename_i kv _ _ _ kt el hx hk ht
          obtain ⟨ka,hka,hkd⟩ := bind_some' hk
          obtain ⟨uk,dk,_,ak⟩ := hF.op hka
          rw [AW.cl hkd e] at dk; cases dk
          obtain ⟨ux,dx,_,ax⟩ := hF.op hx
          cases dx
          have hT := (A3 hb ht).map rfl
          split at h
          · rename_i hc
            cases h
            refine ⟨e,w,Xt.rfl',hS,.tuple #[],rfl,fun _ _ _ _ _ => ?_⟩
            simp [execOp,Ax,invoke,builtin,ax,ak,Builtin.delete_,run_underlying hT,Hk hc]
          · cases h
        · cases h
  | _ => cases h
theorem Px (hb : TbO P tb) (hF : FG e n ds F a) (hS : Bx B e S w) {v : AW} (h : PR P tb F S op = some v) : ∃ u,v.dn e = some u ∧ ∀ dst ty pos aft g,(execOp a.eval ⟨dst,op,ty,pos,aft,g⟩).run P w = .ok (.value u) w := by
  cases op with
  | load t y =>
    simp only [PR,Xm,WT,Wy,X0] at h
    split at h
    · rename_i k o q hy ht
      obtain ⟨_,dx,ox,ax⟩ := hF.op hy
      obtain ⟨b,hb',rfl⟩ := map_some dx
      split at h
      · rename_i q' cs hg
        replace hg := EY hg; obtain ⟨i,hg⟩ := hg
        obtain ⟨u,k1,k2⟩ := hS.load (P := P) hg hb' (A3 hb ht).ty h
        exact ⟨u,k1,fun _ _ _ _ _ => by simp [execOp,ax,Instr.loadAt,Instr.sureAddr,k2]⟩
      · cases h
    · cases h
  | lookup t y k ok =>
    simp only [PR,Xm,WT,Wy,X0] at h
    split at h
    · rename_i xv kv _ _ _ kt el hx hk ht
      obtain ⟨ka,hka,hkd⟩ := bind_some' hk
      obtain ⟨uk,dk,_,ak⟩ := hF.op hka
      rw [AW.cl hkd e] at dk; cases dk
      obtain ⟨ux,dx,_,ax⟩ := hF.op hx
      have hT := (A3 hb ht).map rfl
      split at h
      · rename_i m z hz
        obtain ⟨y',hy',hz'⟩ := bind_some' hz
        obtain ⟨zv,z1,z2⟩ := SO (A3 hb hy') hz' e
        obtain ⟨bb,hbb,rfl⟩ := map_some dx
        split at h
        · rename_i i c l hg
          obtain ⟨b,es,g1,g2,g3,_⟩ := hS.map hg
          rw [hbb] at g1; cases g1
          have hemp : es.toArray.isEmpty = l.isEmpty := by
            have := g2.len
            cases l <;> cases es <;> first | rfl | (simp at this)
          split at h
          · rename_i hc hf
            obtain ⟨q,q1,rfl⟩ := Is g2 hf
            refine ⟨_,Qk h z1,fun _ _ _ _ _ => ?_⟩
            simp [execOp,ax,ak,Instr.lookup,run_underlying hT,BG g3,hemp,Hk hc,q1,z2]
          · rename_i j hc hf
            split at h
            · rename_i p hp
              obtain ⟨q,q1,y,q2,rfl⟩ := Is g2 hf
              obtain ⟨y2,e1,_,e3,_⟩ := g2.get hp
              rw [q2] at e1; cases e1
              refine ⟨_,Qk h e3,fun _ _ _ _ _ => ?_⟩
              simp [execOp,ax,ak,Instr.lookup,run_underlying hT,BG g3,hemp,Hk hc,q1]
            · cases h
          · cases h
        · cases h
      · rename_i z hz
        obtain ⟨y',hy',hz'⟩ := bind_some' hz
        obtain ⟨zv,z1,z2⟩ := SO (A3 hb hy') hz' e
        cases dx
        split at h
        · rename_i hc hf
          obtain ⟨q,q1,rfl⟩ := Is (e := e) (l := []) (es := []) trivial hf
          refine ⟨_,Qk h z1,fun _ _ _ _ _ => ?_⟩
          simp [execOp,ax,ak,Instr.lookup,run_underlying hT,Hk hc,q1,z2]
        · cases h
      · cases h
    · cases h
  | slice t x lo hi mx =>
    cases mx with
    | some _ => cases h
    | none =>
      simp only [PR,Xm,WT,Wy,X0] at h
      split at h
      · rename_i k o sz len _ _ _ el l hx ht hl
        obtain ⟨_,dx,ox,ax⟩ := hF.op hx
        obtain ⟨bb,g1,rfl,g2⟩ := Ii (show CW.dn e (.sl k o sz len none) = some _ from dx)
        split at h
        · rename_i hh y z cs h1 hy hg
          replace hg := EY hg; obtain ⟨i,hg⟩ := hg
          split at h
          · rename_i hchk
            simp only [zf] at hchk
            obtain ⟨c1,c2,c3⟩ := hchk
            have c1 := zd c1
            have c2 := zd c2
            have c3 := ze c3
            subst c2
            obtain ⟨M,Z,m1,m2,_⟩ := hS
            obtain ⟨b',pr,us,tl,q1,q0,q2,q3,q4,q5⟩ := m2.get hg
            have q6 := B9 q3
            rw [List.length_append,q6] at q4
            have hcap : hh.toNat ≤ e.κ k - o / z := by
              have : (o / z + hh.toNat) * z ≤ e.κ k * z := by omega
              have := Nat.le_of_mul_le_mul_right this q5
              omega
            obtain ⟨r,h3,rfl⟩ := map_some h
            obtain ⟨k1,k2⟩ := MZ (cap := e.κ k - o / z) h3 g1 (fun _ => ⟨rfl,hcap⟩) (fun x hc => nomatch hc)
            refine ⟨_,k2,fun _ _ _ _ _ => ?_⟩
            have hu := (A3 hb ht).slice rfl
            have hbd := Fv (P := P) hF (isS := true) (mx := none) hl h1 rfl k1 w
            simp only [execOp,ax,Instr.sliceAt,Instr.slice,Go.underlying,Sem.run_bind,run_program,hu,Result.andThen_ok,Sem.run_pure,Option.getD_none] at hbd ⊢
            simp only [Option.map_none] at hbd
            simp only [hbd,(A3 hb hy).sizeOf,c1,Option.map_some,Option.map_none,Sem.run_bind,Result.andThen_ok,Sem.run_pure,Bg]
          · cases h
        · cases h
      · cases h
  | call c =>
    obtain ⟨callee,args,ts⟩ := c
    cases callee <;> first | (cases h; done) | skip
    rename_i bi
    obtain ⟨args⟩ := args
    obtain ⟨ts⟩ := ts
    cases bi <;> first | (cases h; done) | skip
    · match args,ts,h with
      | [x'],[t],h =>
        simp only [PR,Xm,WT,Wy,X0] at h
        split at h
        · rename_i m _ _ _ kt el hx ht
          obtain ⟨ux,dx,_,ax⟩ := hF.op hx
          obtain ⟨bb,hbb,rfl⟩ := map_some dx
          have hT := (A3 hb ht).map rfl
          split at h
          · rename_i i c l hg
            cases h
            obtain ⟨b,es,g1,g2,g3,g4⟩ := hS.map hg
            rw [hbb] at g1; cases g1
            refine ⟨_,rfl,fun _ _ _ _ _ => ?_⟩
            simp [execOp,Ax,invoke,builtin,ax,Builtin.len_,run_underlying hT,BG g3,goInt,g2.len]
          · cases h
        · rename_i _ _ _ kt el hx ht
          obtain ⟨ux,dx,_,ax⟩ := hF.op hx
          cases dx
          cases h
          have hT := (A3 hb ht).map rfl
          exact ⟨_,rfl,fun _ _ _ _ _ => by simp [execOp,Ax,invoke,builtin,ax,Builtin.len_,run_underlying hT,goInt]⟩
        · cases h
  | _ => cases h
end
end
end Go.Proofs.YtbiekjhlijdjbaaGreat
