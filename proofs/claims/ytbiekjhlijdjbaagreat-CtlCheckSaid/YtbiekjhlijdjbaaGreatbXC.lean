/- A run that is computed: what operations answer that look at their operands alone. Conditions: none. -/
import Derived.Test.YtbiekjhlijdjbaaGreatbXA
set_option linter.unusedVariables false
set_option linter.unusedSimpArgs false
open Go Go.RowKit
namespace Go.Proofs.YtbiekjhlijdjbaaGreat
noncomputable section
def Wu (agg : Bool) (sz : Nat) (cs : List CW) (o : Nat) : Option AW := match agg with
  | false => (cs[o]?).map .one
  | true => match Nat.ble (o + sz) cs.length with | true => some (.agg ((cs.drop o).take sz)) | false => none
theorem PZ {e : En} {agg : Bool} {sz o : Nat} {cs : List CW} {v : AW} {us : List Value} (h : Wu agg sz cs o = some v) (hc : EP e cs = some us) : ∃ u,v.dn e = some u ∧ Jx agg sz us o = some u := by
  unfold Wu at h
  split at h
  · obtain ⟨c,h1,rfl⟩ := map_some h
    obtain ⟨u,h2,h3⟩ := NS hc h1
    exact ⟨u,h3,by simp only [Jx,Bool.false_eq_true,if_false]; exact h2⟩
  · split at h
    · rename_i hl
      cases h
      have hl := ze hl
      rw [← B9 hc] at hl
      refine ⟨_,by show (EP e _).map _ = _; rw [Fs sz (G0 o hc)]; rfl, ?_⟩
      simp only [Jx,if_true,if_pos hl]
    · cases h
theorem UF {agg : Bool} {sz o : Nat} {us tl : List Value} {u : Value} (h : Jx agg sz us o = some u) : Jx agg sz (us ++ tl) o = some u := by
  unfold Jx at *
  cases agg with
  | false =>
    simp only [Bool.false_eq_true,if_false] at *
    rw [List.getElem?_append_left (List.getElem?_eq_some_iff.1 h).1]; exact h
  | true =>
    simp only [if_true] at *
    split at h
    · rename_i hl
      cases h
      rw [if_pos (by rw [List.length_append]; omega),List.drop_append_of_le_length (by omega),List.take_append_of_le_length (by rw [List.length_drop]; omega)]
    · cases h
def u8 (n : Nat) : Option UInt8 := match Nat.blt n 256 with | true => some (UInt8.ofNat n) | false => none
def bU (op : BinOp) (k : IntKind) (p : Int) (j : IntKind) (q : Int) : Option AW := match op with
  | .shl => match decide (0 ≤ q) with | true => some (.one (.int k (W7 k p q))) | false => none
  | .shr => match decide (0 ≤ q) with | true => some (.one (.int k (ID k p q))) | false => none
  | .quo => match Nat.beq (ki k) (ki j),decide (q = 0) with | true,false => some (.one (.int k (k.wrap (p.tdiv q)))) | _,_ => none
  | .rem => match Nat.beq (ki k) (ki j),decide (q = 0) with | true,false => some (.one (.int k (p.tmod q))) | _,_ => none
  | _ => match Nat.beq (ki k) (ki j) with | true => (WJ k p q op).bind fun v => (YL v).map .one | false => none
def eE (tb : TB) (op : BinOp) (T : Nat) (p q : Bool) : Option AW := match ti tb T with
  | some ⟨_,_,_,.bool⟩ => match op with | .eql => some (.one (.bool (decide (p = q)))) | .neq => some (.one (.bool (decide (p ≠ q)))) | _ => none
  | _ => none
def eK (op : BinOp) (l m : List UInt8) : Option AW := match op with
  | .eql => some (.one (.bool (decide (l = m))))
  | .neq => some (.one (.bool (decide (l ≠ m))))
  | .add => (app l m).map fun r => .one (.str r)
  | .lss => some (.one (.bool (VY l m)))
  | .leq => some (.one (.bool (VY l m || decide (l = m))))
  | .gtr => some (.one (.bool (!(VY l m || decide (l = m)))))
  | .geq => some (.one (.bool (!(VY l m))))
  | _ => none
def ZG (tb : TB) (op : BinOp) (T : Nat) (b : Bool) : Option AW := match ti tb T with
  | some ⟨_,_,_,.ptr _⟩ => match op with | .eql => some (.one (.bool b)) | .neq => some (.one (.bool (!b))) | _ => none
  | _ => none
def Zz (tb : TB) (op : BinOp) (T : Nat) (b : Bool) : Option AW := match ti tb T with
  | some ⟨_,_,_,.slice _⟩ => match op with | .eql => some (.one (.bool b)) | .neq => some (.one (.bool (!b))) | _ => none
  | _ => none
def fB (op : BinOp) (p q : Nat) : Option AW := match op with
  | .lss => some (.one (.bool (RO p q)))
  | .gtr => some (.one (.bool (SF p q)))
  | .leq => some (.one (.bool (RO p q || Ni p q)))
  | .geq => some (.one (.bool (SF p q || Ni p q)))
  | .eql => some (.one (.bool (Ni p q)))
  | .neq => some (.one (.bool (!(Ni p q))))
  | .add => (Ieee.double.add p q).map fun r => .one (.flt .f64 r)
  | .sub => (Ieee.double.sub p q).map fun r => .one (.flt .f64 r)
  | .mul => (Ieee.double.mul p q).map fun r => .one (.flt .f64 r)
  | .quo => (Ieee.double.div p q).map fun r => .one (.flt .f64 r)
  | _ => none
def e5 (P : Program) (op : BinOp) (T : Nat) (xs ys : List CW) : Option AW := match EP e0 xs,EP e0 ys,P.eqGuardType P.depth T with
  | some us,some vs,false => match op with
    | .eql => (GB P (Op.equalIn 10000 T (.agg us.toArray) (.agg vs.toArray))).map fun t => .one (.bool t)
    | .neq => (GB P (Op.equalIn 10000 T (.agg us.toArray) (.agg vs.toArray))).map fun t => .one (.bool (!t))
    | _ => none
  | _,_,_ => none
def OS (P : Program) (tb : TB) (op : BinOp) (T : Nat) : AW → AW → Option AW
  | .one (.int k p),.one (.int j q) => bU op k p j q
  | .one (.bool p),.one (.bool q) => eE tb op T p q
  | .one (.str l),.one (.str m) => eK op l m
  | .one .nilp,.one .nilp => ZG tb op T true
  | .one (.ptr _ _),.one .nilp => ZG tb op T false
  | .one .nils,.one .nils => Zz tb op T true
  | .one (.sl _ _ _ _ _),.one .nils => Zz tb op T false
  | .one (.flt .f64 p),.one (.flt .f64 q) => fB op p q
  | .agg xs,.agg ys => e5 P op T xs ys
  | _,_ => none
def Un (P : Program) (tb : TB) (op : BinOp) (T : Nat) (p q : AW) : Option AW := Option.rec (OS P tb op T p q) (fun a => Option.rec (OS P tb op T p q) (fun b => bU op a.1 a.2 b.1 b.2) q.qi) p.qi
theorem Sy {P : Program} {tb : TB} {op : BinOp} {T : Nat} {p q : AW} : Un P tb op T p q = OS P tb op T p q := by
  unfold Un
  cases h1 : p.qi with
  | none => rfl
  | some a =>
    cases h2 : q.qi with
    | none => rfl
    | some b => rw [AW.qi_ok h1,AW.qi_ok h2]; rfl
section
variable {P : Program} {tb : TB} {e : En} {n : Nat} {ds : List Deferred} {F : FW} {a : Act} {dst : Option Tmp} {ty : TypeId} {pos : String} {aft : Array Edge} {g : Option (Nat × Bool)}
theorem A0 {o : Oper} {v : Value} (h : ∀ B M Z,Yx P B M Z a o v) (w : World) : (execOp a.eval o).run P w = .ok (.value v) w := h ⟨fun _ => True,[],w⟩ [] [] w (Stw.start _ w)
abbrev aR (P : Program) (e : En) (a : Act) (op : Op) (v : AW) : Prop := ∃ u,v.dn e = some u ∧ ∀ dst ty pos aft g w,(execOp a.eval ⟨dst,op,ty,pos,aft,g⟩).run P w = .ok (.value u) w
theorem Pj {T el : Nat} (hT : P.underlying T = some (.slice el)) (x : Option Addr) (l c d : Nat) (w : World) : (Op.equalIn (d + 1) T (.slice x l c) (.slice none 0 0)).run P w = .ok x.isNone w := by
  unfold Op.equalIn
  cases x <;> simp [Go.underlying,hT]
theorem Of {T : TypeId} {ms : _} (hT : P.underlying T = some (.interface ms)) (d : Nat) (w : World) : (Op.equalIn (d + 1) T .nilIface .nilIface).run P w = .ok true w := by
  unfold Op.equalIn
  simp [Go.underlying,hT]
theorem O4 {T T' : TypeId} {ms : _} {x : Operand} (hT : P.underlying T = some (.interface ms)) (hx : a.eval x = .nilIface) (w : World) :
    (execOp a.eval ⟨dst,.binOp .eql T x (.const .nilIface) T',ty,pos,aft,g⟩).run P w = .ok (.value (.bool true)) w ∧ (execOp a.eval ⟨dst,.binOp .neq T x (.const .nilIface) T',ty,pos,aft,g⟩).run P w = .ok (.value (.bool false)) w := by
  have h : (Op.equal T .nilIface .nilIface).run P w = .ok true w := Of (P := P) hT 9999 w
  have h2 : a.eval (.const .nilIface) = .nilIface := rfl
  constructor <;> simp [execOp,hx,h2,eqGuard,binOp,h]
theorem I5 {T T' el : Nat} {x y : Operand} {ad : Option Addr} {l c : Nat} (hT : P.underlying T = some (.slice el)) (hx : a.eval x = .slice ad l c) (hy : a.eval y = .slice none 0 0) (w : World) :
    (execOp a.eval ⟨dst,.binOp .eql T x y T',ty,pos,aft,g⟩).run P w = .ok (.value (.bool ad.isNone)) w ∧ (execOp a.eval ⟨dst,.binOp .neq T x y T',ty,pos,aft,g⟩).run P w = .ok (.value (.bool !ad.isNone)) w := by
  have h := Pj (P := P) hT ad l c 9999 w
  constructor <;> simp only [execOp,hx,hy,eqGuard,binOp,Op.equal] <;> rw [show Op.maxDepth = 9999 + 1 from rfl] <;> simp [h]
theorem Sr (hb : TbO P tb) (hF : FG e n ds F a) {op : BinOp} {T T' : Nat} {x y : Operand} {p q v : AW} (hx : D9 F x = some p) (hy : D9 F y = some q) (h : OS P tb op T p q = some v) : aR P e a (.binOp op T x y T') v := by
  obtain ⟨u1,d1,o1,a1⟩ := hF.op hx
  obtain ⟨u2,d2,o2,a2⟩ := hF.op hy
  have hR := hF.2
  unfold OS at h
  split at h
  · rename_i k p j q
    cases d1; cases d2
    unfold bU at h
    split at h
    · split at h
      · rename_i c; cases h; exact ⟨_,rfl,fun _ _ _ _ _ => A0 fun B M Z => Za hR o1 o2 (of_decide_eq_true c)⟩
      · cases h
    · split at h
      · rename_i c; cases h; exact ⟨_,rfl,fun _ _ _ _ _ => A0 fun B M Z => Jo hR o1 o2 (of_decide_eq_true c)⟩
      · cases h
    · split at h
      · rename_i c1 c2
        cases h
        have := Ij c1
        subst this
        exact ⟨_,rfl,fun _ _ _ _ _ => A0 fun B M Z => Yo hR o1 o2 (of_decide_eq_false c2) rfl⟩
      · cases h
    · split at h
      · rename_i c1 c2
        cases h
        have := Ij c1
        subst this
        exact ⟨_,rfl,fun _ _ _ _ _ => A0 fun B M Z => VT hR o1 o2 (of_decide_eq_false c2) rfl⟩
      · cases h
    · split at h
      · rename_i c1
        have := Ij c1
        subst this
        obtain ⟨w,h1,h2⟩ := bind_some' h
        obtain ⟨c,h3,rfl⟩ := map_some h2
        refine ⟨w,PQ h3 e,fun _ _ _ _ _ => A0 fun B M Z => ?_⟩
        cases op <;> first | (cases h1; done) | skip
        all_goals cases h1
        · exact OV hR o1 o2 rfl
        · exact IX hR o1 o2 rfl
        · exact Wd hR o1 o2 rfl
        · exact VO hR o1 o2
        · exact Y6 hR o1 o2
        · exact VI hR o1 o2
        · exact LQ hR o1 o2
        · exact IR hR o1 o2
        · exact KH hR o1 o2
        · exact O1 hR o1 o2
        · exact V0 hR o1 o2
        · exact QO hR o1 o2
        · exact VW hR o1 o2
      · cases h
  · cases d1; cases d2
    unfold eE at h
    split at h
    · rename_i ht
      have hT := (A3 hb ht).bool rfl
      split at h
      · cases h; exact ⟨_,rfl,fun _ _ _ _ _ => A0 fun B M Z => YD hT hR o1 o2⟩
      · cases h; exact ⟨_,rfl,fun _ _ _ _ _ => A0 fun B M Z => VU hT hR o1 o2⟩
      · cases h
    · cases h
  · cases d1; cases d2
    unfold eK at h
    split at h
    · cases h; exact ⟨_,rfl,fun _ _ _ _ _ => A0 fun B M Z => YJ hR o1 o2⟩
    · cases h; exact ⟨_,rfl,fun _ _ _ _ _ => A0 fun B M Z => Zo hR o1 o2⟩
    · obtain ⟨r,h1,rfl⟩ := map_some h
      exact ⟨_,rfl,fun _ _ _ _ _ => A0 fun B M Z => XK hR o1 o2 h1⟩
    · cases h; exact ⟨_,rfl,fun _ _ _ _ _ => A0 fun B M Z => YO hR o1 o2⟩
    · cases h; exact ⟨_,rfl,fun _ _ _ _ _ => A0 fun B M Z => X7 hR o1 o2⟩
    · cases h; exact ⟨_,rfl,fun _ _ _ _ _ => A0 fun B M Z => Zn hR o1 o2⟩
    · cases h; exact ⟨_,rfl,fun _ _ _ _ _ => A0 fun B M Z => Yf hR o1 o2⟩
    · cases h
  · cases d1; cases d2
    unfold ZG at h
    split at h
    · rename_i ht
      have hT := (A3 hb ht).ptr rfl
      split at h
      · cases h; exact ⟨_,rfl,fun _ _ _ _ _ => A0 fun B M Z => Cm hT hR o1 o2⟩
      · cases h; exact ⟨_,rfl,fun _ _ _ _ _ => A0 fun B M Z => Ik hT hR o1 o2⟩
      · cases h
    · cases h
  · obtain ⟨b,_,rfl⟩ := map_some d1
    cases d2
    unfold ZG at h
    split at h
    · rename_i ht
      have hT := (A3 hb ht).ptr rfl
      split at h
      · cases h; exact ⟨_,rfl,fun _ _ _ _ _ => A0 fun B M Z => LB hT hR o1 o2⟩
      · cases h; exact ⟨_,rfl,fun _ _ _ _ _ => A0 fun B M Z => Lu hT hR o1 o2⟩
      · cases h
    · cases h
  · cases d1; cases d2
    unfold Zz at h
    split at h
    · rename_i ht
      have hT := (A3 hb ht).slice rfl
      split at h
      · cases h; exact ⟨_,rfl,fun _ _ _ _ _ w => (I5 hT a1 a2 w).1⟩
      · cases h; exact ⟨_,rfl,fun _ _ _ _ _ w => (I5 hT a1 a2 w).2⟩
      · cases h
    · cases h
  · obtain ⟨b,_,rfl,_⟩ := Ii d1
    cases d2
    unfold Zz at h
    split at h
    · rename_i ht
      have hT := (A3 hb ht).slice rfl
      split at h
      · cases h; exact ⟨_,rfl,fun _ _ _ _ _ w => (I5 hT a1 a2 w).1⟩
      · cases h; exact ⟨_,rfl,fun _ _ _ _ _ w => (I5 hT a1 a2 w).2⟩
      · cases h
    · cases h
  · rename_i p q
    cases d1; cases d2
    have ar : ∀ {r : Nat},(op = .add ∨ op = .sub ∨ op = .mul ∨ op = .quo) → floatBits op .f64 p q = some r → aR P e a (.binOp op T x y T') (.one (.flt .f64 r)) := fun {r} hop hr => ⟨.float .f64 r,rfl,fun _ _ _ _ _ w => by
      have := run_float_arith (P := P) w op T .f64 p q r hr
      rcases hop with rfl | rfl | rfl | rfl <;> simp [execOp,a1,a2,eqGuard,this]⟩
    unfold fB at h
    split at h
    · cases h; exact ⟨_,rfl,fun _ _ _ _ _ => A0 fun B M Z => KP hR o1 o2⟩
    · cases h; exact ⟨_,rfl,fun _ _ _ _ _ => A0 fun B M Z => NO hR o1 o2⟩
    · cases h; exact ⟨_,rfl,fun _ _ _ _ _ => A0 fun B M Z => WY hR o1 o2⟩
    · cases h; exact ⟨_,rfl,fun _ _ _ _ _ => A0 fun B M Z => T6 hR o1 o2⟩
    · cases h; exact ⟨_,rfl,fun _ _ _ _ _ => A0 fun B M Z => Pp hR o1 o2⟩
    · cases h; exact ⟨_,rfl,fun _ _ _ _ _ => A0 fun B M Z => SR hR o1 o2⟩
    · obtain ⟨r,h1,rfl⟩ := map_some h; exact ar (.inl rfl) h1
    · obtain ⟨r,h1,rfl⟩ := map_some h; exact ar (.inr (.inl rfl)) h1
    · obtain ⟨r,h1,rfl⟩ := map_some h; exact ar (.inr (.inr (.inl rfl))) h1
    · obtain ⟨r,h1,rfl⟩ := map_some h; exact ar (.inr (.inr (.inr rfl))) h1
    · cases h
  · rename_i xs ys
    obtain ⟨us',g1,rfl⟩ := map_some d1
    obtain ⟨vs',g2,rfl⟩ := map_some d2
    unfold e5 at h
    split at h
    · rename_i us vs k1 k2 hm
      rw [KQ k1 e] at g1; cases g1
      rw [KQ k2 e] at g2; cases g2
      split at h
      · obtain ⟨t,h1,rfl⟩ := map_some h
        exact ⟨_,rfl,fun _ _ _ _ _ => A0 fun B M Z => V5 hm (Eh h1) hR o1 o2⟩
      · obtain ⟨t,h1,rfl⟩ := map_some h
        exact ⟨_,rfl,fun _ _ _ _ _ => A0 fun B M Z => YP hm (Eh h1) hR o1 o2⟩
      · cases h
    · cases h
  · cases h
end
end
end Go.Proofs.YtbiekjhlijdjbaaGreat
namespace Go.Proofs.YtbiekjhlijdjbaaGreat
noncomputable section
def TZ (cs : List CW) (o : Nat) (new : List CW) : List CW := cs.take o ++ new ++ cs.drop (o + new.length)
theorem TN {e : En} {cs new : List CW} {us vs tl : List Value} {o : Nat} (h1 : EP e cs = some us) (h2 : EP e new = some vs) (hl : o + new.length ≤ cs.length) : ∃ ws,EP e (TZ cs o new) = some ws ∧ DI (us ++ tl) o vs = ws ++ tl ∧ ws.length = us.length := by
  have e1 := B9 h1
  have e2 := B9 h2
  refine ⟨us.take o ++ vs ++ us.drop (o + vs.length), ?_, ?_, ?_⟩
  · unfold TZ
    rw [e2]
    exact HS (HS (Fs o h1) h2) (G0 _ h1)
  · rw [Gy _ _ _ (by rw [List.length_append]; omega),List.take_append_of_le_length (by omega),List.drop_append_of_le_length (by omega), ← List.append_assoc]
  · simp only [List.length_append,List.length_take,List.length_drop]; omega
def Mw (place : Nat → Option (Nat × Nat)) : List CW → List (Nat × List CW) → Option (List CW)
  | cs,[] => some cs
  | cs,(i,v) :: r => match place i with
    | none => none
    | some (off,size) => match Nat.beq v.length size && Nat.ble (off + v.length) cs.length with
      | true => Mw place (TZ cs off v) r
      | false => none
def Y1 (F : FW) : List (Nat × Operand) → Option (List (Nat × List CW))
  | [] => some []
  | (i,x) :: r => match (D9 F x).bind AW.cs,Y1 F r with | some l,some m => some ((i,l) :: m) | _,_ => none
def dZ (e : En) : List (Nat × List CW) → List (Nat × Value) → Prop
  | [],[] => True
  | (i,l) :: r,(j,v) :: m => i = j ∧ EP e l = some v.cells.toList ∧ dZ e r m
  | _,_ => False
section
variable {P : Program} {tb : TB} {e : En} {n : Nat} {ds : List Deferred} {F : FW} {a : Act} {dst : Option Tmp} {ty : TypeId} {pos : String} {aft : Array Edge} {g : Option (Nat × Bool)}
theorem Nb (hF : FG e n ds F a) : ∀ {ps : List (Nat × Operand)} {m : List (Nat × List CW)},Y1 F ps = some m → ∃ vp,U6 (toF e F) ps = some vp ∧ dZ e m vp
  | [],m,h => by cases h; exact ⟨[],rfl,trivial⟩
  | (i,x) :: r,m,h => by
    unfold Y1 at h
    split at h
    · rename_i l m' h1 h2
      cases h
      obtain ⟨v,h3,h4⟩ := bind_some' h1
      obtain ⟨u,g1,g2,_⟩ := hF.op h3
      obtain ⟨vp,g3,g4⟩ := Nb hF h2
      exact ⟨(i,u) :: vp,by simp only [U6,g2,g3],rfl,T9 h4 g1,g4⟩
    · cases h
theorem Ju {place : Nat → Option (Nat × Nat)} : ∀ {m : List (Nat × List CW)} {vp : List (Nat × Value)} {cs out : List CW} {us : List Value},Mw place cs m = some out → dZ e m vp → EP e cs = some us → ∃ ws,EP e out = some ws ∧ Gn place us vp = some ws
  | [],[],cs,out,us,h,_,hc => by cases h; exact ⟨us,hc,rfl⟩
  | [],_ :: _,_,_,_,_,hp,_ => hp.elim
  | _ :: _,[],_,_,_,_,hp,_ => hp.elim
  | (i, l) :: r, (j, v) :: vp, cs, out, us, h, hp', hc => by
    obtain ⟨hij,h1,h2⟩ := hp'
    subst hij
    unfold Mw at h
    unfold Gn
    cases hp : place i with
    | none => rw [hp] at h; cases h
    | some q =>
      obtain ⟨off,size⟩ := q
      rw [hp] at h
      simp only at h ⊢
      split at h
      · rename_i hb
        rw [zf] at hb
        have b1 := zd hb.1
        have b2 := ze hb.2
        have l1 := B9 h1
        have l2 := B9 hc
        obtain ⟨ws,w1,w2,w3⟩ := TN (tl := []) hc h1 b2
        rw [List.append_nil,List.append_nil] at w2
        rw [if_pos ⟨by rw [l1]; exact b1,by rw [l1,l2]; exact b2⟩,w2]
        exact Ju h h2 w1
      · cases h
def R6 : Option AW → Option Int | some (.one (.int _ l)) => some l | _ => none
def Z9 (F : FW) : Option Operand → Option Int | none => some 0 | some q => R6 (D9 F q)
def XW (F : FW) (d : Nat) : Option Operand → Option Int | none => some (d : Int) | some q => R6 (D9 F q)
def ZJ (F : FW) (mx hi : Option Operand) : Option (Option Int) := match mx with
  | none => some none
  | some q => match hi with | none => none | some _ => (R6 (D9 F q)).map some
def Tl (b o sz len : Nat) (c : Option Nat) (l h : Int) : Option Int → Option CW
  | some m => match decide (0 ≤ l ∧ l ≤ h ∧ h ≤ m ∧ m ≤ ((c.getD len : Nat) : Int)) with
    | true => some (.sl b (if m = l then o else o + l.toNat * sz) sz (h.toNat - l.toNat) (some (m.toNat - l.toNat)))
    | false => none
  | none => match c with
    | some c => match decide (0 ≤ l ∧ l ≤ h ∧ h ≤ (c : Int)) with
      | true => some (.sl b (if (c : Int) = l then o else o + l.toNat * sz) sz (h.toNat - l.toNat) (some (c - l.toNat)))
      | false => none
    | none => match decide (0 ≤ l ∧ l ≤ h ∧ h ≤ (len : Int) ∧ (l < h ∨ l = 0) ∧ 0 < sz) with
      | true => some (.sl b (o + l.toNat * sz) sz (h.toNat - l.toNat) none)
      | false => match decide (0 ≤ l ∧ l = h ∧ h ≤ (len : Int)) with
        | true => some (.tl b o sz l.toNat)
        | false => none
def Ri (F : FW) (c x y : Operand) : Option AW := match D9 F c with
  | some (.one (.bool true)) => D9 F x
  | some (.one (.bool false)) => D9 F y
  | _ => none
def U5 (P : Program) (F : FW) (op : BinOp) (T : Nat) (x : Operand) : Option AW := match D9 F x,P.underlying T with
  | some (.one .nili),some (.interface _) => match op with | .eql => some (.one (.bool true)) | .neq => some (.one (.bool false)) | _ => none
  | _,_ => none
def RE (P : Program) (tb : TB) (F : FW) (op : BinOp) (T : Nat) (x y : Operand) : Option AW := match D9 F x,D9 F y with | some p,some q => Un P tb op T p q | _,_ => none
def XQ (F : FW) (x : Operand) : Option AW := match D9 F x with | some (.one (.bool t)) => some (.one (.bool (!t))) | _ => none
def Xh (F : FW) (x : Operand) : Option AW := match D9 F x with | some (.one (.int k p)) => some (.one (.int k (k.wrap (0 - p)))) | some (.one (.flt .f64 p)) => some (.one (.flt .f64 (Op.negFloat .f64 p))) | _ => none
def UI (F : FW) (x : Operand) (i : Nat) : Option AW := match D9 F x with | some (.tup l) => (l[i]?).bind aw | _ => none
def Vg (tb : TB) (F : FW) (t : Nat) (x : Operand) (i : Nat) : Option AW := match D9 F x,ti tb t with
  | some (.agg l),some ⟨_,_,_,.struct fs⟩ => match Rz fs i with | some (o,agg,sz) => Wu agg sz l o | none => none
  | _,_ => none
def Ve (tb : TB) (F : FW) (t : Nat) (x : Operand) (i : Nat) : Option AW := match D9 F x,ti tb t with
  | some (.one (.ptr b o)),some ⟨_,_,_,.struct fs⟩ => match Rz fs i with | some (fo,_,_ + 1) => some (.one (.ptr b (o + fo))) | _ => none
  | _,_ => none
def Vp (F : FW) (x : Operand) : Option AW := match D9 F x with | some (.one (.ptr b o)) => some (.one (.ptr b o)) | _ => none
def UB (tb : TB) (F : FW) (s t : Nat) (x : Operand) : Option AW := match D9 F x,ti tb s,ti tb t with
  | some (.one (.int k p)),some ⟨_,_,_,.int j⟩,some ⟨_,_,_,.int k'⟩ => match Nat.beq (ki k) (ki j) with | true => some (.one (.int k' (k'.wrap p))) | false => none
  | some (.one (.int k p)),some ⟨_,_,_,.int j⟩,some ⟨_,_,_,.flt .f64⟩ => match Nat.beq (ki k) (ki j) with | true => some (.one (.flt .f64 (Wg p))) | false => none
  | some (.one (.flt .f64 p)),some ⟨_,_,_,.flt .f64⟩,some ⟨_,_,_,.flt .f64⟩ => some (.one (.flt .f64 p))
  | some (.one (.str s)),some ⟨_,_,_,.str⟩,some ⟨_,_,_,.str⟩ => some (.one (.str s))
  | _,_,_ => none
def VC (tb : TB) (F : FW) (t : Nat) (x i : Operand) : Option AW := match D9 F x,D9 F i,ti tb t with
  | some (.one (.sl b o _ len _)),some (.one (.int _ q)),some ⟨_,_,_,.slice el⟩ => match decide (0 ≤ q ∧ q < len),ti tb el with | true,some y => some (.one (.ptr b (o + q.toNat * y.sz))) | _,_ => none
  | some (.one (.ptr b o)),some (.one (.int _ q)),some ⟨_,_,_,.arr len el⟩ => match decide (0 ≤ q ∧ q < len),ti tb el with | true,some y => some (.one (.ptr b (o + q.toNat * y.sz))) | _,_ => none
  | _,_,_ => none
def UH (tb : TB) (F : FW) (t : Nat) (x i : Operand) : Option AW := match D9 F x,D9 F i,ti tb t with
  | some (.agg l),some (.one (.int _ q)),some ⟨_,_,_,.arr len el⟩ => match decide (0 ≤ q ∧ q < len),ti tb el with | true,some y => Wu y.k.agg y.sz l (q.toNat * y.sz) | _,_ => none
  | some (.one (.str s)),some (.one (.int _ q)),some ⟨_,_,_,.str⟩ => (ix s q).map fun c => .one (.int .u8 (c.toNat : Int))
  | _,_,_ => none
def Wl (F : FW) (f : Nat) (gs ps : Array Operand) : Option AW := match (RC F gs.toList).bind fun l => l.mapM AW.cp,(RC F ps.toList).bind fun l => l.mapM AW.cp with
  | some l,some m => some (.fnv f l m)
  | _,_ => none
def U8 (P : Program) (tb : TB) (F : FW) (t : Nat) (ps : Array (Nat × Operand)) : Option AW := match Y1 F ps.toList,ti tb t,P.underlying t with
  | some m,some x,some (.struct fs) => match GB P (fs.mapM fun f => do pure (f.offset, ← sizeOf f.type) : Sem (Array (Nat × Nat))) with
    | some pl => (Mw (fun i => pl.toList[i]?) x.zs m).map .agg
    | none => none
  | some m,some ⟨_,_,zs,.arr _ el⟩,some (.array _ _) => match ti tb el with | some y => (Mw (fun i => some (i * y.sz,y.sz)) zs m).map .agg | none => none
  | _,_,_ => none
def Tg (tb : TB) (F : FW) (x : Operand) (t : Nat) : Option AW := match D9 F x,ti tb t with
  | some (.one (.str s)),some ⟨_,_,_,.str⟩ => some (.one (.int .i64 (s.length : Int)))
  | some (.one (.sl _ _ _ len _)),some ⟨_,_,_,.slice _⟩ => some (.one (.int .i64 (len : Int)))
  | some (.one .nils),some ⟨_,_,_,.slice _⟩ => some (.one (.int .i64 0))
  | some (.one (.tl _ _ _ _)),some ⟨_,_,_,.slice _⟩ => some (.one (.int .i64 0))
  | some _,some ⟨_,_,_,.arr m _⟩ => some (.one (.int .i64 (m : Int)))
  | _,_ => none
def TR (tb : TB) (F : FW) (x : Operand) (t : Nat) : Option AW := match D9 F x,ti tb t with
  | some (.one (.sl _ _ _ len (some c))),some ⟨_,_,_,.slice _⟩ => some (.one (.int .i64 (c : Int)))
  | some (.one .nils),some ⟨_,_,_,.slice _⟩ => some (.one (.int .i64 0))
  | _,_ => none
def Xq (F : FW) (b : Builtin) (x y : Operand) : Option AW := match D9 F x,D9 F y with
  | some (.one (.int k p)),some (.one (.int j q)) => match Nat.beq (ki k) (ki j) with
    | true => match b with | .max => some (.one (.int k (max p q))) | .min => some (.one (.int k (min p q))) | _ => none
    | false => none
  | some (.one (.flt .f64 p)),some (.one (.flt .f64 q)) => match b with | .min => (Le p q).map fun r => .one (.flt .f64 r) | _ => none
  | _,_ => none
def Yb (tb : TB) (F : FW) (f : Nat) (x : Operand) : Option AW := match ZO tb.x f with
  | some 0 => match D9 F x with | some (.one (.flt .f64 n)) => some (.one (.int .u64 (n : Int))) | _ => none
  | some 1 => match D9 F x with | some (.one (.int .u64 n)) => some (.one (.flt .f64 n.toNat)) | _ => none
  | _ => none
def Zr (tb : TB) (F : FW) (t : Nat) (x : Operand) (lo hi mx : Option Operand) : Option AW := match D9 F x,ti tb t,Z9 F lo with
  | some (.one (.sl b o sz len c)),some ⟨_,_,_,.slice el⟩,some l => match XW F len hi,ZJ F mx hi,ti tb el with
    | some h,some m,some y => match Nat.beq y.sz sz with | true => (Tl b o sz len c l h m).map .one | false => none
    | _,_,_ => none
  | some (.one .nils),some ⟨_,_,_,.slice el⟩,some l => match XW F 0 hi,ZJ F mx hi,ti tb el with
    | some h,some none,some _ => match decide (l = 0 ∧ h = 0) with | true => some (.one .nils) | false => none
    | _,_,_ => none
  | some (.one (.str s)),some ⟨_,_,_,.str⟩,some l => match XW F s.length hi,mx with
    | some h,none => (GF s l h).map fun r => .one (.str r)
    | _,_ => none
  | some (.one (.ptr b o)),some ⟨_,_,_,.arr k el⟩,some l => match XW F k hi,ZJ F mx hi,ti tb el with
    | some h,some none,some y => (Tl b o y.sz k (some k) l h none).map .one
    | _,_,_ => none
  | _,_,_ => none
def Jv (P : Program) (tb : TB) (F : FW) : Op → Option AW
  | .move x => D9 F x
  | .assign x => D9 F x
  | .pick c x y => Ri F c x y
  | .binOp op T x (.const .nilIface) _ => U5 P F op T x
  | .binOp op T x y _ => RE P tb F op T x y
  | .unOp .not _ x => XQ F x
  | .unOp .neg _ x => Xh F x
  | .extract x i => UI F x i
  | .field t x i => Vg tb F t x i
  | .fieldAddr t x i => Ve tb F t x i
  | .nilCheck x => Vp F x
  | .convert s t x => UB tb F s t x
  | .indexAddr t x i => VC tb F t x i
  | .index t x i => UH tb F t x i
  | .makeFunc (.func f) gs ps => Wl F f gs ps
  | .build t ps => U8 P tb F t ps
  | .call ⟨.builtin b,⟨[x]⟩,⟨[t]⟩⟩ => match b with
    | .len => Tg tb F x t
    | .cap => TR tb F x t
    | _ => none
  | .call ⟨.builtin b,⟨[x,y]⟩,_⟩ => Xq F b x y
  | .call ⟨.value (.func f),⟨[x]⟩,_⟩ => Yb tb F f x
  | .slice t x lo hi mx => Zr tb F t x lo hi mx
  | _ => none
end
end
end Go.Proofs.YtbiekjhlijdjbaaGreat
namespace Go.Proofs.YtbiekjhlijdjbaaGreat
section
variable {P : Program} {tb : TB} {e : En} {n : Nat} {ds : List Deferred} {F : FW} {a : Act} {v : AW}
theorem Ky (hF : FG e n ds F a) {q : Operand} {l : Int} (h : R6 (D9 F q) = some l) : ∃ k,a.eval q = .int k l := by
  unfold R6 at h
  split at h
  · rename_i k l' hq
    cases h
    obtain ⟨u,d1,_,a1⟩ := hF.op hq
    cases d1
    exact ⟨k,a1⟩
  · cases h
theorem HJ {k : IntKind} {l : Int} {y : Nat} (code : BoundsCode) (h0 : 0 ≤ l) (h1 : l ≤ y) (w : World) : (Instr.sliceBound (.int k l) y code).run P w = .ok l.toNat w := by
  simp [Instr.sliceBound,asIntOf,h0,h1]
theorem Fv (hF : FG e n ds F a) {isS : Bool} {len cap : Nat} {lo hi mx : Option Operand} {l h : Int} {m : Option Int} (hl : Z9 F lo = some l) (hh : XW F len hi = some h) (hm : ZJ F mx hi = some m)
    (hb : 0 ≤ l ∧ l ≤ h ∧ h ≤ m.getD cap ∧ m.getD cap ≤ cap) (w : World) : (Instr.sliceBounds isS len cap (lo.map a.eval) (hi.map a.eval) (mx.map a.eval)).run P w = .ok (l.toNat,h.toNat,(m.getD cap).toNat) w := by
  obtain ⟨b1,b2,b3,b4⟩ := hb
  have hlo : ∀ (code : BoundsCode),(match lo.map a.eval with | some v => Instr.sliceBound v h.toNat code | none => pure 0 : Sem Nat).run P w = .ok l.toNat w := fun code => by
    cases lo with
    | none => cases hl; rfl
    | some q =>
      obtain ⟨k,hk⟩ := Ky hF hl
      show (Instr.sliceBound (a.eval q) _ _).run P w = _
      rw [hk]; exact HJ _ b1 (by omega) w
  unfold Instr.sliceBounds
  cases mx with
  | none =>
    cases hm
    simp only [Option.getD_none] at b3 b4 ⊢
    cases hi with
    | none =>
      cases hh
      simp only [Option.map_none,Sem.run_bind,Sem.run_pure,Result.andThen_ok]
      have := hlo .sliceB
      simp only [Int.toNat_natCast] at this ⊢
      cases lo with
      | none => cases hl; simp
      | some q => simp only [Option.map_some] at this ⊢; simp [this]
    | some q =>
      obtain ⟨k,hk⟩ := Ky hF hh
      have hq : ∀ code,(Instr.sliceBound (a.eval q) cap code).run P w = .ok h.toNat w := fun code => by rw [hk]; exact HJ _ (by omega) (by omega) w
      have := hlo .sliceB
      cases lo with
      | none => cases hl; simp [hq]
      | some q' => simp only [Option.map_some] at this ⊢; simp [hq,this]
  | some q3 =>
    cases hi with
    | none => cases hm
    | some q =>
      obtain ⟨m',hm',rfl⟩ := map_some (show (R6 (D9 F q3)).map some = some m from hm)
      obtain ⟨k3,hk3⟩ := Ky hF hm'
      obtain ⟨k,hk⟩ := Ky hF hh
      simp only [Option.getD_some] at b3 b4 ⊢
      have hq3 : ∀ code,(Instr.sliceBound (a.eval q3) cap code).run P w = .ok m'.toNat w := fun code => by rw [hk3]; exact HJ _ (by omega) (by omega) w
      have hq : ∀ code,(Instr.sliceBound (a.eval q) m'.toNat code).run P w = .ok h.toNat w := fun code => by rw [hk]; exact HJ _ (by omega) (by omega) w
      have := hlo .slice3C
      cases lo with
      | none => cases hl; simp [hq,hq3]
      | some q' => simp only [Option.map_some] at this ⊢; simp [hq,hq3,this]
theorem MZ {b o sz len cap bb : Nat} {c : Option Nat} {l h : Int} {m : Option Int} {r : CW} (hr : Tl b o sz len c l h m = some r) (hb : e.b b = some bb) (hc : c = none → cap = e.κ b - o / sz ∧ len ≤ cap) (hc' : ∀ x,c = some x → cap = x) :
    (0 ≤ l ∧ l ≤ h ∧ h ≤ m.getD cap ∧ m.getD cap ≤ cap) ∧ r.dn e = some (.slice (if (m.getD cap).toNat = l.toNat then some ⟨bb,e.β b + o,none⟩ else some ⟨bb,e.β b + o + l.toNat * sz,none⟩) (h.toNat - l.toNat) ((m.getD cap).toNat - l.toNat)) := by
  unfold Tl at hr
  split at hr
  · rename_i m
    split at hr
    · rename_i hd
      have hd := of_decide_eq_true hd
      cases hr
      have hcap : ((c.getD len : Nat) : Int) ≤ cap := by
        cases c with
        | none => have := hc rfl; simp only [Option.getD_none]; omega
        | some x => rw [hc' x rfl]; exact Int.le_refl _
      simp only [Option.getD_some]
      refine ⟨by omega, ?_⟩
      rw [J2 (c := some _) hb (fun h => by cases h)]
      by_cases e1 : m = l
      · subst e1; simp
      · rw [if_neg e1,if_neg (by omega),Nat.add_assoc]; rfl
    · cases hr
  · split at hr
    · rename_i c
      split at hr
      · rename_i hd
        have hd := of_decide_eq_true hd
        cases hr
        have := hc' c rfl
        subst this
        simp only [Option.getD_none,Int.toNat_natCast]
        refine ⟨by omega, ?_⟩
        rw [J2 (c := some _) hb (fun h => by cases h)]
        by_cases e1 : (cap : Int) = l
        · subst e1; simp
        · rw [if_neg e1,if_neg (by omega),Nat.add_assoc]; rfl
      · cases hr
    · split at hr
      · rename_i hd
        have hd := of_decide_eq_true hd
        cases hr
        obtain ⟨h1,h2⟩ := hc rfl
        simp only [Option.getD_none,Int.toNat_natCast]
        refine ⟨by omega, ?_⟩
        have hdiv : (o + l.toNat * sz) / sz = o / sz + l.toNat := Nat.add_mul_div_right _ _ hd.2.2.2.2
        rw [J2 hb (fun _ => by rw [hdiv]; omega),hdiv,Option.getD_none]
        have e3 : e.κ b - (o / sz + l.toNat) = cap - l.toNat := by omega
        rw [e3]
        by_cases e1 : cap = l.toNat
        · have : l = 0 := by omega
          subst this
          simp
        · rw [if_neg e1,Nat.add_assoc]
      · split at hr
        · rename_i hd
          have hd := of_decide_eq_true hd
          cases hr
          obtain ⟨h1,h2⟩ := hc rfl
          obtain ⟨d1,d2,d3⟩ := hd
          subst d2
          simp only [Option.getD_none,Int.toNat_natCast]
          refine ⟨by omega, ?_⟩
          simp only [CW.dn,hb,Option.map_some]
          rw [if_pos (by omega), ← h1,Nat.sub_self]
        · cases hr
theorem LN : ∀ {l : List AW} {m : List (Bool × List CW)} {us : List Value},l.mapM AW.cp = some m → EO e l = some us → Fa e m = some us
  | [],m,us,h,h' => by cases h'; simp at h; subst h; rfl
  | v :: l,m,us,h,h' => by
    rw [List.mapM_cons] at h
    obtain ⟨p,h1,h⟩ := bind_some' h
    obtain ⟨r,h2,h⟩ := bind_some' h
    cases h
    obtain ⟨u,us',g1,g2,rfl⟩ := Dj h'
    exact EN (by rw [OJ h1]; exact g1) (LN h2 g2)
theorem S6 (hb : TbO P tb) (hF : FG e n ds F a) {op : Op} (h : Jv P tb F op = some v) : aR P e a op v := by
  have hR := hF.2
  cases op with
  | move x =>
    obtain ⟨u,d1,o1,_⟩ := hF.op h
    exact ⟨u,d1,fun _ _ _ _ _ => A0 fun B M Z => Al hR o1⟩
  | assign x =>
    obtain ⟨u,d1,o1,_⟩ := hF.op h
    exact ⟨u,d1,fun _ _ _ _ _ => A0 fun B M Z => BB hR o1⟩
  | pick c x y =>
    simp only [Jv,Ri] at h
    split at h
    · rename_i hc
      obtain ⟨_,dc,oc,_⟩ := hF.op hc
      cases dc
      obtain ⟨u,d1,o1,_⟩ := hF.op h
      exact ⟨u,d1,fun _ _ _ _ _ => A0 fun B M Z => CE hR oc rfl o1⟩
    · rename_i hc
      obtain ⟨_,dc,oc,_⟩ := hF.op hc
      cases dc
      obtain ⟨u,d1,o1,_⟩ := hF.op h
      exact ⟨u,d1,fun _ _ _ _ _ => A0 fun B M Z => Cy hR oc rfl o1⟩
    · cases h
  | binOp op T x y T' =>
    by_cases hy : y = .const .nilIface
    · subst hy
      simp only [Jv,U5] at h
      split at h
      · rename_i ms hx hT
        obtain ⟨_,dx,ox,ax⟩ := hF.op hx
        cases dx
        split at h
        · cases h; exact ⟨_,rfl,fun _ _ _ _ _ w => (O4 hT ax w).1⟩
        · cases h; exact ⟨_,rfl,fun _ _ _ _ _ w => (O4 hT ax w).2⟩
        · cases h
      · cases h
    · simp only [Jv,RE,hy] at h
      split at h
      · rename_i h1 h2
        rw [Sy] at h
        exact Sr hb hF h1 h2 h
      · cases h
  | unOp op T x =>
    cases op <;> simp only [Jv,XQ,Xh] at h <;> first | (cases h; done) | skip
    · split at h
      · rename_i hx
        cases h
        obtain ⟨_,dx,ox,_⟩ := hF.op hx
        cases dx
        exact ⟨_,rfl,fun _ _ _ _ _ => A0 fun B M Z => Yw hR ox rfl⟩
      · rename_i hx
        cases h
        obtain ⟨_,dx,ox,_⟩ := hF.op hx
        cases dx
        exact ⟨_,rfl,fun _ _ _ _ _ => A0 fun B M Z => SS hR ox⟩
      · cases h
    · split at h
      · rename_i hx
        cases h
        obtain ⟨_,dx,ox,_⟩ := hF.op hx
        cases dx
        exact ⟨_,rfl,fun _ _ _ _ _ => A0 fun B M Z => Ua hR ox⟩
      · cases h
  | extract x i =>
    simp only [Jv,UI] at h
    split at h
    · rename_i l hx
      obtain ⟨p,h1,h2⟩ := bind_some' h
      obtain ⟨_,dx,ox,_⟩ := hF.op hx
      obtain ⟨vs,g1,rfl⟩ := map_some dx
      obtain ⟨u,g2,g3⟩ := OB g1 h1
      exact ⟨u,by rw [VJ h2]; exact g3,fun _ _ _ _ _ => A0 fun B M Z => A4 hR ox g2⟩
    · cases h
  | field t x i =>
    simp only [Jv,Vg] at h
    split at h
    · rename_i hx ht
      obtain ⟨_,dx,ox,_⟩ := hF.op hx
      obtain ⟨us,g1,rfl⟩ := map_some dx
      split at h
      · rename_i o agg sz hf
        obtain ⟨u,g2,g3⟩ := PZ h g1
        obtain ⟨gs,f,k1,k2,k3,k4⟩ := (A3 hb ht).field rfl hf
        exact ⟨u,g2,fun _ _ _ _ _ => A0 fun B M Z => NB k1 k2 rfl k3 k4 hR ox g3⟩
      · cases h
    · cases h
  | fieldAddr t x i =>
    simp only [Jv,Ve] at h
    split at h
    · rename_i b o _ _ _ fs hx ht
      obtain ⟨_,dx,ox,_⟩ := hF.op hx
      obtain ⟨bb,g1,rfl⟩ := map_some dx
      split at h
      · rename_i fo agg sz hf
        cases h
        obtain ⟨gs,f,k1,k2,k3,k4⟩ := (A3 hb ht).field rfl hf
        exact ⟨_,by show (e.b b).map _ = _; rw [g1,Nat.add_assoc]; rfl,fun _ _ _ _ _ => A0 fun B M Z => Au k1 k2 k3 rfl k4 hR ox _ rfl⟩
      · cases h
    · cases h
  | nilCheck x =>
    simp only [Jv,Vp] at h
    split at h
    · rename_i b o hx
      cases h
      obtain ⟨_,dx,ox,_⟩ := hF.op hx
      obtain ⟨bb,g1,rfl⟩ := map_some dx
      exact ⟨_,dx,fun _ _ _ _ _ => A0 fun B M Z => P9 hR ox⟩
    · cases h
  | convert s t x =>
    simp only [Jv,UB] at h
    split at h
    · rename_i k p _ _ _ j _ _ _ k' hx hs ht
      split at h
      · rename_i hk
        cases h
        obtain ⟨_,dx,ox,_⟩ := hF.op hx
        cases dx
        have := Ij hk
        subst this
        exact ⟨_,rfl,fun _ _ _ _ _ => A0 fun B M Z => Ec ((A3 hb hs).int rfl) ((A3 hb ht).int rfl) hR ox⟩
      · cases h
    · rename_i k p _ _ _ j _ _ _ hx hs ht
      split at h
      · rename_i hk
        cases h
        obtain ⟨_,dx,ox,_⟩ := hF.op hx
        cases dx
        have := Ij hk
        subst this
        exact ⟨_,rfl,fun _ _ _ _ _ => A0 fun B M Z => Up ((A3 hb hs).int rfl) ((A3 hb ht).flt rfl) hR ox⟩
      · cases h
    · rename_i p _ _ _ _ _ _ hx hs ht
      cases h
      obtain ⟨_,dx,ox,_⟩ := hF.op hx
      cases dx
      exact ⟨_,rfl,fun _ _ _ _ _ => A0 fun B M Z => Tf ((A3 hb hs).flt rfl) ((A3 hb ht).flt rfl) hR ox⟩
    · rename_i s' _ _ _ _ _ _ hx hs ht
      cases h
      obtain ⟨_,dx,ox,ax⟩ := hF.op hx
      cases dx
      have e1 := (A3 hb hs).str rfl
      have e2 := (A3 hb ht).str rfl
      exact ⟨_,rfl,fun _ _ _ _ _ w => by simp [execOp,ax,convert,Go.underlying,e1,e2]⟩
    · cases h
  | indexAddr t x i =>
    simp only [Jv,VC] at h
    split at h
    · rename_i b o _ len _ _ q _ _ _ el hx hi ht
      obtain ⟨_,dx,ox,ax⟩ := hF.op hx
      obtain ⟨_,di,oi,ai⟩ := hF.op hi
      obtain ⟨bb,g1,rfl,_⟩ := Ii dx
      cases di
      split at h
      · rename_i y hq hy
        have hq := of_decide_eq_true hq
        cases h
        have hu := (A3 hb ht).slice rfl
        refine ⟨_,by show (e.b b).map _ = _; rw [g1]; rfl,fun _ _ _ _ _ w => ?_⟩
        simp [execOp,Instr.indexAt,ax,ai,asIntOf,Go.underlying,hu,hq,(A3 hb hy).sizeOf,Bg,Nat.add_assoc]
      · cases h
    · rename_i b o _ q _ _ _ len el hx hi ht
      obtain ⟨_,dx,ox,ax⟩ := hF.op hx
      obtain ⟨_,di,oi,ai⟩ := hF.op hi
      obtain ⟨bb,g1,rfl⟩ := map_some dx
      cases di
      split at h
      · rename_i y hq hy
        have hq := of_decide_eq_true hq
        cases h
        have hu := (A3 hb ht).arr rfl
        refine ⟨_,by show (e.b b).map _ = _; rw [g1]; rfl,fun _ _ _ _ _ w => ?_⟩
        simp [execOp,Instr.indexAt,ax,ai,asIntOf,Go.underlying,hu,hq,(A3 hb hy).sizeOf,Bg,Instr.sureAddr,Nat.add_assoc]
      · cases h
    · cases h
  | index t x i =>
    simp only [Jv,UH] at h
    split at h
    · rename_i l _ q _ _ _ len el hx hi ht
      obtain ⟨_,dx,ox,ax⟩ := hF.op hx
      obtain ⟨_,di,oi,ai⟩ := hF.op hi
      obtain ⟨us,g1,rfl⟩ := map_some dx
      cases di
      split at h
      · rename_i y hq hy
        have hq := of_decide_eq_true hq
        have hu := (A3 hb ht).arr rfl
        have hy := A3 hb hy
        obtain ⟨u,g2,g3⟩ := PZ h g1
        refine ⟨u,g2,fun _ _ _ _ _ w => ?_⟩
        have hp : (part el us.toArray (q.toNat * y.sz)).run P w = .ok u w := by
          have hy' := hy.ty
          unfold part
          cases hk : y.k.agg with
          | false =>
            rw [hk] at hy' g3
            simp only [Jx,Bool.false_eq_true,if_false] at g3
            simp [hy'.isAgg,g3]
          | true =>
            rw [hk] at hy' g3
            simp only [Jx,if_true] at g3
            split at g3
            · cases g3
              simp only [Sem.run_bind,hy'.isAgg,Result.andThen_ok,if_true,hy'.sizeOf,Sem.run_pure]
              simp [List.drop_take]
            · cases g3
        simp [execOp,Instr.index,ax,ai,asIntOf,Go.underlying,hu,hq,hy.sizeOf,hp]
      · cases h
    · rename_i s _ q _ _ _ hx hi ht
      obtain ⟨_,dx,ox,ax⟩ := hF.op hx
      obtain ⟨_,di,oi,ai⟩ := hF.op hi
      cases dx; cases di
      obtain ⟨c,h1,rfl⟩ := map_some h
      exact ⟨_,rfl,fun _ _ _ _ _ => A0 fun B M Z => Ol ((A3 hb ht).str rfl) hR ox oi h1⟩
    · cases h
  | makeFunc fn gs ps =>
    cases fn <;> simp only [Jv,Wl] at h <;> first | (cases h; done) | skip
    split at h
    · rename_i l m h1 h2
      cases h
      obtain ⟨l1,h3,h4⟩ := bind_some' h1
      obtain ⟨l2,h5,h6⟩ := bind_some' h2
      obtain ⟨us,k1,k2⟩ := hF.ops h3
      obtain ⟨vs,k3,k4⟩ := hF.ops h5
      refine ⟨_,by show (Fa e l).bind _ = _; rw [LN h4 k1]; show (Fa e m).map _ = _; rw [LN h6 k3]; rfl,fun _ _ _ _ _ w => ?_⟩
      have e1 : gs.map a.eval = us.toArray := by apply Array.toList_inj.1; rw [Array.toList_map,hR.evals k2]
      have e2 : ps.map a.eval = vs.toArray := by apply Array.toList_inj.1; rw [Array.toList_map,hR.evals k4]
      simp [execOp,Instr.makeFunc,e1,e2]
    · cases h
  | build t ps =>
    simp only [Jv,U8] at h
    split at h
    · rename_i m x fs h1 h2 h3
      obtain ⟨vp,k1,k2⟩ := Nb hF h1
      split at h
      · rename_i pl hpl
        obtain ⟨out,h4,rfl⟩ := map_some h
        have hx := A3 hb h2
        obtain ⟨z,z1,z2,z3⟩ := hx.zero
        obtain ⟨ws,w1,w2⟩ := Ju h4 k2 (z2 e)
        refine ⟨_,by show (EP e out).map _ = _; rw [w1]; rfl,fun dst ty pos aft g => A0 fun B M Z => ?_⟩
        have := DV (P := P) (B := B) (M := M) (Z := Z) (t := t) (zs := z.cells.toList) (pl := pl.toList) (parts := ps.toList) (dst := dst) (ty := ty) (pos := pos) (aft := aft) (g := g) ⟨⟨z,z3,by simp⟩,fs,h3,fun w => by rw [Array.toArray_toList]; exact Eh hpl w⟩ hR k1 w2 rfl
        rwa [Array.toArray_toList] at this
      · cases h
    · rename_i m _ _ zs len el n' el' h1 h2 h3
      obtain ⟨vp,k1,k2⟩ := Nb hF h1
      split at h
      · rename_i y hy
        obtain ⟨out,h4,rfl⟩ := map_some h
        have hx := A3 hb h2
        obtain ⟨z,z1,z2,z3⟩ := hx.zero
        obtain ⟨ws,w1,w2⟩ := Ju h4 k2 (z2 e)
        refine ⟨_,by show (EP e out).map _ = _; rw [w1]; rfl,fun dst ty pos aft g => A0 fun B M Z => ?_⟩
        have := Ul (P := P) (B := B) (M := M) (Z := Z) (t := t) (zs := z.cells.toList) (parts := ps.toList) (dst := dst) (ty := ty) (pos := pos) (aft := aft) (g := g) ⟨hx.arr rfl,(A3 hb hy).ty.size⟩ ⟨z,z3,by simp⟩ hR k1 w2 rfl
        rwa [Array.toArray_toList] at this
      · cases h
    · cases h
  | slice t x lo hi mx =>
    simp only [Jv,Zr] at h
    split at h
    · rename_i b o sz len c _ _ _ el l hx ht hl
      obtain ⟨_,dx,ox,ax⟩ := hF.op hx
      obtain ⟨bb,g1,rfl,g2⟩ := Ii dx
      split at h
      · rename_i hh m y h1 h2 hy
        split at h
        · rename_i hsz
          obtain ⟨r,h3,rfl⟩ := map_some h
          have hsz := zd hsz
          obtain ⟨k1,k2⟩ := MZ (cap := c.getD (e.κ b - o / sz)) h3 g1 (fun hc => by subst hc; exact ⟨rfl,g2 rfl⟩) (fun x hc => by subst hc; rfl)
          refine ⟨_,k2,fun _ _ _ _ _ w => ?_⟩
          have hu := (A3 hb ht).slice rfl
          have hbd := Fv (P := P) hF (isS := true) hl h1 h2 k1 w
          simp only [execOp,ax,Instr.sliceAt,Instr.slice,Go.underlying,Sem.run_bind,run_program,hu,Result.andThen_ok,Sem.run_pure,hbd,(A3 hb hy).sizeOf,hsz,Option.map_some,Bg]
        · cases h
      · cases h
    · rename_i _ _ _ el l hx ht hl
      obtain ⟨_,dx,ox,ax⟩ := hF.op hx
      cases dx
      split at h
      · rename_i hh y h1 h2 hy
        split at h
        · rename_i hd
          have hd := of_decide_eq_true hd
          cases h
          obtain ⟨rfl,rfl⟩ := hd
          refine ⟨_,rfl,fun _ _ _ _ _ w => ?_⟩
          have hu := (A3 hb ht).slice rfl
          have hbd := Fv (P := P) hF (isS := true) (cap := 0) hl h1 h2 (by simp) w
          simp [execOp,ax,Instr.sliceAt,Instr.slice,Go.underlying,hu,hbd,(A3 hb hy).sizeOf]
        · cases h
      · cases h
    · rename_i s _ _ _ l hx ht hl
      obtain ⟨_,dx,ox,ax⟩ := hF.op hx
      cases dx
      split at h
      · rename_i hh h1
        obtain ⟨r,h3,rfl⟩ := map_some h
        obtain ⟨b1,b2,b3,rfl⟩ := Fo h3
        refine ⟨_,rfl,fun _ _ _ _ _ w => ?_⟩
        have hu := (A3 hb ht).str rfl
        have hsz := HT s
        have hbd := Fv (P := P) hF (isS := false) (cap := s.length) (mx := none) (m := none) hl h1 rfl (by simp only [Option.getD_none]; omega) w
        simp only [Option.map_none] at hbd
        simp only [execOp,ax,Instr.sliceAt,Instr.slice,Go.underlying,Sem.run_bind,run_program,hu,Result.andThen_ok,Sem.run_pure,Option.map_none,Option.isSome_none,Bool.false_eq_true,if_false,hsz,hbd,Pw]
      · cases h
    · rename_i b o _ _ _ len el l hx ht hl
      obtain ⟨_,dx,ox,ax⟩ := hF.op hx
      obtain ⟨bb,g1,rfl⟩ := map_some dx
      split at h
      · rename_i hh y h1 h2 hy
        obtain ⟨r,h3,rfl⟩ := map_some h
        obtain ⟨k1,k2⟩ := MZ (cap := len) h3 g1 (fun hc => nomatch hc) (fun x hc => by cases hc; rfl)
        refine ⟨_,k2,fun _ _ _ _ _ w => ?_⟩
        have hu := (A3 hb ht).arr rfl
        have hbd := Fv (P := P) hF (isS := false) hl h1 h2 k1 w
        simp only [execOp,ax,Instr.sliceAt,Go.underlying,Sem.run_bind,run_program,hu,Result.andThen_ok,Sem.run_pure,Instr.sureAddr,hbd,(A3 hb hy).sizeOf,Bg]
        congr 3
        split <;> rfl
      · cases h
    · cases h
  | call c =>
    obtain ⟨callee,args,ts⟩ := c
    cases callee <;> first | (cases h; done) | skip
    · rename_i fo
      obtain ⟨args⟩ := args
      cases fo <;> first | (cases h; done) | skip
      rename_i f
      match args,h with
      | [x], h =>
        simp only [Jv,Tg,TR,Xq,Yb] at h
        split at h
        · rename_i hx
          have hX := hb.ext.get hx
          split at h
          · rename_i n' ho
            cases h
            obtain ⟨_,d1,o1,_⟩ := hF.op ho
            cases d1
            exact ⟨_,rfl,fun _ _ _ _ _ => A0 fun B M Z => Hm (xs := [x]) (vs := [.float .f64 n']) hR hX (by simp only [Pk,o1]) (fun w => rfl)⟩
          · cases h
        · rename_i hx
          have hX := hb.ext.get hx
          split at h
          · rename_i n' ho
            cases h
            obtain ⟨_,d1,o1,_⟩ := hF.op ho
            cases d1
            exact ⟨_,rfl,fun _ _ _ _ _ => A0 fun B M Z => Hm (xs := [x]) (vs := [.int .u64 n']) hR hX (by simp only [Pk,o1]) (fun w => rfl)⟩
          · cases h
        · cases h
      | [],h => cases h
      | _ :: _ :: _,h => cases h
    rename_i b
    obtain ⟨args⟩ := args
    obtain ⟨ts⟩ := ts
    match args,h with
    | [x], h =>
      match ts,h with
      | [t], h =>
        simp only [Jv,Tg,TR,Xq,Yb] at h
        split at h
        · split at h
          · rename_i hx ht
            cases h
            obtain ⟨_,dx,ox,ax⟩ := hF.op hx
            cases dx
            exact ⟨_,rfl,fun _ _ _ _ _ => A0 fun B M Z => Wj ((A3 hb ht).str rfl) rfl hR ox⟩
          · rename_i hx ht
            cases h
            obtain ⟨_,dx,ox,ax⟩ := hF.op hx
            obtain ⟨bb,g1,rfl,g2⟩ := Ii dx
            have hu := (A3 hb ht).slice rfl
            exact ⟨_,rfl,fun _ _ _ _ _ w => by simp [execOp,Ax,invoke,builtin,Builtin.len_,ax,Go.underlying,hu,goInt]⟩
          · rename_i hx ht
            cases h
            obtain ⟨_,dx,ox,ax⟩ := hF.op hx
            cases dx
            have hu := (A3 hb ht).slice rfl
            exact ⟨_,rfl,fun _ _ _ _ _ w => by simp [execOp,Ax,invoke,builtin,Builtin.len_,ax,Go.underlying,hu,goInt]⟩
          · rename_i hx ht
            cases h
            obtain ⟨_,dx,ox,ax⟩ := hF.op hx
            obtain ⟨_,_,_,rfl⟩ := VF dx
            have hu := (A3 hb ht).slice rfl
            exact ⟨_,rfl,fun _ _ _ _ _ w => by simp [execOp,Ax,invoke,builtin,Builtin.len_,ax,Go.underlying,hu,goInt]⟩
          · rename_i hx ht
            cases h
            have hu := (A3 hb ht).arr rfl
            exact ⟨_,rfl,fun _ _ _ _ _ w => by simp [execOp,Ax,invoke,builtin,Builtin.len_,Go.underlying,hu,goInt]⟩
          · cases h
        · split at h
          · rename_i hx ht
            cases h
            obtain ⟨_,dx,ox,ax⟩ := hF.op hx
            obtain ⟨bb,g1,rfl⟩ := map_some dx
            have hu := (A3 hb ht).slice rfl
            exact ⟨_,rfl,fun _ _ _ _ _ w => by simp [execOp,Ax,invoke,builtin,Builtin.cap_,ax,Go.underlying,hu,goInt]⟩
          · rename_i hx ht
            cases h
            obtain ⟨_,dx,ox,ax⟩ := hF.op hx
            cases dx
            have hu := (A3 hb ht).slice rfl
            exact ⟨_,rfl,fun _ _ _ _ _ w => by simp [execOp,Ax,invoke,builtin,Builtin.cap_,ax,Go.underlying,hu,goInt]⟩
          · cases h
        · cases h
      | [],h => cases h
      | _ :: _ :: _,h => cases h
    | [x, y], h =>
      simp only [Jv,Tg,TR,Xq,Yb] at h
      split at h
      · rename_i k p j q hx hy
        obtain ⟨_,dx,ox,ax⟩ := hF.op hx
        obtain ⟨_,dy,oy,ay⟩ := hF.op hy
        cases dx; cases dy
        split at h
        · rename_i hk
          have := Ij hk
          subst this
          split at h
          · cases h; exact ⟨_,rfl,fun _ _ _ _ _ => A0 fun B M Z => Yn hR ox oy⟩
          · cases h; exact ⟨_,rfl,fun _ _ _ _ _ => A0 fun B M Z => YW hR ox oy⟩
          · cases h
        · cases h
      · rename_i p q hx hy
        obtain ⟨_,dx,ox,ax⟩ := hF.op hx
        obtain ⟨_,dy,oy,ay⟩ := hF.op hy
        cases dx; cases dy
        split at h
        · obtain ⟨r,h1,rfl⟩ := map_some h
          exact ⟨_,rfl,fun _ _ _ _ _ => A0 fun B M Z => Tb hR ox oy h1⟩
        · cases h
      · cases h
    | [],h => cases h
    | _ :: _ :: _ :: _,h => cases h
  | _ => cases h
end
end Go.Proofs.YtbiekjhlijdjbaaGreat
