/- A run that is computed: code, functions. Conditions: none. -/
import Derived.Test.YtbiekjhlijdjbaaGreatbXK
import Derived.Test.YtbiekjhlijdjbaaGreatbUN
import Derived.Test.YtbiekjhlijdjbaaGreatbOD
set_option linter.unusedVariables false
set_option linter.unusedSimpArgs false
open Go Go.RowKit
namespace Go.Proofs.YtbiekjhlijdjbaaGreat
noncomputable section
inductive Xi where | normal | ret | exit (id : Nat)
def Xi.ex : Xi → Exit | .normal => .normal | .ret => .ret | .exit id => .exit id
abbrev RT := Tr (List (Nat × PX))
def ZF (t : RT) (k : Nat) : List (Nat × PX) := match WK t k with | some l => l | none => []
def eL : List (Nat × PX) → Nat → Option PX
  | [],_ => none
  | (i,x) :: r,k => match Nat.beq i k with | true => some x | false => eL r k
abbrev FT := Tr Func
def dW (t : FT) (k : Nat) : Option Func := WK t k
section
variable (P : Program) (tb : TB)
abbrev DW := List (FuncId × List AW)
abbrev GW := FW × DW
def ZC (F : FW) (o : Oper) : Option (FuncId × List AW) := match o with
  | ⟨none,.defer ⟨.value x,⟨[]⟩,_⟩,_,_,_,none⟩ => match D9 F x with
    | some (.one (.fn f)) => some (f,[])
    | some (.fnv f [] ps) => (XV ps).map fun l => (f,l)
    | _ => none
  | _ => none
def eY (F : FW) (o : Oper) : Option (FuncId × List AW) := Option.rec (ZC F o) (fun _ => none) o.dst
def dQ (cf : Cf) (n : Nat) (ops : List Oper) (o : Oper) (ih : GW → SW → Option (GW × SW)) (G : GW) (S : SW) : Option (GW × SW) := match eY G.1 o with
  | some d => ih (G.1,d :: G.2) S
  | none => match Y5 G.1 ops o with
    | some true => match dB o.op P tb cf G.1 S with
      | some (v,S') => match Uw n o.dst v G.1 with | some F' => ih (F',G.2) S' | none => none
      | none => none
    | some false => match Uw n o.dst none G.1 with | some F' => ih (F',G.2) S | none => none
    | none => none
def Xf (cf : Cf) (n : Nat) (ops l : List Oper) : GW → SW → Option (GW × SW) :=
  List.rec (fun G S => some (G,S)) (fun o _ ih => dQ P tb cf n ops o ih) l
abbrev e7 := GW → SW → Option (Xi × GW × SW)
abbrev Ev := Code → e7
def II (ih : Ev) (x y : Code) (F : GW) (S : SW) : Option (Xi × GW × SW) := match ih x F S with
  | some (.normal,F',S') => ih y F' S'
  | r => r
def Kq (ih : Ev) (c : Operand) (x y : Code) (F : GW) (S : SW) : Option (Xi × GW × SW) := match D9 F.1 c with
  | some (.one (.bool true)) => ih x F S
  | some (.one (.bool false)) => ih y F S
  | _ => none
def J4 (ih : Ev) (id : Nat) (x : Code) (F : GW) (S : SW) : Option (Xi × GW × SW) := match ih x F S with
  | some (.exit j,F',S') => match Nat.beq j id with | true => some (.normal,F',S') | false => some (.exit j,F',S')
  | r => r
def Kg (cf : Cf) (n : Nat) (ops : Array Oper) (F : GW) (S : SW) : Option (Xi × GW × SW) := (Xf P tb cf n ops.toList ops.toList F S).map fun r => (.normal,r.1,r.2)
def Kn (cf : Cf) (rt : List (Nat × PX)) (sd n id : Nat) (ops : Array Oper) (F : GW) (S : SW) : Option (Xi × GW × SW) := match eL rt id with
  | some px => (bV P tb cf sd n ops.toList px F.1 S).map fun r => (.normal,(r.1,F.2),r.2)
  | none => none
abbrev EC := Program → TB → Cf → List (Nat × PX) → Nat → Nat → Ev → e7
def c0 : EC := fun _ _ _ _ _ _ _ _ _ => none
def Gi : EC := fun _ _ _ _ _ _ _ F S => some (.normal,F,S)
def Sn (id : Nat) (ops : Array Oper) (d : Bool) : EC := fun P tb cf rt sd n ih F S => match d with | false => Kg P tb cf n ops F S | true => Kn P tb cf rt sd n id ops F S
def Qu (c : Code) : EC := Code.rec Gi Sn (fun x y _ _ P tb cf rt sd n ih F S => II ih x y F S) (fun c x y _ _ P tb cf rt sd n ih F S => Kq ih c x y F S) (fun id x _ P tb cf rt sd n ih F S => J4 ih id x F S) (fun x _ P tb cf rt sd n ih F S => II ih x (.loop x) F S) (fun _ _ _ _ _ _ => c0) (fun id P tb cf rt sd n ih F S => some (.exit id,F,S)) (fun x _ P tb cf rt sd n ih F S => ih x F S) (fun _ => Gi) (fun _ => c0) (fun P tb cf rt sd n ih F S => some (.ret,F,S)) (fun _ => c0) c
def Nd (cf : Cf) (rt : List (Nat × PX)) (sd n m : Nat) : Ev := Nat.rec (fun _ _ _ => none) (fun _ ih c => Qu c P tb cf rt sd n ih) m
def YF (F : FW) (S : SW) : List ResultVar → Option (List AW)
  | [] => some []
  | r :: l => match (match r with
      | .tmp t => MG F t
      | .cell x t => match MG F x,ti tb t with
        | some (.one (.ptr k o)),some y => match Lf S.M k with
          | some (_,cs) => Wu y.k.agg y.sz cs o
          | none => none
        | _,_ => none),YF F S l with
    | some v,some vs => some (v :: vs)
    | _,_ => none
def ZE : List AW → Option (List (Bool × List CW))
  | [] => some []
  | v :: l => match v.cp,ZE l with | some p,some r => some (p :: r) | _,_ => none
def Ue (F : FW) (S : SW) (l : List ResultVar) : Option AW := match YF tb F S l with
  | some [v] => some v
  | some vs => (ZE vs).map .tup
  | none => none
def Hv : List AW → Nat → FW → FW
  | [],_,F => F
  | v :: l,k,F => Hv l (k + 1) (Gf k v F)
def bZ : Code → Option (Nat × Nat × Code)
  | .seq (.region _ ⟨[⟨some d1,.call ⟨.builtin .recover,⟨[]⟩,_⟩,_,_,_,none⟩,⟨some d2,.assign (.tmp d),_,_,_,none⟩]⟩ false) y => match Nat.beq d d1 with | true => some (d1,d2,y) | false => none
  | _ => none
def UP (ft : FT) (rt : RT) (m : Nat) (cf : Cf) (f : FuncId) (args : List AW) (S : SW) : Option SW := match dW ft f with
  | some fn => match fn.body.bind bZ,fn.results with
    | some (d1,d2,y),⟨[]⟩ => match Nat.ble args.length fn.ntmps && (Nat.blt d1 fn.ntmps && Nat.blt d2 fn.ntmps) with
      | true => match Nd P tb cf (ZF rt f) (Nat.pow 2 (24 * m)) fn.ntmps 1000000 y (Gf d2 (.one .nili) (Gf d1 (.one .nili) (Hv args 0 (M0 10))),[]) S with
        | some (.normal,(_,[]),S') => some S'
        | some (.ret,(_,[]),S') => some S'
        | _ => none
      | false => none
    | _,_ => none
  | none => none
abbrev GV := List (Nat × (SW → List AW → Option AW))
def c9 : GV → Nat → Option (SW → List AW → Option AW)
  | [],_ => none
  | (i,x) :: r,k => match Nat.beq i k with | true => some x | false => c9 r k
def VZ (gv : GV) (ft : FT) (rt : RT) : Nat → Cf
  | 0,_,_,_ => none
  | m + 1, f, args, S => match c9 gv f with
   | some ev => (ev S args).map fun v => (v,S)
   | none => match dW ft f with
    | some fn => match fn.body,Nat.ble args.length fn.ntmps with
      | some c,true => match Nd P tb (VZ gv ft rt m) (ZF rt f) (Nat.pow 2 (24 * m)) fn.ntmps 1000000 c (Hv args 0 (M0 10),[]) S with
        | some (.exit _,_,_) => none
        | some (_,(F',[]),S') => (Ue tb F' S' fn.results.toList).map fun v => (v,S')
        | some (_,(F',[d]),S') => match UP P tb ft rt m (VZ gv ft rt m) d.1 d.2 S' with
          | some S2 => (Ue tb F' S2 fn.results.toList).map fun v => (v,S2)
          | none => none
        | _ => none
      | _,_ => none
    | none => none
end
def RW (P : Program) (ft : FT) : Prop := Jb (fun k fn => P.funcs[k]? = some fn ∧ Has P k) ft id
def eG (P : Program) (ft : FT) : Prop := Jb (fun k fn => P.funcs[k]? = some fn) ft id
theorem Xs {P : Program} {ft : FT} (h : eG P ft) (hb : Om (fun _ fn => fn.body.isSome && !(fn.name == "runtime.NumGoroutine")) ft id = true) : RW P ft :=
  (h.both (HG hb)).and fun k fn ⟨h1,h2⟩ => by
    rw [zf] at h2
    exact ⟨h1,⟨FK h1 h2.1 (by simpa using h2.2)⟩⟩
theorem Tj {P : Program} {ft : FT} {f : Nat} {fn : Func} (hf : RW P ft) (h : dW ft f = some fn) : P.funcs[f]? = some fn ∧ Has P f := hf.get h
section
variable {P : Program} {tb : TB} {cf : Cf} {B : Bs} {e : En} {n : Nat} {ds : List Deferred} {F F' : FW} {S S' : SW} {a : Act} {w : World}
def bK (Q : Exit → Act → World → Prop) : Exit → Act → World → Prop
  | .panic _,_,_ => False
  | e,a,w => Q e a w
theorem W5 (hb : TbO P tb) (hm : P.follows .mixedOrders = true) (hc : P1 P B cf) {sd : Nat} {ops : Array Oper} {px : PX} {Q : Exit → Act → World → Prop} {id : Nat} (hF : FG e n ds F a) (hS : Bx B e S w) (h : bV P tb cf sd n ops.toList px F S = some (F',S')) (k : ∀ e' a' w',Xt e e' → FG e' n ds F' a' → Bx B e' S' w' → Q .normal a' w') : (Code.region id ops true).wp P Q a w := by
  unfold bV at h
  split at h
  · rename_i hB
    rw [zf] at hB
    split at h
    · rename_i F1 S1 ht
      cases h
      refine Code.wp_mono (Q := bK Q) (fun e a w hq => by cases e <;> first | exact hq | exact hq.elim) ?_
      refine Df (rl := none) (by unfold Mk; split <;> rfl) hm ?_
      have hd : Bx B e S { w with drawn := w.drawn + 1 } := hS.below ⟨rfl,rfl,rfl,Nat.le_refl _,fun _ _ => rfl⟩
      obtain ⟨N',n1,_,n3⟩ := Lm (Q := bK Q) hb hc px hF hd (N := []) (N0 := []) trivial ht fun F2 S2 hr e' a' w' g1 g2 g3 => by
        cases hr
        exact k e' a' w' g1 g2 (g3.at _)
      have hsel := hB.1
      have hok := NL rfl LM.zero hB.2
      rw [Array.toArray_toList] at n3 hsel hok
      have := Gt (FL (P := P) (Q' := bK Q) (ops := ops) (fun _ _ _ _ _ _ _ hh => hh) hsel _ px.pt (CX ([] ++ N')) _ a _ hok (fun p hp _ => (n1 p (by simpa using hp)).1) n3)
      simpa using this
    · cases h
  · cases h
theorem WM {c : Code} {Q : Exit → Act → World → Prop} {m : Nat} (h : VG none P c Q m a w) : (Code.loop c).wp P Q a w := RV (rl := none) m h
def WH (e : En) : DW → List Deferred → Prop
  | [],[] => True
  | (k,vs) :: r,d :: r' => (∃ us,EO e vs = some us ∧ d = { target := .fn (.func k) us.toArray,args := #[] }) ∧ WH e r r'
  | _,_ => False
theorem MB {e' : En} (hx : Xt e e') : ∀ {l : List AW} {us : List Value},EO e l = some us → EO e' l = some us
  | [],us,h => h
  | v :: l,us,h => by
    obtain ⟨u,us',h1,h2,rfl⟩ := Dj h
    exact Jm (AW.mono hx h1) (MB hx h2)
theorem WH.mono {e' : En} (hx : Xt e e') : ∀ {D : DW} {ds : List Deferred},WH e D ds → WH e' D ds
  | [],[],_ => trivial
  | [],_ :: _,h => h.elim
  | _ :: _,[],h => h.elim
  | (k,vs) :: r,d :: r',⟨⟨us,h1,h2⟩,h⟩ => ⟨⟨us,MB hx h1,h2⟩,WH.mono hx h⟩
def TU (e : En) (n : Nat) (G : GW) (a : Act) : Prop := ∃ ds,WH e G.2 ds ∧ FG e n ds G.1 a
theorem FG.act {a' : Act} {ds' : List Deferred} (h : FG e n ds F a) (h1 : a'.tmps = a.tmps) (h2 : a'.defers = ds') : FG e n ds' F a' :=
  ⟨h.1,by rw [h1]; exact h.2.size,h2,fun k v hk => by rw [h1]; exact h.2.slots k v hk⟩
theorem WP {ops : Array Oper} (hF : FG e n ds F a) {o : Oper} {d : FuncId × List AW} (h : ZC F o = some d) : ∃ us,EO e d.2 = some us ∧ o.dst = none ∧ Region.wanted o (yielded ops a.tmps) = true ∧ ∀ w,(execOp a.eval o).run P w = .ok (.defer { target := .fn (.func d.1) us.toArray,args := #[] }) w := by
  unfold ZC at h
  split at h
  · rename_i x ts ty pos aft
    split at h
    · rename_i f hx
      cases h
      obtain ⟨_,d1,_,a1⟩ := hF.op hx
      cases d1
      exact ⟨[],rfl,rfl,Ba rfl,fun w => by simp [execOp,resolve,a1,Deferred.ofValue]⟩
    · rename_i f ps hx
      obtain ⟨l,h1,rfl⟩ := map_some h
      obtain ⟨_,d1,_,a1⟩ := hF.op hx
      obtain ⟨us,g1,g2⟩ := bind_some' (show (Fa e []).bind (fun us => (Fa e ps).map fun vs => Value.func (.func f) us.toArray vs.toArray) = some _ from d1)
      cases g1
      obtain ⟨vs,g3,rfl⟩ := map_some g2
      exact ⟨vs,Nn h1 g3,rfl,Ba rfl,fun w => by simp [execOp,resolve,a1,Deferred.ofValue]⟩
    · cases h
  · cases h
theorem Ku (hb : TbO P tb) (hc : P1 P B cf) {ops : List Oper} {G' : GW} {Q : Exit → Act → World → Prop} : ∀ {l : List Oper} {e : En} {G : GW} {S : SW} {a : Act} {w : World},TU e n G a → Bx B e S w → Xf P tb cf n ops l G S = some (G',S') →
    (∀ e' a' w',Xt e e' → TU e' n G' a' → Bx B e' S' w' → Q .normal a' w') → wpList P ops.toArray Q l a w
  | [],e,G,S,a,w,hF,hS,h,k => by cases h; exact k e a w Xt.rfl' hF hS
  | o :: r, e, G, S, a, w, hF, hS, h, k => by
    obtain ⟨ds,hd,hF⟩ := hF
    change dQ P tb cf n ops o (Xf P tb cf n ops r) G S = some (G',S') at h
    unfold dQ at h
    unfold wpList
    split at h
    · rename_i d hdf
      replace hdf : ZC G.1 o = some d := by
        unfold eY at hdf
        cases hd : o.dst with
        | none => rw [hd] at hdf; exact hdf
        | some _ => rw [hd] at hdf; cases hdf
      obtain ⟨df,dv⟩ := d
      obtain ⟨us,g1,g2,g3,g4⟩ := WP (P := P) (ops := ops.toArray) hF hdf
      rw [if_pos g3]
      refine .inl ?_
      unfold Oper.wp
      rw [g4 w]
      have hF2 : TU e n (G.1,(df,dv) :: G.2) ({ a with defers := { target := .fn (.func df) us.toArray,args := #[] } :: a.defers } : Act) :=
        ⟨{ target := .fn (.func df) us.toArray,args := #[] } :: ds,(show WH e ((df,dv) :: G.2) (_ :: ds) from ⟨⟨us,g1,rfl⟩,hd⟩),hF.act rfl (by show _ :: a.defers = _; rw [hF.2.defers])⟩
      have := Ku hb hc hF2 hS h k
      show wpList P ops.toArray Q r (({ a with defers := { target := .fn (.func df) us.toArray,args := #[] } :: a.defers } : Act).put o.dst undef) w
      rw [g2]
      exact this
    · split at h
      · rename_i hw
        rw [if_pos (Ir hF hw)]
        split at h
        · rename_i v S1 hv
          split at h
          · rename_i F1 hp
            exact .inl (Q0 hb hc hF hS (TF hv) hp fun e' a' w' h1 h2 h3 => Ku hb hc (G := (F1,G.2)) ⟨ds,hd.mono h1,h2⟩ h3 h fun e2 a2 w2 g1 => k e2 a2 w2 (h1.trans g1))
          · cases h
        · cases h
      · rename_i hw
        rw [if_neg (by rw [Ir hF hw]; decide)]
        split at h
        · rename_i F1 hp
          exact Ku hb hc (G := (F1,G.2)) ⟨ds,hd,Hb hF hp rfl⟩ hS h k
        · cases h
      · cases h
theorem Nh (hb : TbO P tb) (hm : P.follows .mixedOrders = true) (hc : P1 P B cf) {rt : List (Nat × PX)} {sd : Nat} : ∀ (m : Nat),
    (∀ {c : Code} {e : En} {F : GW} {S : SW} {a : Act} {w : World} {x : Xi} {F' : GW} {S' : SW} {Q : Exit → Act → World → Prop},TU e n F a → Bx B e S w → Nd P tb cf rt sd n m c F S = some (x,F',S') → (∀ e' a' w',Xt e e' → TU e' n F' a' → Bx B e' S' w' → Q x.ex a' w') → c.wp P Q a w) ∧
    (∀ {c : Code} {e : En} {F : GW} {S : SW} {a : Act} {w : World} {x : Xi} {F' : GW} {S' : SW} {Q : Exit → Act → World → Prop},TU e n F a → Bx B e S w → Nd P tb cf rt sd n m (.loop c) F S = some (x,F',S') → (∀ e' a' w',Xt e e' → TU e' n F' a' → Bx B e' S' w' → Q x.ex a' w') → VG none P c Q m a w)
  | 0 => ⟨fun _ _ h _ => (by cases h),fun _ _ h _ => (by cases h)⟩
  | m + 1 => by
    obtain ⟨ih1,ih2⟩ := Nh hb hm hc (rt := rt) m
    have hloop : ∀ {c : Code} {e : En} {F : GW} {S : SW} {a : Act} {w : World} {x : Xi} {F' : GW} {S' : SW} {Q : Exit → Act → World → Prop},TU e n F a → Bx B e S w → Nd P tb cf rt sd n (m + 1) (.loop c) F S = some (x,F',S') → (∀ e' a' w',Xt e e' → TU e' n F' a' → Bx B e' S' w' → Q x.ex a' w') → VG none P c Q (m + 1) a w := by
      intro c e F S a w x F' S' Q hF hS h k
      change Qu (.loop c) P tb cf rt sd n (Nd P tb cf rt sd n m) F S = some (x,F',S') at h
      simp only [Qu,II] at h
      show c.wp P (Exit.then (VG none P c Q m) Q) a w
      split at h
      · rename_i F1 S1 h1
        exact ih1 hF hS h1 fun e' a' w' g1 g2 g3 => ih2 g2 g3 h fun e2 a2 w2 q1 => k e2 a2 w2 (g1.trans q1)
      · rename_i hn
        refine ih1 hF hS h fun e' a' w' g1 g2 g3 => ?_
        have := k e' a' w' g1 g2 g3
        cases x with
        | normal => exact absurd h (hn _ _)
        | ret => exact this
        | exit id => exact this
    refine ⟨?_,hloop⟩
    intro c e F S a w x F' S' Q hF hS h k
    replace h : Qu c P tb cf rt sd n (Nd P tb cf rt sd n m) F S = some (x,F',S') := h
    cases c with
    | skip => simp only [Qu,Gi,Sn,c0,II,Kq,J4,Kg,Kn] at h; cases h; exact wp_skip (k e a w Xt.rfl' hF hS)
    | label l => simp only [Qu,Gi,Sn,c0,II,Kq,J4,Kg,Kn] at h; cases h; exact wp_label (k e a w Xt.rfl' hF hS)
    | exit id => simp only [Qu,Gi,Sn,c0,II,Kq,J4,Kg,Kn] at h; cases h; exact wp_exit (k e a w Xt.rfl' hF hS)
    | ret => simp only [Qu,Gi,Sn,c0,II,Kq,J4,Kg,Kn] at h; cases h; exact wp_ret (k e a w Xt.rfl' hF hS)
    | seq y z =>
      simp only [Qu,Gi,Sn,c0,II,Kq,J4,Kg,Kn] at h
      refine wp_seq ?_
      split at h
      · rename_i F1 S1 h1
        exact ih1 hF hS h1 fun e' a' w' g1 g2 g3 => ih1 g2 g3 h fun e2 a2 w2 q1 => k e2 a2 w2 (g1.trans q1)
      · rename_i hn
        refine ih1 hF hS h fun e' a' w' g1 g2 g3 => ?_
        have := k e' a' w' g1 g2 g3
        cases x with
        | normal => exact absurd h (hn _ _)
        | ret => exact this
        | exit id => exact this
    | cond c y z =>
      simp only [Qu,Gi,Sn,c0,II,Kq,J4,Kg,Kn] at h
      split at h
      · rename_i hc'
        obtain ⟨_,_,hF1⟩ := id hF
        obtain ⟨_,d1,_,a1⟩ := hF1.op hc'
        cases d1
        exact wp_cond_true a1 (ih1 hF hS h k)
      · rename_i hc'
        obtain ⟨_,_,hF1⟩ := id hF
        obtain ⟨_,d1,_,a1⟩ := hF1.op hc'
        cases d1
        exact wp_cond_false a1 (ih1 hF hS h k)
      · cases h
    | block id y =>
      simp only [Qu,Gi,Sn,c0,II,Kq,J4,Kg,Kn] at h
      refine wp_block ?_
      split at h
      · rename_i j F1 S1 h1
        split at h
        · rename_i hj
          cases h
          have hj := zd hj
          subst hj
          exact ih1 hF hS h1 fun e' a' w' g1 g2 g3 => by
            show Exit.inBlock j Q (.exit j) a' w'
            simp only [Exit.inBlock,if_pos]; exact k e' a' w' g1 g2 g3
        · rename_i hj
          cases h
          exact ih1 hF hS h1 fun e' a' w' g1 g2 g3 => by
            show Exit.inBlock id Q (.exit j) a' w'
            have hne : j ≠ id := fun hh => by rw [hh,Nat.beq_refl] at hj; cases hj
            simp only [Exit.inBlock,if_neg hne]; exact k e' a' w' g1 g2 g3
      · rename_i hn
        refine ih1 hF hS h fun e' a' w' g1 g2 g3 => ?_
        have := k e' a' w' g1 g2 g3
        cases x with
        | normal => exact this
        | ret => exact this
        | exit id => exact absurd h (hn _ _ _)
    | loop y => exact WM (hloop hF hS h k)
    | scope y =>
      simp only [Qu,Gi,Sn,c0,II,Kq,J4,Kg,Kn] at h
      refine wp_scope_straight (ih1 hF hS h fun e' a' w' g1 g2 g3 => ?_)
      have := k e' a' w' g1 g2 g3
      cases x <;> exact this
    | region id ops draw =>
      cases draw with
      | false =>
        simp only [Qu,Gi,Sn,c0,II,Kq,J4,Kg,Kn] at h
        obtain ⟨r,h1,h2⟩ := map_some h
        cases h2
        have hl := Ku hb hc (Q := Q) hF hS h1 k
        have := Ie (rl := none) (id := id) (l := ops.toList) (by unfold Mk; split <;> rfl) hl
        rw [Array.toArray_toList] at this
        exact this
      | true =>
        simp only [Qu,Gi,Sn,c0,II,Kq,J4,Kg,Kn] at h
        split at h
        · rename_i px hp
          obtain ⟨r,h1,h2⟩ := map_some h
          cases h2
          obtain ⟨ds,hd,hF1⟩ := hF
          exact W5 hb hm hc hF1 hS h1 fun e' a' w' q1 q2 q3 => k e' a' w' q1 ⟨ds,hd.mono q1,q2⟩ q3
        · cases h
    | _ => simp only [Qu,Gi,Sn,c0,II,Kq,J4,Kg,Kn] at h; cases h
theorem Oh : ∀ {args : List AW} {k : Nat} {F : FW} {j : Nat} {v : AW},MG (Hv args k F) j = some v → (k ≤ j ∧ args[j - k]? = some v) ∨ MG F j = some v
  | [],k,F,j,v,h => .inr h
  | x :: l,k,F,j,v,h => by
    rcases Oh (args := l) (k := k + 1) h with ⟨h1,h2⟩ | h2
    · refine .inl ⟨by omega, ?_⟩
      rw [show j - k = (j - (k + 1)) + 1 from by omega,List.getElem?_cons_succ]; exact h2
    · rcases Hl h2 with ⟨rfl,rfl⟩ | ⟨_,h3⟩
      · exact .inl ⟨Nat.le_refl _,by simp⟩
      · exact .inr h3
theorem O0 : ∀ {l : List AW} {us : List Value} {k : Nat} {v : AW},EO e l = some us → l[k]? = some v → ∃ u,us[k]? = some u ∧ v.dn e = some u
  | [],us,k,v,h,hk => by simp at hk
  | x :: l,us,0,v,h,hk => by
    obtain ⟨u,us',h1,h2,rfl⟩ := Dj h
    simp at hk; subst hk
    exact ⟨u,rfl,h1⟩
  | x :: l,us,k + 1,v,h,hk => by
    obtain ⟨u,us',h1,h2,rfl⟩ := Dj h
    exact O0 (l := l) (k := k) h2 (by simpa using hk)
theorem Qx : ∀ {us : List Value} {s k : Nat} {u : Value},s ≤ k → us[k - s]? = some u → lk ((us.zipIdx s).map fun (v,i) => (i,v)) k = some u
  | [],s,k,u,_,h => by simp at h
  | x :: l,s,k,u,hs,h => by
    rw [List.zipIdx_cons,List.map_cons]
    by_cases hk : s = k
    · subst hk
      rw [Nat.sub_self] at h
      simp at h; subst h
      exact BS ..
    · rw [B0 hk]
      refine Qx (by omega) ?_
      rw [show k - s = (k - (s + 1)) + 1 from by omega,List.getElem?_cons_succ] at h; exact h
theorem K0 {args : List AW} {us : List Value} (h : EO e args = some us) : Sj e (Hv args 0 (M0 10)) ∧ ∀ k y,lk (toF e (Hv args 0 (M0 10))) k = some y → lk (us.zipIdx.map fun (v,i) => (i,v)) k = some y := by
  have key : ∀ {j : Nat} {v : AW},MG (Hv args 0 (M0 10)) j = some v → ∃ u,us[j]? = some u ∧ v.dn e = some u := fun {j v} hj => by
    rcases Oh hj with ⟨_,h2⟩ | h2
    · exact O0 h (by simpa using h2)
    · rw [Ru] at h2; cases h2
  refine ⟨fun j v hj => ?_,fun j u hj => ?_⟩
  · obtain ⟨u,_,h2⟩ := key hj
    exact ⟨u,h2⟩
  · obtain ⟨v,h1,h2⟩ := Rf hj
    obtain ⟨u',h3,h4⟩ := key h1
    rw [h2] at h4; cases h4
    exact Qx (Nat.zero_le _) (by simpa using h3)
theorem Q8 {args : List AW} {us : List Value} {a : Act} (h : EO e args = some us) (hF : Fr n ds ((us.zipIdx).map fun (v,i) => (i,v)) a) : FG e n ds (Hv args 0 (M0 10)) a :=
  ⟨(K0 h).1,hF.sub (K0 h).2⟩
def YE (tmps : Array Value) : ResultVar → Sem Value
  | .tmp t => pure (tmps.getD t undef)
  | .cell a t => do loadVar t (← asAddr (tmps.getD a undef))
theorem UD (fn : Func) (tmps : Array Value) : results fn tmps = (do let vs ← fn.results.mapM (YE tmps); pure (if h : vs.size = 1 then vs[0] else .tuple vs)) := rfl
theorem TV (hb : TbO P tb) (hF : FG e n ds F a) (hS : Bx B e S w) : ∀ {l : List ResultVar} {vs : List AW},YF tb F S l = some vs → ∃ us,EO e vs = some us ∧ (l.mapM (YE a.tmps)).run P w = .ok us w
  | [],vs,h => by cases h; exact ⟨[],rfl,rfl⟩
  | r :: l, vs, h => by
    unfold YF at h
    split at h
    · rename_i v vs' hv h2
      cases h
      obtain ⟨us,g1,g2⟩ := TV hb hF hS h2
      have hr : ∃ u,v.dn e = some u ∧ (YE a.tmps r).run P w = .ok u w := by
        cases r with
        | tmp t =>
          obtain ⟨u,d1,o1⟩ := JA hF.1 hv
          exact ⟨u,d1,by show (pure (a.tmps.getD t undef) : Sem Value).run P w = _; rw [hF.2.getD o1]; rfl⟩
        | cell x t =>
          simp only at hv
          split at hv
          · rename_i k o y hx ht
            split at hv
            · rename_i q cs hg
              replace hg := EY hg; obtain ⟨i,hg⟩ := hg
              obtain ⟨u,d1,o1⟩ := JA hF.1 hx
              obtain ⟨b,hb',rfl⟩ := map_some d1
              obtain ⟨u',k1,k2⟩ := hS.load (P := P) hg hb' (A3 hb ht).ty hv
              exact ⟨u',k1,by unfold YE; simp only [hF.2.getD o1]; simp [asAddr,k2]⟩
            · cases hv
          · cases hv
      obtain ⟨u,d1,r1⟩ := hr
      refine ⟨u :: us,Jm d1 g1, ?_⟩
      rw [List.mapM_cons,Sem.run_bind]
      refine Eq.trans (congrArg (fun z => Result.andThen z _) r1) ?_
      rw [Result.andThen_ok,Sem.run_bind,g2]
      rfl
    · cases h
theorem Uu : ∀ {vs : List AW} {l : List (Bool × List CW)} {us : List Value},ZE vs = some l → EO e vs = some us → Fa e l = some us
  | [],l,us,h,h' => by cases h; cases h'; rfl
  | v :: vs,l,us,h,h' => by
    unfold ZE at h
    split at h
    · rename_i p r h1 h2
      cases h
      obtain ⟨u,us',g1,g2,rfl⟩ := Dj h'
      exact EN (by rw [OJ h1]; exact g1) (Uu h2 g2)
    · cases h
theorem Ra (hb : TbO P tb) (hF : FG e n ds F a) (hS : Bx B e S w) {fn : Func} {v : AW} (h : Ue tb F S fn.results.toList = some v) : ∃ u,v.dn e = some u ∧ (results fn a.tmps).run P w = .ok u w := by
  unfold Ue at h
  have key : ∀ {vs : List AW},YF tb F S fn.results.toList = some vs → ∃ us,EO e vs = some us ∧ (results fn a.tmps).run P w = .ok (if h : us.toArray.size = 1 then us.toArray[0] else .tuple us.toArray) w := fun {vs} hv => by
    obtain ⟨us,g1,g2⟩ := TV hb hF hS hv
    refine ⟨us,g1, ?_⟩
    rw [UD,Array.mapM_eq_mapM_toList,Sem.run_bind]
    have : (List.toArray <$> (fn.results.toList.mapM (YE a.tmps)) : Sem (Array Value)).run P w = .ok us.toArray w := by
      rw [← bind_pure_comp,Sem.run_bind,g2]; rfl
    refine Eq.trans (congrArg (fun z => Result.andThen z _) this) ?_
    rfl
  split at h
  · rename_i v' hv
    cases h
    obtain ⟨us,g1,g2⟩ := key hv
    obtain ⟨u,us',h1,h2,rfl⟩ := Dj g1
    cases h2
    exact ⟨u,h1,by rw [g2]; rfl⟩
  · rename_i vs hne hv
    obtain ⟨l,h1,rfl⟩ := map_some h
    obtain ⟨us,g1,g2⟩ := key hv
    refine ⟨.tuple us.toArray,by show (Fa e l).map _ = _; rw [Uu h1 g1]; rfl, ?_⟩
    rw [g2]
    have : ¬ us.toArray.size = 1 := fun hh => by
      match vs,us,g1,hh with
      | [],us,g1,hh => cases g1; cases hh
      | [v],us,g1,hh => exact hne v rfl
      | v :: v' :: vs,us,g1,hh =>
        obtain ⟨u,us',_,k2,rfl⟩ := Dj g1
        obtain ⟨u',us'',_,_,rfl⟩ := Dj k2
        simp at hh
    rw [dif_neg this]
  · cases h
theorem LK : ∀ {l : List AW} {us : List Value},EO e l = some us → us.length = l.length
  | [],us,h => by cases h; rfl
  | v :: l,us,h => by
    obtain ⟨u,us',_,h2,rfl⟩ := Dj h
    simp [LK h2]
theorem Xb {c y : Code} {d1 d2 : Nat} (h : bZ c = some (d1,d2,y)) : ∃ id ts ty1 ty2 p1 p2 a1 a2,c = (Code.region id #[⟨some d1,.call ⟨.builtin .recover, #[],ts⟩,ty1,p1,a1,none⟩,⟨some d2,.assign (.tmp d1),ty2,p2,a2,none⟩] false).seq y := by
  unfold bZ at h
  split at h
  · split at h
    · rename_i hd
      cases h
      rw [zd hd]
      exact ⟨_,_,_,_,_,_,_,_,rfl⟩
    · cases h
  · cases h
theorem VB (hb : TbO P tb) (hm : P.follows .mixedOrders = true) (hc : P1 P B cf) {ft : FT} {rt : RT} (hf : RW P ft) {m : Nat} {f : FuncId} {args : List AW} (h : UP P tb ft rt m cf f args S = some S') {us : List Value} (hu : EO e args = some us) (hS : Bx B e S w) :
    Has P f ∧ CallsD P f us.toArray .returning w fun en u' w' => u' = .returning ∧ ∃ e',en = .returned (.tuple #[]) ∧ Xt e e' ∧ Bx B e' S' w' := by
  unfold UP at h
  split at h
  · rename_i fn hfn
    obtain ⟨p1,p2⟩ := Tj hf hfn
    refine ⟨p2, ?_⟩
    split at h
    · rename_i d1 d2 y hbd hrs
      obtain ⟨c,hbd,hrc⟩ := bind_some' hbd
      obtain ⟨id,ts,ty1,ty2,q1,q2,a1,a2,rfl⟩ := Xb hrc
      split at h
      · rename_i hn
        simp only [zf] at hn
        obtain ⟨n1,n2,n3⟩ := hn
        refine Mn p1 hbd rfl (by rw [LK hu]; exact n1) n2 n3 fun a hF => ?_
        have hF0 : FG e fn.ntmps [] (Gf d2 (.one .nili) (Gf d1 (.one .nili) (Hv args 0 (M0 10)))) a := by
          have h1 : ∀ {a0 : Act},Fr fn.ntmps [] (us.zipIdx.map fun (v,i) => (i,v)) a0 → FG e fn.ntmps [] (Hv args 0 (M0 10)) a0 := fun hh => Q8 hu hh
          have key : Sj e (Hv args 0 (M0 10)) ∧ ∀ k y,lk (toF e (Hv args 0 (M0 10))) k = some y → lk (us.zipIdx.map fun (v,i) => (i,v)) k = some y := K0 hu
          have k1 : Sj e (Gf d1 (.one .nili) (Hv args 0 (M0 10))) := Kx (u := .nilIface) rfl key.1
          refine ⟨Kx (u := .nilIface) rfl k1,hF.sub fun k y hy => ?_⟩
          have s1 := KE (u := .nilIface) (by rfl) k1 hy
          by_cases hk : d2 = k
          · subst hk; rw [BS] at s1 ⊢; exact s1
          · rw [B0 hk] at s1 ⊢
            have s2 := KE (u := .nilIface) (by rfl) key.1 s1
            by_cases hk1 : d1 = k
            · subst hk1; rw [BS] at s2 ⊢; exact s2
            · rw [B0 hk1] at s2 ⊢
              exact key.2 k y s2
        have fin : ∀ {x : Xi} {F' : FW},Nd P tb cf (ZF rt f) (Nat.pow 2 (24 * m)) fn.ntmps 1000000 y (Gf d2 (.one .nili) (Gf d1 (.one .nili) (Hv args 0 (M0 10))),[]) S = some (x,(F',[]),S') → x = .normal ∨ x = .ret → y.wr none P (bodyPost P fn fun en w' => ∃ e',en = .returned (.tuple #[]) ∧ Xt e e' ∧ Bx B e' S' w') a w := fun {x F'} h1 hx => by
          refine (Nh hb hm hc 1000000).1 (show TU e fn.ntmps (Gf d2 (.one .nili) (Gf d1 (.one .nili) (Hv args 0 (M0 10))),[]) a from ⟨[],trivial,hF0⟩) hS h1 fun e' a' w' g1 g2 g3 => ?_
          obtain ⟨ds',hds,hF2⟩ := g2
          cases ds' with
          | cons _ _ => exact hds.elim
          | nil =>
            rcases hx with rfl | rfl
            · exact GO (.inr rfl) hF2.2 hrs ⟨e',rfl,g1,g3⟩
            · exact GO (.inl rfl) hF2.2 hrs ⟨e',rfl,g1,g3⟩
        split at h
        · rename_i h1; cases h; exact fin h1 (.inl rfl)
        · rename_i h1; cases h; exact fin h1 (.inr rfl)
        · cases h
      · cases h
    · cases h
  · cases h
def W2 (P : Program) (B : Bs) (gv : GV) : Prop := ∀ f ev,c9 gv f = some ev → ∀ S args v,ev S args = some v → Has P f ∧ ∀ e w us,EO e args = some us → Bx B e S w →
  Calls P f us.toArray w fun en w' => ∃ u,en = .returned u ∧ v.dn e = some u ∧ Bx B e S w'
theorem SE (hb : TbO P tb) (hm : P.follows .mixedOrders = true) {gv : GV} (hv : W2 P B gv) {ft : FT} {rt : RT} (hf : RW P ft) : ∀ m,P1 P B (VZ P tb gv ft rt m)
  | 0 => fun f args S v S' h => by cases h
  | m + 1 => fun f args S v S' h => by
    have ih := SE hb hm hv hf (rt := rt) m
    unfold VZ at h
    split at h
    · rename_i ev hev
      obtain ⟨v',h1,h2⟩ := map_some h
      cases h2
      obtain ⟨g1,g2⟩ := hv f ev hev _ _ _ h1
      refine ⟨g1,fun e w us hu hS => (g2 e w us hu hS).mono ?_⟩
      rintro en w' ⟨u,rfl,q1,q2⟩
      exact ⟨e,u,rfl,Xt.rfl',q1,q2⟩
    split at h
    · rename_i fn hfn
      obtain ⟨p1,p2⟩ := Tj hf hfn
      refine ⟨p2,fun e w us hu hS => ?_⟩
      split at h
      · rename_i c hbd hn
        refine Wf p1 hbd rfl (by rw [LK hu]; exact hn) fun a hF => ?_
        have hF' : TU e fn.ntmps (Hv args 0 (M0 10),[]) a := ⟨[],trivial,Q8 hu hF⟩
        have fin : ∀ {x : Xi} {F' : FW} {D : DW} {S1 S2 : SW},Nd P tb (VZ P tb gv ft rt m) (ZF rt f) (Nat.pow 2 (24 * m)) fn.ntmps 1000000 c (Hv args 0 (M0 10),[]) S = some (x,(F',D),S1) → x ≠ .exit 0 ∧ (∀ i,x ≠ .exit i) → (D = [] ∧ S1 = S2 ∨ ∃ d,D = [d] ∧ UP P tb ft rt m (VZ P tb gv ft rt m) d.1 d.2 S1 = some S2) → (Ue tb F' S2 fn.results.toList).map (fun v => (v,S2)) = some (v,S') → c.wr none P (bodyPostD P fn fun en w' => ∃ e' u,en = .returned u ∧ Xt e e' ∧ v.dn e' = some u ∧ Bx B e' S' w') a w := fun {x F' D S1 S2} h1 hx hD h2 => by
          obtain ⟨v',h3,h4⟩ := map_some h2
          cases h4
          refine (Nh hb hm ih 1000000).1 hF' hS h1 fun e' a' w' g1 g2 g3 => ?_
          obtain ⟨ds',hds,hF2⟩ := g2
          have he : x.ex = .ret ∨ x.ex = .normal := by
            cases x with
            | normal => exact .inr rfl
            | ret => exact .inl rfl
            | exit i => exact absurd rfl (hx.2 i)
          refine Sg he hF2.2 ?_
          rcases hD with ⟨rfl,rfl⟩ | ⟨⟨df,dv⟩,rfl,hdf⟩
          · cases ds' with
            | cons _ _ => exact hds.elim
            | nil =>
              obtain ⟨u,d1,r1⟩ := Ra hb hF2 g3 h3
              exact ⟨u,r1,e',u,rfl,g1,d1,g3⟩
          · cases ds' with
            | nil => exact hds.elim
            | cons d ds' =>
              obtain ⟨⟨us2,q1,rfl⟩,hds⟩ := hds
              cases ds' with
              | cons _ _ => exact hds.elim
              | nil =>
                obtain ⟨k1,k2⟩ := VB hb hm ih hf hdf q1 g3
                refine RX k1 (fun hh => nomatch hh) k2 ?_
                rintro en u' w2 ⟨rfl,e2,rfl,x1,x2⟩
                obtain ⟨u,d1,r1⟩ := Ra hb (hF2.mono x1) x2 h3
                exact ⟨u,r1,e2,u,rfl,g1.trans x1,d1,x2⟩
        split at h
        · cases h
        · rename_i x F1 S1 hne h1
          exact fin h1 ⟨fun hh => hne 0 hh,fun i hh => hne i hh⟩ (.inl ⟨rfl,rfl⟩) h
        · rename_i x F1 d S1 hne h1
          split at h
          · rename_i S2 hdf
            exact fin h1 ⟨fun hh => hne 0 hh,fun i hh => hne i hh⟩ (.inr ⟨d,rfl,hdf⟩) h
          · cases h
        · cases h
      · cases h
    · cases h
theorem Xe : W2 P B [] := fun _ _ h => nomatch h
def dH (b : Bool) (r : Option (AW × SW)) : Bool := match r with | some (.one (.bool b'),_) => b' == b | _ => false
theorem XN (hb : TbO P tb) (hm : P.follows .mixedOrders = true) {gv : GV} {ft : FT} {rt : RT} (hf : RW P ft) {m : Nat} {f : FuncId} {args : List AW} {g : Nat → Option Value} {us : List Value} {b : Bool} (w0 : World) (hv : W2 P ⟨fun _ => True,[],w0⟩ gv) (h : dH b (VZ P tb gv ft rt m f args ⟨[],[],[],0⟩) = true) (hu : EO ⟨fun _ => none,fun _ => 0,g,fun _ => 0⟩ args = some us) :
    Calls P f us.toArray w0 fun en w' => en = .returned (.bool b) ∧ Below w0.heap.size w0 w' := by
  unfold dH at h
  split at h
  · rename_i b' S' hr
    have hb' := eq_of_beq h
    subst hb'
    refine ((SE (B := ⟨fun _ => True,[],w0⟩) hb hm hv hf m) _ _ _ _ _ hr).2 ⟨fun _ => none,fun _ => 0,g,fun _ => 0⟩ w0 us hu ⟨[],[],Stw.start _ w0,trivial,trivial,fun _ _ h => (nomatch h),trivial⟩ |>.mono ?_
    rintro en w' ⟨e',u,rfl,_,hd,M,Z,hW,_⟩
    cases hd
    exact ⟨rfl,hW.frm.below⟩
  · cases h
end
end
end Go.Proofs.YtbiekjhlijdjbaaGreat
