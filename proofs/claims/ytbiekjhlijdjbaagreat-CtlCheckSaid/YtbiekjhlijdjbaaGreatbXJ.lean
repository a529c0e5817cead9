/- A run that is computed: operations one after another, regions in many orders. Conditions: none. -/
import Derived.Test.YtbiekjhlijdjbaaGreatbXP
import Derived.Test.YtbiekjhlijdjbaaGreatbQP
set_option linter.unusedVariables false
set_option linter.unusedSimpArgs false
open Go Go.RowKit
namespace Go.Proofs.YtbiekjhlijdjbaaGreat
noncomputable section
abbrev Cf := FuncId → List AW → SW → Option (AW × SW)
def P1 (P : Program) (B : Bs) (cf : Cf) : Prop := ∀ f args S v S',cf f args S = some (v,S') → Has P f ∧ ∀ e w us,EO e args = some us → Bx B e S w →
  Calls P f us.toArray w fun en w' => ∃ e' u,en = .returned u ∧ Xt e e' ∧ v.dn e' = some u ∧ Bx B e' S' w'
def XV : List (Bool × List CW) → Option (List AW)
  | [] => some []
  | p :: l => match aw p,XV l with | some v,some r => some (v :: r) | _,_ => none
theorem Nn {e : En} : ∀ {l : List (Bool × List CW)} {m : List AW} {us : List Value},XV l = some m → Fa e l = some us → EO e m = some us
  | [],m,us,h,h' => by cases h; cases h'; rfl
  | p :: l,m,us,h,h' => by
    unfold XV at h
    split at h
    · rename_i v r h1 h2
      cases h
      obtain ⟨u,us',g1,g2,rfl⟩ := F3 h'
      exact Jm (by rw [VJ h1]; exact g1) (Nn h2 g2)
    · cases h
theorem LH {e : En} : ∀ {l m : List AW} {us vs : List Value},EO e l = some us → EO e m = some vs → EO e (l ++ m) = some (us ++ vs)
  | [],m,_,vs,h,h' => by cases h; exact h'
  | c :: l,m,_,vs,h,h' => by
    obtain ⟨v,us,h1,h2,rfl⟩ := Dj h
    exact Jm h1 (LH h2 h')
section
variable (P : Program) (tb : TB) (cf : Cf)
def Zu (F : FW) (S : SW) (fo : Operand) (args : Array Operand) : Option IG := match D9 F fo,RC F args.toList with
  | some (.one (.fn f)),some l => (cf f l S).map fun r => (some r.1,r.2)
  | some (.fnv f gs ps),some l => match XV gs,XV ps with
    | some g,some p => (cf f (g ++ l ++ p) S).map fun r => (some r.1,r.2)
    | _,_ => none
  | _,_ => none
def IL (F : FW) (S : SW) (op : Op) : Option IG := match Jv P tb F op with
  | some v => some (some v,S)
  | none => match PR P tb F S op with
    | some v => some (some v,S)
    | none => match Rn P tb F S op with
      | some x => some x
      | none => match R9 P tb F S op with
        | some x => some x
        | none => match op with
          | .call ⟨.value fo,args,_⟩ => Zu cf F S fo args
          | _ => none
end
abbrev EQ := Program → TB → Cf → FW → SW → Option IG
def qV (v : Option AW) (S : SW) : Option IG := Option.rec none (fun v => some (some v,S)) v
theorem DE {v : Option AW} {S : SW} {x : IG} (h : qV v S = some x) : ∃ u,v = some u ∧ x = (some u,S) := by
  cases v with
  | none => cases h
  | some u => cases h; exact ⟨u,rfl,rfl⟩
def S3 : Value → Bool | .nilIface => true | _ => false
def q0 : EQ := fun _ _ _ _ _ => none
def Zk (x : Operand) : EQ := fun P tb cf F S => qV (D9 F x) S
def a6 (c x y : Operand) : EQ := fun P tb cf F S => qV (Ri F c x y) S
def aS (t : Nat) : EQ := fun P tb cf F S => Ms tb S t
def bH (t : Nat) (x : Operand) : EQ := fun P tb cf F S => Md F S x
def ZV (t : Nat) (ps : Array (Nat × Operand)) : EQ := fun P tb cf F S => qV (U8 P tb F t ps) S
def b5 (t m : Nat) (ps : Array (Nat × Operand)) : EQ := fun P tb cf F S => Mh tb F S t m ps
def eV (t : Nat) (m k v : Operand) : EQ := fun P tb cf F S => Yk P tb F S t m k v
def gY (t : Nat) (x : Operand) : EQ := fun P tb cf F S => qV (Xm tb F S t x) S
def cO (t : Nat) (x y : Operand) : EQ := fun P tb cf F S => LW tb F S t x y
def d6 (x : Operand) : EQ := fun P tb cf F S => qV (Vp F x) S
def WU (op : BinOp) (T : Nat) (x y : Operand) (v : Value) : EQ := fun P tb cf F S => match S3 v with | true => qV (U5 P F op T x) S | false => qV (RE P tb F op T x y) S
def a8 (op : BinOp) (T : Nat) (x y : Operand) (_ : Nat) : EQ := fun P tb cf F S => match y with | .const v => WU op T x y v P tb cf F S | _ => qV (RE P tb F op T x y) S
def f4 (op : UnOp) (T : Nat) (x : Operand) : EQ := fun P tb cf F S => match op with | .not => qV (XQ F x) S | .neg => qV (Xh F x) S | _ => none
def dP (s t : Nat) (x : Operand) : EQ := fun P tb cf F S => qV (UB tb F s t x) S
def dI (fn : Fn) (gs ps : Array Operand) : EQ := fun P tb cf F S => match fn with | .func f => qV (Wl F f gs ps) S | _ => none
def cM (t : Nat) (r : Option Operand) : EQ := fun P tb cf F S => match r with | none => YQ S | some _ => none
def bG (t : Nat) (l c : Operand) : EQ := fun P tb cf F S => Me tb F S t l c
def c8 (t : Nat) (x : Operand) (lo hi mx : Option Operand) : EQ := fun P tb cf F S => match Zr tb F t x lo hi mx with | some v => some (some v,S) | none => (match mx with | none => qV (Wy tb F S t x lo hi) S | some _ => none)
def aB (t : Nat) (x : Operand) (i : Nat) : EQ := fun P tb cf F S => qV (Ve tb F t x i) S
def aC (t : Nat) (x : Operand) (i : Nat) : EQ := fun P tb cf F S => qV (Vg tb F t x i) S
def dV (t : Nat) (x i : Operand) : EQ := fun P tb cf F S => qV (VC tb F t x i) S
def dX (t : Nat) (x i : Operand) : EQ := fun P tb cf F S => qV (UH tb F t x i) S
def hJ (t : Nat) (x k : Operand) (ok : Bool) : EQ := fun P tb cf F S => qV (WT P tb F S t x k ok) S
def iN (t : Nat) (x : Operand) : EQ := fun P tb cf F S => Yu tb F S t x
def gC (x : Operand) (s : Bool) : EQ := fun P tb cf F S => match s with | false => Ya F S x | true => none
def fG (x : Operand) : EQ := fun P tb cf F S => YY F S x
def bQ (x : Operand) (i : Nat) : EQ := fun P tb cf F S => qV (UI F x i) S
def XM (args : List Operand) (ts : List Nat) : EQ := fun P tb cf F S => match args,ts with
  | [x],[t] => (match Tg tb F x t with | some v => some (some v,S) | none => qV (X0 tb F S x t) S)
  | _,_ => none
def Wt (args : List Operand) (ts : List Nat) : EQ := fun P tb cf F S => match args,ts with | [x],[t] => qV (TR tb F x t) S | _,_ => none
def Xx (args : List Operand) (ts : List Nat) : EQ := fun P tb cf F S => match args,ts with | [x,y],[t,t'] => Mv tb F S x y t t' | _,_ => none
def Xy (args : List Operand) (ts : List Nat) : EQ := fun P tb cf F S => match args,ts with | [x,y],[t,_] => LV tb F S x y t | _,_ => none
def XF (args : List Operand) (ts : List Nat) : EQ := fun P tb cf F S => match args,ts with | [x],[t] => Mt tb F S x t | _,_ => none
def WG (args : List Operand) (ts : List Nat) : EQ := fun P tb cf F S => match args,ts with | [x,k],[t,_] => Zb P tb F S x k t | _,_ => none
def XY (b : Builtin) (args : List Operand) (ts : List Nat) : EQ := fun P tb cf F S => match args with | [x,y] => qV (Xq F b x y) S | _ => none
def aX (b : Builtin) : List Operand → List Nat → EQ := match b with
  | .len => XM | .cap => Wt | .append => Xx | .copy => Xy | .clear => XF | .delete => WG | .min => XY .min | .max => XY .max | _ => fun _ _ => q0
def qX (tb : TB) (F : FW) (fo : Operand) (args : List Operand) : Option AW := match fo,args with | .func f,[x] => Yb tb F f x | _,_ => none
def bO (fo : Operand) (args : Array Operand) : EQ := fun P tb cf F S => match qX tb F fo args.toList with | some v => some (some v,S) | none => Zu cf F S fo args
def iG (c : Callee) : Array Operand → Array Nat → EQ := Callee.rec (fun fo args _ => bO fo args) (fun _ _ _ _ => q0) (fun b args ts => aX b args.toList ts.toList) c
def gH (c : Call) : EQ := iG c.callee c.args c.argTypes
def dB (op : Op) : EQ := Op.rec Zk Zk a6 aS bH ZV b5 eV gY cO (fun _ => q0) (fun _ => q0) d6 a8 f4 dP (fun _ _ => q0) (fun _ _ => q0) dI cM (fun _ _ => q0) bG c8 aB aC dV dX hJ eV (fun _ _ _ => q0) (fun _ _ _ _ => q0) iN gC fG (fun _ _ _ _ => q0) bQ gH (fun _ => q0) (fun _ => q0) (fun _ => q0) (fun _ _ => q0) (fun _ _ _ => q0) (fun _ _ => q0) op
section
variable {P : Program} {tb : TB} {cf : Cf} {F : FW} {S : SW} {op : Op} {x : IG} {v : AW}
theorem Kr (h : Jv P tb F op = some v) : IL P tb cf F S op = some (some v,S) := by simp only [IL,h]
theorem Vj (h1 : Jv P tb F op = none) (h : PR P tb F S op = some v) : IL P tb cf F S op = some (some v,S) := by simp only [IL,h1,h]
theorem OE (h1 : Jv P tb F op = none) (h2 : PR P tb F S op = none) (h : Rn P tb F S op = some x) : IL P tb cf F S op = some x := by simp only [IL,h1,h2,h]
theorem UA (h1 : Jv P tb F op = none) (h2 : PR P tb F S op = none) (h3 : Rn P tb F S op = none) (h : VH P tb F S (Ui op) = some x) : IL P tb cf F S op = some x := by simp only [IL,h1,h2,h3,R9,h]
theorem XH (h1 : Jv P tb F op = none) (h2 : PR P tb F S op = none) (h3 : Rn P tb F S op = none) (h4 : VH P tb F S (Ui op) = none) (h : Xa P tb F S op = some x) : IL P tb cf F S op = some x := by simp only [IL,h1,h2,h3,R9,h4,h]
theorem Lb {b : Builtin} {y z : Operand} (h1 : b ≠ .max) (h2 : b ≠ .min) : Xq F b y z = none := by
  unfold Xq
  split
  · split
    · split <;> first | rfl | (exact absurd rfl h1) | (exact absurd rfl h2)
    · rfl
  · split <;> first | rfl | (exact absurd rfl h2)
  · rfl
theorem Q9 {u : Value} (h : S3 u = true) : u = .nilIface := by cases u <;> first | rfl | cases h
theorem TF (h : dB op P tb cf F S = some x) : IL P tb cf F S op = some x := by
  cases op with
  | alloc t => exact OE rfl rfl h
  | box t y => exact OE rfl rfl h
  | buildSlice t m ps => exact OE rfl rfl h
  | insert t m k y => exact UA rfl rfl rfl h
  | load t y => obtain ⟨v,hv,rfl⟩ := DE h; exact Vj rfl hv
  | store t y z => exact OE rfl rfl h
  | binOp op T y z T' =>
    replace h : a8 op T y z T' P tb cf F S = some x := h
    unfold a8 at h
    cases z with
    | const u =>
      replace h : WU op T y (.const u) u P tb cf F S = some x := h
      unfold WU at h
      cases hu : S3 u with
      | true =>
        rw [hu] at h
        obtain ⟨v,hv,rfl⟩ := DE h
        rw [Q9 hu]
        exact Kr hv
      | false =>
        rw [hu] at h
        obtain ⟨v,hv,rfl⟩ := DE h
        refine Kr ?_
        cases u <;> first | exact hv | cases hu
    | _ => obtain ⟨v,hv,rfl⟩ := DE h; exact Kr hv
  | unOp op T y =>
    cases op <;> first | (cases h; done) | (obtain ⟨v,hv,rfl⟩ := DE h; exact Kr hv)
  | makeFunc fn gs ps => cases fn <;> first | (cases h; done) | (obtain ⟨v,hv,rfl⟩ := DE h; exact Kr hv)
  | makeMap t r => cases r <;> first | (cases h; done) | exact UA rfl rfl rfl h
  | makeSlice t l c => exact OE rfl rfl h
  | slice t y lo hi mx =>
    change c8 t y lo hi mx P tb cf F S = some x at h
    unfold c8 at h
    split at h
    · rename_i v hv; cases h; exact Kr hv
    · rename_i hn
      cases mx with
      | some _ => cases h
      | none => obtain ⟨v,hv,rfl⟩ := DE h; exact Vj hn hv
  | lookup t y k ok => obtain ⟨v,hv,rfl⟩ := DE h; exact Vj rfl hv
  | mapUpdate t m k v => exact UA rfl rfl rfl h
  | range t y => exact XH rfl rfl rfl rfl h
  | next y s => cases s <;> first | (cases h; done) | exact XH rfl rfl rfl rfl h
  | entry y => exact XH rfl rfl rfl rfl h
  | call c =>
    obtain ⟨callee,args,ts⟩ := c
    obtain ⟨args⟩ := args
    obtain ⟨ts⟩ := ts
    cases callee with
    | value fo =>
      replace h : (match qX tb F fo args with | some v => some (some v,S) | none => Zu cf F S fo ⟨args⟩) = some x := h
      split at h
      · rename_i v hv
        cases h
        unfold qX at hv
        split at hv
        · exact Kr hv
        · cases hv
      · rename_i hn
        have h1 : Jv P tb F (.call ⟨.value fo,⟨args⟩,⟨ts⟩⟩) = none := by
          cases fo <;> first | rfl | skip
          match args,hn with
          | [],_ => rfl
          | [y],hn => exact hn
          | _ :: _ :: _,_ => rfl
        simp only [IL,h1,h,PR,Rn,R9,Ui,VH,Xa]
    | invoke r m => cases h
    | builtin b =>
      cases b <;> first | (cases h; done) | skip
      case len =>
        replace h : XM args ts P tb cf F S = some x := h
        unfold XM at h
        split at h
        · split at h
          · rename_i v hv; cases h; exact Kr hv
          · rename_i hn; obtain ⟨v,hv,rfl⟩ := DE h; exact Vj hn hv
        · cases h
      case cap =>
        replace h : Wt args ts P tb cf F S = some x := h
        unfold Wt at h
        split at h
        · obtain ⟨v,hv,rfl⟩ := DE h; exact Kr hv
        · cases h
      case append =>
        replace h : Xx args ts P tb cf F S = some x := h
        unfold Xx at h
        split at h
        · rename_i y z _ _
          exact OE (Lb (F := F) (b := .append) (y := y) (z := z) (fun h => nomatch h) (fun h => nomatch h)) rfl h
        · cases h
      case copy =>
        replace h : Xy args ts P tb cf F S = some x := h
        unfold Xy at h
        split at h
        · rename_i y z _ _
          exact OE (Lb (F := F) (b := .copy) (y := y) (z := z) (fun h => nomatch h) (fun h => nomatch h)) rfl h
        · cases h
      case clear =>
        replace h : XF args ts P tb cf F S = some x := h
        unfold XF at h
        split at h
        · exact OE rfl rfl h
        · cases h
      case delete =>
        replace h : WG args ts P tb cf F S = some x := h
        unfold WG at h
        split at h
        · rename_i y z _ _
          exact UA (Lb (F := F) (b := .delete) (y := y) (z := z) (fun h => nomatch h) (fun h => nomatch h)) rfl rfl h
        · cases h
      case min =>
        replace h : XY .min args ts P tb cf F S = some x := h
        unfold XY at h
        split at h
        · obtain ⟨v,hv,rfl⟩ := DE h; exact Kr hv
        · cases h
      case max =>
        replace h : XY .max args ts P tb cf F S = some x := h
        unfold XY at h
        split at h
        · obtain ⟨v,hv,rfl⟩ := DE h; exact Kr hv
        · cases h
  | _ => first | (cases h; done) | (obtain ⟨v,hv,rfl⟩ := DE h; exact Kr hv)
end
abbrev EZ := Program → TB → FW → SW → Option (Bool × AW)
def Kl : EZ := fun _ _ _ _ => none
def sV (b : Bool) (v : Option AW) : Option (Bool × AW) := Option.rec none (fun v => some (b,v)) v
def c7 (v w : Option AW) : Option (Bool × AW) := Option.rec (sV false w) (fun v => some (true,v)) v
def sP (op : Op) : EZ := fun P tb F S => sV true (Jv P tb F op)
def bJ (op : BinOp) (T : Nat) (x y : Operand) (T' : Nat) : EZ := fun P tb F S => match y with | .const v => (match S3 v with | true => sV true (U5 P F op T x) | false => sV true (RE P tb F op T x y)) | _ => sV true (RE P tb F op T x y)
def gT (t : Nat) (x : Operand) (lo hi mx : Option Operand) : EZ := fun P tb F S => c7 (Zr tb F t x lo hi mx) (match mx with | none => Wy tb F S t x lo hi | some _ => none)
def fC (c : Call) : EZ := fun P tb F S => c7 (Jv P tb F (.call c)) (PR P tb F S (.call c))
def Zm (op : Op) : EZ := Op.rec (fun x P tb F S => sV true (D9 F x)) (fun x P tb F S => sV true (D9 F x)) (fun c x y P tb F S => sV true (Ri F c x y)) (fun _ => Kl) (fun _ _ => Kl) (fun t ps P tb F S => sV true (U8 P tb F t ps)) (fun _ _ _ => Kl) (fun _ _ _ _ => Kl) (fun t x P tb F S => sV false (Xm tb F S t x)) (fun _ _ _ => Kl) (fun _ => Kl) (fun _ => Kl) (fun x P tb F S => sV true (Vp F x)) bJ (fun o T x => sP (.unOp o T x)) (fun s t x P tb F S => sV true (UB tb F s t x)) (fun _ _ => Kl) (fun _ _ => Kl) (fun f g p => sP (.makeFunc f g p)) (fun _ _ => Kl) (fun _ _ => Kl) (fun _ _ _ => Kl) gT (fun t x i P tb F S => sV true (Ve tb F t x i)) (fun t x i P tb F S => sV true (Vg tb F t x i)) (fun t x i P tb F S => sV true (VC tb F t x i)) (fun t x i P tb F S => sV true (UH tb F t x i)) (fun t x k ok P tb F S => sV false (WT P tb F S t x k ok)) (fun _ _ _ _ => Kl) (fun _ _ _ => Kl) (fun _ _ _ _ => Kl) (fun _ _ => Kl) (fun _ _ => Kl) (fun _ => Kl) (fun _ _ _ _ => Kl) (fun x i P tb F S => sV true (UI F x i)) fC (fun _ => Kl) (fun _ => Kl) (fun _ => Kl) (fun _ _ => Kl) (fun _ _ _ => Kl) (fun _ _ => Kl) op
section
variable {P : Program} {tb : TB} {F : FW} {S : SW} {op : Op} {b : Bool} {v : AW}
theorem Gz {o : Option AW} {b' : Bool} (h : sV b' o = some (b,v)) : b = b' ∧ o = some v := by
  cases o <;> cases h; exact ⟨rfl,rfl⟩
theorem OM {o o' : Option AW} (h : c7 o o' = some (b,v)) : (b = true ∧ o = some v) ∨ (b = false ∧ o = none ∧ o' = some v) := by
  cases o with
  | none => obtain ⟨h1,h2⟩ := Gz h; exact .inr ⟨h1,rfl,h2⟩
  | some _ => cases h; exact .inl ⟨rfl,rfl⟩
theorem Q4 (h : Zm op P tb F S = some (b,v)) : (b = true ∧ Jv P tb F op = some v) ∨ (b = false ∧ PR P tb F S op = some v) := by
  cases op with
  | load t x => obtain ⟨h1,h2⟩ := Gz h; exact .inr ⟨h1,h2⟩
  | lookup t x k ok => obtain ⟨h1,h2⟩ := Gz h; exact .inr ⟨h1,h2⟩
  | binOp op T y z T' =>
    change bJ op T y z T' P tb F S = some (b,v) at h
    unfold bJ at h
    cases z with
    | const u =>
      cases hu : S3 u with
      | true =>
        simp only [hu] at h
        obtain ⟨h1,h2⟩ := Gz h
        rw [Q9 hu]
        exact .inl ⟨h1,h2⟩
      | false =>
        simp only [hu] at h
        obtain ⟨h1,h2⟩ := Gz h
        refine .inl ⟨h1, ?_⟩
        cases u <;> first | exact h2 | cases hu
    | _ => obtain ⟨h1,h2⟩ := Gz h; exact .inl ⟨h1,h2⟩
  | slice t x lo hi mx =>
    rcases OM h with ⟨h1,h2⟩ | ⟨h1,h2,h3⟩
    · exact .inl ⟨h1,h2⟩
    · cases mx with
      | none => exact .inr ⟨h1,h3⟩
      | some _ => cases h3
  | call c =>
    rcases OM h with ⟨h1,h2⟩ | ⟨h1,h2,h3⟩
    · exact .inl ⟨h1,h2⟩
    · exact .inr ⟨h1,h3⟩
  | _ => first | (cases h; done) | (obtain ⟨h1,h2⟩ := Gz h; exact .inl ⟨h1,h2⟩)
end
section
variable (P : Program) (tb : TB) (cf : Cf)
def Y5 (F : FW) (ops : List Oper) (o : Oper) : Option Bool := match o.guard with
  | none => some true
  | some (i,t) => match (ops[i]?).bind (·.dst) with
    | some d => match MG F d with
      | some (.one (.bool b)) => some (b == t)
      | some .und => some false
      | _ => none
    | none => none
def Uw (n : Nat) (dst : Option Tmp) (v : Option AW) (F : FW) : Option FW := match dst with
  | none => some F
  | some d => match Nat.blt d n with | true => some (Gf d (v.getD .und) F) | false => none
end
section
variable {P : Program} {tb : TB} {cf : Cf} {B : Bs} {e : En} {n : Nat} {ds : List Deferred} {F F' : FW} {S S' : SW} {a : Act} {w : World} {op : Op} {x : IG} {ops : List Oper}
theorem Ir (hF : FG e n ds F a) {o : Oper} {t : Bool} (h : Y5 F ops o = some t) : Region.wanted o (yielded ops.toArray a.tmps) = t := by
  unfold Y5 at h
  split at h
  · rename_i hg; cases h; exact Ba hg
  · rename_i i t' hg
    split at h
    · rename_i d hd
      split at h
      · rename_i b hl
        cases h
        obtain ⟨u,du,ou⟩ := JA hF.1 hl
        cases du
        exact FN hF.2 rfl hg hd ou
      · rename_i hl
        cases h
        obtain ⟨u,du,ou⟩ := JA hF.1 hl
        cases du
        exact I7 hF.2 rfl hg hd ou
      · cases h
    · cases h
theorem Hb (hF : FG e n ds F a) {dst : Option Tmp} {v : Option AW} {u : Value} (h : Uw n dst v F = some F') (hv : (v.getD .und).dn e = some u) : FG e n ds F' (a.put dst u) := by
  unfold Uw at h
  split at h
  · cases h; exact hF
  · split at h
    · rename_i hd; cases h; exact hF.put hd hv
    · cases h
theorem Q0 (hb : TbO P tb) (hc : P1 P B cf) (hF : FG e n ds F a) (hS : Bx B e S w) {o : Oper} (h : IL P tb cf F S o.op = some x) (hp : Uw n o.dst x.1 F = some F') {next : Act → World → Prop} {Q : Exit → Act → World → Prop}
    (k : ∀ e' a' w',Xt e e' → FG e' n ds F' a' → Bx B e' x.2 w' → next a' w') : o.wp P a w next Q := by
  obtain ⟨dst,op,ty,pos,aft,g⟩ := o
  have val : ∀ {e' u w'},Xt e e' → Bx B e' x.2 w' → (x.1.getD .und).dn e' = some u → (execOp a.eval ⟨dst,op,ty,pos,aft,g⟩).run P w = .ok (.value u) w' → (⟨dst,op,ty,pos,aft,g⟩ : Oper).wp P a w next Q := fun {e' u w'} h1 h2 h3 h4 => by
    unfold Oper.wp
    rw [h4]
    exact k e' _ w' h1 (Hb (hF.mono h1) hp h3) h2
  have out : XS P B op a e w x → (⟨dst,op,ty,pos,aft,g⟩ : Oper).wp P a w next Q := fun ⟨e',w',h1,h2,h3⟩ => by
    obtain ⟨r,S'⟩ := x
    cases r with
    | some v =>
      obtain ⟨u,h4,h5⟩ := h3
      exact val h1 h2 h4 (h5 dst ty pos aft g)
    | none =>
      unfold Oper.wp
      rw [show (execOp a.eval ⟨dst,op,ty,pos,aft,g⟩).run P w = .ok .skip w' from h3 dst ty pos aft g]
      exact k e' _ w' h1 (Hb (hF.mono h1) hp rfl) h2
  have call : ∀ {f : FuncId} {args : List AW} {us : List Value},(cf f args S).map (fun r => ((some r.1 : Option AW),r.2)) = some x → EO e args = some us → (Has P f → (execOp a.eval ⟨dst,op,ty,pos,aft,g⟩).run P w = .ok (.enter f us.toArray) w) → (⟨dst,op,ty,pos,aft,g⟩ : Oper).wp P a w next Q := fun {f args us} h1 h2 h3 => by
    obtain ⟨r,h4,rfl⟩ := map_some h1
    obtain ⟨hh,hcall⟩ := hc _ _ _ _ _ h4
    unfold Oper.wp
    rw [h3 hh]
    refine (hcall e w us h2 hS).mono fun en w' ⟨e',u,he,g1,g2,g3⟩ => ?_
    subst he
    exact k e' _ w' g1 (Hb (hF.mono g1) hp g2) g3
  unfold IL at h
  split at h
  · rename_i v hv
    cases h
    obtain ⟨u,h1,h2⟩ := S6 hb hF hv
    exact val Xt.rfl' hS h1 (h2 dst ty pos aft g w)
  · split at h
    · rename_i v hv
      cases h
      obtain ⟨u,h1,h2⟩ := Px hb hF hS hv
      exact val Xt.rfl' hS h1 (h2 dst ty pos aft g)
    · split at h
      · rename_i hv
        cases h
        exact out (Wr hb hF hS hv)
      · split at h
        · rename_i hv
          cases h
          exact out (Vh hb hF hS hv)
        · split at h
          · rename_i fo args ts hop
            have hop : op = _ := hop
            subst hop
            unfold Zu at h
            split at h
            · rename_i f l h1 h2
              obtain ⟨u,d1,o1,a1⟩ := hF.op h1
              obtain ⟨us,d2,o2⟩ := hF.ops h2
              cases d1
              refine call h d2 fun hh => ?_
              have := JI (P := P) (dst := dst) (ty := ty) (pos := pos) (aft := aft) (g := g) (ts := ts) hF.2 hh (show WA (toF e F) fo args.toList = some (f,us) by unfold WA; rw [o1,o2]; simp) w
              rwa [Array.toArray_toList] at this
            · rename_i f gs ps l h1 h2
              split at h
              · rename_i g' p' h3 h4
                obtain ⟨u,d1,o1,a1⟩ := hF.op h1
                obtain ⟨us,d2,o2⟩ := hF.ops h2
                obtain ⟨u1,k1,d1⟩ := bind_some' d1
                obtain ⟨u2,k2,rfl⟩ := map_some d1
                refine call h (LH (LH (Nn h3 k1) d2) (Nn h4 k2)) fun hh => ?_
                have := JI (P := P) (dst := dst) (ty := ty) (pos := pos) (aft := aft) (g := g) (ts := ts) hF.2 hh (show WA (toF e F) fo args.toList = some (f,u1 ++ us ++ u2) by unfold WA; rw [o1,o2]) w
                rwa [Array.toArray_toList] at this
              · cases h
            · cases h
          · cases h
inductive PX where | done | st (k : Nat) (R : List Nat) (t : Option Nat) (p : PX) | alt (k : Nat) (p m : PX) | stop
def PX.pt : PX → PT
  | .done => .done
  | .st k _ _ p => .st k p.pt
  | .alt k p m => .alt k p.pt m.pt
  | .stop => .stop
abbrev OO := Option Nat × FW × Op × AW
def CX (N : List (Option Nat × (World → Prop))) : Array Bool → World → Prop := fun L w => ∀ p ∈ N,GS L p.1 = false → p.2 w
theorem Ws {N : List (Option Nat × (World → Prop))} {k : Nat} (h : ∀ p ∈ N,p.1 ≠ some k) (L : Array Bool) (w : World) : CX N (L.setIfInBounds k true) w ↔ CX N L w := by
  have hr : ∀ p ∈ N,GS (L.setIfInBounds k true) p.1 = GS L p.1 := fun p hp => OR fun j hj hk => h p hp (by rw [hj,hk])
  exact ⟨fun hh p hp h1 => hh p hp (by rw [hr p hp]; exact h1),fun hh p hp h1 => hh p hp (by rw [← hr p hp]; exact h1)⟩
end
end
end Go.Proofs.YtbiekjhlijdjbaaGreat
