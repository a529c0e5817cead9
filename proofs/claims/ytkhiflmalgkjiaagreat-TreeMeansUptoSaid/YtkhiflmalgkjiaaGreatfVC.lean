/- The walk over plain steps, computed: one lemma for many steps. Conditions: none. -/
import Derived.Test.YtkhiflmalgkjiaaGreatfOC
set_option linter.unusedVariables false
set_option linter.unusedSimpArgs false
open Go Go.RowKit
namespace Go.Proofs.YtkhiflmalgkjiaaGreat
def ki : IntKind → Nat
  | .i8 => 0 | .i16 => 1 | .i32 => 2 | .i64 => 3 | .u8 => 4 | .u16 => 5 | .u32 => 6 | .u64 => 7
theorem Me {k j : IntKind} (h : Nat.beq (ki k) (ki j) = true) : k = j := by
  have := ze h
  cases k <;> cases j <;> first | rfl | (exact absurd this (by decide))
def uI (k : IntKind) (p q : Int) : BinOp → Option Value
  | .add => some (.int k (k.wrap (p + q)))
  | .sub => some (.int k (k.wrap (p - q)))
  | .mul => some (.int k (k.wrap (p * q)))
  | .lss => some (.bool (decide (p < q)))
  | .leq => some (.bool (decide (p ≤ q)))
  | .gtr => some (.bool (decide (q < p)))
  | .geq => some (.bool (decide (q ≤ p)))
  | .eql => some (.bool (decide (p = q)))
  | .neq => some (.bool (decide (p ≠ q)))
  | .and => some (.int k (U9 k p q))
  | .or => some (.int k (yZ k p q))
  | .xor => some (.int k (KV k p q))
  | .andNot => some (.int k (Ra k p q))
  | _ => none
def cI : List Value → Nat → Option Value
  | [],_ => none
  | v :: _,0 => some v
  | _ :: l,n + 1 => cI l n
theorem Vt : ∀ {l : List Value} {n : Nat} {v : Value},cI l n = some v → l[n]? = some v
  | [],_,_,h => by cases h
  | v :: l,0,_,h => by simpa [cI] using h
  | _ :: l,n + 1,_,h => by simpa using Vt (l := l) h
abbrev Tt := List (Nat × List (Nat × Bool × Nat)) × List (Nat × Bool × Nat)
def qG : List (Nat × Bool × Nat) → Nat → Option (Nat × Bool × Nat)
  | [],_ => none
  | x :: _,0 => some x
  | _ :: l,n + 1 => qG l n
def TX : List (Nat × Bool × Nat) → Nat → Option (Bool × Nat)
  | [],_ => none
  | (t,x) :: r,u => match Nat.beq t u with
    | true => some x
    | false => TX r u
def Vd : List (Nat × List (Nat × Bool × Nat)) → Nat → Nat → Option (Nat × Bool × Nat)
  | [],_,_ => none
  | (t,l) :: r,u,i => match Nat.beq t u with
    | true => qG l i
    | false => Vd r u i
def uA (P : Program) (t : TypeId) (agg : Bool) (sz : Nat) : Bool := (match (P.underlying t).map (fun d => match d with | .struct _ => true | .array _ _ => true | _ => false) with | some b => b == agg | none => false) && (match (P.info? t).map (·.size) with | some s => Nat.beq s sz | none => false)
theorem iM {P : Program} {t : TypeId} {agg : Bool} {sz : Nat} (h : uA P t agg sz = true) : Ty P t agg sz := by
  unfold uA at h
  rw [zg] at h
  obtain ⟨h1,h2⟩ := h
  constructor
  · split at h1
    · rename_i b e
      refine Eq.trans e ?_
      rw [show b = agg from by simpa using h1]
    · cases h1
  · split at h2
    · rename_i s e; rw [e,ze h2]
    · cases h2
def uT (P : Program) : List Field → List (Nat × Bool × Nat) → Bool
  | [],[] => true
  | f :: fs,(o,agg,sz) :: l => Nat.beq f.offset o && (uA P f.type agg sz && uT P fs l)
  | _,_ => false
theorem dN {P : Program} : ∀ {fs : List Field} {l : List (Nat × Bool × Nat)} {i o sz : Nat} {agg : Bool},uT P fs l = true → qG l i = some (o,agg,sz) → ∃ f,fs[i]? = some f ∧ f.offset = o ∧ Ty P f.type agg sz
  | [],[],_,_,_,_,_,h => by cases h
  | [],_ :: _,_,_,_,_,h,_ => by cases h
  | _ :: _,[],_,_,_,_,h,_ => by cases h
  | f :: fs,(o',agg',sz') :: l,0,o,sz,agg,h,e => by
    unfold uT at h
    simp only [zg] at h
    cases e
    exact ⟨f,rfl,ze h.1,iM h.2.1⟩
  | f :: fs,(o',agg',sz') :: l,i + 1,o,sz,agg,h,e => by
    unfold uT at h
    simp only [zg] at h
    exact dN (fs := fs) (l := l) h.2.2 e
def zJ (P : Program) (tt : List (Nat × List (Nat × Bool × Nat))) : Bool := tt.all fun p => match P.underlying p.1 with | some (.struct fs) => uT P fs.toList p.2 | _ => false
structure TtOk (P : Program) (tt : Tt) : Prop where
  h : zJ P tt.1 = true
  g : (tt.2.all fun p => uA P p.1 p.2.1 p.2.2) = true
theorem U6 {P : Program} : ∀ {l : List (Nat × Bool × Nat)} {t sz : Nat} {agg : Bool},(l.all fun p => uA P p.1 p.2.1 p.2.2) = true → TX l t = some (agg,sz) → Ty P t agg sz
  | [],_,_,_,_,e => by cases e
  | (u,x) :: r,t,sz,agg,h,e => by
    rw [List.all_cons,zg] at h
    unfold TX at e
    split at e
    · rename_i hu
      obtain rfl := ze hu
      cases e
      exact iM h.1
    · exact U6 h.2 e
theorem kX {P : Program} {tt : List (Nat × List (Nat × Bool × Nat))} {t i o sz : Nat} {agg : Bool} (h : zJ P tt = true) (e : Vd tt t i = some (o,agg,sz)) : ∃ fs f,P.underlying t = some (.struct fs) ∧ fs[i]? = some f ∧ f.offset = o ∧ Ty P f.type agg sz := by
  unfold zJ at h
  induction tt with
  | nil => cases e
  | cons p r ih =>
    obtain ⟨u,l⟩ := p
    rw [List.all_cons,zg] at h
    unfold Vd at e
    split at e
    · rename_i hu
      obtain rfl := ze hu
      have h1 := h.1
      simp only at h1
      split at h1
      · rename_i fs hf
        obtain ⟨f,g1,g2,g3⟩ := dN h1 e
        exact ⟨fs,f,hf,by rw [← Array.getElem?_toList]; exact g1,g2,g3⟩
      · cases h1
    · exact ih h.2 e
theorem TtOk.at {P : Program} {tt : Tt} {t i o sz : Nat} {agg : Bool} (T : TtOk P tt) (e : Vd tt.1 t i = some (o,agg,sz)) : ∃ fs f,P.underlying t = some (.struct fs) ∧ fs[i]? = some f ∧ f.offset = o ∧ Ty P f.type agg sz := kX T.h e
def zC : Nat → List Value → Option (List Value)
  | 0,_ => some []
  | _ + 1,[] => none
  | n + 1,v :: l => match zC n l with
    | some r => some (v :: r)
    | none => none
theorem iT : ∀ {n : Nat} {l r : List Value},zC n l = some r → n ≤ l.length ∧ l.take n = r
  | 0,_,_,h => by cases h; exact ⟨Nat.zero_le _,rfl⟩
  | n + 1,[],_,h => by cases h
  | n + 1,v :: l,r,h => by
    unfold zC at h
    split at h
    · rename_i r' e
      cases h
      obtain ⟨h1,h2⟩ := iT e
      exact ⟨by simpa using h1,by rw [List.take_succ_cons,h2]⟩
    · cases h
def drV : Nat → List Value → List Value
  | 0,l => l
  | _ + 1,[] => []
  | n + 1,_ :: l => drV n l
theorem f6 : ∀ (n : Nat) (l : List Value),drV n l = l.drop n
  | 0,_ => rfl
  | n + 1,[] => rfl
  | n + 1,_ :: l => f6 n l
def y5 (agg : Bool) (sz : Nat) (cs : List Value) (o : Nat) : Option Value := match agg with
  | false => cI cs o
  | true => match zC sz (drV o cs) with
    | some l => some (.agg ⟨l⟩)
    | none => none
theorem d9 {agg : Bool} {sz o : Nat} {cs : List Value} {v : Value} (h0 : 0 < sz) (h : y5 agg sz cs o = some v) : RP agg sz cs o = some v := by
  unfold y5 at h
  split at h
  · exact Vt h
  · split at h
    · rename_i l e
      obtain ⟨h1,h2⟩ := iT e
      rw [f6] at h1 h2
      rw [List.length_drop] at h1
      cases h
      unfold RP
      rw [if_pos rfl,if_pos (by omega),h2]
    · cases h
def n7 (tt : Tt) (F : List (Nat × Value)) : Op → Option Value
  | .move x => C7 F x
  | .assign x => C7 F x
  | .pick c x y => match C7 F c with
    | some (.bool true) => C7 F x
    | some (.bool false) => C7 F y
    | _ => none
  | .binOp op _ x y _ => match C7 F x with
    | some (.int k p) => match C7 F y with
      | some (.int j q) => match Nat.beq (ki k) (ki j) with
        | true => uI k p q op
        | false => none
      | _ => none
    | _ => none
  | .unOp .not _ x => match C7 F x with
    | some (.bool t) => some (.bool (!t))
    | _ => none
  | .extract x i => match C7 F x with
    | some (.tuple ⟨l⟩) => cI l i
    | _ => none
  | .field t x i => match C7 F x with
    | some (.agg ⟨l⟩) => match Vd tt.1 t i with
      | some (o,agg,sz + 1) => y5 agg (sz + 1) l o
      | _ => none
    | _ => none
  | .fieldAddr t x i => match C7 F x with
    | some (.pointer (some ⟨b,off,none⟩)) => match Vd tt.1 t i with
      | some (o,_,_ + 1) => some (.pointer (some ⟨b,off + o,none⟩))
      | _ => none
    | _ => none
  | _ => none
section
variable {rl : Option Nat} {P : Program} {B : Bs} {M : CU} {Z : List It} {n : Nat} {ds : List Deferred} {F : List (Nat × Value)} {a : Act} {w : World}
theorem sV {tt : Tt} (T : TtOk P tt) {dst : Option Tmp} {ty : TypeId} {pos : String} {aft : Array Edge} {g : Option (Nat × Bool)} {op : Op} {v : Value} (hF : Fr n ds F a) (h : n7 tt F op = some v) : Yx P B M Z a ⟨dst,op,ty,pos,aft,g⟩ v := by
  cases op with
  | move x => exact Gr hF h
  | assign x => exact Px hF h
  | pick c x y =>
    simp only [n7] at h
    split at h
    · rename_i hc; exact Tu hF hc rfl h
    · rename_i hc; exact RR hF hc rfl h
    · cases h
  | binOp op T x y T' =>
    simp only [n7] at h
    split at h
    · rename_i k p hx
      split at h
      · rename_i j q hy
        split at h
        · rename_i hk
          obtain rfl := Me hk
          cases op <;> simp only [uI] at h <;> first | (cases h; fail) | skip
          all_goals first | (cases h; done) | (obtain rfl := Option.some.inj h)
          all_goals first | exact gF hF hx hy rfl | exact YA hF hx hy rfl | exact nG hF hx hy rfl | exact eI hF hx hy | exact oB hF hx hy | exact gR hF hx hy | exact oA hF hx hy | exact nF hF hx hy | exact nP hF hx hy | exact oF hF hx hy | exact vH hF hx hy | exact nA hF hx hy | exact Wz hF hx hy
        · cases h
      · cases h
    · cases h
  | unOp op T x =>
    cases op <;> simp only [n7] at h <;> first | (cases h; done) | skip
    split at h
    · rename_i hx
      obtain rfl := Option.some.inj h
      exact nX hF hx
    · cases h
  | extract x i =>
    simp only [n7] at h
    split at h
    · rename_i l hx
      exact Hy (vs := l) hF hx (Vt h)
    · cases h
  | field t x i =>
    simp only [n7] at h
    split at h
    · rename_i l hx
      split at h
      · rename_i o agg sz e
        obtain ⟨fs,f,g1,g2,g3,g4⟩ := T.at e
        exact Y9 (cs := l) g1 g2 rfl g3 g4 hF hx (d9 (Nat.succ_pos _) h)
      · cases h
    · cases h
  | fieldAddr t x i =>
    simp only [n7] at h
    split at h
    · rename_i b off hx
      split at h
      · rename_i o agg sz e
        obtain ⟨fs,f,g1,g2,g3,g4⟩ := T.at e
        cases h
        exact Cd g1 g2 g3 rfl g4 hF hx _ rfl
      · cases h
    · cases h
  | _ => cases h
def mP : CU → Nat → Option (Nat × List Value)
  | [],_ => none
  | x :: _,0 => some x
  | _ :: l,n + 1 => mP l n
theorem Zt : ∀ {l : CU} {n : Nat} {v : Nat × List Value},mP l n = some v → l[n]? = some v
  | [],_,_,h => by cases h
  | v :: l,0,_,h => by simpa [mP] using h
  | _ :: l,n + 1,_,h => by simpa using Zt (l := l) h
def ev2 (tt : Tt) (M : CU) (F : List (Nat × Value)) (i : Nat) : Op → Option (Nat × Nat × Value)
  | .load t x => match C7 F x with
    | some (.pointer (some ⟨b,off,none⟩)) => match mP M i with
      | some (b',cs) => match TX tt.2 t with
        | some (agg,sz + 1) => match y5 agg (sz + 1) cs off with
          | some v => some (b',b,v)
          | none => none
        | _ => none
      | none => none
    | _ => none
  | _ => none
theorem qA {tt : Tt} (T : TtOk P tt) {dst : Option Tmp} {ty : TypeId} {pos : String} {aft : Array Edge} {g : Option (Nat × Bool)} {op : Op} {i b b' : Nat} {v : Value} (hF : Fr n ds F a) (h : ev2 tt M F i op = some (b',b,v)) (e : b' = b) : Yx P B M Z a ⟨dst,op,ty,pos,aft,g⟩ v := by
  cases op with
  | load t x =>
    simp only [ev2] at h
    split at h
    · rename_i b1 off hx
      split at h
      · rename_i b2 cs hM
        split at h
        · rename_i agg sz hT
          split at h
          · rename_i v' hv
            cases h
            subst e
            exact Ho i hF hx (Zt hM) (U6 T.g hT) (d9 (Nat.succ_pos _) hv)
          · cases h
        · cases h
      · cases h
    · cases h
  | _ => cases h
theorem ai {α : Sort _} {a : α} {p : Prop} (h : p) : a = a ∧ p := ⟨rfl,h⟩
abbrev Gl (P : Program) (n : Nat) (ds : List Deferred) (B : Bs) (M : CU) (Z : List It) (ops : Array Oper) (Q : Exit → Act → World → Prop) (F : List (Nat × Value)) (l : List Oper) : Prop := ∀ a w,Fr n ds F a → Stw B M Z w → wpList P ops Q l a w
abbrev Gc (rl : Option Nat) (P : Program) (n : Nat) (ds : List Deferred) (B : Bs) (M : CU) (Z : List It) (Q : Exit → Act → World → Prop) (F : List (Nat × Value)) (c : Code) : Prop := ∀ a w,Fr n ds F a → Stw B M Z w → c.wr rl P Q a w
abbrev Gx (n : Nat) (ds : List Deferred) (B : Bs) (M : CU) (Z : List It) (Q : Exit → Act → World → Prop) (e : Exit) (F : List (Nat × Value)) : Prop := ∀ a w,Fr n ds F a → Stw B M Z w → Q e a w
def Wb : List Oper → Nat → Option Nat
  | [],_ => none
  | o :: _,0 => o.dst
  | _ :: l,i + 1 => Wb l i
theorem OI : ∀ {l : List Oper} {i d : Nat},Wb l i = some d → (l[i]?).bind (·.dst) = some d
  | [],_,_,h => by cases h
  | o :: l,0,_,h => by simpa [Wb] using h
  | _ :: l,i + 1,_,h => by simpa using OI (l := l) h
def wnt (l0 : List Oper) (F : List (Nat × Value)) : Option (Nat × Bool) → Option Bool
  | none => some true
  | some (i,t) => match Wb l0 i with
    | some d => match lk F d with
      | some (.bool t') => some (match t',t with | true,true => true | false,false => true | true,false => false | false,true => false)
      | some (.tuple ⟨[]⟩) => some false
      | _ => none
    | none => none
theorem XO {l0 : List Oper} {o : Oper} {b : Bool} (hF : Fr n ds F a) (h : wnt l0 F o.guard = some b) : Region.wanted o (yielded l0.toArray a.tmps) = b := by
  cases hg : o.guard with
  | none => rw [hg] at h; cases h; exact BN hg
  | some p =>
    obtain ⟨i,t⟩ := p
    rw [hg] at h
    unfold wnt at h
    split at h
    · rename_i he; cases he
    · rename_i i' t' he
      obtain ⟨e1,e2⟩ := Prod.mk.inj (Option.some.inj he)
      subst e1 e2
      split at h
      · rename_i d hd
        split at h
        · rename_i t' hk
          rw [Ke hF rfl hg (OI hd) hk, ← Option.some.inj h]
          cases t' <;> cases t <;> rfl
        · rename_i hk
          rw [← Option.some.inj h]
          exact PD hF rfl hg (OI hd) hk
        · cases h
      · cases h
def vL (tt : Tt) (P : Program) (n : Nat) (ds : List Deferred) (B : Bs) (M : CU) (Z : List It) (l0 : List Oper) (Q : Exit → Act → World → Prop) (K : Nat → List Nat → List (Nat × Value) → Prop) : List Oper → Nat → List Nat → List (Nat × Value) → Prop
  | l,0,_,F => Gl P n ds B M Z l0.toArray Q F l
  | [],k + 1,hs,F => K k hs F
  | ⟨some d, op, t, pos, aft, g⟩ :: r, k + 1, hs, F => match Nat.blt d n with
    | true => match wnt l0 F g with
      | some true => match n7 tt F op with
        | some v => vL tt P n ds B M Z l0 Q K r k hs ((d,v) :: F)
        | none => match hs with
          | i :: hs => match ev2 tt M F i op with
            | some (b',b,v) => b' = b ∧ vL tt P n ds B M Z l0 Q K r k hs ((d,v) :: F)
            | none => Gl P n ds B M Z l0.toArray Q F (⟨some d,op,t,pos,aft,g⟩ :: r)
          | [] => Gl P n ds B M Z l0.toArray Q F (⟨some d,op,t,pos,aft,g⟩ :: r)
      | some false => vL tt P n ds B M Z l0 Q K r k hs ((d,undef) :: F)
      | none => Gl P n ds B M Z l0.toArray Q F (⟨some d,op,t,pos,aft,g⟩ :: r)
    | false => Gl P n ds B M Z l0.toArray Q F (⟨some d,op,t,pos,aft,g⟩ :: r)
  | o :: r,_ + 1,_,F => Gl P n ds B M Z l0.toArray Q F (o :: r)
theorem UM {tt : Tt} (T : TtOk P tt) {l0 : List Oper} {Q : Exit → Act → World → Prop} {K : Nat → List Nat → List (Nat × Value) → Prop} (hK : ∀ k hs F,K k hs F → Gx n ds B M Z Q .normal F) : ∀ (l : List Oper) (k : Nat) (hs : List Nat) (F : List (Nat × Value)),vL tt P n ds B M Z l0 Q K l k hs F → Gl P n ds B M Z l0.toArray Q F l
  | [],0,_,F,h => h
  | o :: r,0,_,F,h => by
    obtain ⟨dst,op,t,pos,aft,g⟩ := o
    cases dst <;> exact h
  | [],k + 1,hs,F,h => fun a w hF hW => Ig (hK k hs F h a w hF hW)
  | ⟨none,op,t,pos,aft,g⟩ :: r,k + 1,_,F,h => h
  | ⟨some d, op, t, pos, aft, g⟩ :: r, k + 1, hs, F, h => by
    unfold vL at h
    split at h
    · rename_i hn
      split at h
      · rename_i hw
        split at h
        · rename_i v hv
          exact fun a w hF hW => p6 hF hW (XO hF hw) rfl (zf hn) (sV T hF hv).q fun a w hF hW => UM T hK r k _ _ h a w hF hW
        · split at h
          · split at h
            · rename_i v hv
              exact fun a w hF hW => p6 hF hW (XO hF hw) rfl (zf hn) (qA T hF hv h.1).q fun a w hF hW => UM T hK r k _ _ h.2 a w hF hW
            · exact h
          · exact h
      · rename_i hw
        exact fun a w hF hW => VJ hF (XO hF hw) rfl hn fun a hF => UM T hK r k _ _ h a w hF hW
      · exact h
    · exact h
def pE (X : Nat → Option (Nat → List Nat → List (Nat × Value) → Prop)) (id : Nat) (K : Nat → List Nat → List (Nat × Value) → Prop) (j : Nat) : Option (Nat → List Nat → List (Nat × Value) → Prop) := match Nat.beq j id with | true => some K | false => X j
def vC (tt : Tt) (rl : Option Nat) (P : Program) (n : Nat) (ds : List Deferred) (B : Bs) (M : CU) (Z : List It) : Code → (Exit → Act → World → Prop) → (Nat → List Nat → List (Nat × Value) → Prop) → (Nat → Option (Nat → List Nat → List (Nat × Value) → Prop)) → Nat → List Nat → List (Nat × Value) → Prop
  | c,Q,_,_,0,_,F => Gc rl P n ds B M Z Q F c
  | .seq x y,Q,K,X,k + 1,hs,F => vC tt rl P n ds B M Z x (Exit.then (y.wr rl P Q) Q) (fun k hs F => match k with
      | 0 => Gx n ds B M Z (Exit.then (y.wr rl P Q) Q) .normal F
      | k + 1 => vC tt rl P n ds B M Z y Q K X k hs F) X k hs F
  | .region id ⟨l⟩ false,Q,K,_,k + 1,hs,F => match SI rl l with
    | true => vL tt P n ds B M Z l Q K l k hs F
    | false => Gc rl P n ds B M Z Q F (.region id ⟨l⟩ false)
  | .block id c,Q,K,X,k + 1,hs,F => vC tt rl P n ds B M Z c (Exit.inBlock id Q) K (pE X id K) k hs F
  | .skip,_,K,_,k + 1,hs,F => K k hs F
  | .label _,_,K,_,k + 1,hs,F => K k hs F
  | .exit id,Q,_,X,k + 1,hs,F => match X id with
    | some K => K k hs F
    | none => Gx n ds B M Z Q (.exit id) F
  | .cond c x y,Q,K,X,k + 1,hs,F => match C7 F c with
    | some (.bool true) => vC tt rl P n ds B M Z x Q K X k hs F
    | some (.bool false) => vC tt rl P n ds B M Z y Q K X k hs F
    | _ => Gc rl P n ds B M Z Q F (.cond c x y)
  | c,Q,_,_,_ + 1,_,F => Gc rl P n ds B M Z Q F c
theorem SE {tt : Tt} (T : TtOk P tt) : ∀ (c : Code) (Q : Exit → Act → World → Prop) (K : Nat → List Nat → List (Nat × Value) → Prop) (X : Nat → Option (Nat → List Nat → List (Nat × Value) → Prop)),(∀ k hs F,K k hs F → Gx n ds B M Z Q .normal F) → (∀ id K',X id = some K' → ∀ k hs F,K' k hs F → Gx n ds B M Z Q (.exit id) F) →
    ∀ (k : Nat) (hs : List Nat) (F : List (Nat × Value)),vC tt rl P n ds B M Z c Q K X k hs F → Gc rl P n ds B M Z Q F c
  | c,Q,K,X,hK,hX,0,hs,F,h => by unfold vC at h; exact h
  | .seq x y,Q,K,X,hK,hX,k + 1,hs,F,h => by
    unfold vC at h
    refine fun a w hF hW => Qm (SE T x (Exit.then (y.wr rl P Q) Q) _ X (fun k hs F h => ?_) (fun id K' e k hs F h a w hF hW => hX id K' e k hs F h a w hF hW) k hs F h a w hF hW)
    cases k with
    | zero => exact h
    | succ k => exact fun a w hF hW => BJ (SE T y Q K X hK hX k hs F h a w hF hW)
  | .region id ⟨l⟩ false,Q,K,X,hK,hX,k + 1,hs,F,h => by
    unfold vC at h
    split at h
    · rename_i hd
      exact fun a w hF hW => Lg (l := l) (UM T hK l k hs F h a w hF hW) hd
    · exact h
  | .region id ⟨l⟩ true,Q,K,X,hK,hX,k + 1,hs,F,h => h
  | .block id c,Q,K,X,hK,hX,k + 1,hs,F,h => by
    unfold vC at h
    refine fun a w hF hW => O0 (SE T c (Exit.inBlock id Q) K (pE X id K) (fun k hs F h a w hF hW => hK k hs F h a w hF hW) (fun j K' e k hs F h a w hF hW => by
      unfold pE at e
      split at e
      · rename_i hj
        obtain rfl := ze hj
        cases e
        exact Ha (hK k hs F h a w hF hW)
      · rename_i hj
        exact dZ hj (hX j K' e k hs F h a w hF hW)) k hs F h a w hF hW)
  | .skip,Q,K,X,hK,hX,k + 1,hs,F,h => by
    unfold vC at h
    exact fun a w hF hW => F9 (hK k hs F h a w hF hW)
  | .label _,Q,K,X,hK,hX,k + 1,hs,F,h => by
    unfold vC at h
    exact fun a w hF hW => W1 (hK k hs F h a w hF hW)
  | .exit id,Q,K,X,hK,hX,k + 1,hs,F,h => by
    unfold vC at h
    split at h
    · rename_i K' e
      exact fun a w hF hW => HW (hX id K' e k hs F h a w hF hW)
    · exact fun a w hF hW => HW (h a w hF hW)
  | .cond c x y,Q,K,X,hK,hX,k + 1,hs,F,h => by
    unfold vC at h
    split at h
    · rename_i hc
      exact fun a w hF hW => Lj hF hc (SE T x Q K X hK hX k hs F h a w hF hW)
    · rename_i hc
      exact fun a w hF hW => KW hF hc (SE T y Q K X hK hX k hs F h a w hF hW)
    · exact h
  | .loop _,Q,K,X,hK,hX,k + 1,hs,F,h => h
  | .rangeFunc _ _ _ _,Q,K,X,hK,hX,k + 1,hs,F,h => h
  | .scope _,Q,K,X,hK,hX,k + 1,hs,F,h => h
  | .goto _,Q,K,X,hK,hX,k + 1,hs,F,h => h
  | .ret,Q,K,X,hK,hX,k + 1,hs,F,h => h
  | .refuse _,Q,K,X,hK,hX,k + 1,hs,F,h => h
theorem bW {tt : Tt} (T : TtOk P tt) {c : Code} {Q : Exit → Act → World → Prop} (k : Nat) (hs : List Nat) (hF : Fr n ds F a) (hW : Stw B M Z w) (h : vC tt rl P n ds B M Z c Q (fun _ _ F => Gx n ds B M Z Q .normal F) (fun _ => none) k hs F) : c.wr rl P Q a w :=
  SE T c Q _ _ (fun _ _ _ h => h) (fun _ _ e => by cases e) k hs F h a w hF hW
theorem Abz {tt : Tt} (T : TtOk P tt) {c y : Code} {Q : Exit → Act → World → Prop} (k : Nat) (hs : List Nat) (hF : Fr n ds F a) (hW : Stw B M Z w) (h : vC tt rl P n ds B M Z c (Exit.then (y.wr rl P Q) Q) (fun k hs F => match k with
    | 0 => Gx n ds B M Z (Exit.then (y.wr rl P Q) Q) .normal F
    | k + 1 => vC tt rl P n ds B M Z y Q (fun _ _ F => Gx n ds B M Z Q .normal F) (fun _ => none) k hs F) (fun _ => none) k hs F) : c.wr rl P (Exit.then (y.wr rl P Q) Q) a w :=
  SE T c _ _ _ (fun k hs F h => by
    cases k with
    | zero => exact h
    | succ k => exact fun a w hF hW => bW T k hs hF hW h) (fun _ _ e => by cases e) k hs F h a w hF hW
theorem vnm {tt : Tt} (T : TtOk P tt) {c : Code} {Q Q' : Exit → Act → World → Prop} (k : Nat) (hs : List Nat) (hF : Fr n ds F a) (hW : Stw B M Z w) (h : vC tt rl P n ds B M Z c Q (fun _ _ F => Gx n ds B M Z Q .normal F) (fun _ => none) k hs F) : Exit.then (c.wr rl P Q) Q' .normal a w := bW T k hs hF hW h
theorem vlm {tt : Tt} (T : TtOk P tt) {l0 l : List Oper} {Q : Exit → Act → World → Prop} (k : Nat) (hs : List Nat) (hF : Fr n ds F a) (hW : Stw B M Z w) (h : vL tt P n ds B M Z l0 Q (fun _ _ F => Gx n ds B M Z Q .normal F) l k hs F) : wpList P l0.toArray Q l a w :=
  UM T (fun _ _ _ h => h) l k hs F h a w hF hW
theorem aN {tt : Tt} (T : TtOk P tt) {l0 l : List Oper} {y : Code} {Q : Exit → Act → World → Prop} (k : Nat) (hs : List Nat) (hF : Fr n ds F a) (hW : Stw B M Z w) (h : vL tt P n ds B M Z l0 (Exit.then (y.wr rl P Q) Q) (fun k hs F => match k with
    | 0 => Gx n ds B M Z (Exit.then (y.wr rl P Q) Q) .normal F
    | k + 1 => vC tt rl P n ds B M Z y Q (fun _ _ F => Gx n ds B M Z Q .normal F) (fun _ => none) k hs F) l k hs F) : wpList P l0.toArray (Exit.then (y.wr rl P Q) Q) l a w :=
  UM T (fun k hs F h => by
    cases k with
    | zero => exact h
    | succ k => exact fun a w hF hW => bW T k hs hF hW h) l k hs F h a w hF hW
theorem vc {tt : Tt} (T : TtOk P tt) {c : Code} {Q : Exit → Act → World → Prop} (k : Nat) (hF : Fr n ds F a) (hW : Stw B M Z w) (h : vC tt rl P n ds B M Z c Q (fun _ _ F => Gx n ds B M Z Q .normal F) (fun _ => none) k [] F) : c.wr rl P Q a w := bW T k [] hF hW h
theorem tN {tt : Tt} (T : TtOk P tt) {c y : Code} {Q : Exit → Act → World → Prop} (k : Nat) (hF : Fr n ds F a) (hW : Stw B M Z w) (h : vC tt rl P n ds B M Z c (Exit.then (y.wr rl P Q) Q) (fun k hs F => match k with
    | 0 => Gx n ds B M Z (Exit.then (y.wr rl P Q) Q) .normal F
    | k + 1 => vC tt rl P n ds B M Z y Q (fun _ _ F => Gx n ds B M Z Q .normal F) (fun _ => none) k hs F) (fun _ => none) k [] F) : c.wr rl P (Exit.then (y.wr rl P Q) Q) a w := Abz T k [] hF hW h
theorem vn {tt : Tt} (T : TtOk P tt) {c : Code} {Q Q' : Exit → Act → World → Prop} (k : Nat) (hF : Fr n ds F a) (hW : Stw B M Z w) (h : vC tt rl P n ds B M Z c Q (fun _ _ F => Gx n ds B M Z Q .normal F) (fun _ => none) k [] F) : Exit.then (c.wr rl P Q) Q' .normal a w := vnm T k [] hF hW h
theorem vl {tt : Tt} (T : TtOk P tt) {l0 l : List Oper} {Q : Exit → Act → World → Prop} (k : Nat) (hF : Fr n ds F a) (hW : Stw B M Z w) (h : vL tt P n ds B M Z l0 Q (fun _ _ F => Gx n ds B M Z Q .normal F) l k [] F) : wpList P l0.toArray Q l a w := vlm T k [] hF hW h
theorem LD {tt : Tt} (T : TtOk P tt) {l0 l : List Oper} {y : Code} {Q : Exit → Act → World → Prop} (k : Nat) (hF : Fr n ds F a) (hW : Stw B M Z w) (h : vL tt P n ds B M Z l0 (Exit.then (y.wr rl P Q) Q) (fun k hs F => match k with
    | 0 => Gx n ds B M Z (Exit.then (y.wr rl P Q) Q) .normal F
    | k + 1 => vC tt rl P n ds B M Z y Q (fun _ _ F => Gx n ds B M Z Q .normal F) (fun _ => none) k hs F) l k [] F) : wpList P l0.toArray (Exit.then (y.wr rl P Q) Q) l a w := aN T k [] hF hW h
theorem Mg {p : Prop} [Decidable p] {β : Type} {X Y r : β} {s : Nat} {x y : Code} {Q : Exit → Act → World → Prop} (hF : Fr n ds F a) (hc : lk F s = some (.bool (decide p))) (H : (if p then X else Y) = r) (ht : Fr n ds ((s,.bool true) :: F) a → X = r → x.wr rl P Q a w) (hf : Fr n ds ((s,.bool false) :: F) a → Y = r → y.wr rl P Q a w) : (Code.cond (.tmp s) x y).wr rl P Q a w := by
  by_cases h : p
  · rw [if_pos h] at H
    rw [decide_eq_true h] at hc
    exact Lj hF hc (ht (hF.sub fun k v e => by
      by_cases q : s = k
      · subst q; rw [CX] at e; rw [← e]; exact hc
      · rw [Dh q] at e; exact e) H)
  · rw [if_neg h] at H
    rw [decide_eq_false h] at hc
    exact KW hF hc (hf (hF.sub fun k v e => by
      by_cases q : s = k
      · subst q; rw [CX] at e; rw [← e]; exact hc
      · rw [Dh q] at e; exact e) H)
theorem Up {t : Bool} {β : Type} {X Y r : β} {s : Nat} {x y : Code} {Q : Exit → Act → World → Prop} (hF : Fr n ds F a) (hc : lk F s = some (.bool t)) (H : (if t = true then X else Y) = r) (ht : Fr n ds ((s,.bool true) :: F) a → X = r → x.wr rl P Q a w) (hf : Fr n ds ((s,.bool false) :: F) a → Y = r → y.wr rl P Q a w) : (Code.cond (.tmp s) x y).wr rl P Q a w :=
  Mg (p := t = true) hF (by rw [hc]; cases t <;> rfl) H ht hf
theorem kA {α : Type} {r : Rp α} {v : Value} {l : List α} (h : T9 B M Z r v l) (hW : Stw B M Z w) : Sl w (NX []) r v l := (h w hW).nx
theorem Lh {f : FuncId} {fn : Func} (hf : P.funcs[f]? = some fn) (hb : fn.body.isSome = true := by rfl) (hn : (fn.name == "runtime.NumGoroutine") = false := by decide) : Has P f := ⟨fun args w => Bf hf hb hn args w⟩
theorem RC {t : TypeId} {x y : Operand} {agg : Bool} {sz b off : Nat} {cs : List Value} {v : Value} {ops : Array Oper} {Q : Exit → Act → World → Prop} {rest : List Oper} {ty : TypeId} {pos : String} {aft : Array Edge} (i : Nat) (hF : Fr n ds F a) (hW : Stw B M Z w) (hx : C7 F x = some (.pointer (some ⟨b,off,none⟩))) (hy : C7 F y = some v) (hM : M[i]? = some (b,cs)) (T : Ty P t agg sz)
    (hsz : v.cells.toList.length = sz) (hl : Nat.ble (off + v.cells.toList.length) cs.length = true) (h1 : v.cells.toList.all (·.oneCell') = true)
    (k : ∀ w',Stw B (M.set i (b,Gv cs off v.cells.toList)) Z w' → wpList P ops Q rest a w') : wpList P ops Q (⟨none,.store t x y,ty,pos,aft,none⟩ :: rest) a w :=
  OE i hF hW hx hy hM T rfl hsz hl h1 rfl k
theorem Fr.ra {F' : List (Nat × Value)} (hF : Fr n ds F a) (h : (F'.map fun p => lk F p.1) = F'.map fun p => some p.2) : Fr n ds F' a := hF.sub fun k v e => by
  induction F' with
  | nil => cases e
  | cons p l ih =>
    obtain ⟨j,u⟩ := p
    simp only [zj,List.cons.injEq] at h
    by_cases q : j = k
    · subst q; rw [CX] at e; rw [← e]; exact h.1
    · rw [Dh q] at e; exact ih h.2 e
end
end Go.Proofs.YtkhiflmalgkjiaaGreat
