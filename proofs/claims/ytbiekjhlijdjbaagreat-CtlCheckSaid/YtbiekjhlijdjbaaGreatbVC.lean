/- The walk over plain steps, computed: one lemma for many steps. Conditions: none. -/
import Derived.Test.YtbiekjhlijdjbaaGreatbOC
set_option linter.unusedVariables false
set_option linter.unusedSimpArgs false
open Go Go.RowKit
namespace Go.Proofs.YtbiekjhlijdjbaaGreat
def ki : IntKind → Nat
  | .i8 => 0 | .i16 => 1 | .i32 => 2 | .i64 => 3 | .u8 => 4 | .u16 => 5 | .u32 => 6 | .u64 => 7
theorem Ij {k j : IntKind} (h : Nat.beq (ki k) (ki j) = true) : k = j := by
  have := zd h
  cases k <;> cases j <;> first | rfl | (exact absurd this (by decide))
def WJ (k : IntKind) (p q : Int) : BinOp → Option Value
  | .add => some (.int k (k.wrap (p + q)))
  | .sub => some (.int k (k.wrap (p - q)))
  | .mul => some (.int k (k.wrap (p * q)))
  | .lss => some (.bool (decide (p < q)))
  | .leq => some (.bool (decide (p ≤ q)))
  | .gtr => some (.bool (decide (q < p)))
  | .geq => some (.bool (decide (q ≤ p)))
  | .eql => some (.bool (decide (p = q)))
  | .neq => some (.bool (decide (p ≠ q)))
  | .and => some (.int k (LF k p q))
  | .or => some (.int k (Z7 k p q))
  | .xor => some (.int k (XL k p q))
  | .andNot => some (.int k (IY k p q))
  | _ => none
def Ss : List Value → Nat → Option Value
  | [],_ => none
  | v :: _,0 => some v
  | _ :: l,n + 1 => Ss l n
theorem Np : ∀ {l : List Value} {n : Nat} {v : Value},Ss l n = some v → l[n]? = some v
  | [],_,_,h => by cases h
  | v :: l,0,_,h => by simpa [Ss] using h
  | _ :: l,n + 1,_,h => by simpa using Np (l := l) h
abbrev Tt := List (Nat × List (Nat × Bool × Nat)) × List (Nat × Bool × Nat)
def Rz : List (Nat × Bool × Nat) → Nat → Option (Nat × Bool × Nat)
  | [],_ => none
  | x :: _,0 => some x
  | _ :: l,n + 1 => Rz l n
def VA : List (Nat × Bool × Nat) → Nat → Option (Bool × Nat)
  | [],_ => none
  | (t,x) :: r,u => match Nat.beq t u with
    | true => some x
    | false => VA r u
def R0 : List (Nat × List (Nat × Bool × Nat)) → Nat → Nat → Option (Nat × Bool × Nat)
  | [],_,_ => none
  | (t,l) :: r,u,i => match Nat.beq t u with
    | true => Rz l i
    | false => R0 r u i
def Zg (P : Program) (t : TypeId) (agg : Bool) (sz : Nat) : Bool := (match (P.underlying t).map (fun d => match d with | .struct _ => true | .array _ _ => true | _ => false) with | some b => b == agg | none => false) && (match (P.info? t).map (·.size) with | some s => Nat.beq s sz | none => false)
theorem Tu {P : Program} {t : TypeId} {agg : Bool} {sz : Nat} (h : Zg P t agg sz = true) : Ty P t agg sz := by
  unfold Zg at h
  rw [zf] at h
  obtain ⟨h1,h2⟩ := h
  constructor
  · split at h1
    · rename_i b e
      refine Eq.trans e ?_
      rw [show b = agg from by simpa using h1]
    · cases h1
  · split at h2
    · rename_i s e; rw [e,zd h2]
    · cases h2
def XT (P : Program) : List Field → List (Nat × Bool × Nat) → Bool
  | [],[] => true
  | f :: fs,(o,agg,sz) :: l => Nat.beq f.offset o && (Zg P f.type agg sz && XT P fs l)
  | _,_ => false
theorem Pn {P : Program} : ∀ {fs : List Field} {l : List (Nat × Bool × Nat)} {i o sz : Nat} {agg : Bool},XT P fs l = true → Rz l i = some (o,agg,sz) → ∃ f,fs[i]? = some f ∧ f.offset = o ∧ Ty P f.type agg sz
  | [],[],_,_,_,_,_,h => by cases h
  | [],_ :: _,_,_,_,_,h,_ => by cases h
  | _ :: _,[],_,_,_,_,h,_ => by cases h
  | f :: fs,(o',agg',sz') :: l,0,o,sz,agg,h,e => by
    unfold XT at h
    simp only [zf] at h
    cases e
    exact ⟨f,rfl,zd h.1,Tu h.2.1⟩
  | f :: fs,(o',agg',sz') :: l,i + 1,o,sz,agg,h,e => by
    unfold XT at h
    simp only [zf] at h
    exact Pn (fs := fs) (l := l) h.2.2 e
def dK (P : Program) (tt : List (Nat × List (Nat × Bool × Nat))) : Bool := tt.all fun p => match P.underlying p.1 with | some (.struct fs) => XT P fs.toList p.2 | _ => false
structure TtOk (P : Program) (tt : Tt) : Prop where
  h : dK P tt.1 = true
  g : (tt.2.all fun p => Zg P p.1 p.2.1 p.2.2) = true
theorem Qy {P : Program} : ∀ {l : List (Nat × Bool × Nat)} {t sz : Nat} {agg : Bool},(l.all fun p => Zg P p.1 p.2.1 p.2.2) = true → VA l t = some (agg,sz) → Ty P t agg sz
  | [],_,_,_,_,e => by cases e
  | (u,x) :: r,t,sz,agg,h,e => by
    rw [List.all_cons,zf] at h
    unfold VA at e
    split at e
    · rename_i hu
      obtain rfl := zd hu
      cases e
      exact Tu h.1
    · exact Qy h.2 e
theorem UU {P : Program} {tt : List (Nat × List (Nat × Bool × Nat))} {t i o sz : Nat} {agg : Bool} (h : dK P tt = true) (e : R0 tt t i = some (o,agg,sz)) : ∃ fs f,P.underlying t = some (.struct fs) ∧ fs[i]? = some f ∧ f.offset = o ∧ Ty P f.type agg sz := by
  unfold dK at h
  induction tt with
  | nil => cases e
  | cons p r ih =>
    obtain ⟨u,l⟩ := p
    rw [List.all_cons,zf] at h
    unfold R0 at e
    split at e
    · rename_i hu
      obtain rfl := zd hu
      have h1 := h.1
      simp only at h1
      split at h1
      · rename_i fs hf
        obtain ⟨f,g1,g2,g3⟩ := Pn h1 e
        exact ⟨fs,f,hf,by rw [← Array.getElem?_toList]; exact g1,g2,g3⟩
      · cases h1
    · exact ih h.2 e
theorem TtOk.at {P : Program} {tt : Tt} {t i o sz : Nat} {agg : Bool} (T : TtOk P tt) (e : R0 tt.1 t i = some (o,agg,sz)) : ∃ fs f,P.underlying t = some (.struct fs) ∧ fs[i]? = some f ∧ f.offset = o ∧ Ty P f.type agg sz := UU T.h e
def ZB : Nat → List Value → Option (List Value)
  | 0,_ => some []
  | _ + 1,[] => none
  | n + 1,v :: l => match ZB n l with
    | some r => some (v :: r)
    | none => none
theorem Sx : ∀ {n : Nat} {l r : List Value},ZB n l = some r → n ≤ l.length ∧ l.take n = r
  | 0,_,_,h => by cases h; exact ⟨Nat.zero_le _,rfl⟩
  | n + 1,[],_,h => by cases h
  | n + 1,v :: l,r,h => by
    unfold ZB at h
    split at h
    · rename_i r' e
      cases h
      obtain ⟨h1,h2⟩ := Sx e
      exact ⟨by simpa using h1,by rw [List.take_succ_cons,h2]⟩
    · cases h
def dR : Nat → List Value → List Value
  | 0,l => l
  | _ + 1,[] => []
  | n + 1,_ :: l => dR n l
theorem SC : ∀ (n : Nat) (l : List Value),dR n l = l.drop n
  | 0,_ => rfl
  | n + 1,[] => rfl
  | n + 1,_ :: l => SC n l
def ZI (agg : Bool) (sz : Nat) (cs : List Value) (o : Nat) : Option Value := match agg with
  | false => Ss cs o
  | true => match ZB sz (dR o cs) with
    | some l => some (.agg ⟨l⟩)
    | none => none
theorem S7 {agg : Bool} {sz o : Nat} {cs : List Value} {v : Value} (h0 : 0 < sz) (h : ZI agg sz cs o = some v) : Jx agg sz cs o = some v := by
  unfold ZI at h
  split at h
  · exact Np h
  · split at h
    · rename_i l e
      obtain ⟨h1,h2⟩ := Sx e
      rw [SC] at h1 h2
      rw [List.length_drop] at h1
      cases h
      unfold Jx
      rw [if_pos rfl,if_pos (by omega),h2]
    · cases h
def V1 (tt : Tt) (F : List (Nat × Value)) : Op → Option Value
  | .move x => Bo F x
  | .assign x => Bo F x
  | .pick c x y => match Bo F c with
    | some (.bool true) => Bo F x
    | some (.bool false) => Bo F y
    | _ => none
  | .binOp op _ x y _ => match Bo F x with
    | some (.int k p) => match Bo F y with
      | some (.int j q) => match Nat.beq (ki k) (ki j) with
        | true => WJ k p q op
        | false => none
      | _ => none
    | _ => none
  | .unOp .not _ x => match Bo F x with
    | some (.bool t) => some (.bool (!t))
    | _ => none
  | .extract x i => match Bo F x with
    | some (.tuple ⟨l⟩) => Ss l i
    | _ => none
  | .field t x i => match Bo F x with
    | some (.agg ⟨l⟩) => match R0 tt.1 t i with
      | some (o,agg,sz + 1) => ZI agg (sz + 1) l o
      | _ => none
    | _ => none
  | .fieldAddr t x i => match Bo F x with
    | some (.pointer (some ⟨b,off,none⟩)) => match R0 tt.1 t i with
      | some (o,_,_ + 1) => some (.pointer (some ⟨b,off + o,none⟩))
      | _ => none
    | _ => none
  | _ => none
section
variable {rl : Option Nat} {P : Program} {B : Bs} {M : Bi} {Z : List It} {n : Nat} {ds : List Deferred} {F : List (Nat × Value)} {a : Act} {w : World}
theorem W1 {tt : Tt} (T : TtOk P tt) {dst : Option Tmp} {ty : TypeId} {pos : String} {aft : Array Edge} {g : Option (Nat × Bool)} {op : Op} {v : Value} (hF : Fr n ds F a) (h : V1 tt F op = some v) : Yx P B M Z a ⟨dst,op,ty,pos,aft,g⟩ v := by
  cases op with
  | move x => exact Al hF h
  | assign x => exact BB hF h
  | pick c x y =>
    simp only [V1] at h
    split at h
    · rename_i hc; exact CE hF hc rfl h
    · rename_i hc; exact Cy hF hc rfl h
    · cases h
  | binOp op T x y T' =>
    simp only [V1] at h
    split at h
    · rename_i k p hx
      split at h
      · rename_i j q hy
        split at h
        · rename_i hk
          obtain rfl := Ij hk
          cases op <;> simp only [WJ] at h <;> first | (cases h; fail) | skip
          all_goals first | (cases h; done) | (obtain rfl := Option.some.inj h)
          all_goals first | exact OV hF hx hy rfl | exact IX hF hx hy rfl | exact Wd hF hx hy rfl | exact O1 hF hx hy | exact V0 hF hx hy | exact QO hF hx hy | exact VW hF hx hy | exact IR hF hx hy | exact KH hF hx hy | exact VO hF hx hy | exact Y6 hF hx hy | exact VI hF hx hy | exact LQ hF hx hy
        · cases h
      · cases h
    · cases h
  | unOp op T x =>
    cases op <;> simp only [V1] at h <;> first | (cases h; done) | skip
    split at h
    · rename_i hx
      obtain rfl := Option.some.inj h
      exact Ua hF hx
    · cases h
  | extract x i =>
    simp only [V1] at h
    split at h
    · rename_i l hx
      exact A4 (vs := l) hF hx (Np h)
    · cases h
  | field t x i =>
    simp only [V1] at h
    split at h
    · rename_i l hx
      split at h
      · rename_i o agg sz e
        obtain ⟨fs,f,g1,g2,g3,g4⟩ := T.at e
        exact NB (cs := l) g1 g2 rfl g3 g4 hF hx (S7 (Nat.succ_pos _) h)
      · cases h
    · cases h
  | fieldAddr t x i =>
    simp only [V1] at h
    split at h
    · rename_i b off hx
      split at h
      · rename_i o agg sz e
        obtain ⟨fs,f,g1,g2,g3,g4⟩ := T.at e
        cases h
        exact Au g1 g2 g3 rfl g4 hF hx _ rfl
      · cases h
    · cases h
  | _ => cases h
def Vk : Bi → Nat → Option (Nat × List Value)
  | [],_ => none
  | x :: _,0 => some x
  | _ :: l,n + 1 => Vk l n
theorem QL : ∀ {l : Bi} {n : Nat} {v : Nat × List Value},Vk l n = some v → l[n]? = some v
  | [],_,_,h => by cases h
  | v :: l,0,_,h => by simpa [Vk] using h
  | _ :: l,n + 1,_,h => by simpa using QL (l := l) h
def cC (tt : Tt) (M : Bi) (F : List (Nat × Value)) (i : Nat) : Op → Option (Nat × Nat × Value)
  | .load t x => match Bo F x with
    | some (.pointer (some ⟨b,off,none⟩)) => match Vk M i with
      | some (b',cs) => match VA tt.2 t with
        | some (agg,sz + 1) => match ZI agg (sz + 1) cs off with
          | some v => some (b',b,v)
          | none => none
        | _ => none
      | none => none
    | _ => none
  | _ => none
theorem W0 {tt : Tt} (T : TtOk P tt) {dst : Option Tmp} {ty : TypeId} {pos : String} {aft : Array Edge} {g : Option (Nat × Bool)} {op : Op} {i b b' : Nat} {v : Value} (hF : Fr n ds F a) (h : cC tt M F i op = some (b',b,v)) (e : b' = b) : Yx P B M Z a ⟨dst,op,ty,pos,aft,g⟩ v := by
  cases op with
  | load t x =>
    simp only [cC] at h
    split at h
    · rename_i b1 off hx
      split at h
      · rename_i b2 cs hM
        split at h
        · rename_i agg sz hT
          split at h
          · rename_i v' hv
            cases h
            subst e
            exact B5 i hF hx (QL hM) (Qy T.g hT) (S7 (Nat.succ_pos _) hv)
          · cases h
        · cases h
      · cases h
    · cases h
  | _ => cases h
theorem ai {α : Sort _} {a : α} {p : Prop} (h : p) : a = a ∧ p := ⟨rfl,h⟩
abbrev Gl (P : Program) (n : Nat) (ds : List Deferred) (B : Bs) (M : Bi) (Z : List It) (ops : Array Oper) (Q : Exit → Act → World → Prop) (F : List (Nat × Value)) (l : List Oper) : Prop := ∀ a w,Fr n ds F a → Stw B M Z w → wpList P ops Q l a w
abbrev Gc (rl : Option Nat) (P : Program) (n : Nat) (ds : List Deferred) (B : Bs) (M : Bi) (Z : List It) (Q : Exit → Act → World → Prop) (F : List (Nat × Value)) (c : Code) : Prop := ∀ a w,Fr n ds F a → Stw B M Z w → c.wr rl P Q a w
abbrev Gx (n : Nat) (ds : List Deferred) (B : Bs) (M : Bi) (Z : List It) (Q : Exit → Act → World → Prop) (e : Exit) (F : List (Nat × Value)) : Prop := ∀ a w,Fr n ds F a → Stw B M Z w → Q e a w
def QB : List Oper → Nat → Option Nat
  | [],_ => none
  | o :: _,0 => o.dst
  | _ :: l,i + 1 => QB l i
theorem Lh : ∀ {l : List Oper} {i d : Nat},QB l i = some d → (l[i]?).bind (·.dst) = some d
  | [],_,_,h => by cases h
  | o :: l,0,_,h => by simpa [QB] using h
  | _ :: l,i + 1,_,h => by simpa using Lh (l := l) h
def a5 (l0 : List Oper) (F : List (Nat × Value)) : Option (Nat × Bool) → Option Bool
  | none => some true
  | some (i,t) => match QB l0 i with
    | some d => match lk F d with
      | some (.bool t') => some (match t',t with | true,true => true | false,false => true | true,false => false | false,true => false)
      | some (.tuple ⟨[]⟩) => some false
      | _ => none
    | none => none
theorem Qb {l0 : List Oper} {o : Oper} {b : Bool} (hF : Fr n ds F a) (h : a5 l0 F o.guard = some b) : Region.wanted o (yielded l0.toArray a.tmps) = b := by
  cases hg : o.guard with
  | none => rw [hg] at h; cases h; exact Ba hg
  | some p =>
    obtain ⟨i,t⟩ := p
    rw [hg] at h
    unfold a5 at h
    split at h
    · rename_i he; cases he
    · rename_i i' t' he
      obtain ⟨e1,e2⟩ := Prod.mk.inj (Option.some.inj he)
      subst e1 e2
      split at h
      · rename_i d hd
        split at h
        · rename_i t' hk
          rw [FN hF rfl hg (Lh hd) hk, ← Option.some.inj h]
          cases t' <;> cases t <;> rfl
        · rename_i hk
          rw [← Option.some.inj h]
          exact I7 hF rfl hg (Lh hd) hk
        · cases h
      · cases h
def vL (tt : Tt) (P : Program) (n : Nat) (ds : List Deferred) (B : Bs) (M : Bi) (Z : List It) (l0 : List Oper) (Q : Exit → Act → World → Prop) (K : Nat → List Nat → List (Nat × Value) → Prop) : List Oper → Nat → List Nat → List (Nat × Value) → Prop
  | l,0,_,F => Gl P n ds B M Z l0.toArray Q F l
  | [],k + 1,hs,F => K k hs F
  | ⟨some d, op, t, pos, aft, g⟩ :: r, k + 1, hs, F => match Nat.blt d n with
    | true => match a5 l0 F g with
      | some true => match V1 tt F op with
        | some v => vL tt P n ds B M Z l0 Q K r k hs ((d,v) :: F)
        | none => match hs with
          | i :: hs => match cC tt M F i op with
            | some (b',b,v) => b' = b ∧ vL tt P n ds B M Z l0 Q K r k hs ((d,v) :: F)
            | none => Gl P n ds B M Z l0.toArray Q F (⟨some d,op,t,pos,aft,g⟩ :: r)
          | [] => Gl P n ds B M Z l0.toArray Q F (⟨some d,op,t,pos,aft,g⟩ :: r)
      | some false => vL tt P n ds B M Z l0 Q K r k hs ((d,undef) :: F)
      | none => Gl P n ds B M Z l0.toArray Q F (⟨some d,op,t,pos,aft,g⟩ :: r)
    | false => Gl P n ds B M Z l0.toArray Q F (⟨some d,op,t,pos,aft,g⟩ :: r)
  | o :: r,_ + 1,_,F => Gl P n ds B M Z l0.toArray Q F (o :: r)
theorem MP {tt : Tt} (T : TtOk P tt) {l0 : List Oper} {Q : Exit → Act → World → Prop} {K : Nat → List Nat → List (Nat × Value) → Prop} (hK : ∀ k hs F,K k hs F → Gx n ds B M Z Q .normal F) : ∀ (l : List Oper) (k : Nat) (hs : List Nat) (F : List (Nat × Value)),vL tt P n ds B M Z l0 Q K l k hs F → Gl P n ds B M Z l0.toArray Q F l
  | [],0,_,F,h => h
  | o :: r,0,_,F,h => by
    obtain ⟨dst,op,t,pos,aft,g⟩ := o
    cases dst <;> exact h
  | [],k + 1,hs,F,h => fun a w hF hW => D1 (hK k hs F h a w hF hW)
  | ⟨none,op,t,pos,aft,g⟩ :: r,k + 1,_,F,h => h
  | ⟨some d, op, t, pos, aft, g⟩ :: r, k + 1, hs, F, h => by
    unfold vL at h
    split at h
    · rename_i hn
      split at h
      · rename_i hw
        split at h
        · rename_i v hv
          exact fun a w hF hW => BC hF hW (Qb hF hw) rfl (ze hn) (W1 T hF hv).q fun a w hF hW => MP T hK r k _ _ h a w hF hW
        · split at h
          · split at h
            · rename_i v hv
              exact fun a w hF hW => BC hF hW (Qb hF hw) rfl (ze hn) (W0 T hF hv h.1).q fun a w hF hW => MP T hK r k _ _ h.2 a w hF hW
            · exact h
          · exact h
      · rename_i hw
        exact fun a w hF hW => Q7 hF (Qb hF hw) rfl hn fun a hF => MP T hK r k _ _ h a w hF hW
      · exact h
    · exact h
def Wo (X : Nat → Option (Nat → List Nat → List (Nat × Value) → Prop)) (id : Nat) (K : Nat → List Nat → List (Nat × Value) → Prop) (j : Nat) : Option (Nat → List Nat → List (Nat × Value) → Prop) := match Nat.beq j id with | true => some K | false => X j
def vC (tt : Tt) (rl : Option Nat) (P : Program) (n : Nat) (ds : List Deferred) (B : Bs) (M : Bi) (Z : List It) : Code → (Exit → Act → World → Prop) → (Nat → List Nat → List (Nat × Value) → Prop) → (Nat → Option (Nat → List Nat → List (Nat × Value) → Prop)) → Nat → List Nat → List (Nat × Value) → Prop
  | c,Q,_,_,0,_,F => Gc rl P n ds B M Z Q F c
  | .seq x y,Q,K,X,k + 1,hs,F => vC tt rl P n ds B M Z x (Exit.then (y.wr rl P Q) Q) (fun k hs F => match k with
      | 0 => Gx n ds B M Z (Exit.then (y.wr rl P Q) Q) .normal F
      | k + 1 => vC tt rl P n ds B M Z y Q K X k hs F) X k hs F
  | .region id ⟨l⟩ false,Q,K,_,k + 1,hs,F => match Mk rl l with
    | true => vL tt P n ds B M Z l Q K l k hs F
    | false => Gc rl P n ds B M Z Q F (.region id ⟨l⟩ false)
  | .block id c,Q,K,X,k + 1,hs,F => vC tt rl P n ds B M Z c (Exit.inBlock id Q) K (Wo X id K) k hs F
  | .skip,_,K,_,k + 1,hs,F => K k hs F
  | .label _,_,K,_,k + 1,hs,F => K k hs F
  | .exit id,Q,_,X,k + 1,hs,F => match X id with
    | some K => K k hs F
    | none => Gx n ds B M Z Q (.exit id) F
  | .cond c x y,Q,K,X,k + 1,hs,F => match Bo F c with
    | some (.bool true) => vC tt rl P n ds B M Z x Q K X k hs F
    | some (.bool false) => vC tt rl P n ds B M Z y Q K X k hs F
    | _ => Gc rl P n ds B M Z Q F (.cond c x y)
  | c,Q,_,_,_ + 1,_,F => Gc rl P n ds B M Z Q F c
theorem LD {tt : Tt} (T : TtOk P tt) : ∀ (c : Code) (Q : Exit → Act → World → Prop) (K : Nat → List Nat → List (Nat × Value) → Prop) (X : Nat → Option (Nat → List Nat → List (Nat × Value) → Prop)),(∀ k hs F,K k hs F → Gx n ds B M Z Q .normal F) → (∀ id K',X id = some K' → ∀ k hs F,K' k hs F → Gx n ds B M Z Q (.exit id) F) →
    ∀ (k : Nat) (hs : List Nat) (F : List (Nat × Value)),vC tt rl P n ds B M Z c Q K X k hs F → Gc rl P n ds B M Z Q F c
  | c,Q,K,X,hK,hX,0,hs,F,h => by unfold vC at h; exact h
  | .seq x y,Q,K,X,hK,hX,k + 1,hs,F,h => by
    unfold vC at h
    refine fun a w hF hW => Ly (LD T x (Exit.then (y.wr rl P Q) Q) _ X (fun k hs F h => ?_) (fun id K' e k hs F h a w hF hW => hX id K' e k hs F h a w hF hW) k hs F h a w hF hW)
    cases k with
    | zero => exact h
    | succ k => exact fun a w hF hW => Aa (LD T y Q K X hK hX k hs F h a w hF hW)
  | .region id ⟨l⟩ false,Q,K,X,hK,hX,k + 1,hs,F,h => by
    unfold vC at h
    split at h
    · rename_i hd
      exact fun a w hF hW => F4 (l := l) (MP T hK l k hs F h a w hF hW) hd
    · exact h
  | .region id ⟨l⟩ true,Q,K,X,hK,hX,k + 1,hs,F,h => h
  | .block id c,Q,K,X,hK,hX,k + 1,hs,F,h => by
    unfold vC at h
    refine fun a w hF hW => EI (LD T c (Exit.inBlock id Q) K (Wo X id K) (fun k hs F h a w hF hW => hK k hs F h a w hF hW) (fun j K' e k hs F h a w hF hW => by
      unfold Wo at e
      split at e
      · rename_i hj
        obtain rfl := zd hj
        cases e
        exact AF (hK k hs F h a w hF hW)
      · rename_i hj
        exact XE hj (hX j K' e k hs F h a w hF hW)) k hs F h a w hF hW)
  | .skip,Q,K,X,hK,hX,k + 1,hs,F,h => by
    unfold vC at h
    exact fun a w hF hW => Ay (hK k hs F h a w hF hW)
  | .label _,Q,K,X,hK,hX,k + 1,hs,F,h => by
    unfold vC at h
    exact fun a w hF hW => T0 (hK k hs F h a w hF hW)
  | .exit id,Q,K,X,hK,hX,k + 1,hs,F,h => by
    unfold vC at h
    split at h
    · rename_i K' e
      exact fun a w hF hW => AE (hX id K' e k hs F h a w hF hW)
    · exact fun a w hF hW => AE (h a w hF hW)
  | .cond c x y,Q,K,X,hK,hX,k + 1,hs,F,h => by
    unfold vC at h
    split at h
    · rename_i hc
      exact fun a w hF hW => N9 hF hc (LD T x Q K X hK hX k hs F h a w hF hW)
    · rename_i hc
      exact fun a w hF hW => On hF hc (LD T y Q K X hK hX k hs F h a w hF hW)
    · exact h
  | .loop _,Q,K,X,hK,hX,k + 1,hs,F,h => h
  | .rangeFunc _ _ _ _,Q,K,X,hK,hX,k + 1,hs,F,h => h
  | .scope _,Q,K,X,hK,hX,k + 1,hs,F,h => h
  | .goto _,Q,K,X,hK,hX,k + 1,hs,F,h => h
  | .ret,Q,K,X,hK,hX,k + 1,hs,F,h => h
  | .refuse _,Q,K,X,hK,hX,k + 1,hs,F,h => h
theorem D7 {tt : Tt} (T : TtOk P tt) {c : Code} {Q : Exit → Act → World → Prop} (k : Nat) (hs : List Nat) (hF : Fr n ds F a) (hW : Stw B M Z w) (h : vC tt rl P n ds B M Z c Q (fun _ _ F => Gx n ds B M Z Q .normal F) (fun _ => none) k hs F) : c.wr rl P Q a w :=
  LD T c Q _ _ (fun _ _ _ h => h) (fun _ _ e => by cases e) k hs F h a w hF hW
theorem LT {tt : Tt} (T : TtOk P tt) {c y : Code} {Q : Exit → Act → World → Prop} (k : Nat) (hs : List Nat) (hF : Fr n ds F a) (hW : Stw B M Z w) (h : vC tt rl P n ds B M Z c (Exit.then (y.wr rl P Q) Q) (fun k hs F => match k with
    | 0 => Gx n ds B M Z (Exit.then (y.wr rl P Q) Q) .normal F
    | k + 1 => vC tt rl P n ds B M Z y Q (fun _ _ F => Gx n ds B M Z Q .normal F) (fun _ => none) k hs F) (fun _ => none) k hs F) : c.wr rl P (Exit.then (y.wr rl P Q) Q) a w :=
  LD T c _ _ _ (fun k hs F h => by
    cases k with
    | zero => exact h
    | succ k => exact fun a w hF hW => D7 T k hs hF hW h) (fun _ _ e => by cases e) k hs F h a w hF hW
theorem eZ {tt : Tt} (T : TtOk P tt) {c : Code} {Q Q' : Exit → Act → World → Prop} (k : Nat) (hs : List Nat) (hF : Fr n ds F a) (hW : Stw B M Z w) (h : vC tt rl P n ds B M Z c Q (fun _ _ F => Gx n ds B M Z Q .normal F) (fun _ => none) k hs F) : Exit.then (c.wr rl P Q) Q' .normal a w := D7 T k hs hF hW h
theorem Eb {tt : Tt} (T : TtOk P tt) {l0 l : List Oper} {Q : Exit → Act → World → Prop} (k : Nat) (hs : List Nat) (hF : Fr n ds F a) (hW : Stw B M Z w) (h : vL tt P n ds B M Z l0 Q (fun _ _ F => Gx n ds B M Z Q .normal F) l k hs F) : wpList P l0.toArray Q l a w :=
  MP T (fun _ _ _ h => h) l k hs F h a w hF hW
theorem E9 {tt : Tt} (T : TtOk P tt) {l0 l : List Oper} {y : Code} {Q : Exit → Act → World → Prop} (k : Nat) (hs : List Nat) (hF : Fr n ds F a) (hW : Stw B M Z w) (h : vL tt P n ds B M Z l0 (Exit.then (y.wr rl P Q) Q) (fun k hs F => match k with
    | 0 => Gx n ds B M Z (Exit.then (y.wr rl P Q) Q) .normal F
    | k + 1 => vC tt rl P n ds B M Z y Q (fun _ _ F => Gx n ds B M Z Q .normal F) (fun _ => none) k hs F) l k hs F) : wpList P l0.toArray (Exit.then (y.wr rl P Q) Q) l a w :=
  MP T (fun k hs F h => by
    cases k with
    | zero => exact h
    | succ k => exact fun a w hF hW => D7 T k hs hF hW h) l k hs F h a w hF hW
theorem vc {tt : Tt} (T : TtOk P tt) {c : Code} {Q : Exit → Act → World → Prop} (k : Nat) (hF : Fr n ds F a) (hW : Stw B M Z w) (h : vC tt rl P n ds B M Z c Q (fun _ _ F => Gx n ds B M Z Q .normal F) (fun _ => none) k [] F) : c.wr rl P Q a w := D7 T k [] hF hW h
theorem D2 {tt : Tt} (T : TtOk P tt) {c y : Code} {Q : Exit → Act → World → Prop} (k : Nat) (hF : Fr n ds F a) (hW : Stw B M Z w) (h : vC tt rl P n ds B M Z c (Exit.then (y.wr rl P Q) Q) (fun k hs F => match k with
    | 0 => Gx n ds B M Z (Exit.then (y.wr rl P Q) Q) .normal F
    | k + 1 => vC tt rl P n ds B M Z y Q (fun _ _ F => Gx n ds B M Z Q .normal F) (fun _ => none) k hs F) (fun _ => none) k [] F) : c.wr rl P (Exit.then (y.wr rl P Q) Q) a w := LT T k [] hF hW h
theorem vn {tt : Tt} (T : TtOk P tt) {c : Code} {Q Q' : Exit → Act → World → Prop} (k : Nat) (hF : Fr n ds F a) (hW : Stw B M Z w) (h : vC tt rl P n ds B M Z c Q (fun _ _ F => Gx n ds B M Z Q .normal F) (fun _ => none) k [] F) : Exit.then (c.wr rl P Q) Q' .normal a w := eZ T k [] hF hW h
theorem vl {tt : Tt} (T : TtOk P tt) {l0 l : List Oper} {Q : Exit → Act → World → Prop} (k : Nat) (hF : Fr n ds F a) (hW : Stw B M Z w) (h : vL tt P n ds B M Z l0 Q (fun _ _ F => Gx n ds B M Z Q .normal F) l k [] F) : wpList P l0.toArray Q l a w := Eb T k [] hF hW h
theorem Bc {tt : Tt} (T : TtOk P tt) {l0 l : List Oper} {y : Code} {Q : Exit → Act → World → Prop} (k : Nat) (hF : Fr n ds F a) (hW : Stw B M Z w) (h : vL tt P n ds B M Z l0 (Exit.then (y.wr rl P Q) Q) (fun k hs F => match k with
    | 0 => Gx n ds B M Z (Exit.then (y.wr rl P Q) Q) .normal F
    | k + 1 => vC tt rl P n ds B M Z y Q (fun _ _ F => Gx n ds B M Z Q .normal F) (fun _ => none) k hs F) l k [] F) : wpList P l0.toArray (Exit.then (y.wr rl P Q) Q) l a w := E9 T k [] hF hW h
theorem AG {p : Prop} [Decidable p] {β : Type} {X Y r : β} {s : Nat} {x y : Code} {Q : Exit → Act → World → Prop} (hF : Fr n ds F a) (hc : lk F s = some (.bool (decide p))) (H : (if p then X else Y) = r) (ht : Fr n ds ((s,.bool true) :: F) a → X = r → x.wr rl P Q a w) (hf : Fr n ds ((s,.bool false) :: F) a → Y = r → y.wr rl P Q a w) : (Code.cond (.tmp s) x y).wr rl P Q a w := by
  by_cases h : p
  · rw [if_pos h] at H
    rw [decide_eq_true h] at hc
    exact N9 hF hc (ht (hF.sub fun k v e => by
      by_cases q : s = k
      · subst q; rw [BS] at e; rw [← e]; exact hc
      · rw [B0 q] at e; exact e) H)
  · rw [if_neg h] at H
    rw [decide_eq_false h] at hc
    exact On hF hc (hf (hF.sub fun k v e => by
      by_cases q : s = k
      · subst q; rw [BS] at e; rw [← e]; exact hc
      · rw [B0 q] at e; exact e) H)
theorem BA {t : Bool} {β : Type} {X Y r : β} {s : Nat} {x y : Code} {Q : Exit → Act → World → Prop} (hF : Fr n ds F a) (hc : lk F s = some (.bool t)) (H : (if t = true then X else Y) = r) (ht : Fr n ds ((s,.bool true) :: F) a → X = r → x.wr rl P Q a w) (hf : Fr n ds ((s,.bool false) :: F) a → Y = r → y.wr rl P Q a w) : (Code.cond (.tmp s) x y).wr rl P Q a w :=
  AG (p := t = true) hF (by rw [hc]; cases t <;> rfl) H ht hf
theorem D3 {α : Type} {r : Rp α} {v : Value} {l : List α} (h : Mo B M Z r v l) (hW : Stw B M Z w) : Sl w (NX []) r v l := (h w hW).nx
theorem Bj {f : FuncId} {fn : Func} (hf : P.funcs[f]? = some fn) (hb : fn.body.isSome = true := by rfl) (hn : (fn.name == "runtime.NumGoroutine") = false := by decide) : Has P f := ⟨fun args w => FK hf hb hn args w⟩
theorem Iw {t : TypeId} {x y : Operand} {agg : Bool} {sz b off : Nat} {cs : List Value} {v : Value} {ops : Array Oper} {Q : Exit → Act → World → Prop} {rest : List Oper} {ty : TypeId} {pos : String} {aft : Array Edge} (i : Nat) (hF : Fr n ds F a) (hW : Stw B M Z w) (hx : Bo F x = some (.pointer (some ⟨b,off,none⟩))) (hy : Bo F y = some v) (hM : M[i]? = some (b,cs)) (T : Ty P t agg sz)
    (hsz : v.cells.toList.length = sz) (hl : Nat.ble (off + v.cells.toList.length) cs.length = true) (h1 : v.cells.toList.all (·.oneCell') = true)
    (k : ∀ w',Stw B (M.set i (b,DI cs off v.cells.toList)) Z w' → wpList P ops Q rest a w') : wpList P ops Q (⟨none,.store t x y,ty,pos,aft,none⟩ :: rest) a w :=
  QJ i hF hW hx hy hM T rfl hsz hl h1 rfl k
theorem Fr.ra {F' : List (Nat × Value)} (hF : Fr n ds F a) (h : (F'.map fun p => lk F p.1) = F'.map fun p => some p.2) : Fr n ds F' a := hF.sub fun k v e => by
  induction F' with
  | nil => cases e
  | cons p l ih =>
    obtain ⟨j,u⟩ := p
    simp only [List.map_cons,List.cons.injEq] at h
    by_cases q : j = k
    · subst q; rw [BS] at e; rw [← e]; exact h.1
    · rw [B0 q] at e; exact ih h.2 e
end
end Go.Proofs.YtbiekjhlijdjbaaGreat
