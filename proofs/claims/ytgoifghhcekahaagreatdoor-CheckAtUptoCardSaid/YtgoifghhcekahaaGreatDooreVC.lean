/- The walk over plain steps, computed: one lemma for many steps. Conditions: none. -/
import Derived.Test.YtgoifghhcekahaaGreatDooreOC
namespace Go.Proofs.YtgoifghhcekahaaGreatDoor
set_option linter.unusedVariables false
set_option linter.unusedSimpArgs false
open Go Go.RowKit
def ki : IntKind → Nat
  | .i8 => 0 | .i16 => 1 | .i32 => 2 | .i64 => 3 | .u8 => 4 | .u16 => 5 | .u32 => 6 | .u64 => 7
theorem Mh {k j : IntKind} (h : Nat.beq (ki k) (ki j) = true) : k = j := by
  have := Nat.eq_of_beq_eq_true h
  cases k <;> cases j <;> first | rfl | (exact absurd this (by decide))
def oD (k : IntKind) (p q : Int) : BinOp → Option Value
  | .add => some (.int k (k.wrap (p + q)))
  | .sub => some (.int k (k.wrap (p - q)))
  | .mul => some (.int k (k.wrap (p * q)))
  | .lss => some (.bool (decide (p < q)))
  | .leq => some (.bool (decide (p ≤ q)))
  | .gtr => some (.bool (decide (q < p)))
  | .geq => some (.bool (decide (q ≤ p)))
  | .eql => some (.bool (decide (p = q)))
  | .neq => some (.bool (decide (p ≠ q)))
  | .and => some (.int k (OR k p q))
  | .or => some (.int k (sS k p q))
  | .xor => some (.int k (JJ k p q))
  | .andNot => some (.int k (Pk k p q))
  | _ => none
def Z0 : List Value → Nat → Option Value
  | [], _ => none
  | v :: _, 0 => some v
  | _ :: l, n + 1 => Z0 l n
theorem Tl : ∀ {l : List Value} {n : Nat} {v : Value}, Z0 l n = some v → l[n]? = some v
  | [], _, _, h => by cases h
  | v :: l, 0, _, h => by simpa [Z0] using h
  | _ :: l, n + 1, _, h => by simpa using Tl (l := l) h
abbrev Tt := List (Nat × List (Nat × Bool × Nat)) × List (Nat × Bool × Nat)
def kP : List (Nat × Bool × Nat) → Nat → Option (Nat × Bool × Nat)
  | [], _ => none
  | x :: _, 0 => some x
  | _ :: l, n + 1 => kP l n
def TO : List (Nat × Bool × Nat) → Nat → Option (Bool × Nat)
  | [], _ => none
  | (t, x) :: r, u => match Nat.beq t u with
    | true => some x
    | false => TO r u
def SL : List (Nat × List (Nat × Bool × Nat)) → Nat → Nat → Option (Nat × Bool × Nat)
  | [], _, _ => none
  | (t, l) :: r, u, i => match Nat.beq t u with
    | true => kP l i
    | false => SL r u i
def oS (P : Program) (t : TypeId) (agg : Bool) (sz : Nat) : Bool := (match (P.underlying t).map (fun d => match d with | .struct _ => true | .array _ _ => true | _ => false) with | some b => b == agg | none => false) && (match (P.info? t).map (·.size) with | some s => Nat.beq s sz | none => false)
theorem YJ {P : Program} {t : TypeId} {agg : Bool} {sz : Nat} (h : oS P t agg sz = true) : Ty P t agg sz := by
  unfold oS at h
  rw [Bool.and_eq_true] at h
  obtain ⟨h1, h2⟩ := h
  constructor
  · split at h1
    · rename_i b e
      refine Eq.trans e ?_
      rw [show b = agg from by simpa using h1]
    · cases h1
  · split at h2
    · rename_i s e; rw [e, Nat.eq_of_beq_eq_true h2]
    · cases h2
def nV (P : Program) : List Field → List (Nat × Bool × Nat) → Bool
  | [], [] => true
  | f :: fs, (o, agg, sz) :: l => Nat.beq f.offset o && (oS P f.type agg sz && nV P fs l)
  | _, _ => false
theorem Za {P : Program} : ∀ {fs : List Field} {l : List (Nat × Bool × Nat)} {i o sz : Nat} {agg : Bool}, nV P fs l = true → kP l i = some (o, agg, sz) → ∃ f, fs[i]? = some f ∧ f.offset = o ∧ Ty P f.type agg sz
  | [], [], _, _, _, _, _, h => by cases h
  | [], _ :: _, _, _, _, _, h, _ => by cases h
  | _ :: _, [], _, _, _, _, h, _ => by cases h
  | f :: fs, (o', agg', sz') :: l, 0, o, sz, agg, h, e => by
    unfold nV at h
    simp only [Bool.and_eq_true] at h
    cases e
    exact ⟨f, rfl, Nat.eq_of_beq_eq_true h.1, YJ h.2.1⟩
  | f :: fs, (o', agg', sz') :: l, i + 1, o, sz, agg, h, e => by
    unfold nV at h
    simp only [Bool.and_eq_true] at h
    exact Za (fs := fs) (l := l) h.2.2 e
def tG (P : Program) (tt : List (Nat × List (Nat × Bool × Nat))) : Bool := tt.all fun p => match P.underlying p.1 with | some (.struct fs) => nV P fs.toList p.2 | _ => false
structure TtOk (P : Program) (tt : Tt) : Prop where
  h : tG P tt.1 = true
  g : (tt.2.all fun p => oS P p.1 p.2.1 p.2.2) = true
theorem SZ {P : Program} : ∀ {l : List (Nat × Bool × Nat)} {t sz : Nat} {agg : Bool}, (l.all fun p => oS P p.1 p.2.1 p.2.2) = true → TO l t = some (agg, sz) → Ty P t agg sz
  | [], _, _, _, _, e => by cases e
  | (u, x) :: r, t, sz, agg, h, e => by
    rw [List.all_cons, Bool.and_eq_true] at h
    unfold TO at e
    split at e
    · rename_i hu
      obtain rfl := Nat.eq_of_beq_eq_true hu
      cases e
      exact YJ h.1
    · exact SZ h.2 e
theorem gJ {P : Program} {tt : List (Nat × List (Nat × Bool × Nat))} {t i o sz : Nat} {agg : Bool} (h : tG P tt = true) (e : SL tt t i = some (o, agg, sz)) : ∃ fs f, P.underlying t = some (.struct fs) ∧ fs[i]? = some f ∧ f.offset = o ∧ Ty P f.type agg sz := by
  unfold tG at h
  induction tt with
  | nil => cases e
  | cons p r ih =>
    obtain ⟨u, l⟩ := p
    rw [List.all_cons, Bool.and_eq_true] at h
    unfold SL at e
    split at e
    · rename_i hu
      obtain rfl := Nat.eq_of_beq_eq_true hu
      have h1 := h.1
      simp only at h1
      split at h1
      · rename_i fs hf
        obtain ⟨f, g1, g2, g3⟩ := Za h1 e
        exact ⟨fs, f, hf, by rw [← Array.getElem?_toList]; exact g1, g2, g3⟩
      · cases h1
    · exact ih h.2 e
theorem TtOk.at {P : Program} {tt : Tt} {t i o sz : Nat} {agg : Bool} (T : TtOk P tt) (e : SL tt.1 t i = some (o, agg, sz)) : ∃ fs f, P.underlying t = some (.struct fs) ∧ fs[i]? = some f ∧ f.offset = o ∧ Ty P f.type agg sz := gJ T.h e
def sK : Nat → List Value → Option (List Value)
  | 0, _ => some []
  | _ + 1, [] => none
  | n + 1, v :: l => match sK n l with
    | some r => some (v :: r)
    | none => none
theorem aR : ∀ {n : Nat} {l r : List Value}, sK n l = some r → n ≤ l.length ∧ l.take n = r
  | 0, _, _, h => by cases h; exact ⟨Nat.zero_le _, rfl⟩
  | n + 1, [], _, h => by cases h
  | n + 1, v :: l, r, h => by
    unfold sK at h
    split at h
    · rename_i r' e
      cases h
      obtain ⟨h1, h2⟩ := aR e
      exact ⟨by simpa using h1, by rw [List.take_succ_cons, h2]⟩
    · cases h
def wJ : Nat → List Value → List Value
  | 0, l => l
  | _ + 1, [] => []
  | n + 1, _ :: l => wJ n l
theorem YR : ∀ (n : Nat) (l : List Value), wJ n l = l.drop n
  | 0, _ => rfl
  | n + 1, [] => rfl
  | n + 1, _ :: l => YR n l
def sL (agg : Bool) (sz : Nat) (cs : List Value) (o : Nat) : Option Value := match agg with
  | false => Z0 cs o
  | true => match sK sz (wJ o cs) with
    | some l => some (.agg ⟨l⟩)
    | none => none
theorem Y3 {agg : Bool} {sz o : Nat} {cs : List Value} {v : Value} (h0 : 0 < sz) (h : sL agg sz cs o = some v) : Qf agg sz cs o = some v := by
  unfold sL at h
  split at h
  · exact Tl h
  · split at h
    · rename_i l e
      obtain ⟨h1, h2⟩ := aR e
      rw [YR] at h1 h2
      rw [List.length_drop] at h1
      cases h
      unfold Qf
      rw [if_pos rfl, if_pos (by omega), h2]
    · cases h
def iZ (tt : Tt) (F : List (Nat × Value)) : Op → Option Value
  | .move x => Dg F x
  | .assign x => Dg F x
  | .pick c x y => match Dg F c with
    | some (.bool true) => Dg F x
    | some (.bool false) => Dg F y
    | _ => none
  | .binOp op _ x y _ => match Dg F x with
    | some (.int k p) => match Dg F y with
      | some (.int j q) => match Nat.beq (ki k) (ki j) with
        | true => oD k p q op
        | false => none
      | _ => none
    | _ => none
  | .unOp .not _ x => match Dg F x with
    | some (.bool t) => some (.bool (!t))
    | _ => none
  | .extract x i => match Dg F x with
    | some (.tuple ⟨l⟩) => Z0 l i
    | _ => none
  | .field t x i => match Dg F x with
    | some (.agg ⟨l⟩) => match SL tt.1 t i with
      | some (o, agg, sz + 1) => sL agg (sz + 1) l o
      | _ => none
    | _ => none
  | .fieldAddr t x i => match Dg F x with
    | some (.pointer (some ⟨b, off, none⟩)) => match SL tt.1 t i with
      | some (o, _, _ + 1) => some (.pointer (some ⟨b, off + o, none⟩))
      | _ => none
    | _ => none
  | _ => none
section
variable {rl : Option Nat} {P : Program} {B : Bs} {M : CO} {Z : List It} {n : Nat} {ds : List Deferred} {F : List (Nat × Value)} {a : Act} {w : World}
theorem lH {tt : Tt} (T : TtOk P tt) {dst : Option Tmp} {ty : TypeId} {pos : String} {aft : Array Edge} {g : Option (Nat × Bool)} {op : Op} {v : Value} (hF : Fr n ds F a) (h : iZ tt F op = some v) : Yx P B M Z a ⟨dst, op, ty, pos, aft, g⟩ v := by
  cases op with
  | move x => exact EN hF h
  | assign x => exact P3 hF h
  | pick c x y =>
    simp only [iZ] at h
    split at h
    · rename_i hc; exact FS hF hc rfl h
    · rename_i hc; exact JB hF hc rfl h
    · cases h
  | binOp op T x y T' =>
    simp only [iZ] at h
    split at h
    · rename_i k p hx
      split at h
      · rename_i j q hy
        split at h
        · rename_i hk
          obtain rfl := Mh hk
          cases op <;> simp only [oD] at h <;> first | (cases h; fail) | skip
          all_goals first | (cases h; done) | (obtain rfl := Option.some.inj h)
          all_goals first | exact iK hF hx hy rfl | exact WL hF hx hy rfl | exact iY hF hx hy rfl | exact WJ hF hx hy | exact iE hF hx hy | exact W6 hF hx hy | exact gZ hF hx hy | exact Wq hF hx hy | exact Y8 hF hx hy | exact gU hF hx hy | exact r9 hF hx hy | exact iF hF hx hy | exact Vq hF hx hy
        · cases h
      · cases h
    · cases h
  | unOp op T x =>
    cases op <;> simp only [iZ] at h <;> first | (cases h; done) | skip
    split at h
    · rename_i hx
      obtain rfl := Option.some.inj h
      exact i7 hF hx
    · cases h
  | extract x i =>
    simp only [iZ] at h
    split at h
    · rename_i l hx
      exact F3 (vs := l) hF hx (Tl h)
    · cases h
  | field t x i =>
    simp only [iZ] at h
    split at h
    · rename_i l hx
      split at h
      · rename_i o agg sz e
        obtain ⟨fs, f, g1, g2, g3, g4⟩ := T.at e
        exact Xg (cs := l) g1 g2 rfl g3 g4 hF hx (Y3 (Nat.succ_pos _) h)
      · cases h
    · cases h
  | fieldAddr t x i =>
    simp only [iZ] at h
    split at h
    · rename_i b off hx
      split at h
      · rename_i o agg sz e
        obtain ⟨fs, f, g1, g2, g3, g4⟩ := T.at e
        cases h
        exact B1 g1 g2 g3 rfl g4 hF hx _ rfl
      · cases h
    · cases h
  | _ => cases h
def eL : CO → Nat → Option (Nat × List Value)
  | [], _ => none
  | x :: _, 0 => some x
  | _ :: l, n + 1 => eL l n
theorem Wz : ∀ {l : CO} {n : Nat} {v : Nat × List Value}, eL l n = some v → l[n]? = some v
  | [], _, _, h => by cases h
  | v :: l, 0, _, h => by simpa [eL] using h
  | _ :: l, n + 1, _, h => by simpa using Wz (l := l) h
def tP (tt : Tt) (M : CO) (F : List (Nat × Value)) (i : Nat) : Op → Option (Nat × Nat × Value)
  | .load t x => match Dg F x with
    | some (.pointer (some ⟨b, off, none⟩)) => match eL M i with
      | some (b', cs) => match TO tt.2 t with
        | some (agg, sz + 1) => match sL agg (sz + 1) cs off with
          | some v => some (b', b, v)
          | none => none
        | _ => none
      | none => none
    | _ => none
  | _ => none
theorem nA {tt : Tt} (T : TtOk P tt) {dst : Option Tmp} {ty : TypeId} {pos : String} {aft : Array Edge} {g : Option (Nat × Bool)} {op : Op} {i b b' : Nat} {v : Value} (hF : Fr n ds F a) (h : tP tt M F i op = some (b', b, v)) (e : b' = b) : Yx P B M Z a ⟨dst, op, ty, pos, aft, g⟩ v := by
  cases op with
  | load t x =>
    simp only [tP] at h
    split at h
    · rename_i b1 off hx
      split at h
      · rename_i b2 cs hM
        split at h
        · rename_i agg sz hT
          split at h
          · rename_i v' hv
            cases h
            subst e
            exact HQ i hF hx (Wz hM) (SZ T.g hT) (Y3 (Nat.succ_pos _) hv)
          · cases h
        · cases h
      · cases h
    · cases h
  | _ => cases h
theorem ai {α : Sort _} {a : α} {p : Prop} (h : p) : a = a ∧ p := ⟨rfl, h⟩
abbrev Gl (P : Program) (n : Nat) (ds : List Deferred) (B : Bs) (M : CO) (Z : List It) (ops : Array Oper) (Q : Exit → Act → World → Prop) (F : List (Nat × Value)) (l : List Oper) : Prop := ∀ a w, Fr n ds F a → Stw B M Z w → wpList P ops Q l a w
abbrev Gc (rl : Option Nat) (P : Program) (n : Nat) (ds : List Deferred) (B : Bs) (M : CO) (Z : List It) (Q : Exit → Act → World → Prop) (F : List (Nat × Value)) (c : Code) : Prop := ∀ a w, Fr n ds F a → Stw B M Z w → c.wr rl P Q a w
abbrev Gx (n : Nat) (ds : List Deferred) (B : Bs) (M : CO) (Z : List It) (Q : Exit → Act → World → Prop) (e : Exit) (F : List (Nat × Value)) : Prop := ∀ a w, Fr n ds F a → Stw B M Z w → Q e a w
def Um : List Oper → Nat → Option Nat
  | [], _ => none
  | o :: _, 0 => o.dst
  | _ :: l, i + 1 => Um l i
theorem M7 : ∀ {l : List Oper} {i d : Nat}, Um l i = some d → (l[i]?).bind (·.dst) = some d
  | [], _, _, h => by cases h
  | o :: l, 0, _, h => by simpa [Um] using h
  | _ :: l, i + 1, _, h => by simpa using M7 (l := l) h
def xJ (l0 : List Oper) (F : List (Nat × Value)) : Option (Nat × Bool) → Option Bool
  | none => some true
  | some (i, t) => match Um l0 i with
    | some d => match lk F d with
      | some (.bool t') => some (match t', t with | true, true => true | false, false => true | true, false => false | false, true => false)
      | some (.tuple ⟨[]⟩) => some false
      | _ => none
    | none => none
theorem VJ {l0 : List Oper} {o : Oper} {b : Bool} (hF : Fr n ds F a) (h : xJ l0 F o.guard = some b) : Region.wanted o (yielded l0.toArray a.tmps) = b := by
  cases hg : o.guard with
  | none => rw [hg] at h; cases h; exact Bq hg
  | some p =>
    obtain ⟨i, t⟩ := p
    rw [hg] at h
    unfold xJ at h
    split at h
    · rename_i he; cases he
    · rename_i i' t' he
      obtain ⟨e1, e2⟩ := Prod.mk.inj (Option.some.inj he)
      subst e1 e2
      split at h
      · rename_i d hd
        split at h
        · rename_i t' hk
          rw [Jd hF rfl hg (M7 hd) hk, ← Option.some.inj h]
          cases t' <;> cases t <;> rfl
        · rename_i hk
          rw [← Option.some.inj h]
          exact HE hF rfl hg (M7 hd) hk
        · cases h
      · cases h
def vL (tt : Tt) (P : Program) (n : Nat) (ds : List Deferred) (B : Bs) (M : CO) (Z : List It) (l0 : List Oper) (Q : Exit → Act → World → Prop) (K : Nat → List Nat → List (Nat × Value) → Prop) : List Oper → Nat → List Nat → List (Nat × Value) → Prop
  | l, 0, _, F => Gl P n ds B M Z l0.toArray Q F l
  | [], k + 1, hs, F => K k hs F
  | ⟨some d, op, t, pos, aft, g⟩ :: r, k + 1, hs, F => match Nat.blt d n with
    | true => match xJ l0 F g with
      | some true => match iZ tt F op with
        | some v => vL tt P n ds B M Z l0 Q K r k hs ((d, v) :: F)
        | none => match hs with
          | i :: hs => match tP tt M F i op with
            | some (b', b, v) => b' = b ∧ vL tt P n ds B M Z l0 Q K r k hs ((d, v) :: F)
            | none => Gl P n ds B M Z l0.toArray Q F (⟨some d, op, t, pos, aft, g⟩ :: r)
          | [] => Gl P n ds B M Z l0.toArray Q F (⟨some d, op, t, pos, aft, g⟩ :: r)
      | some false => vL tt P n ds B M Z l0 Q K r k hs ((d, undef) :: F)
      | none => Gl P n ds B M Z l0.toArray Q F (⟨some d, op, t, pos, aft, g⟩ :: r)
    | false => Gl P n ds B M Z l0.toArray Q F (⟨some d, op, t, pos, aft, g⟩ :: r)
  | o :: r, _ + 1, _, F => Gl P n ds B M Z l0.toArray Q F (o :: r)
theorem R4 {tt : Tt} (T : TtOk P tt) {l0 : List Oper} {Q : Exit → Act → World → Prop} {K : Nat → List Nat → List (Nat × Value) → Prop} (hK : ∀ k hs F, K k hs F → Gx n ds B M Z Q .normal F) : ∀ (l : List Oper) (k : Nat) (hs : List Nat) (F : List (Nat × Value)), vL tt P n ds B M Z l0 Q K l k hs F → Gl P n ds B M Z l0.toArray Q F l
  | [], 0, _, F, h => h
  | o :: r, 0, _, F, h => by
    obtain ⟨dst, op, t, pos, aft, g⟩ := o
    cases dst <;> exact h
  | [], k + 1, hs, F, h => fun a w hF hW => IF (hK k hs F h a w hF hW)
  | ⟨none, op, t, pos, aft, g⟩ :: r, k + 1, _, F, h => h
  | ⟨some d, op, t, pos, aft, g⟩ :: r, k + 1, hs, F, h => by
    unfold vL at h
    split at h
    · rename_i hn
      split at h
      · rename_i hw
        split at h
        · rename_i v hv
          exact fun a w hF hW => XY hF hW (VJ hF hw) rfl (Nat.le_of_ble_eq_true hn) (lH T hF hv).q fun a w hF hW => R4 T hK r k _ _ h a w hF hW
        · split at h
          · split at h
            · rename_i v hv
              exact fun a w hF hW => XY hF hW (VJ hF hw) rfl (Nat.le_of_ble_eq_true hn) (nA T hF hv h.1).q fun a w hF hW => R4 T hK r k _ _ h.2 a w hF hW
            · exact h
          · exact h
      · rename_i hw
        exact fun a w hF hW => Te hF (VJ hF hw) rfl hn fun a hF => R4 T hK r k _ _ h a w hF hW
      · exact h
    · exact h
def lM (X : Nat → Option (Nat → List Nat → List (Nat × Value) → Prop)) (id : Nat) (K : Nat → List Nat → List (Nat × Value) → Prop) (j : Nat) : Option (Nat → List Nat → List (Nat × Value) → Prop) := match Nat.beq j id with | true => some K | false => X j
def vC (tt : Tt) (rl : Option Nat) (P : Program) (n : Nat) (ds : List Deferred) (B : Bs) (M : CO) (Z : List It) : Code → (Exit → Act → World → Prop) → (Nat → List Nat → List (Nat × Value) → Prop) → (Nat → Option (Nat → List Nat → List (Nat × Value) → Prop)) → Nat → List Nat → List (Nat × Value) → Prop
  | c, Q, _, _, 0, _, F => Gc rl P n ds B M Z Q F c
  | .seq x y, Q, K, X, k + 1, hs, F => vC tt rl P n ds B M Z x (Exit.then (y.wr rl P Q) Q) (fun k hs F => match k with
      | 0 => Gx n ds B M Z (Exit.then (y.wr rl P Q) Q) .normal F
      | k + 1 => vC tt rl P n ds B M Z y Q K X k hs F) X k hs F
  | .region id ⟨l⟩ false, Q, K, _, k + 1, hs, F => match Qc rl l with
    | true => vL tt P n ds B M Z l Q K l k hs F
    | false => Gc rl P n ds B M Z Q F (.region id ⟨l⟩ false)
  | .block id c, Q, K, X, k + 1, hs, F => vC tt rl P n ds B M Z c (Exit.inBlock id Q) K (lM X id K) k hs F
  | .skip, _, K, _, k + 1, hs, F => K k hs F
  | .label _, _, K, _, k + 1, hs, F => K k hs F
  | .exit id, Q, _, X, k + 1, hs, F => match X id with
    | some K => K k hs F
    | none => Gx n ds B M Z Q (.exit id) F
  | .cond c x y, Q, K, X, k + 1, hs, F => match Dg F c with
    | some (.bool true) => vC tt rl P n ds B M Z x Q K X k hs F
    | some (.bool false) => vC tt rl P n ds B M Z y Q K X k hs F
    | _ => Gc rl P n ds B M Z Q F (.cond c x y)
  | c, Q, _, _, _ + 1, _, F => Gc rl P n ds B M Z Q F c
theorem QP {tt : Tt} (T : TtOk P tt) : ∀ (c : Code) (Q : Exit → Act → World → Prop) (K : Nat → List Nat → List (Nat × Value) → Prop) (X : Nat → Option (Nat → List Nat → List (Nat × Value) → Prop)), (∀ k hs F, K k hs F → Gx n ds B M Z Q .normal F) → (∀ id K', X id = some K' → ∀ k hs F, K' k hs F → Gx n ds B M Z Q (.exit id) F) →
    ∀ (k : Nat) (hs : List Nat) (F : List (Nat × Value)), vC tt rl P n ds B M Z c Q K X k hs F → Gc rl P n ds B M Z Q F c
  | c, Q, K, X, hK, hX, 0, hs, F, h => by unfold vC at h; exact h
  | .seq x y, Q, K, X, hK, hX, k + 1, hs, F, h => by
    unfold vC at h
    refine fun a w hF hW => OA (QP T x (Exit.then (y.wr rl P Q) Q) _ X (fun k hs F h => ?_) (fun id K' e k hs F h a w hF hW => hX id K' e k hs F h a w hF hW) k hs F h a w hF hW)
    cases k with
    | zero => exact h
    | succ k => exact fun a w hF hW => Ax (QP T y Q K X hK hX k hs F h a w hF hW)
  | .region id ⟨l⟩ false, Q, K, X, hK, hX, k + 1, hs, F, h => by
    unfold vC at h
    split at h
    · rename_i hd
      exact fun a w hF hW => J5 (l := l) (R4 T hK l k hs F h a w hF hW) hd
    · exact h
  | .region id ⟨l⟩ true, Q, K, X, hK, hX, k + 1, hs, F, h => h
  | .block id c, Q, K, X, hK, hX, k + 1, hs, F, h => by
    unfold vC at h
    refine fun a w hF hW => NF (QP T c (Exit.inBlock id Q) K (lM X id K) (fun k hs F h a w hF hW => hK k hs F h a w hF hW) (fun j K' e k hs F h a w hF hW => by
      unfold lM at e
      split at e
      · rename_i hj
        obtain rfl := Nat.eq_of_beq_eq_true hj
        cases e
        exact GH (hK k hs F h a w hF hW)
      · rename_i hj
        exact aU hj (hX j K' e k hs F h a w hF hW)) k hs F h a w hF hW)
  | .skip, Q, K, X, hK, hX, k + 1, hs, F, h => by
    unfold vC at h
    exact fun a w hF hW => FP (hK k hs F h a w hF hW)
  | .label _, Q, K, X, hK, hX, k + 1, hs, F, h => by
    unfold vC at h
    exact fun a w hF hW => Uo (hK k hs F h a w hF hW)
  | .exit id, Q, K, X, hK, hX, k + 1, hs, F, h => by
    unfold vC at h
    split at h
    · rename_i K' e
      exact fun a w hF hW => G9 (hX id K' e k hs F h a w hF hW)
    · exact fun a w hF hW => G9 (h a w hF hW)
  | .cond c x y, Q, K, X, hK, hX, k + 1, hs, F, h => by
    unfold vC at h
    split at h
    · rename_i hc
      exact fun a w hF hW => J6 hF hc (QP T x Q K X hK hX k hs F h a w hF hW)
    · rename_i hc
      exact fun a w hF hW => JE hF hc (QP T y Q K X hK hX k hs F h a w hF hW)
    · exact h
  | .loop _, Q, K, X, hK, hX, k + 1, hs, F, h => h
  | .rangeFunc _ _ _ _, Q, K, X, hK, hX, k + 1, hs, F, h => h
  | .scope _, Q, K, X, hK, hX, k + 1, hs, F, h => h
  | .goto _, Q, K, X, hK, hX, k + 1, hs, F, h => h
  | .ret, Q, K, X, hK, hX, k + 1, hs, F, h => h
  | .refuse _, Q, K, X, hK, hX, k + 1, hs, F, h => h
theorem TR {tt : Tt} (T : TtOk P tt) {c : Code} {Q : Exit → Act → World → Prop} (k : Nat) (hs : List Nat) (hF : Fr n ds F a) (hW : Stw B M Z w) (h : vC tt rl P n ds B M Z c Q (fun _ _ F => Gx n ds B M Z Q .normal F) (fun _ => none) k hs F) : c.wr rl P Q a w :=
  QP T c Q _ _ (fun _ _ _ h => h) (fun _ _ e => by cases e) k hs F h a w hF hW
theorem fD {tt : Tt} (T : TtOk P tt) {c y : Code} {Q : Exit → Act → World → Prop} (k : Nat) (hs : List Nat) (hF : Fr n ds F a) (hW : Stw B M Z w) (h : vC tt rl P n ds B M Z c (Exit.then (y.wr rl P Q) Q) (fun k hs F => match k with
    | 0 => Gx n ds B M Z (Exit.then (y.wr rl P Q) Q) .normal F
    | k + 1 => vC tt rl P n ds B M Z y Q (fun _ _ F => Gx n ds B M Z Q .normal F) (fun _ => none) k hs F) (fun _ => none) k hs F) : c.wr rl P (Exit.then (y.wr rl P Q) Q) a w :=
  QP T c _ _ _ (fun k hs F h => by
    cases k with
    | zero => exact h
    | succ k => exact fun a w hF hW => TR T k hs hF hW h) (fun _ _ e => by cases e) k hs F h a w hF hW
theorem vnm {tt : Tt} (T : TtOk P tt) {c : Code} {Q Q' : Exit → Act → World → Prop} (k : Nat) (hs : List Nat) (hF : Fr n ds F a) (hW : Stw B M Z w) (h : vC tt rl P n ds B M Z c Q (fun _ _ F => Gx n ds B M Z Q .normal F) (fun _ => none) k hs F) : Exit.then (c.wr rl P Q) Q' .normal a w := TR T k hs hF hW h
theorem Oj {tt : Tt} (T : TtOk P tt) {l0 l : List Oper} {Q : Exit → Act → World → Prop} (k : Nat) (hs : List Nat) (hF : Fr n ds F a) (hW : Stw B M Z w) (h : vL tt P n ds B M Z l0 Q (fun _ _ F => Gx n ds B M Z Q .normal F) l k hs F) : wpList P l0.toArray Q l a w :=
  R4 T (fun _ _ _ h => h) l k hs F h a w hF hW
theorem XG {tt : Tt} (T : TtOk P tt) {l0 l : List Oper} {y : Code} {Q : Exit → Act → World → Prop} (k : Nat) (hs : List Nat) (hF : Fr n ds F a) (hW : Stw B M Z w) (h : vL tt P n ds B M Z l0 (Exit.then (y.wr rl P Q) Q) (fun k hs F => match k with
    | 0 => Gx n ds B M Z (Exit.then (y.wr rl P Q) Q) .normal F
    | k + 1 => vC tt rl P n ds B M Z y Q (fun _ _ F => Gx n ds B M Z Q .normal F) (fun _ => none) k hs F) l k hs F) : wpList P l0.toArray (Exit.then (y.wr rl P Q) Q) l a w :=
  R4 T (fun k hs F h => by
    cases k with
    | zero => exact h
    | succ k => exact fun a w hF hW => TR T k hs hF hW h) l k hs F h a w hF hW
theorem vc {tt : Tt} (T : TtOk P tt) {c : Code} {Q : Exit → Act → World → Prop} (k : Nat) (hF : Fr n ds F a) (hW : Stw B M Z w) (h : vC tt rl P n ds B M Z c Q (fun _ _ F => Gx n ds B M Z Q .normal F) (fun _ => none) k [] F) : c.wr rl P Q a w := TR T k [] hF hW h
theorem cQ {tt : Tt} (T : TtOk P tt) {c y : Code} {Q : Exit → Act → World → Prop} (k : Nat) (hF : Fr n ds F a) (hW : Stw B M Z w) (h : vC tt rl P n ds B M Z c (Exit.then (y.wr rl P Q) Q) (fun k hs F => match k with
    | 0 => Gx n ds B M Z (Exit.then (y.wr rl P Q) Q) .normal F
    | k + 1 => vC tt rl P n ds B M Z y Q (fun _ _ F => Gx n ds B M Z Q .normal F) (fun _ => none) k hs F) (fun _ => none) k [] F) : c.wr rl P (Exit.then (y.wr rl P Q) Q) a w := fD T k [] hF hW h
theorem vn {tt : Tt} (T : TtOk P tt) {c : Code} {Q Q' : Exit → Act → World → Prop} (k : Nat) (hF : Fr n ds F a) (hW : Stw B M Z w) (h : vC tt rl P n ds B M Z c Q (fun _ _ F => Gx n ds B M Z Q .normal F) (fun _ => none) k [] F) : Exit.then (c.wr rl P Q) Q' .normal a w := vnm T k [] hF hW h
theorem vl {tt : Tt} (T : TtOk P tt) {l0 l : List Oper} {Q : Exit → Act → World → Prop} (k : Nat) (hF : Fr n ds F a) (hW : Stw B M Z w) (h : vL tt P n ds B M Z l0 Q (fun _ _ F => Gx n ds B M Z Q .normal F) l k [] F) : wpList P l0.toArray Q l a w := Oj T k [] hF hW h
theorem KC {tt : Tt} (T : TtOk P tt) {l0 l : List Oper} {y : Code} {Q : Exit → Act → World → Prop} (k : Nat) (hF : Fr n ds F a) (hW : Stw B M Z w) (h : vL tt P n ds B M Z l0 (Exit.then (y.wr rl P Q) Q) (fun k hs F => match k with
    | 0 => Gx n ds B M Z (Exit.then (y.wr rl P Q) Q) .normal F
    | k + 1 => vC tt rl P n ds B M Z y Q (fun _ _ F => Gx n ds B M Z Q .normal F) (fun _ => none) k hs F) l k [] F) : wpList P l0.toArray (Exit.then (y.wr rl P Q) Q) l a w := XG T k [] hF hW h
theorem J2 {p : Prop} [Decidable p] {β : Type} {X Y r : β} {s : Nat} {x y : Code} {Q : Exit → Act → World → Prop} (hF : Fr n ds F a) (hc : lk F s = some (.bool (decide p))) (H : (if p then X else Y) = r) (ht : Fr n ds ((s, .bool true) :: F) a → X = r → x.wr rl P Q a w) (hf : Fr n ds ((s, .bool false) :: F) a → Y = r → y.wr rl P Q a w) : (Code.cond (.tmp s) x y).wr rl P Q a w := by
  by_cases h : p
  · rw [if_pos h] at H
    rw [decide_eq_true h] at hc
    exact J6 hF hc (ht (hF.sub fun k v e => by
      by_cases q : s = k
      · subst q; rw [CP] at e; rw [← e]; exact hc
      · rw [Dt q] at e; exact e) H)
  · rw [if_neg h] at H
    rw [decide_eq_false h] at hc
    exact JE hF hc (hf (hF.sub fun k v e => by
      by_cases q : s = k
      · subst q; rw [CP] at e; rw [← e]; exact hc
      · rw [Dt q] at e; exact e) H)
theorem Ld {t : Bool} {β : Type} {X Y r : β} {s : Nat} {x y : Code} {Q : Exit → Act → World → Prop} (hF : Fr n ds F a) (hc : lk F s = some (.bool t)) (H : (if t = true then X else Y) = r) (ht : Fr n ds ((s, .bool true) :: F) a → X = r → x.wr rl P Q a w) (hf : Fr n ds ((s, .bool false) :: F) a → Y = r → y.wr rl P Q a w) : (Code.cond (.tmp s) x y).wr rl P Q a w :=
  J2 (p := t = true) hF (by rw [hc]; cases t <;> rfl) H ht hf
theorem d7 {α : Type} {r : Rp α} {v : Value} {l : List α} (h : RC B M Z r v l) (hW : Stw B M Z w) : Sl w (NX []) r v l := (h w hW).nx
theorem JR {f : FuncId} {fn : Func} (hf : P.funcs[f]? = some fn) (hb : fn.body.isSome = true := by rfl) (hn : (fn.name == "runtime.NumGoroutine") = false := by decide) : Has P f := ⟨fun args w => Br hf hb hn args w⟩
theorem Q9 {t : TypeId} {x y : Operand} {agg : Bool} {sz b off : Nat} {cs : List Value} {v : Value} {ops : Array Oper} {Q : Exit → Act → World → Prop} {rest : List Oper} {ty : TypeId} {pos : String} {aft : Array Edge} (i : Nat) (hF : Fr n ds F a) (hW : Stw B M Z w) (hx : Dg F x = some (.pointer (some ⟨b, off, none⟩))) (hy : Dg F y = some v) (hM : M[i]? = some (b, cs)) (T : Ty P t agg sz)
    (hsz : v.cells.toList.length = sz) (hl : Nat.ble (off + v.cells.toList.length) cs.length = true) (h1 : v.cells.toList.all (·.oneCell') = true)
    (k : ∀ w', Stw B (M.set i (b, GN cs off v.cells.toList)) Z w' → wpList P ops Q rest a w') : wpList P ops Q (⟨none, .store t x y, ty, pos, aft, none⟩ :: rest) a w :=
  M5 i hF hW hx hy hM T rfl hsz hl h1 rfl k
theorem Fr.ra {F' : List (Nat × Value)} (hF : Fr n ds F a) (h : (F'.map fun p => lk F p.1) = F'.map fun p => some p.2) : Fr n ds F' a := hF.sub fun k v e => by
  induction F' with
  | nil => cases e
  | cons p l ih =>
    obtain ⟨j, u⟩ := p
    simp only [List.map_cons, List.cons.injEq] at h
    by_cases q : j = k
    · subst q; rw [CP] at e; rw [← e]; exact h.1
    · rw [Dt q] at e; exact ih h.2 e
end
end Go.Proofs.YtgoifghhcekahaaGreatDoor
