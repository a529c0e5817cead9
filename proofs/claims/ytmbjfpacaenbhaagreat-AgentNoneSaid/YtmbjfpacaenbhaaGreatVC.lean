/- The walk over plain steps, computed: one lemma for many steps. Conditions: none. -/
import Derived.Test.YtmbjfpacaenbhaaGreatOC
namespace Go.Proofs.YtmbjfpacaenbhaaGreat
set_option linter.unusedVariables false
set_option linter.unusedSimpArgs false
open Go Go.RowKit

def ki : IntKind → Nat
  | .i8 => 0 | .i16 => 1 | .i32 => 2 | .i64 => 3 | .u8 => 4 | .u16 => 5 | .u32 => 6 | .u64 => 7
theorem ki_eq {k j : IntKind} (h : Nat.beq (ki k) (ki j) = true) : k = j := by
  have := Nat.eq_of_beq_eq_true h
  cases k <;> cases j <;> first | rfl | (exact absurd this (by decide))
/-- What an operation on two integers answers. -/
def binV (k : IntKind) (p q : Int) : BinOp → Option Value
  | .add => some (.int k (k.wrap (p + q)))
  | .sub => some (.int k (k.wrap (p - q)))
  | .mul => some (.int k (k.wrap (p * q)))
  | .lss => some (.bool (decide (p < q)))
  | .leq => some (.bool (decide (p ≤ q)))
  | .gtr => some (.bool (decide (q < p)))
  | .geq => some (.bool (decide (q ≤ p)))
  | .eql => some (.bool (decide (p = q)))
  | .neq => some (.bool (decide (p ≠ q)))
  | .and => some (.int k (andI k p q))
  | .or => some (.int k (orI k p q))
  | .xor => some (.int k (xorI k p q))
  | .andNot => some (.int k (andNotI k p q))
  | _ => none
def nthV : List Value → Nat → Option Value
  | [], _ => none
  | v :: _, 0 => some v
  | _ :: l, n + 1 => nthV l n
theorem nthV_eq : ∀ {l : List Value} {n : Nat} {v : Value}, nthV l n = some v → l[n]? = some v
  | [], _, _, h => by cases h
  | v :: l, 0, _, h => by simpa [nthV] using h
  | _ :: l, n + 1, _, h => by simpa using nthV_eq (l := l) h
/-- A table of struct types: each field's place, whether it is an aggregate, its size. -/
abbrev Tt := List (Nat × List (Nat × Bool × Nat)) × List (Nat × Bool × Nat)
def nthF : List (Nat × Bool × Nat) → Nat → Option (Nat × Bool × Nat)
  | [], _ => none
  | x :: _, 0 => some x
  | _ :: l, n + 1 => nthF l n
def typT : List (Nat × Bool × Nat) → Nat → Option (Bool × Nat)
  | [], _ => none
  | (t, x) :: r, u => match Nat.beq t u with
    | true => some x
    | false => typT r u
def fldT : List (Nat × List (Nat × Bool × Nat)) → Nat → Nat → Option (Nat × Bool × Nat)
  | [], _, _ => none
  | (t, l) :: r, u, i => match Nat.beq t u with
    | true => nthF l i
    | false => fldT r u i
def tyB (P : Program) (t : TypeId) (agg : Bool) (sz : Nat) : Bool := (match (P.underlying t).map (fun d => match d with | .struct _ => true | .array _ _ => true | _ => false) with | some b => b == agg | none => false) && (match (P.info? t).map (·.size) with | some s => Nat.beq s sz | none => false)
theorem tyB_ok {P : Program} {t : TypeId} {agg : Bool} {sz : Nat} (h : tyB P t agg sz = true) : Ty P t agg sz := by
  unfold tyB at h
  rw [Bool.and_eq_true] at h
  obtain ⟨h1, h2⟩ := h
  constructor
  · split at h1
    · rename_i b e
      refine Eq.trans e ?_
      rw [show b = agg from by simpa using h1]
    · cases h1
  · split at h2
    · rename_i s e; rw [e, Nat.eq_of_beq_eq_true h2]
    · cases h2
def flB (P : Program) : List Field → List (Nat × Bool × Nat) → Bool
  | [], [] => true
  | f :: fs, (o, agg, sz) :: l => Nat.beq f.offset o && (tyB P f.type agg sz && flB P fs l)
  | _, _ => false
theorem flB_ok {P : Program} : ∀ {fs : List Field} {l : List (Nat × Bool × Nat)} {i o sz : Nat} {agg : Bool}, flB P fs l = true → nthF l i = some (o, agg, sz) → ∃ f, fs[i]? = some f ∧ f.offset = o ∧ Ty P f.type agg sz
  | [], [], _, _, _, _, _, h => by cases h
  | [], _ :: _, _, _, _, _, h, _ => by cases h
  | _ :: _, [], _, _, _, _, h, _ => by cases h
  | f :: fs, (o', agg', sz') :: l, 0, o, sz, agg, h, e => by
    unfold flB at h
    simp only [Bool.and_eq_true] at h
    cases e
    exact ⟨f, rfl, Nat.eq_of_beq_eq_true h.1, tyB_ok h.2.1⟩
  | f :: fs, (o', agg', sz') :: l, i + 1, o, sz, agg, h, e => by
    unfold flB at h
    simp only [Bool.and_eq_true] at h
    exact flB_ok (fs := fs) (l := l) h.2.2 e
def ttB (P : Program) (tt : List (Nat × List (Nat × Bool × Nat))) : Bool := tt.all fun p => match P.underlying p.1 with | some (.struct fs) => flB P fs.toList p.2 | _ => false
structure TtOk (P : Program) (tt : Tt) : Prop where
  h : ttB P tt.1 = true
  g : (tt.2.all fun p => tyB P p.1 p.2.1 p.2.2) = true
theorem typT_ok {P : Program} : ∀ {l : List (Nat × Bool × Nat)} {t sz : Nat} {agg : Bool}, (l.all fun p => tyB P p.1 p.2.1 p.2.2) = true → typT l t = some (agg, sz) → Ty P t agg sz
  | [], _, _, _, _, e => by cases e
  | (u, x) :: r, t, sz, agg, h, e => by
    rw [List.all_cons, Bool.and_eq_true] at h
    unfold typT at e
    split at e
    · rename_i hu
      obtain rfl := Nat.eq_of_beq_eq_true hu
      cases e
      exact tyB_ok h.1
    · exact typT_ok h.2 e
theorem fldT_ok {P : Program} {tt : List (Nat × List (Nat × Bool × Nat))} {t i o sz : Nat} {agg : Bool} (h : ttB P tt = true) (e : fldT tt t i = some (o, agg, sz)) : ∃ fs f, P.underlying t = some (.struct fs) ∧ fs[i]? = some f ∧ f.offset = o ∧ Ty P f.type agg sz := by
  unfold ttB at h
  induction tt with
  | nil => cases e
  | cons p r ih =>
    obtain ⟨u, l⟩ := p
    rw [List.all_cons, Bool.and_eq_true] at h
    unfold fldT at e
    split at e
    · rename_i hu
      obtain rfl := Nat.eq_of_beq_eq_true hu
      have h1 := h.1
      simp only at h1
      split at h1
      · rename_i fs hf
        obtain ⟨f, g1, g2, g3⟩ := flB_ok h1 e
        exact ⟨fs, f, hf, by rw [← Array.getElem?_toList]; exact g1, g2, g3⟩
      · cases h1
    · exact ih h.2 e
theorem TtOk.at {P : Program} {tt : Tt} {t i o sz : Nat} {agg : Bool} (T : TtOk P tt) (e : fldT tt.1 t i = some (o, agg, sz)) : ∃ fs f, P.underlying t = some (.struct fs) ∧ fs[i]? = some f ∧ f.offset = o ∧ Ty P f.type agg sz := fldT_ok T.h e
/-- A part of a list of cells. -/
def tkV : Nat → List Value → Option (List Value)
  | 0, _ => some []
  | _ + 1, [] => none
  | n + 1, v :: l => match tkV n l with
    | some r => some (v :: r)
    | none => none
theorem tkV_eq : ∀ {n : Nat} {l r : List Value}, tkV n l = some r → n ≤ l.length ∧ l.take n = r
  | 0, _, _, h => by cases h; exact ⟨Nat.zero_le _, rfl⟩
  | n + 1, [], _, h => by cases h
  | n + 1, v :: l, r, h => by
    unfold tkV at h
    split at h
    · rename_i r' e
      cases h
      obtain ⟨h1, h2⟩ := tkV_eq e
      exact ⟨by simpa using h1, by rw [List.take_succ_cons, h2]⟩
    · cases h
def drV : Nat → List Value → List Value
  | 0, l => l
  | _ + 1, [] => []
  | n + 1, _ :: l => drV n l
theorem drV_eq : ∀ (n : Nat) (l : List Value), drV n l = l.drop n
  | 0, _ => rfl
  | n + 1, [] => rfl
  | n + 1, _ :: l => drV_eq n l
def rdV (agg : Bool) (sz : Nat) (cs : List Value) (o : Nat) : Option Value := match agg with
  | false => nthV cs o
  | true => match tkV sz (drV o cs) with
    | some l => some (.agg ⟨l⟩)
    | none => none
theorem rdV_ok {agg : Bool} {sz o : Nat} {cs : List Value} {v : Value} (h0 : 0 < sz) (h : rdV agg sz cs o = some v) : rdv agg sz cs o = some v := by
  unfold rdV at h
  split at h
  · exact nthV_eq h
  · split at h
    · rename_i l e
      obtain ⟨h1, h2⟩ := tkV_eq e
      rw [drV_eq] at h1 h2
      rw [List.length_drop] at h1
      cases h
      unfold rdv
      rw [if_pos rfl, if_pos (by omega), h2]
    · cases h
/-- What a plain operation answers. -/
def ev1 (tt : Tt) (F : List (Nat × Value)) : Op → Option Value
  | .move x => opv F x
  | .assign x => opv F x
  | .pick c x y => match opv F c with
    | some (.bool true) => opv F x
    | some (.bool false) => opv F y
    | _ => none
  | .binOp op _ x y _ => match opv F x with
    | some (.int k p) => match opv F y with
      | some (.int j q) => match Nat.beq (ki k) (ki j) with
        | true => binV k p q op
        | false => none
      | _ => none
    | _ => none
  | .unOp .not _ x => match opv F x with
    | some (.bool t) => some (.bool (!t))
    | _ => none
  | .extract x i => match opv F x with
    | some (.tuple ⟨l⟩) => nthV l i
    | _ => none
  | .field t x i => match opv F x with
    | some (.agg ⟨l⟩) => match fldT tt.1 t i with
      | some (o, agg, sz + 1) => rdV agg (sz + 1) l o
      | _ => none
    | _ => none
  | .fieldAddr t x i => match opv F x with
    | some (.pointer (some ⟨b, off, none⟩)) => match fldT tt.1 t i with
      | some (o, _, _ + 1) => some (.pointer (some ⟨b, off + o, none⟩))
      | _ => none
    | _ => none
  | _ => none
section
variable {rl : Option Nat} {P : Program} {B : Bs} {M : Blks} {Z : List It} {n : Nat} {ds : List Deferred} {F : List (Nat × Value)} {a : Act} {w : World}
theorem ev1_ok {tt : Tt} (T : TtOk P tt) {dst : Option Tmp} {ty : TypeId} {pos : String} {aft : Array Edge} {g : Option (Nat × Bool)} {op : Op} {v : Value} (hF : Fr n ds F a) (h : ev1 tt F op = some v) : Yx P B M Z a ⟨dst, op, ty, pos, aft, g⟩ v := by
  cases op with
  | move x => exact y_move hF h
  | assign x => exact y_assign hF h
  | pick c x y =>
    simp only [ev1] at h
    split at h
    · rename_i hc; exact y_pick_t hF hc rfl h
    · rename_i hc; exact y_pick_f hF hc rfl h
    · cases h
  | binOp op T x y T' =>
    simp only [ev1] at h
    split at h
    · rename_i k p hx
      split at h
      · rename_i j q hy
        split at h
        · rename_i hk
          obtain rfl := ki_eq hk
          cases op <;> simp only [binV] at h <;> first | (cases h; fail) | skip
          all_goals first | (cases h; done) | (obtain rfl := Option.some.inj h)
          all_goals first | exact y_add hF hx hy rfl | exact y_sub hF hx hy rfl | exact y_mul hF hx hy rfl | exact y_lss hF hx hy | exact y_leq hF hx hy | exact y_gtr hF hx hy | exact y_geq hF hx hy | exact y_eql hF hx hy | exact y_neq hF hx hy | exact y_and hF hx hy | exact y_or hF hx hy | exact y_xor hF hx hy | exact y_andNot hF hx hy
        · cases h
      · cases h
    · cases h
  | unOp op T x =>
    cases op <;> simp only [ev1] at h <;> first | (cases h; done) | skip
    split at h
    · rename_i hx
      obtain rfl := Option.some.inj h
      exact y_not hF hx
    · cases h
  | extract x i =>
    simp only [ev1] at h
    split at h
    · rename_i l hx
      exact y_extract (vs := l) hF hx (nthV_eq h)
    · cases h
  | field t x i =>
    simp only [ev1] at h
    split at h
    · rename_i l hx
      split at h
      · rename_i o agg sz e
        obtain ⟨fs, f, g1, g2, g3, g4⟩ := T.at e
        exact y_field (cs := l) g1 g2 rfl g3 g4 hF hx (rdV_ok (Nat.succ_pos _) h)
      · cases h
    · cases h
  | fieldAddr t x i =>
    simp only [ev1] at h
    split at h
    · rename_i b off hx
      split at h
      · rename_i o agg sz e
        obtain ⟨fs, f, g1, g2, g3, g4⟩ := T.at e
        cases h
        exact y_fieldAddr g1 g2 g3 rfl g4 hF hx _ rfl
      · cases h
    · cases h
  | _ => cases h

/-! ### A list of steps -/
def nthM : Blks → Nat → Option (Nat × List Value)
  | [], _ => none
  | x :: _, 0 => some x
  | _ :: l, n + 1 => nthM l n
theorem nthM_eq : ∀ {l : Blks} {n : Nat} {v : Nat × List Value}, nthM l n = some v → l[n]? = some v
  | [], _, _, h => by cases h
  | v :: l, 0, _, h => by simpa [nthM] using h
  | _ :: l, n + 1, _, h => by simpa using nthM_eq (l := l) h
/-- What is loaded from the block of this number. -/
def ev2 (tt : Tt) (M : Blks) (F : List (Nat × Value)) (i : Nat) : Op → Option (Nat × Nat × Value)
  | .load t x => match opv F x with
    | some (.pointer (some ⟨b, off, none⟩)) => match nthM M i with
      | some (b', cs) => match typT tt.2 t with
        | some (agg, sz + 1) => match rdV agg (sz + 1) cs off with
          | some v => some (b', b, v)
          | none => none
        | _ => none
      | none => none
    | _ => none
  | _ => none
theorem ev2_ok {tt : Tt} (T : TtOk P tt) {dst : Option Tmp} {ty : TypeId} {pos : String} {aft : Array Edge} {g : Option (Nat × Bool)} {op : Op} {i b b' : Nat} {v : Value} (hF : Fr n ds F a) (h : ev2 tt M F i op = some (b', b, v)) (e : b' = b) : Yx P B M Z a ⟨dst, op, ty, pos, aft, g⟩ v := by
  cases op with
  | load t x =>
    simp only [ev2] at h
    split at h
    · rename_i b1 off hx
      split at h
      · rename_i b2 cs hM
        split at h
        · rename_i agg sz hT
          split at h
          · rename_i v' hv
            cases h
            subst e
            exact y_load i hF hx (nthM_eq hM) (typT_ok T.g hT) (rdV_ok (Nat.succ_pos _) hv)
          · cases h
        · cases h
      · cases h
    · cases h
  | _ => cases h
theorem ai {α : Sort _} {a : α} {p : Prop} (h : p) : a = a ∧ p := ⟨rfl, h⟩
abbrev Gl (P : Program) (n : Nat) (ds : List Deferred) (B : Bs) (M : Blks) (Z : List It) (ops : Array Oper) (Q : Exit → Act → World → Prop) (F : List (Nat × Value)) (l : List Oper) : Prop := ∀ a w, Fr n ds F a → Stw B M Z w → wpList P ops Q l a w
abbrev Gc (rl : Option Nat) (P : Program) (n : Nat) (ds : List Deferred) (B : Bs) (M : Blks) (Z : List It) (Q : Exit → Act → World → Prop) (F : List (Nat × Value)) (c : Code) : Prop := ∀ a w, Fr n ds F a → Stw B M Z w → c.wr rl P Q a w
abbrev Gx (n : Nat) (ds : List Deferred) (B : Bs) (M : Blks) (Z : List It) (Q : Exit → Act → World → Prop) (e : Exit) (F : List (Nat × Value)) : Prop := ∀ a w, Fr n ds F a → Stw B M Z w → Q e a w
def dstAt : List Oper → Nat → Option Nat
  | [], _ => none
  | o :: _, 0 => o.dst
  | _ :: l, i + 1 => dstAt l i
theorem dstAt_eq : ∀ {l : List Oper} {i d : Nat}, dstAt l i = some d → (l[i]?).bind (·.dst) = some d
  | [], _, _, h => by cases h
  | o :: l, 0, _, h => by simpa [dstAt] using h
  | _ :: l, i + 1, _, h => by simpa using dstAt_eq (l := l) h
/-- Is a step wanted? -/
def wnt (l0 : List Oper) (F : List (Nat × Value)) : Option (Nat × Bool) → Option Bool
  | none => some true
  | some (i, t) => match dstAt l0 i with
    | some d => match lk F d with
      | some (.bool t') => some (match t', t with | true, true => true | false, false => true | true, false => false | false, true => false)
      | some (.tuple ⟨[]⟩) => some false
      | _ => none
    | none => none
theorem wnt_ok {l0 : List Oper} {o : Oper} {b : Bool} (hF : Fr n ds F a) (h : wnt l0 F o.guard = some b) : Region.wanted o (yielded l0.toArray a.tmps) = b := by
  cases hg : o.guard with
  | none => rw [hg] at h; cases h; exact wanted_none hg
  | some p =>
    obtain ⟨i, t⟩ := p
    rw [hg] at h
    unfold wnt at h
    split at h
    · rename_i he; cases he
    · rename_i i' t' he
      obtain ⟨e1, e2⟩ := Prod.mk.inj (Option.some.inj he)
      subst e1 e2
      split at h
      · rename_i d hd
        split at h
        · rename_i t' hk
          rw [wanted_some hF rfl hg (dstAt_eq hd) hk, ← Option.some.inj h]
          cases t' <;> cases t <;> rfl
        · rename_i hk
          rw [← Option.some.inj h]
          exact wanted_undef hF rfl hg (dstAt_eq hd) hk
        · cases h
      · cases h
/-- So many steps of a list, then what is to be said; the numbers hs say of which blocks is loaded. -/
def vL (tt : Tt) (P : Program) (n : Nat) (ds : List Deferred) (B : Bs) (M : Blks) (Z : List It) (l0 : List Oper) (Q : Exit → Act → World → Prop) (K : Nat → List Nat → List (Nat × Value) → Prop) : List Oper → Nat → List Nat → List (Nat × Value) → Prop
  | l, 0, _, F => Gl P n ds B M Z l0.toArray Q F l
  | [], k + 1, hs, F => K k hs F
  | ⟨some d, op, t, pos, aft, g⟩ :: r, k + 1, hs, F => match Nat.blt d n with
    | true => match wnt l0 F g with
      | some true => match ev1 tt F op with
        | some v => vL tt P n ds B M Z l0 Q K r k hs ((d, v) :: F)
        | none => match hs with
          | i :: hs => match ev2 tt M F i op with
            | some (b', b, v) => b' = b ∧ vL tt P n ds B M Z l0 Q K r k hs ((d, v) :: F)
            | none => Gl P n ds B M Z l0.toArray Q F (⟨some d, op, t, pos, aft, g⟩ :: r)
          | [] => Gl P n ds B M Z l0.toArray Q F (⟨some d, op, t, pos, aft, g⟩ :: r)
      | some false => vL tt P n ds B M Z l0 Q K r k hs ((d, undef) :: F)
      | none => Gl P n ds B M Z l0.toArray Q F (⟨some d, op, t, pos, aft, g⟩ :: r)
    | false => Gl P n ds B M Z l0.toArray Q F (⟨some d, op, t, pos, aft, g⟩ :: r)
  | o :: r, _ + 1, _, F => Gl P n ds B M Z l0.toArray Q F (o :: r)
theorem vL_ok {tt : Tt} (T : TtOk P tt) {l0 : List Oper} {Q : Exit → Act → World → Prop} {K : Nat → List Nat → List (Nat × Value) → Prop} (hK : ∀ k hs F, K k hs F → Gx n ds B M Z Q .normal F) : ∀ (l : List Oper) (k : Nat) (hs : List Nat) (F : List (Nat × Value)), vL tt P n ds B M Z l0 Q K l k hs F → Gl P n ds B M Z l0.toArray Q F l
  | [], 0, _, F, h => h
  | o :: r, 0, _, F, h => by
    obtain ⟨dst, op, t, pos, aft, g⟩ := o
    cases dst <;> exact h
  | [], k + 1, hs, F, h => fun a w hF hW => ls_nil (hK k hs F h a w hF hW)
  | ⟨none, op, t, pos, aft, g⟩ :: r, k + 1, _, F, h => h
  | ⟨some d, op, t, pos, aft, g⟩ :: r, k + 1, hs, F, h => by
    unfold vL at h
    split at h
    · rename_i hn
      split at h
      · rename_i hw
        split at h
        · rename_i v hv
          exact fun a w hF hW => ls_w hF hW (wnt_ok hF hw) rfl (Nat.le_of_ble_eq_true hn) (ev1_ok T hF hv).q fun a w hF hW => vL_ok T hK r k _ _ h a w hF hW
        · split at h
          · split at h
            · rename_i v hv
              exact fun a w hF hW => ls_w hF hW (wnt_ok hF hw) rfl (Nat.le_of_ble_eq_true hn) (ev2_ok T hF hv h.1).q fun a w hF hW => vL_ok T hK r k _ _ h.2 a w hF hW
            · exact h
          · exact h
      · rename_i hw
        exact fun a w hF hW => ls_skip hF (wnt_ok hF hw) rfl hn fun a hF => vL_ok T hK r k _ _ h a w hF hW
      · exact h
    · exact h
/-! ### A code -/
def updX (X : Nat → Option (Nat → List Nat → List (Nat × Value) → Prop)) (id : Nat) (K : Nat → List Nat → List (Nat × Value) → Prop) (j : Nat) : Option (Nat → List Nat → List (Nat × Value) → Prop) := match Nat.beq j id with | true => some K | false => X j
/-- So many steps of a code, then what is to be said: K where it ends, X where it leaves blocks. -/
def vC (tt : Tt) (rl : Option Nat) (P : Program) (n : Nat) (ds : List Deferred) (B : Bs) (M : Blks) (Z : List It) : Code → (Exit → Act → World → Prop) → (Nat → List Nat → List (Nat × Value) → Prop) → (Nat → Option (Nat → List Nat → List (Nat × Value) → Prop)) → Nat → List Nat → List (Nat × Value) → Prop
  | c, Q, _, _, 0, _, F => Gc rl P n ds B M Z Q F c
  | .seq x y, Q, K, X, k + 1, hs, F => vC tt rl P n ds B M Z x (Exit.then (y.wr rl P Q) Q) (fun k hs F => match k with
      | 0 => Gx n ds B M Z (Exit.then (y.wr rl P Q) Q) .normal F
      | k + 1 => vC tt rl P n ds B M Z y Q K X k hs F) X k hs F
  | .region id ⟨l⟩ false, Q, K, _, k + 1, hs, F => match okd rl l with
    | true => vL tt P n ds B M Z l Q K l k hs F
    | false => Gc rl P n ds B M Z Q F (.region id ⟨l⟩ false)
  | .block id c, Q, K, X, k + 1, hs, F => vC tt rl P n ds B M Z c (Exit.inBlock id Q) K (updX X id K) k hs F
  | .skip, _, K, _, k + 1, hs, F => K k hs F
  | .label _, _, K, _, k + 1, hs, F => K k hs F
  | .exit id, Q, _, X, k + 1, hs, F => match X id with
    | some K => K k hs F
    | none => Gx n ds B M Z Q (.exit id) F
  | .cond c x y, Q, K, X, k + 1, hs, F => match opv F c with
    | some (.bool true) => vC tt rl P n ds B M Z x Q K X k hs F
    | some (.bool false) => vC tt rl P n ds B M Z y Q K X k hs F
    | _ => Gc rl P n ds B M Z Q F (.cond c x y)
  | c, Q, _, _, _ + 1, _, F => Gc rl P n ds B M Z Q F c
theorem vC_ok {tt : Tt} (T : TtOk P tt) : ∀ (c : Code) (Q : Exit → Act → World → Prop) (K : Nat → List Nat → List (Nat × Value) → Prop) (X : Nat → Option (Nat → List Nat → List (Nat × Value) → Prop)), (∀ k hs F, K k hs F → Gx n ds B M Z Q .normal F) → (∀ id K', X id = some K' → ∀ k hs F, K' k hs F → Gx n ds B M Z Q (.exit id) F) →
    ∀ (k : Nat) (hs : List Nat) (F : List (Nat × Value)), vC tt rl P n ds B M Z c Q K X k hs F → Gc rl P n ds B M Z Q F c
  | c, Q, K, X, hK, hX, 0, hs, F, h => by unfold vC at h; exact h
  | .seq x y, Q, K, X, hK, hX, k + 1, hs, F, h => by
    unfold vC at h
    refine fun a w hF hW => c_seq (vC_ok T x (Exit.then (y.wr rl P Q) Q) _ X (fun k hs F h => ?_) (fun id K' e k hs F h a w hF hW => hX id K' e k hs F h a w hF hW) k hs F h a w hF hW)
    cases k with
    | zero => exact h
    | succ k => exact fun a w hF hW => c_then (vC_ok T y Q K X hK hX k hs F h a w hF hW)
  | .region id ⟨l⟩ false, Q, K, X, hK, hX, k + 1, hs, F, h => by
    unfold vC at h
    split at h
    · rename_i hd
      exact fun a w hF hW => reg_list (l := l) (vL_ok T hK l k hs F h a w hF hW) hd
    · exact h
  | .region id ⟨l⟩ true, Q, K, X, hK, hX, k + 1, hs, F, h => h
  | .block id c, Q, K, X, hK, hX, k + 1, hs, F, h => by
    unfold vC at h
    refine fun a w hF hW => wr_block (vC_ok T c (Exit.inBlock id Q) K (updX X id K) (fun k hs F h a w hF hW => hK k hs F h a w hF hW) (fun j K' e k hs F h a w hF hW => by
      unfold updX at e
      split at e
      · rename_i hj
        obtain rfl := Nat.eq_of_beq_eq_true hj
        cases e
        exact e_block (hK k hs F h a w hF hW)
      · rename_i hj
        exact e_pass hj (hX j K' e k hs F h a w hF hW)) k hs F h a w hF hW)
  | .skip, Q, K, X, hK, hX, k + 1, hs, F, h => by
    unfold vC at h
    exact fun a w hF hW => wr_skip (hK k hs F h a w hF hW)
  | .label _, Q, K, X, hK, hX, k + 1, hs, F, h => by
    unfold vC at h
    exact fun a w hF hW => wr_label (hK k hs F h a w hF hW)
  | .exit id, Q, K, X, hK, hX, k + 1, hs, F, h => by
    unfold vC at h
    split at h
    · rename_i K' e
      exact fun a w hF hW => wr_exit (hX id K' e k hs F h a w hF hW)
    · exact fun a w hF hW => wr_exit (h a w hF hW)
  | .cond c x y, Q, K, X, hK, hX, k + 1, hs, F, h => by
    unfold vC at h
    split at h
    · rename_i hc
      exact fun a w hF hW => c_cond_t hF hc (vC_ok T x Q K X hK hX k hs F h a w hF hW)
    · rename_i hc
      exact fun a w hF hW => c_cond_f hF hc (vC_ok T y Q K X hK hX k hs F h a w hF hW)
    · exact h
  | .loop _, Q, K, X, hK, hX, k + 1, hs, F, h => h
  | .rangeFunc _ _ _ _, Q, K, X, hK, hX, k + 1, hs, F, h => h
  | .scope _, Q, K, X, hK, hX, k + 1, hs, F, h => h
  | .goto _, Q, K, X, hK, hX, k + 1, hs, F, h => h
  | .ret, Q, K, X, hK, hX, k + 1, hs, F, h => h
  | .refuse _, Q, K, X, hK, hX, k + 1, hs, F, h => h
/-- So many steps from a code on. -/
theorem vcm {tt : Tt} (T : TtOk P tt) {c : Code} {Q : Exit → Act → World → Prop} (k : Nat) (hs : List Nat) (hF : Fr n ds F a) (hW : Stw B M Z w) (h : vC tt rl P n ds B M Z c Q (fun _ _ F => Gx n ds B M Z Q .normal F) (fun _ => none) k hs F) : c.wr rl P Q a w :=
  vC_ok T c Q _ _ (fun _ _ _ h => h) (fun _ _ e => by cases e) k hs F h a w hF hW
/-- .. and on through what is behind it. -/
theorem vctm {tt : Tt} (T : TtOk P tt) {c y : Code} {Q : Exit → Act → World → Prop} (k : Nat) (hs : List Nat) (hF : Fr n ds F a) (hW : Stw B M Z w) (h : vC tt rl P n ds B M Z c (Exit.then (y.wr rl P Q) Q) (fun k hs F => match k with
    | 0 => Gx n ds B M Z (Exit.then (y.wr rl P Q) Q) .normal F
    | k + 1 => vC tt rl P n ds B M Z y Q (fun _ _ F => Gx n ds B M Z Q .normal F) (fun _ => none) k hs F) (fun _ => none) k hs F) : c.wr rl P (Exit.then (y.wr rl P Q) Q) a w :=
  vC_ok T c _ _ _ (fun k hs F h => by
    cases k with
    | zero => exact h
    | succ k => exact fun a w hF hW => vcm T k hs hF hW h) (fun _ _ e => by cases e) k hs F h a w hF hW
/-- The same where something has ended. -/
theorem vnm {tt : Tt} (T : TtOk P tt) {c : Code} {Q Q' : Exit → Act → World → Prop} (k : Nat) (hs : List Nat) (hF : Fr n ds F a) (hW : Stw B M Z w) (h : vC tt rl P n ds B M Z c Q (fun _ _ F => Gx n ds B M Z Q .normal F) (fun _ => none) k hs F) : Exit.then (c.wr rl P Q) Q' .normal a w := vcm T k hs hF hW h
theorem vntm {tt : Tt} (T : TtOk P tt) {c y : Code} {Q Q' : Exit → Act → World → Prop} (k : Nat) (hs : List Nat) (hF : Fr n ds F a) (hW : Stw B M Z w) (h : vC tt rl P n ds B M Z c (Exit.then (y.wr rl P Q) Q) (fun k hs F => match k with
    | 0 => Gx n ds B M Z (Exit.then (y.wr rl P Q) Q) .normal F
    | k + 1 => vC tt rl P n ds B M Z y Q (fun _ _ F => Gx n ds B M Z Q .normal F) (fun _ => none) k hs F) (fun _ => none) k hs F) : Exit.then (c.wr rl P (Exit.then (y.wr rl P Q) Q)) Q' .normal a w := vctm T k hs hF hW h
/-- So many steps from a step on. -/
theorem vlm {tt : Tt} (T : TtOk P tt) {l0 l : List Oper} {Q : Exit → Act → World → Prop} (k : Nat) (hs : List Nat) (hF : Fr n ds F a) (hW : Stw B M Z w) (h : vL tt P n ds B M Z l0 Q (fun _ _ F => Gx n ds B M Z Q .normal F) l k hs F) : wpList P l0.toArray Q l a w :=
  vL_ok T (fun _ _ _ h => h) l k hs F h a w hF hW
theorem vltm {tt : Tt} (T : TtOk P tt) {l0 l : List Oper} {y : Code} {Q : Exit → Act → World → Prop} (k : Nat) (hs : List Nat) (hF : Fr n ds F a) (hW : Stw B M Z w) (h : vL tt P n ds B M Z l0 (Exit.then (y.wr rl P Q) Q) (fun k hs F => match k with
    | 0 => Gx n ds B M Z (Exit.then (y.wr rl P Q) Q) .normal F
    | k + 1 => vC tt rl P n ds B M Z y Q (fun _ _ F => Gx n ds B M Z Q .normal F) (fun _ => none) k hs F) l k hs F) : wpList P l0.toArray (Exit.then (y.wr rl P Q) Q) l a w :=
  vL_ok T (fun k hs F h => by
    cases k with
    | zero => exact h
    | succ k => exact fun a w hF hW => vcm T k hs hF hW h) l k hs F h a w hF hW
theorem vc {tt : Tt} (T : TtOk P tt) {c : Code} {Q : Exit → Act → World → Prop} (k : Nat) (hF : Fr n ds F a) (hW : Stw B M Z w) (h : vC tt rl P n ds B M Z c Q (fun _ _ F => Gx n ds B M Z Q .normal F) (fun _ => none) k [] F) : c.wr rl P Q a w := vcm T k [] hF hW h
theorem vct {tt : Tt} (T : TtOk P tt) {c y : Code} {Q : Exit → Act → World → Prop} (k : Nat) (hF : Fr n ds F a) (hW : Stw B M Z w) (h : vC tt rl P n ds B M Z c (Exit.then (y.wr rl P Q) Q) (fun k hs F => match k with
    | 0 => Gx n ds B M Z (Exit.then (y.wr rl P Q) Q) .normal F
    | k + 1 => vC tt rl P n ds B M Z y Q (fun _ _ F => Gx n ds B M Z Q .normal F) (fun _ => none) k hs F) (fun _ => none) k [] F) : c.wr rl P (Exit.then (y.wr rl P Q) Q) a w := vctm T k [] hF hW h
theorem vn {tt : Tt} (T : TtOk P tt) {c : Code} {Q Q' : Exit → Act → World → Prop} (k : Nat) (hF : Fr n ds F a) (hW : Stw B M Z w) (h : vC tt rl P n ds B M Z c Q (fun _ _ F => Gx n ds B M Z Q .normal F) (fun _ => none) k [] F) : Exit.then (c.wr rl P Q) Q' .normal a w := vnm T k [] hF hW h
theorem vnt {tt : Tt} (T : TtOk P tt) {c y : Code} {Q Q' : Exit → Act → World → Prop} (k : Nat) (hF : Fr n ds F a) (hW : Stw B M Z w) (h : vC tt rl P n ds B M Z c (Exit.then (y.wr rl P Q) Q) (fun k hs F => match k with
    | 0 => Gx n ds B M Z (Exit.then (y.wr rl P Q) Q) .normal F
    | k + 1 => vC tt rl P n ds B M Z y Q (fun _ _ F => Gx n ds B M Z Q .normal F) (fun _ => none) k hs F) (fun _ => none) k [] F) : Exit.then (c.wr rl P (Exit.then (y.wr rl P Q) Q)) Q' .normal a w := vntm T k [] hF hW h
theorem vl {tt : Tt} (T : TtOk P tt) {l0 l : List Oper} {Q : Exit → Act → World → Prop} (k : Nat) (hF : Fr n ds F a) (hW : Stw B M Z w) (h : vL tt P n ds B M Z l0 Q (fun _ _ F => Gx n ds B M Z Q .normal F) l k [] F) : wpList P l0.toArray Q l a w := vlm T k [] hF hW h
theorem vlt {tt : Tt} (T : TtOk P tt) {l0 l : List Oper} {y : Code} {Q : Exit → Act → World → Prop} (k : Nat) (hF : Fr n ds F a) (hW : Stw B M Z w) (h : vL tt P n ds B M Z l0 (Exit.then (y.wr rl P Q) Q) (fun k hs F => match k with
    | 0 => Gx n ds B M Z (Exit.then (y.wr rl P Q) Q) .normal F
    | k + 1 => vC tt rl P n ds B M Z y Q (fun _ _ F => Gx n ds B M Z Q .normal F) (fun _ => none) k hs F) l k [] F) : wpList P l0.toArray (Exit.then (y.wr rl P Q) Q) l a w := vltm T k [] hF hW h
/-- Both ways of a test that the function makes too. -/
theorem c_ifd {p : Prop} [Decidable p] {β : Type} {X Y r : β} {s : Nat} {x y : Code} {Q : Exit → Act → World → Prop} (hF : Fr n ds F a) (hc : lk F s = some (.bool (decide p))) (H : (if p then X else Y) = r) (ht : Fr n ds ((s, .bool true) :: F) a → X = r → x.wr rl P Q a w) (hf : Fr n ds ((s, .bool false) :: F) a → Y = r → y.wr rl P Q a w) : (Code.cond (.tmp s) x y).wr rl P Q a w := by
  by_cases h : p
  · rw [if_pos h] at H
    rw [decide_eq_true h] at hc
    exact c_cond_t hF hc (ht (hF.sub fun k v e => by
      by_cases q : s = k
      · subst q; rw [lk_cons_eq] at e; rw [← e]; exact hc
      · rw [lk_cons_ne q] at e; exact e) H)
  · rw [if_neg h] at H
    rw [decide_eq_false h] at hc
    exact c_cond_f hF hc (hf (hF.sub fun k v e => by
      by_cases q : s = k
      · subst q; rw [lk_cons_eq] at e; rw [← e]; exact hc
      · rw [lk_cons_ne q] at e; exact e) H)
theorem c_ifb {t : Bool} {β : Type} {X Y r : β} {s : Nat} {x y : Code} {Q : Exit → Act → World → Prop} (hF : Fr n ds F a) (hc : lk F s = some (.bool t)) (H : (if t = true then X else Y) = r) (ht : Fr n ds ((s, .bool true) :: F) a → X = r → x.wr rl P Q a w) (hf : Fr n ds ((s, .bool false) :: F) a → Y = r → y.wr rl P Q a w) : (Code.cond (.tmp s) x y).wr rl P Q a w :=
  c_ifd (p := t = true) hF (by rw [hc]; cases t <;> rfl) H ht hf
theorem nx_ {α : Type} {r : Rp α} {v : Value} {l : List α} (h : Rdc B M Z r v l) (hW : Stw B M Z w) : Sl w (NX []) r v l := (h w hW).nx
theorem has_ {f : FuncId} {fn : Func} (hf : P.funcs[f]? = some fn) (hb : fn.body.isSome = true := by rfl) (hn : (fn.name == "runtime.NumGoroutine") = false := by decide) : Has P f := ⟨fun args w => run_callFunc_body hf hb hn args w⟩
/-- A store, its outcome left to be computed. -/
theorem l_st {t : TypeId} {x y : Operand} {agg : Bool} {sz b off : Nat} {cs : List Value} {v : Value} {ops : Array Oper} {Q : Exit → Act → World → Prop} {rest : List Oper} {ty : TypeId} {pos : String} {aft : Array Edge} (i : Nat) (hF : Fr n ds F a) (hW : Stw B M Z w) (hx : opv F x = some (.pointer (some ⟨b, off, none⟩))) (hy : opv F y = some v) (hM : M[i]? = some (b, cs)) (T : Ty P t agg sz)
    (hsz : v.cells.toList.length = sz) (hl : Nat.ble (off + v.cells.toList.length) cs.length = true) (h1 : v.cells.toList.all (·.oneCell') = true)
    (k : ∀ w', Stw B (M.set i (b, putL cs off v.cells.toList)) Z w' → wpList P ops Q rest a w') : wpList P ops Q (⟨none, .store t x y, ty, pos, aft, none⟩ :: rest) a w :=
  l_store i hF hW hx hy hM T rfl hsz hl h1 rfl k
/-- What is known of a frame, all at once. -/
theorem Fr.ra {F' : List (Nat × Value)} (hF : Fr n ds F a) (h : (F'.map fun p => lk F p.1) = F'.map fun p => some p.2) : Fr n ds F' a := hF.sub fun k v e => by
  induction F' with
  | nil => cases e
  | cons p l ih =>
    obtain ⟨j, u⟩ := p
    simp only [List.map_cons, List.cons.injEq] at h
    by_cases q : j = k
    · subst q; rw [lk_cons_eq] at e; rw [← e]; exact h.1
    · rw [lk_cons_ne q] at e; exact ih h.2 e
end
end Go.Proofs.YtmbjfpacaenbhaaGreat
