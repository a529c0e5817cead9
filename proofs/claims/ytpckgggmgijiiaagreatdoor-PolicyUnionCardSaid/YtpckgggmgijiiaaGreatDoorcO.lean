/- The operations, one lemma each, over a frame known by its slots and a memory known by its blocks. Conditions: none. -/
import Derived.Test.YtpckgggmgijiiaaGreatDoorcQA
import Derived.IntWalk
import Derived.KernelRfl
import Derived.Laws.StructEq
namespace Go.Proofs.YtpckgggmgijiiaaGreatDoor
set_option linter.unusedVariables false
set_option linter.unusedSimpArgs false
open Go Go.RowKit
variable {rl : Option Nat}
section
variable {P : Program} {B : Bs} {M M' : List (Nat × List Value)} {Z : List It} {n : Nat} {ds : List Deferred} {F : List (Nat × Value)} {a : Act} {w : World}
theorem Yq.cls {o : Oper} {v : Value} (y : Yq P B M Z a o v) : ∀ w, Stw B M Z w → o.quietAt P a (Stw B M Z) w v := fun w hw => by
  have := y w hw
  unfold Oper.quietAt Oper.quietUpon at *
  generalize (execOp a.eval o).run P w = r at *
  cases r with
  | ok nx w2 =>
    cases nx <;> simp only at this ⊢ <;> try exact this
    exact ⟨this.1, this.2.mono fun e w3 ⟨he, hb⟩ => ⟨he, hw.below hb⟩⟩
  | halt x w2 => exact this
theorem Di {ops : Array Oper} {o : Oper} (hg : o.guard = none) : Region.wanted o (yielded ops a.tmps) = true := by simp [Region.wanted, hg]
theorem Kh {ops : Array Oper} {o : Oper} {i d : Nat} {t t' : Bool} {l : List Oper} (hF : Fr n ds F a) (hl : ops = l.toArray) (hg : o.guard = some (i, t)) (hd : (l[i]?).bind (·.dst) = some d) (hk : lk F d = some (.bool t')) :
    Region.wanted o (yielded ops a.tmps) = (t' == t) := by
  subst hl
  have := hF.slots d _ hk
  cases t <;> cases t' <;> simp [Region.wanted, hg, yielded, hd, this]
theorem Ac {ops : Array Oper} {o : Oper} {i d : Nat} {t : Bool} {l : List Oper} (hF : Fr n ds F a) (hl : ops = l.toArray) (hg : o.guard = some (i, t)) (hd : (l[i]?).bind (·.dst) = some d) (hk : lk F d = some (.bool t)) :
    Region.wanted o (yielded ops a.tmps) = true := by rw [Kh hF hl hg hd hk]; simp
theorem Be {ops : Array Oper} {o : Oper} {i d : Nat} {t t' : Bool} {l : List Oper} (hF : Fr n ds F a) (hl : ops = l.toArray) (hg : o.guard = some (i, t)) (hd : (l[i]?).bind (·.dst) = some d) (hk : lk F d = some (.bool t')) (hne : (t' == t) = false) :
    Region.wanted o (yielded ops a.tmps) = false := by rw [Kh hF hl hg hd hk]; exact hne
theorem FQ {ops : Array Oper} {o : Oper} {i d : Nat} {t : Bool} {l : List Oper} (hF : Fr n ds F a) (hl : ops = l.toArray) (hg : o.guard = some (i, t)) (hd : (l[i]?).bind (·.dst) = some d) (hk : lk F d = some undef) :
    Region.wanted o (yielded ops a.tmps) = false := by
  subst hl
  have := hF.slots d _ hk
  cases t <;> simp [Region.wanted, hg, yielded, hd, this, undef]
variable {ops : Array Oper} {Q : Exit → Act → World → Prop} {rest : List Oper} {o : Oper}
theorem Hu {d : Nat} {v : Value} (hF : Fr n ds F a) (hW : Stw B M Z w) (hwt : Region.wanted o (yielded ops a.tmps) = true) (hd : o.dst = some d) (hn : d < n) (y : Yq P B M Z a o v)
    (k : ∀ a' w', Fr n ds ((d, v) :: F) a' → Stw B M Z w' → wpList P ops Q rest a' w') : wpList P ops Q (o :: rest) a w := by
  unfold wpList
  rw [if_pos hwt]
  refine .inl (Oper.wp_of_quiet (C := Stw B M Z) (K := fun a' => Fr n ds ((d, v) :: F) a') hW (fun a' w' hw' hf => k a' w' hf hw') ⟨v, y.cls, ?_⟩)
  rw [hd]
  exact hF.put hn v
theorem ls {d : Nat} {v : Value} {op : Op} {t : TypeId} {pos : String} {aft : Array Edge} (hF : Fr n ds F a) (hW : Stw B M Z w) (hn : Nat.blt d n = true) (y : Yq P B M Z a ⟨some d, op, t, pos, aft, none⟩ v)
    (k : ∀ a' w', Fr n ds ((d, v) :: F) a' → Stw B M Z w' → wpList P ops Q rest a' w') : wpList P ops Q (⟨some d, op, t, pos, aft, none⟩ :: rest) a w :=
  Hu hF hW (Di rfl) rfl (Nat.le_of_ble_eq_true hn) y k
theorem SB {d : Nat} (hF : Fr n ds F a) (hwt : Region.wanted o (yielded ops a.tmps) = false) (hd : o.dst = some d) (hn : Nat.blt d n = true)
    (k : ∀ a', Fr n ds ((d, undef) :: F) a' → wpList P ops Q rest a' w) : wpList P ops Q (o :: rest) a w := by
  unfold wpList
  rw [if_neg (by rw [hwt]; simp)]
  refine k _ ?_
  rw [hd]
  exact hF.put (Nat.le_of_ble_eq_true hn) _
theorem Ao {n m : Nat} (h : Nat.ble n m = true) : n ≤ m := Nat.le_of_ble_eq_true h
theorem CQ {p : Prop} [Decidable p] (h : decide p = true) : p := of_decide_eq_true h
theorem CO {p : Prop} [Decidable p] (h : decide p = false) : ¬ p := of_decide_eq_false h
theorem AC {α : Type} {a b : α} (h : some a = some b) : a = b := Option.some.inj h
theorem Aa {α : Sort _} {a : α} : a = a := rfl
theorem Fd (h : Q .normal a w) : wpList P ops Q [] a w := h
variable {Q' : Act → Prop}
theorem AP {d : Nat} {v : Value} (hF : Fr n ds F a) (hwt : Region.wanted o (yielded ops a.tmps) = true) (hd : o.dst = some d) (hn : d < n) (y : Yq P B M Z a o v)
    (k : ∀ a', Fr n ds ((d, v) :: F) a' → wpQuiet P ops (Stw B M Z) Q' rest a') : wpQuiet P ops (Stw B M Z) Q' (o :: rest) a := by
  unfold wpQuiet
  rw [if_pos hwt]
  refine ⟨v, y.cls, k _ ?_⟩
  rw [hd]
  exact hF.put hn v
theorem qs {d : Nat} {v : Value} {op : Op} {t : TypeId} {pos : String} {aft : Array Edge} (hF : Fr n ds F a) (hn : Nat.blt d n = true) (y : Yq P B M Z a ⟨some d, op, t, pos, aft, none⟩ v)
    (k : ∀ a', Fr n ds ((d, v) :: F) a' → wpQuiet P ops (Stw B M Z) Q' rest a') : wpQuiet P ops (Stw B M Z) Q' (⟨some d, op, t, pos, aft, none⟩ :: rest) a :=
  AP hF (Di rfl) rfl (Nat.le_of_ble_eq_true hn) y k
theorem Bp {d : Nat} (hF : Fr n ds F a) (hwt : Region.wanted o (yielded ops a.tmps) = false) (hd : o.dst = some d) (hn : Nat.blt d n = true)
    (k : ∀ a', Fr n ds ((d, undef) :: F) a' → wpQuiet P ops (Stw B M Z) Q' rest a') : wpQuiet P ops (Stw B M Z) Q' (o :: rest) a := by
  unfold wpQuiet
  rw [if_neg (by rw [hwt]; simp)]
  refine k _ ?_
  rw [hd]
  exact hF.put (Nat.le_of_ble_eq_true hn) _
theorem KU {id : Nat} {l : List Oper} (n : Nat) (hW : Stw B M Z w) (hm : P.follows .mixedOrders = true) (hB : Region.lexTailB .any l.toArray n = true)
    (h : wpQuiet P l.toArray (Stw B M Z) (fun a' => ∀ w', Stw B M Z w' → wpList P l.toArray Q (l.drop n) a' w') (l.take n) a) (hd : O4 rl l = true := by rfl) : (Code.region id l.toArray true).wr rl P Q a w :=
  Kf n hm hB hW.drew h hd
theorem CH {id : Nat} {l : List Oper} (hW : Stw B M Z w) (hm : P.follows .mixedOrders = true) (hB : Region.lexB .any l.toArray = true)
    (h : wpQuiet P l.toArray (Stw B M Z) (fun a' => ∀ w', Stw B M Z w' → Q .normal a' w') l a) (hd : O4 rl l = true := by rfl) : (Code.region id l.toArray true).wr rl P Q a w :=
  NI hd hm hB hW.drew (by simpa using h)
variable {QH : Dh → Act → Prop} {ks : List Nat} {A : Dh}
theorem Yd {i d : Nat} {v : Value} (hF : Fr n ds F a) (ho : ops[i]? = some o) (hz : FI P o = none) (hwt : Region.wanted o (yielded ops a.tmps) = true) (hd : o.dst = some d) (hn : Nat.blt d n = true) (y : Yq P B M Z a o v)
    (k : ∀ a', Fr n ds ((d, v) :: F) a' → RZ P B M Z ops QH ks A a') : RZ P B M Z ops QH (i :: ks) A a := by
  unfold RZ Qt
  simp only [ho, hz, hwt, if_true]
  refine ⟨v, y, k _ ?_⟩
  rw [hd]
  exact hF.put (Nat.le_of_ble_eq_true hn) v
theorem hs {i d : Nat} {v : Value} {op : Op} {t : TypeId} {pos : String} {aft : Array Edge} (hF : Fr n ds F a) (ho : ops[i]? = some ⟨some d, op, t, pos, aft, none⟩) (hz : FI P ⟨some d, op, t, pos, aft, none⟩ = none) (hn : Nat.blt d n = true) (y : Yq P B M Z a ⟨some d, op, t, pos, aft, none⟩ v)
    (k : ∀ a', Fr n ds ((d, v) :: F) a' → RZ P B M Z ops QH ks A a') : RZ P B M Z ops QH (i :: ks) A a :=
  Yd hF ho hz (Di rfl) rfl hn y k
theorem ha {i d : Nat} {t ty : TypeId} {z : Value} {cs : List Value} {pos : String} {aft : Array Edge} (hF : Fr n ds F a) (ho : ops[i]? = some ⟨some d, .alloc t, ty, pos, aft, none⟩) (hn : Nat.blt d n = true) (hz : (P.info? t).bind (·.zero) = some z) (hc : z.cells.toList = cs)
    (k : ∀ b a', Fr n ds ((d, .pointer (some ⟨b, 0, none⟩)) :: F) a' → RZ P B M Z ops QH ks ((b, cs) :: A) a') : RZ P B M Z ops QH (i :: ks) A a := by
  have hzo : FI P ⟨some d, .alloc t, ty, pos, aft, none⟩ = some cs := by simp [FI, hz, hc]
  unfold RZ Qt
  simp only [ho, hzo, Di (o := ⟨some d, .alloc t, ty, pos, aft, none⟩) (a := a) rfl, if_true]
  exact fun b => k b _ (hF.put (Nat.le_of_ble_eq_true hn) _)
theorem Nu (h : QH A a) : RZ P B M Z ops QH [] A a := h
theorem Tl {id : Nat} {l : List Oper} (n : Nat) (hs ks : List Nat) (hQ : E1 l.toArray Q) (hW : Stw B M Z w) (hm : P.follows .mixedOrders = true) (hB : Region.ordTailB P .any l.toArray n hs ks = true)
    (h : S6 l.toArray (fun a => RZ P B M Z l.toArray (fun A a' => ∀ w', Stw B (A ++ M) Z w' → wpList P l.toArray Q (l.drop n) a' w') ks [] a) hs a) (hd : O4 rl l = true := by rfl) : (Code.region id l.toArray true).wr rl P Q a w := LO n hs ks hQ hW hm hB h hd
theorem I4 {id : Nat} {l : List Oper} (n : Nat) (hs ks : List Nat) (hQ : KE Q) (hW : Stw B M Z w) (hm : P.follows .mixedOrders = true) (hB : Region.ordTailB P .any l.toArray n hs ks = true)
    (h : S6 l.toArray (fun a => RZ P B M Z l.toArray (fun A a' => ∀ w', Stw B (A ++ M) Z w' → wpList P l.toArray Q (l.drop n) a' w') ks [] a) hs a) (hd : O4 rl l = true := by rfl) : (Code.region id l.toArray true).wr rl P Q a w := Tl n hs ks hQ.on hW hm hB h hd
theorem hm {K : Act → Prop} {i d : Nat} {x : Operand} {v : Value} {t : TypeId} {pos : String} {aft : Array Edge} (hF : Fr n ds F a) (ho : ops[i]? = some ⟨some d, .move x, t, pos, aft, none⟩) (hn : Nat.blt d n = true) (hx : DV F x = some v)
    (k : ∀ a', Fr n ds ((d, v) :: F) a' → S6 ops K ks a') : S6 ops K (i :: ks) a := by
  unfold S6
  simp only [ho, LP]
  rw [hF.eval hx]
  exact k _ (hF.put (Nat.le_of_ble_eq_true hn) v)
theorem KF {K : Act → Prop} (h : K a) : S6 ops K [] a := h
theorem KT {id : Nat} {l : List Oper} (h : wpList P l.toArray Q l a w) (hd : O4 rl l = true := by rfl) : (Code.region id l.toArray false).wr rl P Q a w := Pu hd h
theorem AO {a' : Act} (h : Q' a') : wpQuiet P ops (Stw B M Z) Q' [] a' := h
theorem GK {x y : Code} (h : x.wr rl P (Exit.then (y.wr rl P Q) Q) a w) : (Code.seq x y).wr rl P Q a w := Ug h
theorem Ad {next : Act → World → Prop} (h : next a w) : Exit.then next Q .normal a w := h
theorem B9 {c : Operand} {x y : Code} {t : Bool} (hF : Fr n ds F a) (hc : DV F c = some (.bool t)) (ht : t = true → x.wr rl P Q a w) (hf : t = false → y.wr rl P Q a w) : (Code.cond c x y).wr rl P Q a w :=
  Ji (hF.eval hc) ht hf
theorem OR {c : Operand} {x y : Code} (hF : Fr n ds F a) (hc : DV F c = some (.bool true)) (ht : x.wr rl P Q a w) : (Code.cond c x y).wr rl P Q a w := QB (hF.eval hc) ht
theorem Pi {c : Operand} {x y : Code} (hF : Fr n ds F a) (hc : DV F c = some (.bool false)) (ht : y.wr rl P Q a w) : (Code.cond c x y).wr rl P Q a w := Pt (hF.eval hc) ht
def Yx (P : Program) (B : Bs) (M : Dh) (Z : List It) (a : Act) (o : Oper) (v : Value) : Prop := ∀ w, Stw B M Z w → (execOp a.eval o).run P w = .ok (.value v) w
theorem Dj {v : Value} (h : ∀ w, Stw B M Z w → (execOp a.eval o).run P w = .ok (.value v) w) : Yx P B M Z a o v := h
theorem Yx.q {v : Value} (h : Yx P B M Z a o v) : Yq P B M Z a o v := fun w hw => by
  unfold Oper.quietAt
  rw [h w hw]
  exact ⟨rfl, rfl⟩
variable {dst : Option Tmp} {ty : TypeId} {pos : String} {aft : Array Edge} {g : Option (Nat × Bool)}
theorem Aq {x : Operand} {v : Value} (hF : Fr n ds F a) (hx : DV F x = some v) : Yx P B M Z a ⟨dst, .move x, ty, pos, aft, g⟩ v :=
  Dj fun w _ => by simp [execOp, hF.eval hx]
theorem Bz {x : Operand} {v : Value} (hF : Fr n ds F a) (hx : DV F x = some v) : Yx P B M Z a ⟨dst, .assign x, ty, pos, aft, g⟩ v :=
  Dj fun w _ => by simp [execOp, hF.eval hx]
theorem BI {c x y : Operand} {t : Bool} {v : Value} (hF : Fr n ds F a) (hc : DV F c = some (.bool t)) (ht : t = true) (hx : DV F x = some v) : Yx P B M Z a ⟨dst, .pick c x y, ty, pos, aft, g⟩ v :=
  Dj fun w _ => by subst ht; simp [execOp, hF.eval hc, hF.eval hx, asBool]
theorem BA {c x y : Operand} {t : Bool} {v : Value} (hF : Fr n ds F a) (hc : DV F c = some (.bool t)) (ht : t = false) (hy : DV F y = some v) : Yx P B M Z a ⟨dst, .pick c x y, ty, pos, aft, g⟩ v :=
  Dj fun w _ => by subst ht; simp [execOp, hF.eval hc, hF.eval hy, asBool]
theorem B8 (op : BinOp) (t : TypeId) (x y : Operand) (k j : IntKind) (p q : Int) (w : World) : (eqGuard op t x y (.int k p) (.int j q)).run P w = .ok () w := by
  unfold eqGuard; cases op <;> simp
theorem Iz (op : BinOp) (t : TypeId) (x y : Operand) (p q : ByteArray) (w : World) : (eqGuard op t x y (.string p) (.string q)).run P w = .ok () w := by
  unfold eqGuard; cases op <;> simp
section ints
variable {x y : Operand} {k : IntKind} {p q r : Int} {T T' : TypeId} (hF : Fr n ds F a) (hx : DV F x = some (.int k p)) (hy : DV F y = some (.int k q))
include hF hx hy
theorem Iv (hr : k.wrap (p + q) = r) : Yx P B M Z a ⟨dst, .binOp .add T x y T', ty, pos, aft, g⟩ (.int k r) :=
  Dj fun w _ => by simp [execOp, hF.eval hx, hF.eval hy, B8, binOp, Op.intArith, hr]
theorem Ix (hr : k.wrap (p - q) = r) : Yx P B M Z a ⟨dst, .binOp .sub T x y T', ty, pos, aft, g⟩ (.int k r) :=
  Dj fun w _ => by simp [execOp, hF.eval hx, hF.eval hy, B8, binOp, Op.intArith, hr]
theorem Ve (hr : k.wrap (p * q) = r) : Yx P B M Z a ⟨dst, .binOp .mul T x y T', ty, pos, aft, g⟩ (.int k r) :=
  Dj fun w _ => by simp [execOp, hF.eval hx, hF.eval hy, B8, binOp, Op.intArith, hr]
theorem O8 (hz : q ≠ 0) (hr : k.wrap (p.tdiv q) = r) : Yx P B M Z a ⟨dst, .binOp .quo T x y T', ty, pos, aft, g⟩ (.int k r) :=
  Dj fun w _ => by simp [execOp, hF.eval hx, hF.eval hy, B8, binOp, Op.intDiv, hr, hz]
theorem GY : Yx P B M Z a ⟨dst, .binOp .lss T x y T', ty, pos, aft, g⟩ (.bool (decide (p < q))) :=
  Dj fun w _ => by simp [execOp, hF.eval hx, hF.eval hy, B8, binOp, Op.intCmp]
theorem Lp : Yx P B M Z a ⟨dst, .binOp .leq T x y T', ty, pos, aft, g⟩ (.bool (decide (p ≤ q))) :=
  Dj fun w _ => by simp [execOp, hF.eval hx, hF.eval hy, B8, binOp, Op.intCmp]
theorem Nx : Yx P B M Z a ⟨dst, .binOp .gtr T x y T', ty, pos, aft, g⟩ (.bool (decide (q < p))) :=
  Dj fun w _ => by simp [execOp, hF.eval hx, hF.eval hy, B8, binOp, Op.intCmp]
theorem Sy : Yx P B M Z a ⟨dst, .binOp .geq T x y T', ty, pos, aft, g⟩ (.bool (decide (q ≤ p))) :=
  Dj fun w _ => by simp [execOp, hF.eval hx, hF.eval hy, B8, binOp, Op.intCmp]
theorem PO : Yx P B M Z a ⟨dst, .binOp .eql T x y T', ty, pos, aft, g⟩ (.bool (decide (p = q))) :=
  Dj fun w _ => by
    simp [execOp, hF.eval hx, hF.eval hy, B8, binOp, Op.intCmp]
    by_cases h : p = q <;> simp [h]
theorem Wr : Yx P B M Z a ⟨dst, .binOp .neq T x y T', ty, pos, aft, g⟩ (.bool (decide (p ≠ q))) :=
  Dj fun w _ => by
    simp [execOp, hF.eval hx, hF.eval hy, B8, binOp, Op.intCmp]
    by_cases h : p = q <;> simp [h]
end ints
theorem Kx {x : Operand} {t : Bool} {T : TypeId} (hF : Fr n ds F a) (hx : DV F x = some (.bool t)) : Yx P B M Z a ⟨dst, .unOp .not T x, ty, pos, aft, g⟩ (.bool (!t)) :=
  Dj fun w _ => by simp [execOp, hF.eval hx, Op.unary]
theorem WP {x y : Operand} {xs ys : List Value} {t : Bool} {T T' : TypeId} (hm : P.eqGuardType P.depth T = false) (hE : ∀ w, (Op.equalIn 10000 T (.agg xs.toArray) (.agg ys.toArray)).run P w = .ok t w) (hF : Fr n ds F a) (hx : DV F x = some (.agg xs.toArray)) (hy : DV F y = some (.agg ys.toArray)) :
    Yx P B M Z a ⟨dst, .binOp .eql T x y T', ty, pos, aft, g⟩ (.bool t) :=
  Dj fun w _ => by simp [execOp, hF.eval hx, hF.eval hy, run_eqGuard_agg w .eql T x y xs.toArray ys.toArray hm, run_eql_struct, hE]
theorem WG {x y : Operand} {xs ys : List Value} {t : Bool} {T T' : TypeId} (hm : P.eqGuardType P.depth T = false) (hE : ∀ w, (Op.equalIn 10000 T (.agg xs.toArray) (.agg ys.toArray)).run P w = .ok t w) (hF : Fr n ds F a) (hx : DV F x = some (.agg xs.toArray)) (hy : DV F y = some (.agg ys.toArray)) :
    Yx P B M Z a ⟨dst, .binOp .neq T x y T', ty, pos, aft, g⟩ (.bool (!t)) :=
  Dj fun w _ => by simp [execOp, hF.eval hx, hF.eval hy, run_eqGuard_agg w .neq T x y xs.toArray ys.toArray hm, run_neq_struct, hE]
theorem Dx {x : Operand} {vs : List Value} {i : Nat} {v : Value} (hF : Fr n ds F a) (hx : DV F x = some (.tuple vs.toArray)) (hi : vs[i]? = some v) : Yx P B M Z a ⟨dst, .extract x i, ty, pos, aft, g⟩ v :=
  Dj fun w _ => by simp [execOp, hF.eval hx, Instr.extract, hi]
theorem FS (ρ : Operand → Value) (b : Builtin) (args : Array Operand) (ts : Array TypeId) (t : TypeId) : resolve ρ ⟨.builtin b, args, ts⟩ t = pure { target := .builtin b ts t (args.map fun | .const _ => true | _ => false), args := args.map ρ } := rfl
theorem WT {x y : Operand} {k : IntKind} {p q : Int} {ts : Array TypeId} (hF : Fr n ds F a) (hx : DV F x = some (.int k p)) (hy : DV F y = some (.int k q)) : Yx P B M Z a ⟨dst, .call ⟨.builtin .max, #[x, y], ts⟩, ty, pos, aft, g⟩ (.int k (max p q)) :=
  Dj fun w _ => by
    have : (if p < q then q else p) = max p q := by omega
    simp [execOp, FS, invoke, builtin, Builtin.max_, Builtin.max2, hF.eval hx, hF.eval hy, this]
theorem Va {x y : Operand} {k : IntKind} {p q : Int} {ts : Array TypeId} (hF : Fr n ds F a) (hx : DV F x = some (.int k p)) (hy : DV F y = some (.int k q)) : Yx P B M Z a ⟨dst, .call ⟨.builtin .min, #[x, y], ts⟩, ty, pos, aft, g⟩ (.int k (min p q)) :=
  Dj fun w _ => by
    have : (if q < p then q else p) = min p q := by omega
    simp [execOp, FS, invoke, builtin, Builtin.min_, Builtin.min2, hF.eval hx, hF.eval hy, this]
end
end Go.Proofs.YtpckgggmgijiiaaGreatDoor
