/- The operations, one lemma each, over a frame known by its slots and a memory known by its blocks. Conditions: none. -/
import Derived.Test.YtmbjfpacaenbhaaGreatQA
import Derived.IntWalk
import Derived.KernelRfl
import Derived.Laws.StructEq
namespace Go.Proofs.YtmbjfpacaenbhaaGreat
set_option linter.unusedVariables false
set_option linter.unusedSimpArgs false
open Go Go.RowKit
variable {rl : Option Nat}

section
variable {P : Program} {B : Bs} {M M' : List (Nat × List Value)} {Z : List It} {n : Nat} {ds : List Deferred} {F : List (Nat × Value)} {a : Act} {w : World}

theorem Yq.cls {o : Oper} {v : Value} (y : Yq P B M Z a o v) : ∀ w, Stw B M Z w → o.quietAt P a (Stw B M Z) w v := fun w hw => by
  have := y w hw
  unfold Oper.quietAt Oper.quietUpon at *
  generalize (execOp a.eval o).run P w = r at *
  cases r with
  | ok nx w2 =>
    cases nx <;> simp only at this ⊢ <;> try exact this
    exact ⟨this.1, this.2.mono fun e w3 ⟨he, hb⟩ => ⟨he, hw.below hb⟩⟩
  | halt x w2 => exact this

theorem wanted_none {ops : Array Oper} {o : Oper} (hg : o.guard = none) : Region.wanted o (yielded ops a.tmps) = true := by simp [Region.wanted, hg]
theorem wanted_some {ops : Array Oper} {o : Oper} {i d : Nat} {t t' : Bool} {l : List Oper} (hF : Fr n ds F a) (hl : ops = l.toArray) (hg : o.guard = some (i, t)) (hd : (l[i]?).bind (·.dst) = some d) (hk : lk F d = some (.bool t')) :
    Region.wanted o (yielded ops a.tmps) = (t' == t) := by
  subst hl
  have := hF.slots d _ hk
  cases t <;> cases t' <;> simp [Region.wanted, hg, yielded, hd, this]
theorem wanted_y {ops : Array Oper} {o : Oper} {i d : Nat} {t : Bool} {l : List Oper} (hF : Fr n ds F a) (hl : ops = l.toArray) (hg : o.guard = some (i, t)) (hd : (l[i]?).bind (·.dst) = some d) (hk : lk F d = some (.bool t)) :
    Region.wanted o (yielded ops a.tmps) = true := by rw [wanted_some hF hl hg hd hk]; simp
theorem wanted_n {ops : Array Oper} {o : Oper} {i d : Nat} {t t' : Bool} {l : List Oper} (hF : Fr n ds F a) (hl : ops = l.toArray) (hg : o.guard = some (i, t)) (hd : (l[i]?).bind (·.dst) = some d) (hk : lk F d = some (.bool t')) (hne : (t' == t) = false) :
    Region.wanted o (yielded ops a.tmps) = false := by rw [wanted_some hF hl hg hd hk]; exact hne
theorem wanted_undef {ops : Array Oper} {o : Oper} {i d : Nat} {t : Bool} {l : List Oper} (hF : Fr n ds F a) (hl : ops = l.toArray) (hg : o.guard = some (i, t)) (hd : (l[i]?).bind (·.dst) = some d) (hk : lk F d = some undef) :
    Region.wanted o (yielded ops a.tmps) = false := by
  subst hl
  have := hF.slots d _ hk
  cases t <;> simp [Region.wanted, hg, yielded, hd, this, undef]

/-! ### Steps of a list in order -/
variable {ops : Array Oper} {Q : Exit → Act → World → Prop} {rest : List Oper} {o : Oper}

theorem ls_w {d : Nat} {v : Value} (hF : Fr n ds F a) (hW : Stw B M Z w) (hwt : Region.wanted o (yielded ops a.tmps) = true) (hd : o.dst = some d) (hn : d < n) (y : Yq P B M Z a o v)
    (k : ∀ a' w', Fr n ds ((d, v) :: F) a' → Stw B M Z w' → wpList P ops Q rest a' w') : wpList P ops Q (o :: rest) a w := by
  unfold wpList
  rw [if_pos hwt]
  refine .inl (Oper.wp_of_quiet (C := Stw B M Z) (K := fun a' => Fr n ds ((d, v) :: F) a') hW (fun a' w' hw' hf => k a' w' hf hw') ⟨v, y.cls, ?_⟩)
  rw [hd]
  exact hF.put hn v
theorem ls {d : Nat} {v : Value} {op : Op} {t : TypeId} {pos : String} {aft : Array Edge} (hF : Fr n ds F a) (hW : Stw B M Z w) (hn : Nat.blt d n = true) (y : Yq P B M Z a ⟨some d, op, t, pos, aft, none⟩ v)
    (k : ∀ a' w', Fr n ds ((d, v) :: F) a' → Stw B M Z w' → wpList P ops Q rest a' w') : wpList P ops Q (⟨some d, op, t, pos, aft, none⟩ :: rest) a w :=
  ls_w hF hW (wanted_none rfl) rfl (Nat.le_of_ble_eq_true hn) y k
theorem ls_skip {d : Nat} (hF : Fr n ds F a) (hwt : Region.wanted o (yielded ops a.tmps) = false) (hd : o.dst = some d) (hn : Nat.blt d n = true)
    (k : ∀ a', Fr n ds ((d, undef) :: F) a' → wpList P ops Q rest a' w) : wpList P ops Q (o :: rest) a w := by
  unfold wpList
  rw [if_neg (by rw [hwt]; simp)]
  refine k _ ?_
  rw [hd]
  exact hF.put (Nat.le_of_ble_eq_true hn) _
theorem ls_nil (h : Q .normal a w) : wpList P ops Q [] a w := h

/-! ### Steps of a quiet walk -/
variable {Q' : Act → Prop}
theorem qs_w {d : Nat} {v : Value} (hF : Fr n ds F a) (hwt : Region.wanted o (yielded ops a.tmps) = true) (hd : o.dst = some d) (hn : d < n) (y : Yq P B M Z a o v)
    (k : ∀ a', Fr n ds ((d, v) :: F) a' → wpQuiet P ops (Stw B M Z) Q' rest a') : wpQuiet P ops (Stw B M Z) Q' (o :: rest) a := by
  unfold wpQuiet
  rw [if_pos hwt]
  refine ⟨v, y.cls, k _ ?_⟩
  rw [hd]
  exact hF.put hn v
theorem qs {d : Nat} {v : Value} {op : Op} {t : TypeId} {pos : String} {aft : Array Edge} (hF : Fr n ds F a) (hn : Nat.blt d n = true) (y : Yq P B M Z a ⟨some d, op, t, pos, aft, none⟩ v)
    (k : ∀ a', Fr n ds ((d, v) :: F) a' → wpQuiet P ops (Stw B M Z) Q' rest a') : wpQuiet P ops (Stw B M Z) Q' (⟨some d, op, t, pos, aft, none⟩ :: rest) a :=
  qs_w hF (wanted_none rfl) rfl (Nat.le_of_ble_eq_true hn) y k
theorem qs_skip {d : Nat} (hF : Fr n ds F a) (hwt : Region.wanted o (yielded ops a.tmps) = false) (hd : o.dst = some d) (hn : Nat.blt d n = true)
    (k : ∀ a', Fr n ds ((d, undef) :: F) a' → wpQuiet P ops (Stw B M Z) Q' rest a') : wpQuiet P ops (Stw B M Z) Q' (o :: rest) a := by
  unfold wpQuiet
  rw [if_neg (by rw [hwt]; simp)]
  refine k _ ?_
  rw [hd]
  exact hF.put (Nat.le_of_ble_eq_true hn) _

theorem reg_tail {id : Nat} {l : List Oper} (n : Nat) (hW : Stw B M Z w) (hm : P.follows .mixedOrders = true) (hB : Region.lexTailB .any l.toArray n = true)
    (h : wpQuiet P l.toArray (Stw B M Z) (fun a' => ∀ w', Stw B M Z w' → wpList P l.toArray Q (l.drop n) a' w') (l.take n) a) (hd : okd rl l = true := by rfl) : (Code.region id l.toArray true).wr rl P Q a w :=
  wp_region_quiet_tail n hm hB hW.drew h hd
theorem reg_quiet {id : Nat} {l : List Oper} (hW : Stw B M Z w) (hm : P.follows .mixedOrders = true) (hB : Region.lexB .any l.toArray = true)
    (h : wpQuiet P l.toArray (Stw B M Z) (fun a' => ∀ w', Stw B M Z w' → Q .normal a' w') l a) (hd : okd rl l = true := by rfl) : (Code.region id l.toArray true).wr rl P Q a w :=
  wr_region_quiet hd hm hB hW.drew (by simpa using h)
/-! ### Steps of a walk in an order of one's own -/
variable {QH : Blks → Act → Prop} {ks : List Nat} {A : Blks}
theorem hs_w {i d : Nat} {v : Value} (hF : Fr n ds F a) (ho : ops[i]? = some o) (hz : zeroOf P o = none) (hwt : Region.wanted o (yielded ops a.tmps) = true) (hd : o.dst = some d) (hn : Nat.blt d n = true) (y : Yq P B M Z a o v)
    (k : ∀ a', Fr n ds ((d, v) :: F) a' → wpH P B M Z ops QH ks A a') : wpH P B M Z ops QH (i :: ks) A a := by
  unfold wpH stA
  simp only [ho, hz, hwt, if_true]
  refine ⟨v, y, k _ ?_⟩
  rw [hd]
  exact hF.put (Nat.le_of_ble_eq_true hn) v
theorem hs {i d : Nat} {v : Value} {op : Op} {t : TypeId} {pos : String} {aft : Array Edge} (hF : Fr n ds F a) (ho : ops[i]? = some ⟨some d, op, t, pos, aft, none⟩) (hz : zeroOf P ⟨some d, op, t, pos, aft, none⟩ = none) (hn : Nat.blt d n = true) (y : Yq P B M Z a ⟨some d, op, t, pos, aft, none⟩ v)
    (k : ∀ a', Fr n ds ((d, v) :: F) a' → wpH P B M Z ops QH ks A a') : wpH P B M Z ops QH (i :: ks) A a :=
  hs_w hF ho hz (wanted_none rfl) rfl hn y k
theorem hs_skip {i d : Nat} (hF : Fr n ds F a) (ho : ops[i]? = some o) (hwt : Region.wanted o (yielded ops a.tmps) = false) (hd : o.dst = some d) (hn : Nat.blt d n = true)
    (k : ∀ a', Fr n ds ((d, undef) :: F) a' → wpH P B M Z ops QH ks A a') : wpH P B M Z ops QH (i :: ks) A a := by
  unfold wpH stA
  simp only [ho, hwt, Bool.false_eq_true, if_false]
  refine k _ ?_
  rw [hd]
  exact hF.put (Nat.le_of_ble_eq_true hn) _
theorem ha {i d : Nat} {t ty : TypeId} {z : Value} {cs : List Value} {pos : String} {aft : Array Edge} (hF : Fr n ds F a) (ho : ops[i]? = some ⟨some d, .alloc t, ty, pos, aft, none⟩) (hn : Nat.blt d n = true) (hz : (P.info? t).bind (·.zero) = some z) (hc : z.cells.toList = cs)
    (k : ∀ b a', Fr n ds ((d, .pointer (some ⟨b, 0, none⟩)) :: F) a' → wpH P B M Z ops QH ks ((b, cs) :: A) a') : wpH P B M Z ops QH (i :: ks) A a := by
  have hzo : zeroOf P ⟨some d, .alloc t, ty, pos, aft, none⟩ = some cs := by simp [zeroOf, hz, hc]
  unfold wpH stA
  simp only [ho, hzo, wanted_none (o := ⟨some d, .alloc t, ty, pos, aft, none⟩) (a := a) rfl, if_true]
  exact fun b => k b _ (hF.put (Nat.le_of_ble_eq_true hn) _)
theorem h_end (h : QH A a) : wpH P B M Z ops QH [] A a := h
theorem reg_ordD {id : Nat} {l : List Oper} (n : Nat) (hs ks : List Nat) (hQ : SlotFreeOn l.toArray Q) (hW : Stw B M Z w) (hm : P.follows .mixedOrders = true) (hB : Region.ordTailB P .any l.toArray n hs ks = true)
    (h : wpM l.toArray (fun a => wpH P B M Z l.toArray (fun A a' => ∀ w', Stw B (A ++ M) Z w' → wpList P l.toArray Q (l.drop n) a' w') ks [] a) hs a) (hd : okd rl l = true := by rfl) : (Code.region id l.toArray true).wr rl P Q a w := wp_region_ord_tail n hs ks hQ hW hm hB h hd
theorem reg_ord {id : Nat} {l : List Oper} (n : Nat) (hs ks : List Nat) (hQ : SlotFree Q) (hW : Stw B M Z w) (hm : P.follows .mixedOrders = true) (hB : Region.ordTailB P .any l.toArray n hs ks = true)
    (h : wpM l.toArray (fun a => wpH P B M Z l.toArray (fun A a' => ∀ w', Stw B (A ++ M) Z w' → wpList P l.toArray Q (l.drop n) a' w') ks [] a) hs a) (hd : okd rl l = true := by rfl) : (Code.region id l.toArray true).wr rl P Q a w := reg_ordD n hs ks hQ.on hW hm hB h hd
theorem hm {K : Act → Prop} {i d : Nat} {x : Operand} {v : Value} {t : TypeId} {pos : String} {aft : Array Edge} (hF : Fr n ds F a) (ho : ops[i]? = some ⟨some d, .move x, t, pos, aft, none⟩) (hn : Nat.blt d n = true) (hx : opv F x = some v)
    (k : ∀ a', Fr n ds ((d, v) :: F) a' → wpM ops K ks a') : wpM ops K (i :: ks) a := by
  unfold wpM
  simp only [ho, movesB]
  rw [hF.eval hx]
  exact k _ (hF.put (Nat.le_of_ble_eq_true hn) v)
theorem hm_end {K : Act → Prop} (h : K a) : wpM ops K [] a := h
theorem reg_list {id : Nat} {l : List Oper} (h : wpList P l.toArray Q l a w) (hd : okd rl l = true := by rfl) : (Code.region id l.toArray false).wr rl P Q a w := wr_region_lit hd h
theorem quiet_end {a' : Act} (h : Q' a') : wpQuiet P ops (Stw B M Z) Q' [] a' := h

/-! ### Code -/
theorem c_seq {x y : Code} (h : x.wr rl P (Exit.then (y.wr rl P Q) Q) a w) : (Code.seq x y).wr rl P Q a w := wr_seq h
theorem c_then {next : Act → World → Prop} (h : next a w) : Exit.then next Q .normal a w := h
theorem c_cond {c : Operand} {x y : Code} {t : Bool} (hF : Fr n ds F a) (hc : opv F c = some (.bool t)) (ht : t = true → x.wr rl P Q a w) (hf : t = false → y.wr rl P Q a w) : (Code.cond c x y).wr rl P Q a w :=
  wr_cond_split (hF.eval hc) ht hf
theorem c_cond_t {c : Operand} {x y : Code} (hF : Fr n ds F a) (hc : opv F c = some (.bool true)) (ht : x.wr rl P Q a w) : (Code.cond c x y).wr rl P Q a w := wr_cond_true (hF.eval hc) ht
theorem c_cond_f {c : Operand} {x y : Code} (hF : Fr n ds F a) (hc : opv F c = some (.bool false)) (ht : y.wr rl P Q a w) : (Code.cond c x y).wr rl P Q a w := wr_cond_false (hF.eval hc) ht

/-! ### Operations that yield -/
/-- In every world of which this is known the operation yields v, and turns nothing at all. -/
def Yx (P : Program) (B : Bs) (M : Blks) (Z : List It) (a : Act) (o : Oper) (v : Value) : Prop := ∀ w, Stw B M Z w → (execOp a.eval o).run P w = .ok (.value v) w
theorem yl_of {v : Value} (h : ∀ w, Stw B M Z w → (execOp a.eval o).run P w = .ok (.value v) w) : Yx P B M Z a o v := h
theorem Yx.q {v : Value} (h : Yx P B M Z a o v) : Yq P B M Z a o v := fun w hw => by
  unfold Oper.quietAt
  rw [h w hw]
  exact ⟨rfl, rfl⟩

variable {dst : Option Tmp} {ty : TypeId} {pos : String} {aft : Array Edge} {g : Option (Nat × Bool)}

theorem y_move {x : Operand} {v : Value} (hF : Fr n ds F a) (hx : opv F x = some v) : Yx P B M Z a ⟨dst, .move x, ty, pos, aft, g⟩ v :=
  yl_of fun w _ => by simp [execOp, hF.eval hx]
theorem y_assign {x : Operand} {v : Value} (hF : Fr n ds F a) (hx : opv F x = some v) : Yx P B M Z a ⟨dst, .assign x, ty, pos, aft, g⟩ v :=
  yl_of fun w _ => by simp [execOp, hF.eval hx]
theorem y_pick {c x y : Operand} {t : Bool} {v u : Value} (hF : Fr n ds F a) (hc : opv F c = some (.bool t)) (hx : opv F x = some v) (hy : opv F y = some u) : Yx P B M Z a ⟨dst, .pick c x y, ty, pos, aft, g⟩ (if t then v else u) :=
  yl_of fun w _ => by cases t <;> simp [execOp, hF.eval hc, hF.eval hx, hF.eval hy, asBool]
theorem y_pick_t {c x y : Operand} {t : Bool} {v : Value} (hF : Fr n ds F a) (hc : opv F c = some (.bool t)) (ht : t = true) (hx : opv F x = some v) : Yx P B M Z a ⟨dst, .pick c x y, ty, pos, aft, g⟩ v :=
  yl_of fun w _ => by subst ht; simp [execOp, hF.eval hc, hF.eval hx, asBool]
theorem y_pick_f {c x y : Operand} {t : Bool} {v : Value} (hF : Fr n ds F a) (hc : opv F c = some (.bool t)) (ht : t = false) (hy : opv F y = some v) : Yx P B M Z a ⟨dst, .pick c x y, ty, pos, aft, g⟩ v :=
  yl_of fun w _ => by subst ht; simp [execOp, hF.eval hc, hF.eval hy, asBool]

theorem run_eqGuard_int (op : BinOp) (t : TypeId) (x y : Operand) (k j : IntKind) (p q : Int) (w : World) : (eqGuard op t x y (.int k p) (.int j q)).run P w = .ok () w := by
  unfold eqGuard; cases op <;> simp
theorem run_eqGuard_bool (op : BinOp) (t : TypeId) (x y : Operand) (p q : Bool) (w : World) : (eqGuard op t x y (.bool p) (.bool q)).run P w = .ok () w := by
  unfold eqGuard; cases op <;> simp
theorem run_eqGuard_string (op : BinOp) (t : TypeId) (x y : Operand) (p q : ByteArray) (w : World) : (eqGuard op t x y (.string p) (.string q)).run P w = .ok () w := by
  unfold eqGuard; cases op <;> simp

section ints
variable {x y : Operand} {k : IntKind} {p q r : Int} {T T' : TypeId} (hF : Fr n ds F a) (hx : opv F x = some (.int k p)) (hy : opv F y = some (.int k q))
include hF hx hy
theorem y_add (hr : k.wrap (p + q) = r) : Yx P B M Z a ⟨dst, .binOp .add T x y T', ty, pos, aft, g⟩ (.int k r) :=
  yl_of fun w _ => by simp [execOp, hF.eval hx, hF.eval hy, run_eqGuard_int, binOp, Op.intArith, hr]
theorem y_sub (hr : k.wrap (p - q) = r) : Yx P B M Z a ⟨dst, .binOp .sub T x y T', ty, pos, aft, g⟩ (.int k r) :=
  yl_of fun w _ => by simp [execOp, hF.eval hx, hF.eval hy, run_eqGuard_int, binOp, Op.intArith, hr]
theorem y_mul (hr : k.wrap (p * q) = r) : Yx P B M Z a ⟨dst, .binOp .mul T x y T', ty, pos, aft, g⟩ (.int k r) :=
  yl_of fun w _ => by simp [execOp, hF.eval hx, hF.eval hy, run_eqGuard_int, binOp, Op.intArith, hr]
theorem y_quo (hz : q ≠ 0) (hr : k.wrap (p.tdiv q) = r) : Yx P B M Z a ⟨dst, .binOp .quo T x y T', ty, pos, aft, g⟩ (.int k r) :=
  yl_of fun w _ => by simp [execOp, hF.eval hx, hF.eval hy, run_eqGuard_int, binOp, Op.intDiv, hr, hz]
theorem y_rem (hz : q ≠ 0) (hr : p.tmod q = r) : Yx P B M Z a ⟨dst, .binOp .rem T x y T', ty, pos, aft, g⟩ (.int k r) :=
  yl_of fun w _ => by simp [execOp, hF.eval hx, hF.eval hy, run_eqGuard_int, binOp, Op.intDiv, hr, hz]
theorem y_lss : Yx P B M Z a ⟨dst, .binOp .lss T x y T', ty, pos, aft, g⟩ (.bool (decide (p < q))) :=
  yl_of fun w _ => by simp [execOp, hF.eval hx, hF.eval hy, run_eqGuard_int, binOp, Op.intCmp]
theorem y_leq : Yx P B M Z a ⟨dst, .binOp .leq T x y T', ty, pos, aft, g⟩ (.bool (decide (p ≤ q))) :=
  yl_of fun w _ => by simp [execOp, hF.eval hx, hF.eval hy, run_eqGuard_int, binOp, Op.intCmp]
theorem y_gtr : Yx P B M Z a ⟨dst, .binOp .gtr T x y T', ty, pos, aft, g⟩ (.bool (decide (q < p))) :=
  yl_of fun w _ => by simp [execOp, hF.eval hx, hF.eval hy, run_eqGuard_int, binOp, Op.intCmp]
theorem y_geq : Yx P B M Z a ⟨dst, .binOp .geq T x y T', ty, pos, aft, g⟩ (.bool (decide (q ≤ p))) :=
  yl_of fun w _ => by simp [execOp, hF.eval hx, hF.eval hy, run_eqGuard_int, binOp, Op.intCmp]
theorem y_eql : Yx P B M Z a ⟨dst, .binOp .eql T x y T', ty, pos, aft, g⟩ (.bool (decide (p = q))) :=
  yl_of fun w _ => by
    simp [execOp, hF.eval hx, hF.eval hy, run_eqGuard_int, binOp, Op.intCmp]
    by_cases h : p = q <;> simp [h]
theorem y_neq : Yx P B M Z a ⟨dst, .binOp .neq T x y T', ty, pos, aft, g⟩ (.bool (decide (p ≠ q))) :=
  yl_of fun w _ => by
    simp [execOp, hF.eval hx, hF.eval hy, run_eqGuard_int, binOp, Op.intCmp]
    by_cases h : p = q <;> simp [h]
end ints
theorem y_not {x : Operand} {t : Bool} {T : TypeId} (hF : Fr n ds F a) (hx : opv F x = some (.bool t)) : Yx P B M Z a ⟨dst, .unOp .not T x, ty, pos, aft, g⟩ (.bool (!t)) :=
  yl_of fun w _ => by simp [execOp, hF.eval hx, Op.unary]
theorem y_neg {x : Operand} {k : IntKind} {p r : Int} {T : TypeId} (hF : Fr n ds F a) (hx : opv F x = some (.int k p)) (hr : k.wrap (0 - p) = r) : Yx P B M Z a ⟨dst, .unOp .neg T x, ty, pos, aft, g⟩ (.int k r) :=
  yl_of fun w _ => by simp only [Int.zero_sub] at hr; simp [execOp, hF.eval hx, Op.unary, Op.intArith, hr]
theorem run_equal_bool {T : TypeId} (hT : P.underlying T = some .bool) (p q : Bool) (w : World) : (Op.equal T (.bool p) (.bool q)).run P w = .ok (p == q) w := by
  unfold Op.equal
  rw [show Op.maxDepth = 9999 + 1 from rfl]
  exact run_equalIn_bool' w 9999 T p q hT
theorem y_eqb {x y : Operand} {p q : Bool} {T T' : TypeId} (hT : P.underlying T = some .bool) (hF : Fr n ds F a) (hx : opv F x = some (.bool p)) (hy : opv F y = some (.bool q)) : Yx P B M Z a ⟨dst, .binOp .eql T x y T', ty, pos, aft, g⟩ (.bool (decide (p = q))) :=
  yl_of fun w _ => by
    simp [execOp, hF.eval hx, hF.eval hy, run_eqGuard_bool, binOp, run_equal_bool hT]
    cases p <;> cases q <;> rfl
theorem y_neb {x y : Operand} {p q : Bool} {T T' : TypeId} (hT : P.underlying T = some .bool) (hF : Fr n ds F a) (hx : opv F x = some (.bool p)) (hy : opv F y = some (.bool q)) : Yx P B M Z a ⟨dst, .binOp .neq T x y T', ty, pos, aft, g⟩ (.bool (decide (p ≠ q))) :=
  yl_of fun w _ => by
    simp [execOp, hF.eval hx, hF.eval hy, run_eqGuard_bool, binOp, run_equal_bool hT]
    cases p <;> cases q <;> rfl
theorem y_eqa {x y : Operand} {xs ys : List Value} {t : Bool} {T T' : TypeId} (hm : P.eqGuardType P.depth T = false) (hE : ∀ w, (Op.equalIn 10000 T (.agg xs.toArray) (.agg ys.toArray)).run P w = .ok t w) (hF : Fr n ds F a) (hx : opv F x = some (.agg xs.toArray)) (hy : opv F y = some (.agg ys.toArray)) :
    Yx P B M Z a ⟨dst, .binOp .eql T x y T', ty, pos, aft, g⟩ (.bool t) :=
  yl_of fun w _ => by simp [execOp, hF.eval hx, hF.eval hy, run_eqGuard_agg w .eql T x y xs.toArray ys.toArray hm, run_eql_struct, hE]
theorem y_nea {x y : Operand} {xs ys : List Value} {t : Bool} {T T' : TypeId} (hm : P.eqGuardType P.depth T = false) (hE : ∀ w, (Op.equalIn 10000 T (.agg xs.toArray) (.agg ys.toArray)).run P w = .ok t w) (hF : Fr n ds F a) (hx : opv F x = some (.agg xs.toArray)) (hy : opv F y = some (.agg ys.toArray)) :
    Yx P B M Z a ⟨dst, .binOp .neq T x y T', ty, pos, aft, g⟩ (.bool (!t)) :=
  yl_of fun w _ => by simp [execOp, hF.eval hx, hF.eval hy, run_eqGuard_agg w .neq T x y xs.toArray ys.toArray hm, run_neq_struct, hE]
theorem y_extract {x : Operand} {vs : List Value} {i : Nat} {v : Value} (hF : Fr n ds F a) (hx : opv F x = some (.tuple vs.toArray)) (hi : vs[i]? = some v) : Yx P B M Z a ⟨dst, .extract x i, ty, pos, aft, g⟩ v :=
  yl_of fun w _ => by simp [execOp, hF.eval hx, Instr.extract, hi]

theorem resolve_builtin (ρ : Operand → Value) (b : Builtin) (args : Array Operand) (ts : Array TypeId) (t : TypeId) : resolve ρ ⟨.builtin b, args, ts⟩ t = pure { target := .builtin b ts t (args.map fun | .const _ => true | _ => false), args := args.map ρ } := rfl
theorem y_max {x y : Operand} {k : IntKind} {p q : Int} {ts : Array TypeId} (hF : Fr n ds F a) (hx : opv F x = some (.int k p)) (hy : opv F y = some (.int k q)) : Yx P B M Z a ⟨dst, .call ⟨.builtin .max, #[x, y], ts⟩, ty, pos, aft, g⟩ (.int k (max p q)) :=
  yl_of fun w _ => by
    have : (if p < q then q else p) = max p q := by omega
    simp [execOp, resolve_builtin, invoke, builtin, Builtin.max_, Builtin.max2, hF.eval hx, hF.eval hy, this]
theorem y_min {x y : Operand} {k : IntKind} {p q : Int} {ts : Array TypeId} (hF : Fr n ds F a) (hx : opv F x = some (.int k p)) (hy : opv F y = some (.int k q)) : Yx P B M Z a ⟨dst, .call ⟨.builtin .min, #[x, y], ts⟩, ty, pos, aft, g⟩ (.int k (min p q)) :=
  yl_of fun w _ => by
    have : (if q < p then q else p) = min p q := by omega
    simp [execOp, resolve_builtin, invoke, builtin, Builtin.min_, Builtin.min2, hF.eval hx, hF.eval hy, this]
end
end Go.Proofs.YtmbjfpacaenbhaaGreat
