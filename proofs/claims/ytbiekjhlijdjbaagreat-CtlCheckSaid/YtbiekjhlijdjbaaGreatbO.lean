/- The operations, one lemma each, over a frame known by its slots and a memory known by its blocks. Conditions: none. -/
import Derived.Test.YtbiekjhlijdjbaaGreatbW
import Derived.IntWalk
import Derived.KernelRfl
import Derived.Laws.StructEq
import Derived.Deep.LoopGhost
set_option linter.unusedVariables false
set_option linter.unusedSimpArgs false
open Go Go.RowKit
namespace Go.Proofs.YtbiekjhlijdjbaaGreat
variable {rl : Option Nat}
section
variable {P : Program} {B : Bs} {M M' : List (Nat × List Value)} {Z : List It} {n : Nat} {ds : List Deferred} {F : List (Nat × Value)} {a : Act} {w : World}
theorem Yq.cls {o : Oper} {v : Value} (y : Yq P B M Z a o v) : ∀ w,Stw B M Z w → o.quietAt P a (Stw B M Z) w v := fun w hw => by
  have := y w hw
  unfold Oper.quietAt Oper.quietUpon at *
  generalize (execOp a.eval o).run P w = r at *
  cases r with
  | ok nx w2 =>
    cases nx <;> simp only at this ⊢ <;> try exact this
    exact ⟨this.1,this.2.mono fun e w3 ⟨he,hb⟩ => ⟨he,hw.below hb⟩⟩
  | halt x w2 => exact this
theorem Ba {ops : Array Oper} {o : Oper} (hg : o.guard = none) : Region.wanted o (yielded ops a.tmps) = true := by simp [Region.wanted,hg]
theorem FN {ops : Array Oper} {o : Oper} {i d : Nat} {t t' : Bool} {l : List Oper} (hF : Fr n ds F a) (hl : ops = l.toArray) (hg : o.guard = some (i,t)) (hd : (l[i]?).bind (·.dst) = some d) (hk : lk F d = some (.bool t')) :
    Region.wanted o (yielded ops a.tmps) = (t' == t) := by
  subst hl
  have := hF.slots d _ hk
  cases t <;> cases t' <;> simp [Region.wanted,hg,yielded,hd,this]
theorem Ac {ops : Array Oper} {o : Oper} {i d : Nat} {t : Bool} {l : List Oper} (hF : Fr n ds F a) (hl : ops = l.toArray) (hg : o.guard = some (i,t)) (hd : (l[i]?).bind (·.dst) = some d) (hk : lk F d = some (.bool t)) :
    Region.wanted o (yielded ops a.tmps) = true := by rw [FN hF hl hg hd hk]; simp
theorem B4 {ops : Array Oper} {o : Oper} {i d : Nat} {t t' : Bool} {l : List Oper} (hF : Fr n ds F a) (hl : ops = l.toArray) (hg : o.guard = some (i,t)) (hd : (l[i]?).bind (·.dst) = some d) (hk : lk F d = some (.bool t')) (hne : (t' == t) = false) :
    Region.wanted o (yielded ops a.tmps) = false := by rw [FN hF hl hg hd hk]; exact hne
theorem I7 {ops : Array Oper} {o : Oper} {i d : Nat} {t : Bool} {l : List Oper} (hF : Fr n ds F a) (hl : ops = l.toArray) (hg : o.guard = some (i,t)) (hd : (l[i]?).bind (·.dst) = some d) (hk : lk F d = some undef) :
    Region.wanted o (yielded ops a.tmps) = false := by
  subst hl
  have := hF.slots d _ hk
  cases t <;> simp [Region.wanted,hg,yielded,hd,this,undef]
variable {ops : Array Oper} {Q : Exit → Act → World → Prop} {rest : List Oper} {o : Oper}
theorem BC {d : Nat} {v : Value} (hF : Fr n ds F a) (hW : Stw B M Z w) (hwt : Region.wanted o (yielded ops a.tmps) = true) (hd : o.dst = some d) (hn : d < n) (y : Yq P B M Z a o v)
    (k : ∀ a' w',Fr n ds ((d,v) :: F) a' → Stw B M Z w' → wpList P ops Q rest a' w') : wpList P ops Q (o :: rest) a w := by
  unfold wpList
  rw [if_pos hwt]
  refine .inl (Oper.wp_of_quiet (C := Stw B M Z) (K := fun a' => Fr n ds ((d,v) :: F) a') hW (fun a' w' hw' hf => k a' w' hf hw') ⟨v,y.cls, ?_⟩)
  rw [hd]
  exact hF.put hn v
theorem ls {d : Nat} {v : Value} {op : Op} {t : TypeId} {pos : String} {aft : Array Edge} (hF : Fr n ds F a) (hW : Stw B M Z w) (hn : Nat.blt d n = true) (y : Yq P B M Z a ⟨some d,op,t,pos,aft,none⟩ v)
    (k : ∀ a' w',Fr n ds ((d,v) :: F) a' → Stw B M Z w' → wpList P ops Q rest a' w') : wpList P ops Q (⟨some d,op,t,pos,aft,none⟩ :: rest) a w :=
  BC hF hW (Ba rfl) rfl (ze hn) y k
theorem Q7 {d : Nat} (hF : Fr n ds F a) (hwt : Region.wanted o (yielded ops a.tmps) = false) (hd : o.dst = some d) (hn : Nat.blt d n = true)
    (k : ∀ a',Fr n ds ((d,undef) :: F) a' → wpList P ops Q rest a' w) : wpList P ops Q (o :: rest) a w := by
  unfold wpList
  rw [if_neg (by rw [hwt]; simp)]
  refine k _ ?_
  rw [hd]
  exact hF.put (ze hn) _
theorem eW {n m : Nat} (h : Nat.ble n m = true) : n ≤ m := ze h
theorem fD {p : Prop} [Decidable p] (h : decide p = true) : p := of_decide_eq_true h
theorem iF {p : Prop} [Decidable p] (h : decide p = false) : ¬ p := of_decide_eq_false h
theorem g6 {α : Type} {a b : α} (h : some a = some b) : a = b := Option.some.inj h
theorem fS {α : Sort _} {a : α} : a = a := rfl
theorem D1 (h : Q .normal a w) : wpList P ops Q [] a w := h
variable {Q' : Act → Prop}
theorem Bf {d : Nat} {v : Value} (hF : Fr n ds F a) (hwt : Region.wanted o (yielded ops a.tmps) = true) (hd : o.dst = some d) (hn : d < n) (y : Yq P B M Z a o v)
    (k : ∀ a',Fr n ds ((d,v) :: F) a' → wpQuiet P ops (Stw B M Z) Q' rest a') : wpQuiet P ops (Stw B M Z) Q' (o :: rest) a := by
  unfold wpQuiet
  rw [if_pos hwt]
  refine ⟨v,y.cls,k _ ?_⟩
  rw [hd]
  exact hF.put hn v
theorem qs {d : Nat} {v : Value} {op : Op} {t : TypeId} {pos : String} {aft : Array Edge} (hF : Fr n ds F a) (hn : Nat.blt d n = true) (y : Yq P B M Z a ⟨some d,op,t,pos,aft,none⟩ v)
    (k : ∀ a',Fr n ds ((d,v) :: F) a' → wpQuiet P ops (Stw B M Z) Q' rest a') : wpQuiet P ops (Stw B M Z) Q' (⟨some d,op,t,pos,aft,none⟩ :: rest) a :=
  Bf hF (Ba rfl) rfl (ze hn) y k
theorem DS {d : Nat} (hF : Fr n ds F a) (hwt : Region.wanted o (yielded ops a.tmps) = false) (hd : o.dst = some d) (hn : Nat.blt d n = true)
    (k : ∀ a',Fr n ds ((d,undef) :: F) a' → wpQuiet P ops (Stw B M Z) Q' rest a') : wpQuiet P ops (Stw B M Z) Q' (o :: rest) a := by
  unfold wpQuiet
  rw [if_neg (by rw [hwt]; simp)]
  refine k _ ?_
  rw [hd]
  exact hF.put (ze hn) _
theorem Lc {id : Nat} {l : List Oper} (n : Nat) (hW : Stw B M Z w) (hm : P.follows .mixedOrders = true) (hB : Region.lexTailB .any l.toArray n = true)
    (h : wpQuiet P l.toArray (Stw B M Z) (fun a' => ∀ w',Stw B M Z w' → wpList P l.toArray Q (l.drop n) a' w') (l.take n) a) (hd : Mk rl l = true := by rfl) : (Code.region id l.toArray true).wr rl P Q a w :=
  HB n hm hB hW.drew h hd
theorem BV {id : Nat} {l : List Oper} (hW : Stw B M Z w) (hm : P.follows .mixedOrders = true) (hB : Region.lexB .any l.toArray = true)
    (h : wpQuiet P l.toArray (Stw B M Z) (fun a' => ∀ w',Stw B M Z w' → Q .normal a' w') l a) (hd : Mk rl l = true := by rfl) : (Code.region id l.toArray true).wr rl P Q a w :=
  Kp hd hm hB hW.drew (by simpa using h)
variable {QH : Bi → Act → Prop} {ks : List Nat} {A : Bi}
theorem cL {i d : Nat} {v : Value} (hF : Fr n ds F a) (ho : ops[i]? = some o) (hz : C2 P o = none) (hwt : Region.wanted o (yielded ops a.tmps) = true) (hd : o.dst = some d) (hn : Nat.blt d n = true) (y : Yq P B M Z a o v)
    (k : ∀ a',Fr n ds ((d,v) :: F) a' → PJ P B M Z ops QH ks A a') : PJ P B M Z ops QH (i :: ks) A a := by
  unfold PJ M8
  simp only [ho,hz,hwt,if_true]
  refine ⟨v,y,k _ ?_⟩
  rw [hd]
  exact hF.put (ze hn) v
theorem hs {i d : Nat} {v : Value} {op : Op} {t : TypeId} {pos : String} {aft : Array Edge} (hF : Fr n ds F a) (ho : ops[i]? = some ⟨some d,op,t,pos,aft,none⟩) (hz : C2 P ⟨some d,op,t,pos,aft,none⟩ = none) (hn : Nat.blt d n = true) (y : Yq P B M Z a ⟨some d,op,t,pos,aft,none⟩ v)
    (k : ∀ a',Fr n ds ((d,v) :: F) a' → PJ P B M Z ops QH ks A a') : PJ P B M Z ops QH (i :: ks) A a :=
  cL hF ho hz (Ba rfl) rfl hn y k
theorem ha {i d : Nat} {t ty : TypeId} {z : Value} {cs : List Value} {pos : String} {aft : Array Edge} (hF : Fr n ds F a) (ho : ops[i]? = some ⟨some d,.alloc t,ty,pos,aft,none⟩) (hn : Nat.blt d n = true) (hz : (P.info? t).bind (·.zero) = some z) (hc : z.cells.toList = cs)
    (k : ∀ b a',Fr n ds ((d,.pointer (some ⟨b,0,none⟩)) :: F) a' → PJ P B M Z ops QH ks ((b,cs) :: A) a') : PJ P B M Z ops QH (i :: ks) A a := by
  have hzo : C2 P ⟨some d,.alloc t,ty,pos,aft,none⟩ = some cs := by simp [C2,hz,hc]
  unfold PJ M8
  simp only [ho,hzo,Ba (o := ⟨some d,.alloc t,ty,pos,aft,none⟩) (a := a) rfl,if_true]
  exact fun b => k b _ (hF.put (ze hn) _)
theorem VR (h : QH A a) : PJ P B M Z ops QH [] A a := h
theorem Te {id : Nat} {l : List Oper} (n : Nat) (hs ks : List Nat) (hQ : CJ l.toArray Q) (hW : Stw B M Z w) (hm : P.follows .mixedOrders = true) (hB : Region.ordTailB P .any l.toArray n hs ks = true)
    (h : RJ l.toArray (fun a => PJ P B M Z l.toArray (fun A a' => ∀ w',Stw B (A ++ M) Z w' → wpList P l.toArray Q (l.drop n) a' w') ks [] a) hs a) (hd : Mk rl l = true := by rfl) : (Code.region id l.toArray true).wr rl P Q a w := Iq n hs ks hQ hW hm hB h hd
theorem QK {id : Nat} {l : List Oper} (n : Nat) (hs ks : List Nat) (hQ : Ht Q) (hW : Stw B M Z w) (hm : P.follows .mixedOrders = true) (hB : Region.ordTailB P .any l.toArray n hs ks = true)
    (h : RJ l.toArray (fun a => PJ P B M Z l.toArray (fun A a' => ∀ w',Stw B (A ++ M) Z w' → wpList P l.toArray Q (l.drop n) a' w') ks [] a) hs a) (hd : Mk rl l = true := by rfl) : (Code.region id l.toArray true).wr rl P Q a w := Te n hs ks hQ.on hW hm hB h hd
theorem hm {K : Act → Prop} {i d : Nat} {x : Operand} {v : Value} {t : TypeId} {pos : String} {aft : Array Edge} (hF : Fr n ds F a) (ho : ops[i]? = some ⟨some d,.move x,t,pos,aft,none⟩) (hn : Nat.blt d n = true) (hx : Bo F x = some v)
    (k : ∀ a',Fr n ds ((d,v) :: F) a' → RJ ops K ks a') : RJ ops K (i :: ks) a := by
  unfold RJ
  simp only [ho,Iu]
  rw [hF.eval hx]
  exact k _ (hF.put (ze hn) v)
theorem SN {K : Act → Prop} (h : K a) : RJ ops K [] a := h
theorem F4 {id : Nat} {l : List Oper} (h : wpList P l.toArray Q l a w) (hd : Mk rl l = true := by rfl) : (Code.region id l.toArray false).wr rl P Q a w := Ie hd h
theorem AX {a' : Act} (h : Q' a') : wpQuiet P ops (Stw B M Z) Q' [] a' := h
theorem Ly {x y : Code} (h : x.wr rl P (Exit.then (y.wr rl P Q) Q) a w) : (Code.seq x y).wr rl P Q a w := Ug h
theorem Aa {next : Act → World → Prop} (h : next a w) : Exit.then next Q .normal a w := h
theorem Dw {c : Operand} {x y : Code} {t : Bool} (hF : Fr n ds F a) (hc : Bo F c = some (.bool t)) (ht : t = true → x.wr rl P Q a w) (hf : t = false → y.wr rl P Q a w) : (Code.cond c x y).wr rl P Q a w :=
  FV (hF.eval hc) ht hf
theorem N9 {c : Operand} {x y : Code} (hF : Fr n ds F a) (hc : Bo F c = some (.bool true)) (ht : x.wr rl P Q a w) : (Code.cond c x y).wr rl P Q a w := Nm (hF.eval hc) ht
theorem On {c : Operand} {x y : Code} (hF : Fr n ds F a) (hc : Bo F c = some (.bool false)) (ht : y.wr rl P Q a w) : (Code.cond c x y).wr rl P Q a w := Mf (hF.eval hc) ht
def Yx (P : Program) (B : Bs) (M : Bi) (Z : List It) (a : Act) (o : Oper) (v : Value) : Prop := ∀ w,Stw B M Z w → (execOp a.eval o).run P w = .ok (.value v) w
theorem AZ {v : Value} (h : ∀ w,Stw B M Z w → (execOp a.eval o).run P w = .ok (.value v) w) : Yx P B M Z a o v := h
theorem Yx.q {v : Value} (h : Yx P B M Z a o v) : Yq P B M Z a o v := fun w hw => by
  unfold Oper.quietAt
  rw [h w hw]
  exact ⟨rfl,rfl⟩
variable {dst : Option Tmp} {ty : TypeId} {pos : String} {aft : Array Edge} {g : Option (Nat × Bool)}
theorem Al {x : Operand} {v : Value} (hF : Fr n ds F a) (hx : Bo F x = some v) : Yx P B M Z a ⟨dst,.move x,ty,pos,aft,g⟩ v :=
  AZ fun w _ => by simp [execOp,hF.eval hx]
theorem BB {x : Operand} {v : Value} (hF : Fr n ds F a) (hx : Bo F x = some v) : Yx P B M Z a ⟨dst,.assign x,ty,pos,aft,g⟩ v :=
  AZ fun w _ => by simp [execOp,hF.eval hx]
theorem CE {c x y : Operand} {t : Bool} {v : Value} (hF : Fr n ds F a) (hc : Bo F c = some (.bool t)) (ht : t = true) (hx : Bo F x = some v) : Yx P B M Z a ⟨dst,.pick c x y,ty,pos,aft,g⟩ v :=
  AZ fun w _ => by subst ht; simp [execOp,hF.eval hc,hF.eval hx,asBool]
theorem Cy {c x y : Operand} {t : Bool} {v : Value} (hF : Fr n ds F a) (hc : Bo F c = some (.bool t)) (ht : t = false) (hy : Bo F y = some v) : Yx P B M Z a ⟨dst,.pick c x y,ty,pos,aft,g⟩ v :=
  AZ fun w _ => by subst ht; simp [execOp,hF.eval hc,hF.eval hy,asBool]
theorem AR (op : BinOp) (t : TypeId) (x y : Operand) (k j : IntKind) (p q : Int) (w : World) : (eqGuard op t x y (.int k p) (.int j q)).run P w = .ok () w := by
  unfold eqGuard; cases op <;> simp
theorem Gg (op : BinOp) (t : TypeId) (x y : Operand) (p q : Bool) (w : World) : (eqGuard op t x y (.bool p) (.bool q)).run P w = .ok () w := by
  unfold eqGuard; cases op <;> simp
theorem Fp (op : BinOp) (t : TypeId) (x y : Operand) (p q : ByteArray) (w : World) : (eqGuard op t x y (.string p) (.string q)).run P w = .ok () w := by
  unfold eqGuard; cases op <;> simp
section ints
variable {x y : Operand} {k : IntKind} {p q r : Int} {T T' : TypeId} (hF : Fr n ds F a) (hx : Bo F x = some (.int k p)) (hy : Bo F y = some (.int k q))
include hF hx hy
theorem OV (hr : k.wrap (p + q) = r) : Yx P B M Z a ⟨dst,.binOp .add T x y T',ty,pos,aft,g⟩ (.int k r) :=
  AZ fun w _ => by simp [execOp,hF.eval hx,hF.eval hy,AR,binOp,Op.intArith,hr]
theorem IX (hr : k.wrap (p - q) = r) : Yx P B M Z a ⟨dst,.binOp .sub T x y T',ty,pos,aft,g⟩ (.int k r) :=
  AZ fun w _ => by simp [execOp,hF.eval hx,hF.eval hy,AR,binOp,Op.intArith,hr]
theorem Wd (hr : k.wrap (p * q) = r) : Yx P B M Z a ⟨dst,.binOp .mul T x y T',ty,pos,aft,g⟩ (.int k r) :=
  AZ fun w _ => by simp [execOp,hF.eval hx,hF.eval hy,AR,binOp,Op.intArith,hr]
theorem Yo (hz : q ≠ 0) (hr : k.wrap (p.tdiv q) = r) : Yx P B M Z a ⟨dst,.binOp .quo T x y T',ty,pos,aft,g⟩ (.int k r) :=
  AZ fun w _ => by simp [execOp,hF.eval hx,hF.eval hy,AR,binOp,Op.intDiv,hr,hz]
theorem VT (hz : q ≠ 0) (hr : p.tmod q = r) : Yx P B M Z a ⟨dst,.binOp .rem T x y T',ty,pos,aft,g⟩ (.int k r) :=
  AZ fun w _ => by simp [execOp,hF.eval hx,hF.eval hy,AR,binOp,Op.intDiv,hr,hz]
theorem O1 : Yx P B M Z a ⟨dst,.binOp .lss T x y T',ty,pos,aft,g⟩ (.bool (decide (p < q))) :=
  AZ fun w _ => by simp [execOp,hF.eval hx,hF.eval hy,AR,binOp,Op.intCmp]
theorem V0 : Yx P B M Z a ⟨dst,.binOp .leq T x y T',ty,pos,aft,g⟩ (.bool (decide (p ≤ q))) :=
  AZ fun w _ => by simp [execOp,hF.eval hx,hF.eval hy,AR,binOp,Op.intCmp]
theorem QO : Yx P B M Z a ⟨dst,.binOp .gtr T x y T',ty,pos,aft,g⟩ (.bool (decide (q < p))) :=
  AZ fun w _ => by simp [execOp,hF.eval hx,hF.eval hy,AR,binOp,Op.intCmp]
theorem VW : Yx P B M Z a ⟨dst,.binOp .geq T x y T',ty,pos,aft,g⟩ (.bool (decide (q ≤ p))) :=
  AZ fun w _ => by simp [execOp,hF.eval hx,hF.eval hy,AR,binOp,Op.intCmp]
theorem IR : Yx P B M Z a ⟨dst,.binOp .eql T x y T',ty,pos,aft,g⟩ (.bool (decide (p = q))) :=
  AZ fun w _ => by
    simp [execOp,hF.eval hx,hF.eval hy,AR,binOp,Op.intCmp]
    by_cases h : p = q <;> simp [h]
theorem KH : Yx P B M Z a ⟨dst,.binOp .neq T x y T',ty,pos,aft,g⟩ (.bool (decide (p ≠ q))) :=
  AZ fun w _ => by
    simp [execOp,hF.eval hx,hF.eval hy,AR,binOp,Op.intCmp]
    by_cases h : p = q <;> simp [h]
end ints
theorem Ua {x : Operand} {t : Bool} {T : TypeId} (hF : Fr n ds F a) (hx : Bo F x = some (.bool t)) : Yx P B M Z a ⟨dst,.unOp .not T x,ty,pos,aft,g⟩ (.bool (!t)) :=
  AZ fun w _ => by simp [execOp,hF.eval hx,Op.unary]
theorem Yw {x : Operand} {k : IntKind} {p r : Int} {T : TypeId} (hF : Fr n ds F a) (hx : Bo F x = some (.int k p)) (hr : k.wrap (0 - p) = r) : Yx P B M Z a ⟨dst,.unOp .neg T x,ty,pos,aft,g⟩ (.int k r) :=
  AZ fun w _ => by simp only [Int.zero_sub] at hr; simp [execOp,hF.eval hx,Op.unary,Op.intArith,hr]
theorem Hn {T : TypeId} (hT : P.underlying T = some .bool) (p q : Bool) (w : World) : (Op.equal T (.bool p) (.bool q)).run P w = .ok (p == q) w := by
  unfold Op.equal
  rw [show Op.maxDepth = 9999 + 1 from rfl]
  exact run_equalIn_bool' w 9999 T p q hT
theorem YD {x y : Operand} {p q : Bool} {T T' : TypeId} (hT : P.underlying T = some .bool) (hF : Fr n ds F a) (hx : Bo F x = some (.bool p)) (hy : Bo F y = some (.bool q)) : Yx P B M Z a ⟨dst,.binOp .eql T x y T',ty,pos,aft,g⟩ (.bool (decide (p = q))) :=
  AZ fun w _ => by
    simp [execOp,hF.eval hx,hF.eval hy,Gg,binOp,Hn hT]
    cases p <;> cases q <;> rfl
theorem VU {x y : Operand} {p q : Bool} {T T' : TypeId} (hT : P.underlying T = some .bool) (hF : Fr n ds F a) (hx : Bo F x = some (.bool p)) (hy : Bo F y = some (.bool q)) : Yx P B M Z a ⟨dst,.binOp .neq T x y T',ty,pos,aft,g⟩ (.bool (decide (p ≠ q))) :=
  AZ fun w _ => by
    simp [execOp,hF.eval hx,hF.eval hy,Gg,binOp,Hn hT]
    cases p <;> cases q <;> rfl
theorem V5 {x y : Operand} {xs ys : List Value} {t : Bool} {T T' : TypeId} (hm : P.eqGuardType P.depth T = false) (hE : ∀ w,(Op.equalIn 10000 T (.agg xs.toArray) (.agg ys.toArray)).run P w = .ok t w) (hF : Fr n ds F a) (hx : Bo F x = some (.agg xs.toArray)) (hy : Bo F y = some (.agg ys.toArray)) :
    Yx P B M Z a ⟨dst,.binOp .eql T x y T',ty,pos,aft,g⟩ (.bool t) :=
  AZ fun w _ => by simp [execOp,hF.eval hx,hF.eval hy,run_eqGuard_agg w .eql T x y xs.toArray ys.toArray hm,run_eql_struct,hE]
theorem YP {x y : Operand} {xs ys : List Value} {t : Bool} {T T' : TypeId} (hm : P.eqGuardType P.depth T = false) (hE : ∀ w,(Op.equalIn 10000 T (.agg xs.toArray) (.agg ys.toArray)).run P w = .ok t w) (hF : Fr n ds F a) (hx : Bo F x = some (.agg xs.toArray)) (hy : Bo F y = some (.agg ys.toArray)) :
    Yx P B M Z a ⟨dst,.binOp .neq T x y T',ty,pos,aft,g⟩ (.bool (!t)) :=
  AZ fun w _ => by simp [execOp,hF.eval hx,hF.eval hy,run_eqGuard_agg w .neq T x y xs.toArray ys.toArray hm,run_neq_struct,hE]
theorem A4 {x : Operand} {vs : List Value} {i : Nat} {v : Value} (hF : Fr n ds F a) (hx : Bo F x = some (.tuple vs.toArray)) (hi : vs[i]? = some v) : Yx P B M Z a ⟨dst,.extract x i,ty,pos,aft,g⟩ v :=
  AZ fun w _ => by simp [execOp,hF.eval hx,Instr.extract,hi]
theorem Ax (ρ : Operand → Value) (b : Builtin) (args : Array Operand) (ts : Array TypeId) (t : TypeId) : resolve ρ ⟨.builtin b,args,ts⟩ t = pure { target := .builtin b ts t (args.map fun | .const _ => true | _ => false),args := args.map ρ } := rfl
theorem Yn {x y : Operand} {k : IntKind} {p q : Int} {ts : Array TypeId} (hF : Fr n ds F a) (hx : Bo F x = some (.int k p)) (hy : Bo F y = some (.int k q)) : Yx P B M Z a ⟨dst,.call ⟨.builtin .max, #[x,y],ts⟩,ty,pos,aft,g⟩ (.int k (max p q)) :=
  AZ fun w _ => by
    have : (if p < q then q else p) = max p q := by omega
    simp [execOp,Ax,invoke,builtin,Builtin.max_,Builtin.max2,hF.eval hx,hF.eval hy,this]
theorem YW {x y : Operand} {k : IntKind} {p q : Int} {ts : Array TypeId} (hF : Fr n ds F a) (hx : Bo F x = some (.int k p)) (hy : Bo F y = some (.int k q)) : Yx P B M Z a ⟨dst,.call ⟨.builtin .min, #[x,y],ts⟩,ty,pos,aft,g⟩ (.int k (min p q)) :=
  AZ fun w _ => by
    have : (if q < p then q else p) = min p q := by omega
    simp [execOp,Ax,invoke,builtin,Builtin.min_,Builtin.min2,hF.eval hx,hF.eval hy,this]
end
end Go.Proofs.YtbiekjhlijdjbaaGreat
namespace Go.Proofs.YtbiekjhlijdjbaaGreat
variable {rl : Option Nat}
section
variable {P : Program} {B : Bs} {M M' : List (Nat × List Value)} {Z : List It} {n : Nat} {ds : List Deferred} {F : List (Nat × Value)} {a : Act} {w : World}
variable {ops : Array Oper} {Q : Exit → Act → World → Prop} {rest : List Oper} {o : Oper}
variable {dst : Option Tmp} {ty : TypeId} {pos : String} {aft : Array Edge} {g : Option (Nat × Bool)}
structure Ty (P : Program) (t : TypeId) (agg : Bool) (sz : Nat) : Prop where
  desc : (P.underlying t).map (fun d => match d with | .struct _ => true | .array _ _ => true | _ => false) = some agg
  size : (P.info? t).map (·.size) = some sz
theorem Ty.isAgg {t : TypeId} {agg : Bool} {sz : Nat} (h : Ty P t agg sz) (w : World) : (isAgg t).run P w = .ok agg w := by
  have hd := h.desc
  unfold Go.isAgg Go.underlying
  cases hu : P.underlying t with
  | none => rw [hu] at hd; simp at hd
  | some d =>
    rw [hu] at hd
    cases d <;> simp_all
theorem Ty.sizeOf {t : TypeId} {agg : Bool} {sz : Nat} (h : Ty P t agg sz) (w : World) : (Go.sizeOf t).run P w = .ok sz w := by
  have hd := h.size
  unfold Go.sizeOf Go.typeInfo
  cases hu : P.info? t with
  | none => rw [hu] at hd; simp at hd
  | some d => rw [hu] at hd; simp_all
def Jx (agg : Bool) (sz : Nat) (cs : List Value) (off : Nat) : Option Value :=
  if agg then (if off + sz ≤ cs.length then some (.agg ((cs.drop off).take sz).toArray) else none) else cs[off]?
theorem Bg (b o j : Nat) : (⟨b,o,none⟩ : Addr).add j = ⟨b,o + j,none⟩ := by unfold Addr.add; split <;> simp_all
theorem FD {t : TypeId} {agg : Bool} {sz b off : Nat} {cs : List Value} {v : Value} (T : Ty P t agg sz) (hc : ∀ j,j < cs.length → w.cell? ⟨b,j,none⟩ = cs[j]?) (hv : Jx agg sz cs off = some v) :
    (loadVar t ⟨b,off,none⟩).run P w = .ok v w := by
  unfold loadVar
  cases agg with
  | false =>
    simp only [Jx,Bool.false_eq_true,if_false] at hv
    have hlt : off < cs.length := (List.getElem?_eq_some_iff.1 hv).1
    have hcell := hc off hlt
    rw [hv] at hcell
    simp [T.isAgg,hcell]
  | true =>
    simp only [Jx,if_true] at hv
    by_cases hle : off + sz ≤ cs.length
    · rw [if_pos hle] at hv
      simp only [Option.some.injEq] at hv
      subst hv
      have := run_loadCells_list (P := P) (w := w) ⟨b,off,none⟩ ((cs.drop off).take sz) (fun j u hu => by
        rw [Bg]
        have hj : j < sz := by
          have := (List.getElem?_eq_some_iff.1 hu).1
          simp at this; omega
        rw [hc _ (by omega)]
        rw [List.getElem?_take_of_lt hj,List.getElem?_drop] at hu
        exact hu)
      have hl : ((cs.drop off).take sz).length = sz := by simp; omega
      rw [hl] at this
      simp [T.isAgg,T.sizeOf,this]
    · rw [if_neg hle] at hv; cases hv
theorem B5 {x : Operand} {t : TypeId} {agg : Bool} {sz b off : Nat} {cs : List Value} {v : Value} (i : Nat) (hF : Fr n ds F a) (hx : Bo F x = some (.pointer (some ⟨b,off,none⟩))) (hM : M[i]? = some (b,cs)) (T : Ty P t agg sz) (hv : Jx agg sz cs off = some v) :
    Yx P B M Z a ⟨dst,.load t x,ty,pos,aft,g⟩ v :=
  AZ fun w hw => by
    simp [execOp,hF.eval hx,Instr.loadAt,Instr.sureAddr,FD T (fun j _ => hw.cell hM j) hv]
theorem Au {x : Operand} {t t' : TypeId} {i b off fo : Nat} {fs : Array Field} {f : Field} {agg : Bool} {sz : Nat} (hu : P.underlying t = some (.struct fs)) (hf : fs[i]? = some f) (hfo : f.offset = fo) (hft : f.type = t') (T : Ty P t' agg (sz + 1))
    (hF : Fr n ds F a) (hx : Bo F x = some (.pointer (some ⟨b,off,none⟩))) (off' : Nat) (ho : off + fo = off') :
    Yx P B M Z a ⟨dst,.fieldAddr t x i,ty,pos,aft,g⟩ (.pointer (some ⟨b,off',none⟩)) :=
  AZ fun w hw => by
    subst hft hfo ho
    simp [execOp,hF.eval hx,Instr.fieldAt,Go.underlying,hu,hf,Instr.sureAddr,fieldPlace,T.sizeOf,Bg]
theorem FK {f : FuncId} {fn : Func} (hf : P.funcs[f]? = some fn) (hb : fn.body.isSome = true) (hname : (fn.name == "runtime.NumGoroutine") = false) (args : Array Value) (w : World) : (callFunc f args).run P w = .ok (.enter f args) w := by
  have : fn.body.isNone = false := by cases h : fn.body <;> simp_all
  simp only [callFunc,Sem.run_bind,run_program,Result.andThen_ok,hf,hname,this]
  simp
structure Has (P : Program) (f : FuncId) : Prop where
  enter : ∀ args w,(callFunc f args).run P w = .ok (.enter f args) w
def Pk (F : List (Nat × Value)) : List Operand → Option (List Value)
  | [] => some []
  | x :: r => match Bo F x,Pk F r with | some v,some vs => some (v :: vs) | _,_ => none
theorem Fr.evals (hF : Fr n ds F a) : ∀ {xs : List Operand} {vs : List Value},Pk F xs = some vs → xs.map a.eval = vs
  | [],vs,h => by simp [Pk] at h; subst h; rfl
  | x :: r,vs,h => by
    simp only [Pk] at h
    split at h
    · rename_i v us hv hus
      simp only [Option.some.injEq] at h
      subst h
      simp [hF.eval hv,hF.evals hus]
    · cases h
theorem Oc (hF : Fr n ds F a) {f : FuncId} {xs : List Operand} {vs : List Value} {ts : Array TypeId} (hP : Has P f) (hx : Pk F xs = some vs) (w : World) :
    (execOp a.eval ⟨dst,.call ⟨.value (.func f),xs.toArray,ts⟩,ty,pos,aft,g⟩).run P w = .ok (.enter f vs.toArray) w := by
  have h1 : (xs.toArray.map a.eval) = vs.toArray := by rw [← hF.evals hx]; simp
  have h2 : a.eval (.func f) = .func (.func f) #[] #[] := rfl
  simp [execOp,resolve,h1,h2,Deferred.ofValue,invoke,hP.enter]
theorem Av {f : FuncId} {xs : List Operand} {vs : List Value} {ts : Array TypeId} {v : Value} (hF : Fr n ds F a) (hP : Has P f) (hx : Pk F xs = some vs)
    (c : ∀ w,Stw B M Z w → Calls P f vs.toArray w fun e w' => e = .returned v ∧ Below w.heap.size w w') :
    Yq P B M Z a ⟨dst,.call ⟨.value (.func f),xs.toArray,ts⟩,ty,pos,aft,g⟩ v := fun w hw => by
  unfold Oper.quietAt
  rw [Oc hF hP hx]
  exact ⟨rfl,c w hw⟩
def WA (F : List (Nat × Value)) (fo : Operand) (xs : List Operand) : Option (FuncId × List Value) :=
  match Bo F fo,Pk F xs with
  | some (.func (.func f) first caps),some vs => some (f,first.toList ++ vs ++ caps.toList)
  | _,_ => none
theorem JI (hF : Fr n ds F a) {f : FuncId} {fo : Operand} {xs : List Operand} {ws : List Value} {ts : Array TypeId} (hP : Has P f) (hx : WA F fo xs = some (f,ws)) (w : World) :
    (execOp a.eval ⟨dst,.call ⟨.value fo,xs.toArray,ts⟩,ty,pos,aft,g⟩).run P w = .ok (.enter f ws.toArray) w := by
  unfold WA at hx
  split at hx
  · rename_i f' first caps vs hf hv
    simp only [Option.some.injEq,Prod.mk.injEq] at hx
    obtain ⟨rfl,rfl⟩ := hx
    have h1 : (xs.toArray.map a.eval) = vs.toArray := by rw [← hF.evals hv]; simp
    have h2 : a.eval fo = .func (.func f') first caps := hF.eval hf
    have h3 : (first ++ vs.toArray ++ caps) = (first.toList ++ vs ++ caps.toList).toArray := by simp
    simp [execOp,resolve,h1,h2,Deferred.ofValue,invoke,hP.enter]
  · cases hx
theorem Nj {f : FuncId} {fo : Operand} {xs : List Operand} {ws : List Value} {ts : Array TypeId} {v : Value} (hF : Fr n ds F a) (hP : Has P f) (hx : WA F fo xs = some (f,ws))
    (c : ∀ w,Stw B M Z w → Calls P f ws.toArray w fun e w' => e = .returned v ∧ Below w.heap.size w w') :
    Yq P B M Z a ⟨dst,.call ⟨.value fo,xs.toArray,ts⟩,ty,pos,aft,g⟩ v := fun w hw => by
  unfold Oper.quietAt
  rw [JI hF hP hx]
  exact ⟨rfl,c w hw⟩
theorem Ja (hF : Fr n ds F a) {d : Nat} {op : Op} {v : Value} {w' : World} (hn : Nat.blt d n = true) (hr : (execOp a.eval ⟨some d,op,ty,pos,aft,none⟩).run P w = .ok (.value v) w')
    (k : ∀ a',Fr n ds ((d,v) :: F) a' → wpList P ops Q rest a' w') : wpList P ops Q (⟨some d,op,ty,pos,aft,none⟩ :: rest) a w := by
  unfold wpList
  rw [if_pos (Ba rfl)]
  refine .inl ?_
  unfold Oper.wp
  rw [hr]
  exact k _ (hF.put (ze hn) v)
theorem Ck {d : Nat} {t : TypeId} {z : Value} {cs : List Value} (hF : Fr n ds F a) (hW : Stw B M Z w) (hn : Nat.blt d n = true) (hz : (P.info? t).bind (·.zero) = some z) (hc : z.cells.toList = cs)
    (k : ∀ b a' w',Fr n ds ((d,.pointer (some ⟨b,0,none⟩)) :: F) a' → Stw B ((b,cs) :: M) Z w' → wpList P ops Q rest a' w') : wpList P ops Q (⟨some d,.alloc t,ty,pos,aft,none⟩ :: rest) a w := by
  have hz' : (zeroValue t).run P w = .ok z w := by
    unfold zeroValue typeInfo
    cases hi : P.info? t with
    | none => rw [hi] at hz; simp at hz
    | some i => rw [hi] at hz; simp at hz; simp [hi,hz]
  refine Ja hF hn (v := .pointer (some ⟨w.heap.size,0,none⟩)) (w' := w.alloc (.cells cs.toArray t)) ?_ (fun a' h => k _ a' _ h (hW.alloc cs t))
  subst hc
  simp [execOp,Instr.alloc,hz',newVar,newRow]
theorem Cv {d : Nat} {t : TypeId} {x : Operand} {v : Value} {cs : List Value} (hF : Fr n ds F a) (hW : Stw B M Z w) (hn : Nat.blt d n = true) (hx : Bo F x = some v) (hc : v.cells.toList = cs)
    (k : ∀ b a' w',Fr n ds ((d,.pointer (some ⟨b,0,none⟩)) :: F) a' → Stw B ((b,cs) :: M) Z w' → wpList P ops Q rest a' w') : wpList P ops Q (⟨some d,.box t x,ty,pos,aft,none⟩ :: rest) a w := by
  refine Ja hF hn (v := .pointer (some ⟨w.heap.size,0,none⟩)) (w' := w.alloc (.cells cs.toArray t)) ?_ (fun a' h => k _ a' _ h (hW.alloc cs t))
  subst hc
  simp [execOp,Instr.box,hF.eval hx,newVar,newRow]
def DI : List Value → Nat → List Value → List Value
  | cs,_,[] => cs
  | cs,o,v :: r => DI (cs.set o v) (o + 1) r
theorem Cu {b i : Nat} : ∀ (vs : List Value) (o j : Nat) (cs : List Value) (M : List (Nat × List Value)) (w : World),Stw B M Z w → M[i]? = some (b,cs) → o + j + vs.length ≤ cs.length → (∀ v ∈ vs,v.oneCell' = true) →
    ∃ w',(storeCells ⟨b,o,none⟩ vs j).run P w = .ok () w' ∧ Stw B (M.set i (b,DI cs (o + j) vs)) Z w'
  | [], o, j, cs, M, w, hW, hM, _, _ => ⟨w, rfl, by
      have : M.set i (b,DI cs (o + j) []) = M := by
        refine List.ext_getElem? fun m => ?_
        by_cases him : i = m
        · subst him
          rw [List.getElem?_set_self (List.getElem?_eq_some_iff.1 hM).1]
          exact hM.symm
        · rw [List.getElem?_set_ne him]
      rw [this]; exact hW⟩
  | v :: r,o,j,cs,M,w,hW,hM,hl,h1 => by
    have hcell : w.cell? ⟨b,o + j,none⟩ = cs[o + j]? := hW.cell hM _
    have hlt : o + j < cs.length := by simp at hl; omega
    have hfr : w.frozen? ⟨b,o + j,none⟩ = false := hW.frozen hM _
    have hst : (store ((⟨b,o,none⟩ : Addr).add j) v).run P w = .ok () (w.setCell ⟨b,o + j,none⟩ v) := by
      rw [Bg,run_store P w _ v .plain (h1 v (by simp)),hcell,zb hlt]
      simp [hfr]
    have hi : i < M.length := (List.getElem?_eq_some_iff.1 hM).1
    obtain ⟨w',hr,hW'⟩ := Cu r o (j + 1) (cs.set (o + j) v) (M.set i (b,cs.set (o + j) v)) _ (hW.setCell hM (o + j) v) (by rw [List.getElem?_set_self hi])
      (by simp at hl ⊢; omega) (fun v hv => h1 v (by simp [hv]))
    refine ⟨w', ?_, ?_⟩
    · simp only [storeCells,Sem.run_bind,hst,Result.andThen_ok]
      exact hr
    · rw [List.set_set] at hW'
      exact hW'
theorem QJ {t : TypeId} {x y : Operand} {agg : Bool} {sz b off : Nat} {cs vs : List Value} {v : Value} (i : Nat) (hF : Fr n ds F a) (hW : Stw B M Z w) (hx : Bo F x = some (.pointer (some ⟨b,off,none⟩))) (hy : Bo F y = some v) (hM : M[i]? = some (b,cs)) (T : Ty P t agg sz)
    (hv : v.cells.toList = vs) (hsz : vs.length = sz) (hl : Nat.ble (off + vs.length) cs.length = true) (h1 : vs.all (·.oneCell') = true) (hM' : M.set i (b,DI cs off vs) = M')
    (k : ∀ w',Stw B M' Z w' → wpList P ops Q rest a w') : wpList P ops Q (⟨none,.store t x y,ty,pos,aft,none⟩ :: rest) a w := by
  obtain ⟨w',hr,hW'⟩ := Cu (P := P) vs off 0 cs M w hW hM (ze hl) (fun v hv => List.all_eq_true.1 h1 v hv)
  unfold wpList
  rw [if_pos (Ba rfl)]
  refine .inl ?_
  unfold Oper.wp
  have hs : v.cells.size = sz := by rw [← hsz, ← hv]; simp
  have hrun : (execOp a.eval ⟨none,.store t x y,ty,pos,aft,none⟩).run P w = .ok .skip w' := by
    subst hv
    have hr' : (storeCells ⟨b,off,none⟩ v.cells.toList).run P w = .ok () w' := hr
    simp [execOp,hF.eval hx,hF.eval hy,Instr.storeAt,Instr.sureAddr,storeVar,T.sizeOf,hs,hr']
  rw [hrun]
  subst hM'
  exact k w' hW'
theorem enter {f : FuncId} {fn : Func} {c : Code} {args : List Value} {R : Ending → World → Prop} {N : Nat} (hf : P.funcs[f]? = some fn) (hb : fn.body = some c) (hN : fn.ntmps = N) (hle : Nat.ble args.length N = true)
    (h : ∀ a,Fr N [] (args.zipIdx.map fun (v,i) => (i,v)) a → c.wr none P (bodyPost P fn R) a w) : Calls P f args.toArray w R := by
  refine calls_of_wp hf hb (h _ ⟨?_,rfl,fun k v hk => ?_⟩)
  · have := ze hle
    simp [hN]; omega
  · have key : ∀ (l : List Value) (s : Nat),lk ((l.zipIdx s).map fun (v,i) => (i,v)) k = some v → s ≤ k ∧ l[k - s]? = some v := by
      intro l
      induction l with
      | nil => intro s h; simp [lk] at h
      | cons x l ih =>
        intro s h
        simp only [List.zipIdx_cons,List.map_cons] at h
        by_cases hk : s = k
        · subst hk
          rw [BS] at h
          simp at h
          subst h
          simp
        · rw [B0 hk] at h
          obtain ⟨h1,h2⟩ := ih (s + 1) h
          refine ⟨by omega, ?_⟩
          rw [show k - s = (k - (s + 1)) + 1 by omega]
          simpa using h2
    obtain ⟨_,h2⟩ := key args 0 hk
    simp only [Nat.sub_zero] at h2
    rw [Array.getElem?_append_left (by simpa using (List.getElem?_eq_some_iff.1 h2).1)]
    simpa using h2
end
end Go.Proofs.YtbiekjhlijdjbaaGreat
namespace Go.Proofs.YtbiekjhlijdjbaaGreat
variable {rl : Option Nat}
section
variable {P : Program} {B : Bs} {M M' : List (Nat × List Value)} {Z : List It} {n : Nat} {ds : List Deferred} {F F' : List (Nat × Value)} {a : Act} {w : World}
variable {ops : Array Oper} {Q : Exit → Act → World → Prop} {rest : List Oper} {o : Oper}
variable {dst : Option Tmp} {ty : TypeId} {pos : String} {aft : Array Edge} {g : Option (Nat × Bool)}
variable {fn : Func} {R : Ending → World → Prop}
def QD (tmps : Array Value) : ResultVar → Sem Value
  | .tmp t => pure (tmps.getD t undef)
  | .cell p t => do loadVar t (← asAddr (tmps.getD p undef))
def Rv (P : Program) (B : Bs) (M : List (Nat × List Value)) (Z : List It) (a : Act) (r : ResultVar) (v : Value) : Prop := ∀ w,Stw B M Z w → (QD a.tmps r).run P w = .ok v w
theorem Ag {t : Tmp} {v : Value} (hF : Fr n ds F a) (h : lk F t = some v) : Rv P B M Z a (.tmp t) v := fun w _ => by simp [QD,hF.getD h, -Array.getD_eq_getD_getElem?]
theorem Nf {p : Tmp} {t : TypeId} {v : Value} {b off sz : Nat} {agg : Bool} {cs : List Value} (i : Nat) (hF : Fr n ds F a) (h : lk F p = some (.pointer (some ⟨b,off,none⟩))) (hM : M[i]? = some (b,cs)) (T : Ty P t agg sz) (hv : Jx agg sz cs off = some v) :
    Rv P B M Z a (.cell p t) v := fun w hw => by
  simp [QD,hF.getD h,asAddr,FD T (fun j _ => hw.cell hM j) hv, -Array.getD_eq_getD_getElem?]
theorem Ix (fn : Func) (tmps : Array Value) : results fn tmps = (do let vs ← fn.results.mapM (QD tmps); pure (if h : vs.size = 1 then vs[0] else .tuple vs)) := by
  rfl
theorem GO {e : Exit} (he : e = .ret ∨ e = .normal) (hF : Fr n [] F a) (hr : fn.results = #[]) (h : R (.returned (.tuple #[])) w) : bodyPost P fn R e a w := by
  rcases he with rfl | rfl <;> exact ⟨hF.defers,_,results_none hr _ _ _,h⟩
theorem Aw {e : Exit} {r : ResultVar} {v : Value} (he : e = .ret ∨ e = .normal) (hF : Fr n [] F a) (hW : Stw B M Z w) (hr : fn.results = #[r]) (h1 : Rv P B M Z a r v) (h : R (.returned v) w) : bodyPost P fn R e a w := by
  have : (results fn a.tmps).run P w = .ok v w := by
    rw [Ix,hr]
    have := h1 w hW
    simp [this]
  rcases he with rfl | rfl <;> exact ⟨hF.defers,v,this,h⟩
theorem Dz {e : Exit} {r s : ResultVar} {v u : Value} (he : e = .ret ∨ e = .normal) (hF : Fr n [] F a) (hW : Stw B M Z w) (hr : fn.results = #[r,s]) (h1 : Rv P B M Z a r v) (h2 : Rv P B M Z a s u) (h : R (.returned (.tuple #[v,u])) w) : bodyPost P fn R e a w := by
  have : (results fn a.tmps).run P w = .ok (.tuple #[v,u]) w := by
    rw [Ix,hr]
    have e1 := h1 w hW
    have e2 := h2 w hW
    simp [e1,e2]
  rcases he with rfl | rfl <;> exact ⟨hF.defers,_,this,h⟩
theorem WL {f : FuncId} {xs : List Operand} {vs : List Value} {ts : Array TypeId} {d : Nat} {R' : Ending → World → Prop} (hF : Fr n ds F a) (hP : Has P f) (hx : Pk F xs = some vs) (hn : Nat.blt d n = true)
    (c : Calls P f vs.toArray w R') (hret : ∀ v w' a',R' (.returned v) w' → Fr n ds ((d,v) :: F) a' → wpList P ops Q rest a' w') (hpan : ∀ ch w',R' (.panicked ch) w' → Q (.panic ch) a w') (hout : ∀ w',R' .outgrown w' → LetsOut Q) :
    wpList P ops Q (⟨some d,.call ⟨.value (.func f),xs.toArray,ts⟩,ty,pos,aft,none⟩ :: rest) a w := by
  unfold wpList
  rw [if_pos (Ba rfl)]
  refine .inl ?_
  unfold Oper.wp
  rw [Oc hF hP hx]
  refine c.mono fun e w' h => ?_
  cases e with
  | returned v => exact hret v w' _ h (hF.put (ze hn) v)
  | panicked ch => exact hpan ch w' h
  | outgrown => exact hout w' h
theorem AQ {K : Act → World → Prop} {id : Nat} (h : Q (.exit id) a w) : Exit.then K Q (.exit id) a w := h
theorem AF {id : Nat} (h : Q .normal a w) : Exit.inBlock id Q (.exit id) a w := by simp only [Exit.inBlock,if_pos]; exact h
theorem XE {id id' : Nat} (hne : Nat.beq id' id = false) (h : Q (.exit id') a w) : Exit.inBlock id Q (.exit id') a w := by
  have : id' ≠ id := by rintro rfl; simp at hne
  simp only [Exit.inBlock,if_neg this]; exact h
theorem Ak {K : Act → World → Prop} (h : Q .ret a w) : Exit.then K Q .ret a w := h
theorem Az {id : Nat} (h : Q .ret a w) : Exit.inBlock id Q .ret a w := h
theorem An {id : Nat} (h : Q .normal a w) : Exit.inBlock id Q .normal a w := h
def YX (F : List (Nat × Value)) : List (Nat × Value) → Prop
  | [] => True
  | (k,v) :: r => lk F k = some v ∧ YX F r
theorem Fr.re (h : Fr n ds F a) (hs : YX F F') : Fr n ds F' a := by
  refine h.sub fun k v => ?_
  induction F' with
  | nil => intro h; simp [lk] at h
  | cons p r ih =>
    intro hk
    obtain ⟨h1,h2⟩ := hs
    by_cases hkd : p.1 = k
    · subst hkd
      rw [BS] at hk
      simp only [Option.some.injEq] at hk
      subst hk
      exact h1
    · rw [B0 hkd] at hk
      exact ih h2 hk
end
end Go.Proofs.YtbiekjhlijdjbaaGreat
namespace Go.Proofs.YtbiekjhlijdjbaaGreat
section
variable {P : Program} {B : Bs} {M M' : List (Nat × List Value)} {Z : List It} {n : Nat} {ds : List Deferred} {F F' : List (Nat × Value)} {a : Act} {w : World}
variable {ops : Array Oper} {Q : Exit → Act → World → Prop} {rest : List Oper} {o : Oper}
variable {dst : Option Tmp} {ty : TypeId} {pos : String} {aft : Array Edge} {g : Option (Nat × Bool)}
structure Bt (P : Program) (t : TypeId) (zs : List Value) (pl : List (Nat × Nat)) : Prop where
  zero : ∃ z,(P.info? t).bind (·.zero) = some z ∧ z.cells = zs.toArray
  places : ∃ fs : Array Field,P.underlying t = some (.struct fs) ∧ ∀ w,(fs.mapM fun f => do pure (f.offset, ← sizeOf f.type) : Sem _).run P w = .ok pl.toArray w
def Gn (place : Nat → Option (Nat × Nat)) (cells : List Value) : List (Nat × Value) → Option (List Value)
  | [] => some cells
  | (i,v) :: rest =>
    match place i with
    | none => none
    | some (off,size) => if v.cells.toList.length = size ∧ off + v.cells.toList.length ≤ cells.length then Gn place (DI cells off v.cells.toList) rest else none
theorem Mz : ∀ (vs : List Value) (s off : Nat) (cs : List Value),(vs.zipIdx s).foldl (fun (cs : Array Value) (p : Value × Nat) => cs.setIfInBounds (off + p.2) p.1) cs.toArray = (DI cs (off + s) vs).toArray
  | [],s,off,cs => by simp [DI]
  | v :: r,s,off,cs => by
    simp only [List.zipIdx_cons,List.foldl_cons,DI]
    rw [List.setIfInBounds_toArray,Mz r (s + 1) off]
    rfl
theorem FB {place : Nat → Option (Nat × Nat)} : ∀ {parts : List (Nat × Value)} {cells out : List Value},Gn place cells parts = some out → Instr.fill place cells.toArray parts = some out.toArray
  | [],cells,out,h => by simp [Gn] at h; subst h; rfl
  | (i, v) :: rest, cells, out, h => by
    simp only [Gn] at h
    unfold Instr.fill
    split at h
    · cases h
    · rename_i off size hp
      split at h
      · rename_i hc
        simp only [hp]
        have h1 : v.cells.size = size := by simpa using hc.1
        have h2 : ¬ (off + v.cells.size > cells.toArray.size) := by have := hc.2; simp at this ⊢; omega
        simp only [h1,ne_eq,not_true_eq_false,decide_false,Bool.false_or]
        rw [h1] at h2
        simp only [h2,decide_false,Bool.false_eq_true,if_false]
        have h3 := Mz v.cells.toList 0 off cells
        have h4 : (v.cells.zipIdx.foldl (fun (cs : Array Value) (x : Value × Nat) => match x with | (c,j) => cs.setIfInBounds (off + j) c) cells.toArray) = (DI cells off v.cells.toList).toArray := by
          rw [← Array.foldl_toList,Array.toList_zipIdx]
          exact h3
        rw [h4]
        exact FB h
      · cases h
def U6 (F : List (Nat × Value)) : List (Nat × Operand) → Option (List (Nat × Value))
  | [] => some []
  | (i,x) :: r => match Bo F x,U6 F r with | some v,some vs => some ((i,v) :: vs) | _,_ => none
theorem Fr.evalp (hF : Fr n ds F a) : ∀ {xs : List (Nat × Operand)} {vs : List (Nat × Value)},U6 F xs = some vs → xs.map (fun (i,x) => (i,a.eval x)) = vs
  | [],vs,h => by simp [U6] at h; subst h; rfl
  | (i,x) :: r,vs,h => by
    simp only [U6] at h
    split at h
    · rename_i v us hv hus
      simp only [Option.some.injEq] at h
      subst h
      simp [hF.eval hv,hF.evalp hus]
    · cases h
theorem HA {t : TypeId} {z : Value} (hz : (P.info? t).bind (·.zero) = some z) (w : World) : (zeroValue t).run P w = .ok z w := by
  unfold zeroValue typeInfo
  cases hi : P.info? t with
  | none => rw [hi] at hz; simp at hz
  | some i => rw [hi] at hz; simp at hz; simp [hi,hz]
theorem DV {t : TypeId} {zs cs : List Value} {pl : List (Nat × Nat)} {parts : List (Nat × Operand)} {vp : List (Nat × Value)} {v : Value} (hB : Bt P t zs pl) (hF : Fr n ds F a) (hx : U6 F parts = some vp) (hf : Gn (fun i => pl[i]?) zs vp = some cs) (hv : Value.agg cs.toArray = v) :
    Yx P B M Z a ⟨dst,.build t parts.toArray,ty,pos,aft,g⟩ v :=
  AZ fun w hw => by
    subst hv
    obtain ⟨z,hz,hzc⟩ := hB.zero
    obtain ⟨fs,hu,hp⟩ := hB.places
    have hfill := FB hf
    have he : (parts.toArray.map fun (i,x) => (i,a.eval x)) = vp.toArray := by rw [← hF.evalp hx]; simp
    simp only [execOp,Instr.build,he,Sem.run_bind,HA hz,Result.andThen_ok,hzc,Go.underlying,run_program,hu,Sem.run_pure,hp]
    have hpl : (fun x : Nat => pl.toArray[x]?) = fun i => pl[i]? := by funext i; simp
    simp only [hpl,hfill,Sem.run_pure,Result.andThen_ok]
theorem NB {x : Operand} {t t' : TypeId} {i fo sz : Nat} {fs : Array Field} {f : Field} {agg : Bool} {cs : List Value} {v : Value} (hu : P.underlying t = some (.struct fs)) (hf : fs[i]? = some f) (hft : f.type = t') (hfo : f.offset = fo) (T : Ty P t' agg sz)
    (hF : Fr n ds F a) (hx : Bo F x = some (.agg cs.toArray)) (hv : Jx agg sz cs fo = some v) :
    Yx P B M Z a ⟨dst,.field t x i,ty,pos,aft,g⟩ v :=
  AZ fun w hw => by
    subst hft hfo
    cases agg with
    | false =>
      simp only [Jx,Bool.false_eq_true,if_false] at hv
      simp [execOp,hF.eval hx,Instr.field,Go.underlying,hu,hf,asAgg,part,T.isAgg,hv]
    | true =>
      simp only [Jx,if_true] at hv
      by_cases hle : f.offset + sz ≤ cs.length
      · rw [if_pos hle] at hv
        simp only [Option.some.injEq] at hv
        subst hv
        simp [execOp,hF.eval hx,Instr.field,Go.underlying,hu,hf,asAgg,part,T.isAgg,T.sizeOf,List.take_drop]
      · rw [if_neg hle] at hv; cases hv
theorem FP {t : TypeId} {x : Operand} {v : Value} (hd : (P.underlying t).map (fun d => match d with | .interface _ => true | _ => false) = some false) (hF : Fr n ds F a) (hx : Bo F x = some v) : Yx P B M Z a ⟨dst,.makeInterface t x,ty,pos,aft,g⟩ (.iface t v) :=
  AZ fun w hw => by
    cases hu : P.underlying t with
    | none => rw [hu] at hd; simp at hd
    | some d =>
      rw [hu] at hd
      cases d <;> simp_all [execOp,hF.eval hx,Instr.makeInterface,Go.underlying]
end
end Go.Proofs.YtbiekjhlijdjbaaGreat
namespace Go.Proofs.YtbiekjhlijdjbaaGreat
section
variable {P : Program}
def MX (d : Nat) (f : Field) (xs ys : Array Value) : Sem Bool := do
  let x ← part f.type xs f.offset
  let y ← part f.type ys f.offset
  Op.equalIn d f.type x y
def Xn (P : Program) (d : Nat) (xs ys : Array Value) : List Field → List Bool → Prop
  | [],[] => True
  | f :: fs, r :: rs => (f.name != "_") = true ∧ (∀ w, (MX d f xs ys).run P w = .ok r w) ∧ Xn P d xs ys fs rs
  | _,_ => False
theorem Jc {d : Nat} {xs ys : Array Value} : ∀ {fs : List Field} {rs : List Bool},Xn P d xs ys fs rs → ∀ w,(Op.eqFields d xs ys fs).run P w = .ok (rs.all id) w
  | [],[],_,w => by simp [Op.eqFields]
  | f :: fs,r :: rs,h,w => by
    obtain ⟨h1,h2,h3⟩ := h
    have h2 := h2 w
    have ih := Jc h3 w
    have hne : f.name ≠ "_" := by simpa using h1
    unfold Op.eqFields
    rw [if_pos hne]
    unfold MX at h2
    simp only [Sem.run_bind] at h2 ⊢
    generalize (part f.type xs f.offset).run P w = r1 at *
    cases r1 with
    | halt x w1 => simp at h2
    | ok a w1 =>
      simp only [Result.andThen_ok] at h2 ⊢
      generalize (part f.type ys f.offset).run P w1 = r2 at *
      cases r2 with
      | halt x w1 => simp at h2
      | ok b w2 =>
        simp only [Result.andThen_ok] at h2 ⊢
        rw [h2]
        cases r
        · simp
        · simp [ih]
  | [],_ :: _,h,_ => h.elim
  | _ :: _,[],h,_ => h.elim
theorem MT {d : Nat} {t : TypeId} {fs : Array Field} {xs ys : Array Value} {rs : List Bool} {b : Bool} (hu : P.underlying t = some (.struct fs)) (hp : P.stoodInHeld t = false) (H : Xn P d xs ys fs.toList rs) (hb : rs.all id = b) (w : World) :
    (Op.equalIn (d + 1) t (.agg xs) (.agg ys)).run P w = .ok b w := by
  have hfs : P.fieldsOf t = fs := by simp [Program.fieldsOf,hu]
  rw [run_equalIn_struct w d t xs ys (by rw [hfs]; exact hu) hp,hfs,Jc H,hb]
theorem FJ {d : Nat} {f : Field} {xs ys : List Value} {t : TypeId} {o : Nat} {k k' : IntKind} {p q : Int} (ht : f.type = t) (ho : f.offset = o) (hu : P.underlying t = some (.int k')) (T : Ty P t false 1) (hx : xs[o]? = some (.int k p)) (hy : ys[o]? = some (.int k q)) (w : World) :
    (MX (d + 1) f xs.toArray ys.toArray).run P w = .ok (decide (p = q)) w := by
  subst ht ho
  simp [MX,part,T.isAgg,hx,hy,run_equalIn_int w d f.type k k' p q hu]
  by_cases h : p = q <;> simp [h]
theorem LG {d : Nat} {f : Field} {xs ys : List Value} {t : TypeId} {o : Nat} {p q : Bool} (ht : f.type = t) (ho : f.offset = o) (hu : P.underlying t = some .bool) (T : Ty P t false 1) (hx : xs[o]? = some (.bool p)) (hy : ys[o]? = some (.bool q)) (w : World) :
    (MX (d + 1) f xs.toArray ys.toArray).run P w = .ok (decide (p = q)) w := by
  subst ht ho
  simp [MX,part,T.isAgg,hx,hy,run_equalIn_bool' w d f.type p q hu]
  cases p <;> cases q <;> rfl
end
end Go.Proofs.YtbiekjhlijdjbaaGreat
