/- The walk in a frame that may be a round's: one name for the plain walk and the walk within a round. Conditions: none. -/
import Derived.Calls
import Derived.Orders
import Derived.OrdersHeld
import Derived.Deep.Quiet
import Derived.Deep.LoopGhost
import Derived.Scope
import Derived.CallsIn
import Derived.TacticsIn
import Derived.StillTail
import Derived.Deep.QuietTactic
import Derived.BigQuiet
import Derived.Below
import Derived.Lib.QuietBelow
import Derived.WalkKit
import Derived.Laws.AppendOwn
set_option linter.unusedVariables false
set_option linter.unusedSimpArgs false
open Go Go.RowKit
namespace Go.Proofs.YtbiekjhlijdjbaaGreat
open Go
theorem za {α β : Type _} (a : α) (f : α → Option β) : (some a).bind f = f a := rfl
theorem zb {α : Type _} {l : List α} {i : Nat} (h : i < l.length) : l[i]? = some l[i] := List.getElem?_eq_getElem h
theorem zc {α : Type _} (y : α) {a : α} {l : List α} (h : a ∈ l) : a ∈ y :: l := List.mem_cons_of_mem y h
theorem zd {n m : Nat} (h : Nat.beq n m = true) : n = m := Nat.eq_of_beq_eq_true h
theorem ze {n m : Nat} (h : Nat.ble n m = true) : n ≤ m := Nat.le_of_ble_eq_true h
theorem zf (a b : Bool) : ((a && b) = true) = (a = true ∧ b = true) := Bool.and_eq_true a b
theorem bxq (b : Bool) : b = true ∨ b = false := Bool.eq_false_or_eq_true b
abbrev fw (l : Nat) : Fence := Fence.wide.inRound l
def _root_.Go.Code.wr (rl : Option Nat) (P : Program) (c : Code) (Q : Exit → Act → World → Prop) (a : Act) (w : World) : Prop :=
  match rl with
  | none => c.wp P Q a w
  | some l => LetsOut Q ∨ c.wpIn (fw l) 0 P Q a w
section
variable {rl : Option Nat} {P : Program} {Q Q' : Exit → Act → World → Prop} {a : Act} {w : World} {ops : Array Oper}
theorem Rs {l m : Nat} {c : Code} (hq : ¬ LetsOut Q) (h : c.wr (some l) P Q a w) : c.wpIn (fw l) m P Q a w := by
  have h := h.resolve_left hq
  exact fun b k cs h1 h2 h3 => h b k cs h1 h2 (fun d hd => by simp [fw,Fence.wide,Fence.inRound] at hd)
theorem OQ {l : Nat} {c : Code} (h : ¬ LetsOut Q → c.wpIn (fw l) 0 P Q a w) : c.wr (some l) P Q a w := by
  by_cases hq : LetsOut Q
  · exact .inl hq
  · exact .inr (h hq)
theorem MJ {J : Act → World → Prop} : LetsOut (Exit.then J Q) ↔ LetsOut Q := Iff.rfl
theorem KD {c : Code} (hq : ∀ e a w,Q e a w → Q' e a w) (h : c.wr rl P Q a w) : c.wr rl P Q' a w := by
  cases rl with
  | none => exact Code.wp_mono hq h
  | some l => exact h.imp (fun ⟨a,w,h⟩ => ⟨a,w,hq _ _ _ h⟩) (fun h => wpIn_mono h hq)
theorem Ay (h : Q .normal a w) : Code.skip.wr rl P Q a w := by
  cases rl with
  | none => exact wp_skip h
  | some l => exact .inr (wpIn_skip h)
theorem T0 {t : Nat} (h : Q .normal a w) : (Code.label t).wr rl P Q a w := by
  cases rl with
  | none => exact wp_label h
  | some l => exact .inr (wpIn_label h)
theorem AE {id : Nat} (h : Q (.exit id) a w) : (Code.exit id).wr rl P Q a w := by
  cases rl with
  | none => exact wp_exit h
  | some l => exact .inr (wpIn_exit h)
theorem Ah (h : Q .ret a w) : Code.ret.wr rl P Q a w := by
  cases rl with
  | none => exact wp_ret h
  | some l => exact .inr (wpIn_ret h)
theorem Ug {x y : Code} (h : x.wr rl P (Exit.then (y.wr rl P Q) Q) a w) : (Code.seq x y).wr rl P Q a w := by
  cases rl with
  | none => exact wp_seq h
  | some l =>
    refine OQ fun hq => wpIn_seq (wpIn_mono (Rs (m := 0) (fun h => hq (MJ.1 h)) h) fun e a w he => ?_)
    cases e <;> first | exact he | exact Or.resolve_left he hq
theorem FV {c : Operand} {x y : Code} {t : Bool} (hc : a.eval c = .bool t) (ht : t = true → x.wr rl P Q a w) (hf : t = false → y.wr rl P Q a w) : (Code.cond c x y).wr rl P Q a w := by
  cases rl with
  | none => exact wp_cond_split hc ht hf
  | some l => exact OQ fun hq => wpIn_cond_split hc (fun h => Rs hq (ht h)) (fun h => Rs hq (hf h))
theorem Nm {c : Operand} {x y : Code} (hc : a.eval c = .bool true) (ht : x.wr rl P Q a w) : (Code.cond c x y).wr rl P Q a w := FV hc (fun _ => ht) (fun h => nomatch h)
theorem Mf {c : Operand} {x y : Code} (hc : a.eval c = .bool false) (ht : y.wr rl P Q a w) : (Code.cond c x y).wr rl P Q a w := FV hc (fun h => nomatch h) (fun _ => ht)
theorem EI {id : Nat} {c : Code} (h : c.wr rl P (Exit.inBlock id Q) a w) : (Code.block id c).wr rl P Q a w := by
  cases rl with
  | none => exact wp_block h
  | some l => exact h.imp (fun ⟨a,w,h⟩ => ⟨a,w,h⟩) wpIn_block
theorem Io {c : Code} (I : Nat → Act → World → Prop) (n₀ : Nat) (h₀ : I n₀ a w)
    (round : ∀ n a w,I n a w → c.wr rl P (Exit.then (fun a' w' => ∃ n',n' < n ∧ I n' a' w') Q) a w) : (Code.loop c).wr rl P Q a w := by
  cases rl with
  | none => exact wp_loop_ghost I n₀ h₀ round
  | some l =>
    refine OQ fun hq => wpIn_loop (fun a w => ∃ n,I n a w) (fun a w => leastOf (fun n => I n a w)) ⟨n₀,h₀⟩ fun a w hI => ?_
    have hs := leastOf_spec hI
    refine wpIn_mono (Rs (m := 0) (fun h => hq (MJ.1 h)) (round _ a w hs.1)) fun e a' w' he => ?_
    cases e <;> first | exact he | (obtain ⟨n',h1,h2⟩ := he; exact ⟨⟨n',h2⟩,Nat.lt_of_le_of_lt ((leastOf_spec ⟨n',h2⟩).2 n' h2) h1⟩)
def W6 : List Oper → Bool
  | [] => true
  | o :: r => (match o.op with | .defer _ => false | _ => true) && W6 r
theorem SH : ∀ {l : List Oper} {i : Nat} {o : Oper},W6 l = true → l[i]? = some o → ∀ c,o.op ≠ .defer c
  | [],i,o,_,h => by simp at h
  | o' :: r,0,o,h,hi => by
    simp at hi; subst hi
    intro c hc
    simp [W6,hc] at h
  | o' :: r,i + 1,o,h,hi => by
    simp at hi
    simp only [W6,zf] at h
    exact SH h.2 hi
theorem UT {l : Nat} {o : Oper} {K K' : Act → World → Prop} (hq : ¬ LetsOut Q) (hd : ∀ c,o.op ≠ .defer c) (hk : ∀ a w,K a w → K' a w) (h : o.wp P a w K Q) : o.wpIn (fw l) 0 P a w K' Q := by
  refine ⟨fun _ _ => trivial, ?_⟩
  rw [Oper.semAt_eq _ _ _ hd]
  unfold Oper.wp at h
  have hdep : (fw l).depth.isSome = true → 1 ≤ 0 := fun h => by simp [fw,Fence.wide,Fence.inRound] at h
  generalize (execOp a.eval o).run P w = r at h
  unfold Oper.upon at h
  split at h
  · exact hk _ _ h
  · exact hk _ _ h
  · exact hk _ _ h
  · refine ⟨hdep, ?_⟩
    have h := callsIn_wide (n := 0).2 h
    exact (show CallsIn (fw l) 0 P _ _ _ _ from h).mono fun e w' he => by
      cases e with
      | returned v => exact hk _ _ he
      | panicked ch => exact he
      | outgrown => exact he
  · refine ⟨hdep,fun c cs _ => ?_⟩
    obtain ⟨v,w',hv,hs⟩ := h c cs
    exact ⟨v,w',hk _ _ hv,stepsIn_wide.2 hs⟩
  · exact h
  · exact h.elim
theorem KS {l : Nat} (hq : ¬ LetsOut Q) (hd : W6 ops.toList = true) : ∀ (L : List Nat) (a : Act) (w : World),wpOps P ops Q L a w → wpOpsIn (fw l) 0 P ops Q L a w
  | [],a,w,h => h
  | i :: r,a,w,h => by
    unfold wpOps at h
    unfold wpOpsIn
    cases ho : ops[i]? with
    | none => rw [ho] at h; exact KS hq hd r a w h
    | some o =>
      rw [ho] at h
      simp only [] at h ⊢
      split
      · rename_i hw
        rw [if_pos hw] at h
        rcases h with h | h
        · exact UT hq (SH hd (by rw [Array.getElem?_toList]; exact ho)) (fun a w => KS hq hd r a w) h
        · exact absurd h.2 hq
      · rename_i hw
        rw [if_neg hw] at h
        exact ⟨fun _ _ => trivial,KS hq hd r _ w h⟩
def Mk (rl : Option Nat) (l : List Oper) : Bool := if W6 l then true else rl.isNone
theorem SY {l : Nat} {L : List Oper} (h : Mk (some l) L = true) : W6 L = true := by
  unfold Mk at h
  split at h
  · assumption
  · cases h
theorem Sc (id : Nat) (hd : Mk rl ops.toList = true) (h : wpOps P ops Q (List.range ops.size) a w) : (Code.region id ops false).wr rl P Q a w := by
  cases rl with
  | none => exact wp_region h
  | some l => exact OQ fun hq => wpIn_region (KS hq (SY hd) _ _ _ h)
theorem LR (id : Nat) (hd : Mk rl ops.toList = true) (h : ∀ t,wpOps P ops Q (Region.schedule (P.follows .mixedOrders) ops t) a { w with drawn := w.drawn + 1 }) : (Code.region id ops true).wr rl P Q a w := by
  cases rl with
  | none => exact wp_region_draw h
  | some l => exact OQ fun hq => wpIn_region_draw fun t => KS hq (SY hd) _ _ _ (h t)
theorem Ie {id : Nat} {l : List Oper} (hd : Mk rl l = true) (h : wpList P l.toArray Q l a w) : (Code.region id l.toArray false).wr rl P Q a w := by
  refine Sc id hd ?_
  rw [show (l.toArray).size = l.length by simp,List.range_eq_range',wpOps_eq_wpList l 0 (by simp)]
  exact h
theorem Df {id : Nat} (hd : Mk rl ops.toList = true) (hm : P.follows .mixedOrders = true)
    (h : wpAny P .any ops Q ops.size (Array.replicate ops.size false) a { w with drawn := w.drawn + 1 }) : (Code.region id ops true).wr rl P Q a w := by
  refine LR id hd fun t => ?_
  simp only [Region.schedule,hm,Bool.true_or,if_true]
  exact wpAny_sound ops.size t _ a _ h
theorem Kp {id : Nat} {C : World → Prop} (hd : Mk rl ops.toList = true) (hm : P.follows .mixedOrders = true) (hB : Region.lexB .any ops = true) (hC : C { w with drawn := w.drawn + 1 })
    (h : wpQuiet P ops C (fun a' => ∀ w',C w' → Q .normal a' w') ops.toList a) : (Code.region id ops true).wr rl P Q a w := by
  have h2 := (zf _ _ |>.mp hB)
  refine Df hd hm (wpAny_of_quiet (Q := fun a' => ∀ w',C w' → Q .normal a' w') (fun _ w' hw' h => h w' hw') _ _ _ _ hC ?_)
  simpa using wpAnyQ_lex (C := C) (md := .any) h2.1 ops.toList 0 (Array.replicate ops.size false) a (by simp) (by simpa using h2.2) h
end
end Go.Proofs.YtbiekjhlijdjbaaGreat
namespace Go.Proofs.YtbiekjhlijdjbaaGreat
variable {rl : Option Nat}
section
variable {P : Program} {ops : Array Oper} {md : Region.Mode} {C : World → Prop}
def Jl (P : Program) (md : Region.Mode) (ops : Array Oper) (C : World → Prop) (n : Nat) (L : Array Bool → Act → Prop) : Nat → Array Bool → Act → Prop
  | 0,listed,a => L listed a
  | f + 1,listed,a =>
    Region.ready md ops listed ≠ [] ∧ ∀ i ∈ Region.ready md ops listed,i < n ∧ qOp P ops C i (Jl P md ops C n L f (listed.setIfInBounds i true)) a
theorem GY {n g : Nat} {L : Array Bool → Act → Prop} {Q' : Exit → Act → World → Prop} (hL : ∀ listed a w,C w → L listed a → wpAny P md ops Q' g listed a w) :
    ∀ (f : Nat) (listed : Array Bool) (a : Act) (w : World),C w → Jl P md ops C n L f listed a → wpAny P md ops Q' (f + g) listed a w
  | 0,listed,a,w,hw,h => by rw [Nat.zero_add]; exact hL _ _ _ hw h
  | f + 1,listed,a,w,hw,h => by
    rw [show f + 1 + g = (f + g) + 1 by omega]
    exact ⟨fun h0 => absurd h0 h.1,fun i hi => wpOp_of_qOp hw (fun a' w' hw' h' => GY hL f _ a' w' hw' h') (h.2 i hi).2⟩
theorem Mb {n i : Nat} {oi : Oper} {v : Value} {L : Array Bool → Act → Prop} (hi : ops[i]? = some oi) (hsel : ∀ (j : Nat) (o : Oper) cs b,ops[j]? = some o → o.op ≠ .select cs b)
    (hs : Region.sinkB md ops n = true) (hc : Region.chainB md ops n = true) (hn : n < ops.size) (hin : i < n)
    (hdone : ∀ listed a,L listed a → ∀ j ∈ Region.ready md ops listed,n ≤ j) :
    ∀ (f : Nat) (listed : Array Bool) (a : Act),HeadInv md ops n listed →
      (∀ j oj,ops[j]? = some oj → j ≠ i → listed.getD j true = false → (∀ e ∈ oj.after,Region.binds md e = true → e.on ≠ i) → oi.apart ops oj = true) →
      i ∈ Region.ready md ops listed → YieldsIn P ops C oi v a →
      Jl P md ops C n L f (listed.setIfInBounds i true) (a.put oi.dst v) → Jl P md ops C n L (f + 1) listed a := by
  intro f
  induction f with
  | zero =>
    intro listed a inv _ hr hy H
    have hun := (mem_ready.1 hr).1
    refine ⟨fun h => (by rw [h] at hr; cases hr),fun j hj => ?_⟩
    have hjn : j < n := by
      rcases Nat.lt_or_ge j n with h | h
      · exact h
      · exact absurd hj (tail_waits hs hc hn inv _ i rfl hin hun j h)
    refine ⟨hjn, ?_⟩
    by_cases hji : j = i
    · subst hji; exact hy.qOp hi H
    · have := hdone _ _ H j (ready_mono hj hji)
      omega
  | succ f ih =>
    intro listed a inv hfree hr hy H
    have hun := (mem_ready.1 hr).1
    refine ⟨fun h => (by rw [h] at hr; cases hr),fun j hj => ?_⟩
    have hjn : j < n := by
      rcases Nat.lt_or_ge j n with h | h
      · exact h
      · exact absurd hj (tail_waits hs hc hn inv _ i rfl hin hun j h)
    refine ⟨hjn, ?_⟩
    by_cases hji : j = i
    · subst hji; exact hy.qOp hi H
    · have h1 := (H.2 j (ready_mono hj hji)).2
      obtain ⟨hjun,oj,hoj,hall⟩ := mem_ready.1 hj
      have hnot : ∀ e ∈ oj.after,Region.binds md e = true → e.on ≠ i := fun e he hb heq => by
        have h1 := hall e he hb
        rw [heq,getD_both hun] at h1
        cases h1
      have h2 := qOp_put hoj (hfree j oj hoj hji hjun hnot) (fun cs b => hsel i oi cs b hi) (fun cs b => hsel j oj cs b hoj) hy h1
      have hfree' : ∀ k ok,ops[k]? = some ok → k ≠ i → (listed.setIfInBounds j true).getD k true = false →
          (∀ e ∈ ok.after,Region.binds md e = true → e.on ≠ i) → oi.apart ops ok = true := fun k ok hk hki hun hno => by
        refine hfree k ok hk hki ?_ hno
        by_cases hjk : j = k
        · subst hjk; exact hjun
        · rw [getD_set_ne true hjk] at hun; exact hun
      refine qOp_mono (fun a' h3 => ih (listed.setIfInBounds j true) a' (inv.set hj hjn) hfree' (ready_mono hr (Ne.symm hji)) h3.1 ?_) h2
      rw [Array.setIfInBounds_comm _ _ hji]
      exact h3.2
theorem JU {n g : Nat} {Lq : Act → Prop} (hsel : Region.noSelect ops = true) (hs : Region.sinkB md ops n = true) (hc : Region.chainB md ops n = true) (hn : n < ops.size) :
    ∀ (l : List Oper) (k : Nat) (listed : Array Bool) (a : Act),(∀ j,j < l.length → l[j]? = ops[k + j]?) → k + l.length = n → HeadInv md ops n listed →
    Region.lexHead md ops g l.length k listed = true → wpQuiet P ops C Lq l a →
    Jl P md ops C n (fun listed' a' => Region.seqB md ops g n listed' = true ∧ Lq a') l.length listed a
  | [],k,listed,a,_,hk,_,hB,h => by
    have : k = n := by simpa using hk
    subst this
    exact ⟨by simpa [Region.lexHead] using hB,h⟩
  | o :: l,k,listed,a,hl,hk,inv,hB,h => by
    have h0 : ops[k]? = some o := by simpa using (hl 0 (by simp)).symm
    simp only [List.length_cons,Region.lexHead,zf] at hB
    obtain ⟨⟨hr,hf⟩,hB'⟩ := hB
    have hkn : k < n := by simp only [List.length_cons] at hk; omega
    have hr' : k ∈ Region.ready md ops listed := by simpa using hr
    have hst : qOp P ops C k (wpQuiet P ops C Lq l) a := by unfold qOp; simp only [h0]; exact h
    obtain ⟨v,hy,hK⟩ := yieldsIn_of_qOp h0 hst
    exact Mb h0 (Region.noSelect_spec hsel) hs hc hn hkn (fun listed' a' hL => seqB_ready hL.1) l.length listed a inv (Region.free_spec h0 hf) hr' hy
      (JU hsel hs hc hn l (k + 1) _ _ (fun j hj => by have := hl (j + 1) (by simp; omega); simpa [Nat.add_assoc,Nat.add_comm 1 j] using this) (by simp only [List.length_cons] at hk; omega) (inv.set hr' hkn) hB' hK)
theorem HB {id : Nat} {Q : Exit → Act → World → Prop} {a : Act} {w : World} {l : List Oper} (n : Nat) (hm : P.follows .mixedOrders = true) (hB : Region.lexTailB .any l.toArray n = true)
    (hC : C { w with drawn := w.drawn + 1 })
    (h : wpQuiet P l.toArray C (fun a' => ∀ w',C w' → wpList P l.toArray Q (l.drop n) a' w') (l.take n) a) (hd : Mk rl l = true := by rfl) : (Code.region id l.toArray true).wr rl P Q a w := by
  simp only [Region.lexTailB,zf,decide_eq_true_eq] at hB
  obtain ⟨⟨⟨⟨hsel,hn⟩,hs⟩,hc⟩,hlex⟩ := hB
  have hn' : n < l.length := by simpa using hn
  have htl : (l.take n).length = n := by simp; omega
  have hdl : (l.drop n).length = l.toArray.size - n := by simp
  have inv0 : HeadInv .any l.toArray n (Array.replicate l.toArray.size false) :=
    ⟨by simp,fun j oj _ hl => (by rw [getD_replicate_false] at hl; cases hl),fun t _ ht => getD_in (by simpa using ht) (getD_replicate_false _ _)⟩
  have H := JU (C := C) (md := .any) (g := l.toArray.size - n) hsel hs hc hn (l.take n) 0 _ a (fun j hj => by
    have hj' : j < n := by rw [htl] at hj; exact hj
    simp [hj']) (by simpa using htl) inv0 (by rw [htl]; exact hlex) h
  refine Df hd hm ?_
  have := GY (C := C) (Q' := Q) (g := l.toArray.size - n) (fun listed a' w' hw' hL => by
    have := wpAny_of_seq (md := .any) (Q' := Q) (l.drop n) n listed a' w' (fun j => by simp [List.getElem?_drop]) (by rw [hdl]; exact hL.1) (hL.2 w' hw')
    rwa [hdl] at this) _ _ _ _ hC H
  rw [htl,show n + (l.toArray.size - n) = l.toArray.size by omega] at this
  exact this
end
open Go.Sort
def Rg (w w' : World) : Prop := ∃ p : Regrown,w' = grow (redrawn w p.d) p.os
theorem Rg.below {w w' : World} (h : ∃ p : Regrown,w' = grow (redrawn w p.d) p.os) : Below w.heap.size w w' := by
  obtain ⟨p,rfl⟩ := h; exact below_regrown _ _ _
theorem Rg.drew (w : World) : ∃ p : Regrown, { w with drawn := w.drawn + 1 } = grow (redrawn w p.d) p.os := ⟨⟨w.drawn + 1, #[]⟩,by rw [grow_empty]; rfl⟩
theorem Rg.call {P : Program} {f : FuncId} {args : Array Value} {w : World} {d : Nat} {os : Array Obj} {v : Value}
    (h : Calls P f args (grow (redrawn w d) os) fun e w' => e = .returned v ∧ Below (grow (redrawn w d) os).heap.size (grow (redrawn w d) os) w') : Calls P f args (grow (redrawn w d) os) fun e w'' => e = .returned v ∧ ∃ p : Regrown,w'' = grow (redrawn w p.d) p.os := Calls.regrown_of h
theorem Rg.cell {w : World} {d : Nat} {os : Array Obj} {b o : Nat} (h : b < w.heap.size) : (grow (redrawn w d) os).cell? ⟨b,o,none⟩ = w.cell? ⟨b,o,none⟩ := (below_regrown w d os).cell (p := ⟨b,o,none⟩) h
theorem Rg.frozen {w : World} {d : Nat} {os : Array Obj} {b o : Nat} (h : b < w.heap.size) : (grow (redrawn w d) os).frozen? ⟨b,o,none⟩ = w.frozen? ⟨b,o,none⟩ := (below_regrown w d os).frozen (p := ⟨b,o,none⟩) h
end Go.Proofs.YtbiekjhlijdjbaaGreat
namespace Go.Proofs.YtbiekjhlijdjbaaGreat
def lk : List (Nat × Value) → Nat → Option Value
  | [],_ => none
  | (k,v) :: r,n => if Nat.beq k n then some v else lk r n
structure Fr (n : Nat) (ds : List Deferred) (F : List (Nat × Value)) (a : Act) : Prop where
  size : a.tmps.size = n
  defers : a.defers = ds
  slots : ∀ k v,lk F k = some v → a.tmps[k]? = some v
def Bo (F : List (Nat × Value)) : Operand → Option Value
  | .tmp t => lk F t
  | .const v => some v
  | .func f => some (.func (.func f) #[] #[])
  | .global g => some (.pointer (some ⟨g,0,none⟩))
theorem Fr.getD {n ds F a} (h : Fr n ds F a) {k v} (hk : lk F k = some v) : a.tmps.getD k undef = v := by
  have := h.slots k v hk
  simp [Array.getD_eq_getD_getElem?,this]
theorem Fr.eval {n ds F a} (h : Fr n ds F a) {x v} (hx : Bo F x = some v) : a.eval x = v := by
  cases x with
  | tmp t => exact h.getD hx
  | const c => simp [Bo] at hx; subst hx; rfl
  | func f => simp [Bo] at hx; subst hx; rfl
  | global g => simp [Bo] at hx; subst hx; rfl
theorem BS (k : Nat) (v : Value) (F) : lk ((k,v) :: F) k = some v := by simp [lk]
theorem B0 {k j : Nat} (h : k ≠ j) (v : Value) (F) : lk ((k,v) :: F) j = lk F j := by
  have : Nat.beq k j = false := by cases hb : Nat.beq k j with | false => rfl | true => exact absurd (zd hb) h
  simp [lk,this]
theorem Fr.put {n ds F a} (h : Fr n ds F a) {d : Nat} (hd : d < n) (v : Value) : Fr n ds ((d,v) :: F) (a.put (some d) v) := by
  refine ⟨by simp [Act.put,h.size],by simp [Act.put,h.defers],fun k u hk => ?_⟩
  by_cases hkd : d = k
  · subst hkd
    rw [BS] at hk
    simp only [Option.some.injEq] at hk
    subst hk
    simp only [Act.put]
    rw [Array.getElem?_setIfInBounds_self_of_lt (by rw [h.size]; exact hd)]
  · rw [B0 hkd] at hk
    simp only [Act.put]
    rw [Array.getElem?_setIfInBounds_ne hkd]
    exact h.slots k u hk
theorem Fr.none {n ds F a} (h : Fr n ds F a) (v : Value) : Fr n ds F (a.put none v) := h
theorem Fr.sub {n ds F F' a} (h : Fr n ds F a) (hs : ∀ k v,lk F' k = some v → lk F k = some v) : Fr n ds F' a := ⟨h.size,h.defers,fun k v hk => h.slots k v (hs k v hk)⟩
abbrev Bi := List (Nat × List Value)
abbrev E5 (w w' : World) (A A' : Nat → Prop) : Prop := ∀ b,A b → b < w.heap.size → A' b ∧ w'.heap[b]? = w.heap[b]?
structure Rp (α : Type) where
  sz : Nat
  rep : World → (Nat → Prop) → List Value → α → Prop
  len : ∀ {w A cs a},rep w A cs a → cs.length = sz
  one : ∀ {w A cs a},rep w A cs a → cs.all (·.oneCell') = true
  stab : ∀ {w w' A A' cs a},rep w A cs a → E5 w w' A A' → rep w' A' cs a
def Rp.int (k : IntKind) : Rp Int := ⟨1,fun _ _ cs a => cs = [.int k a],fun h => by subst h; rfl,fun h => by subst h; rfl,fun h _ => h⟩
def Rp.bool : Rp Bool := ⟨1,fun _ _ cs a => cs = [.bool a],fun h => by subst h; rfl,fun h => by subst h; rfl,fun h _ => h⟩
abbrev bs (l : List UInt8) : ByteArray := ⟨l.toArray⟩
def Rp.str : Rp (List UInt8) := ⟨1,fun _ _ cs a => cs = [.string (bs a)],fun h => by subst h; rfl,fun h => by subst h; rfl,fun h _ => h⟩
def Rp.flt (k : FloatKind) : Rp Nat := ⟨1,fun _ _ cs a => cs = [.float k a],fun h => by subst h; rfl,fun h => by subst h; rfl,fun h _ => h⟩
def Rp.unit : Rp Unit := ⟨0,fun _ _ cs _ => cs = [],fun h => by subst h; rfl,fun h => by subst h; rfl,fun h _ => h⟩
def Rp.pair {α β : Type} (r : Rp α) (s : Rp β) : Rp (α × β) :=
  ⟨r.sz + s.sz,fun w A cs a => ∃ c1 c2,cs = c1 ++ c2 ∧ r.rep w A c1 a.1 ∧ s.rep w A c2 a.2,
   fun ⟨c1,c2,h,h1,h2⟩ => by subst h; rw [List.length_append,r.len h1,s.len h2],
   fun ⟨c1,c2,h,h1,h2⟩ => by subst h; rw [List.all_append,r.one h1,s.one h2]; rfl,
   fun ⟨c1,c2,h,h1,h2⟩ hk => ⟨c1,c2,h,r.stab h1 hk,s.stab h2 hk⟩⟩
def A8 {α : Type} (r : Rp α) (w : World) (A : Nat → Prop) : List Value → List α → Prop
  | xs,[] => xs = []
  | xs,x :: l => ∃ cs ys,xs = cs ++ ys ∧ r.rep w A cs x ∧ A8 r w A ys l
section
variable {α : Type} {r : Rp α} {w w' : World} {A A' : Nat → Prop}
theorem A8.len : ∀ {l : List α} {xs : List Value},A8 r w A xs l → xs.length = l.length * r.sz
  | [],xs,h => by rw [show xs = [] from h]; simp
  | x :: l,xs,⟨cs,ys,he,h1,h2⟩ => by subst he; rw [List.length_append,r.len h1,A8.len h2,List.length_cons,Nat.add_mul]; omega
theorem A8.one : ∀ {l : List α} {xs : List Value},A8 r w A xs l → xs.all (·.oneCell') = true
  | [],xs,h => by rw [show xs = [] from h]; simp
  | x :: l,xs,⟨cs,ys,he,h1,h2⟩ => by subst he; rw [List.all_append,r.one h1,A8.one h2]; rfl
theorem A8.stab (hk : E5 w w' A A') : ∀ {l : List α} {xs : List Value},A8 r w A xs l → A8 r w' A' xs l
  | [],xs,h => h
  | x :: l,xs,⟨cs,ys,he,h1,h2⟩ => ⟨cs,ys,he,r.stab h1 hk,A8.stab hk h2⟩
theorem A8.append : ∀ {l m : List α} {xs ys : List Value},A8 r w A xs l → A8 r w A ys m → A8 r w A (xs ++ ys) (l ++ m)
  | [],m,xs,ys,h,h' => by rw [show xs = [] from h]; exact h'
  | x :: l,m,xs,ys,⟨cs,zs,he,h1,h2⟩,h' => by subst he; exact ⟨cs,zs ++ ys,by simp,h1,A8.append h2 h'⟩
theorem A8.take : ∀ {l : List α} {xs : List Value} (k : Nat),A8 r w A xs l → A8 r w A (xs.take (k * r.sz)) (l.take k)
  | [],xs,k,h => by rw [show xs = [] from h]; simp [A8]
  | x :: l,xs,0,h => by simp [A8]
  | x :: l,xs,k + 1,⟨cs,ys,he,h1,h2⟩ => by
    subst he
    refine ⟨cs,ys.take (k * r.sz), ?_,h1,A8.take k h2⟩
    rw [List.take_append,r.len h1,show (k + 1) * r.sz - r.sz = k * r.sz by rw [Nat.add_mul]; omega,List.take_of_length_le (by rw [r.len h1,Nat.add_mul]; omega)]
theorem A8.drop : ∀ {l : List α} {xs : List Value} (k : Nat),A8 r w A xs l → A8 r w A (xs.drop (k * r.sz)) (l.drop k)
  | [],xs,k,h => by rw [show xs = [] from h]; simp [A8]
  | x :: l,xs,0,h => by simpa using h
  | x :: l,xs,k + 1,⟨cs,ys,he,h1,h2⟩ => by
    subst he
    have ih := A8.drop k h2
    rw [List.drop_append,r.len h1,show (k + 1) * r.sz - r.sz = k * r.sz by rw [Nat.add_mul]; omega,List.drop_eq_nil_of_le (as := cs) (by rw [r.len h1,Nat.add_mul]; omega)]
    simpa using ih
theorem A8.get : ∀ {l : List α} {xs : List Value} {k : Nat} {x : α},A8 r w A xs l → l[k]? = some x → ∃ cs,r.rep w A cs x ∧ ∀ j u,cs[j]? = some u → xs[k * r.sz + j]? = some u
  | [],xs,k,x,h,hx => by simp at hx
  | y :: l,xs,0,x,⟨cs,ys,he,h1,h2⟩,hx => by
    simp at hx; subst hx he
    refine ⟨cs,h1,fun j u hu => ?_⟩
    rw [Nat.zero_mul,Nat.zero_add,List.getElem?_append_left (List.getElem?_eq_some_iff.1 hu).1]; exact hu
  | y :: l,xs,k + 1,x,⟨cs,ys,he,h1,h2⟩,hx => by
    simp at hx
    subst he
    obtain ⟨cs',h3,h4⟩ := A8.get h2 hx
    refine ⟨cs',h3,fun j u hu => ?_⟩
    have := h4 j u hu
    rw [List.getElem?_append_right (by rw [r.len h1,Nat.add_mul]; omega),r.len h1,show (k + 1) * r.sz + j - r.sz = k * r.sz + j by rw [Nat.add_mul]; omega]
    exact this
theorem A8.set : ∀ {l : List α} {xs : List Value} {k : Nat} {x : α} {cs' : List Value},A8 r w A xs l → k < l.length → r.rep w A cs' x → A8 r w A (xs.take (k * r.sz) ++ cs' ++ xs.drop (k * r.sz + r.sz)) (l.set k x)
  | [],xs,k,x,cs',h,hk,hx => by simp at hk
  | y :: l,xs,0,x,cs',⟨cs,ys,he,h1,h2⟩,hk,hx => by
    subst he
    refine ⟨cs',ys, ?_,hx,h2⟩
    rw [Nat.zero_mul,Nat.zero_add,List.take_zero, ← r.len h1,List.drop_left]; simp
  | y :: l,xs,k + 1,x,cs',⟨cs,ys,he,h1,h2⟩,hk,hx => by
    subst he
    have ih := A8.set h2 (by simpa using hk) hx
    refine ⟨cs,_, ?_,h1,ih⟩
    have e1 : (k + 1) * r.sz - cs.length = k * r.sz := by rw [r.len h1,Nat.add_mul]; omega
    have e2 : (k + 1) * r.sz + r.sz - cs.length = k * r.sz + r.sz := by rw [r.len h1,Nat.add_mul]; omega
    have e3 : cs.length ≤ (k + 1) * r.sz := by rw [r.len h1,Nat.add_mul]; omega
    rw [List.take_append,List.take_of_length_le e3,e1,List.drop_append,e2,List.drop_eq_nil_of_le (as := cs) (by omega)]
    simp
end
def Sl {α : Type} (w : World) (A : Nat → Prop) (r : Rp α) (v : Value) (l : List α) : Prop :=
  (∃ ad cap,v = .slice ad 0 cap ∧ l = []) ∨ ∃ b off cap xs,v = .slice (some ⟨b,off,none⟩) l.length cap ∧ l.length ≤ cap ∧ A b ∧ b < w.heap.size ∧ (∀ j u,xs[j]? = some u → w.cell? ⟨b,off + j,none⟩ = some u) ∧ A8 r w A xs l
theorem MI {w w' : World} {b o : Nat} (h : w'.heap[b]? = w.heap[b]?) : w'.cell? ⟨b,o,none⟩ = w.cell? ⟨b,o,none⟩ := World.cell?_of_block (w := w) h
theorem Sl.stab {α : Type} {r : Rp α} {w w' : World} {A A' : Nat → Prop} {v : Value} {l : List α} (h : Sl w A r v l) (hk : E5 w w' A A') : Sl w' A' r v l := by
  rcases h with h | ⟨b,off,cap,xs,hv,hc,hA,hb,hx,hr⟩
  · exact .inl h
  · have h2 := hk b hA hb
    refine .inr ⟨b,off,cap,xs,hv,hc,h2.1, ?_,fun j u hu => ?_,hr.stab hk⟩
    · have : (w.heap[b]?).isSome := by simp [hb]
      rw [← h2.2] at this
      simpa using this
    · rw [MI h2.2]; exact hx j u hu
theorem Sl.one {α : Type} {r : Rp α} {w : World} {A : Nat → Prop} {v : Value} {l : List α} (h : Sl w A r v l) : v.oneCell' = true := by
  rcases h with ⟨ad,cap,h,_⟩ | ⟨b,off,cap,xs,hv,_⟩
  · rw [h]; rfl
  · rw [hv]; rfl
def Rp.slice {α : Type} (r : Rp α) : Rp (List α) :=
  ⟨1,fun w A cs l => ∃ v,cs = [v] ∧ Sl w A r v l,fun ⟨v,h,_⟩ => by subst h; rfl,fun ⟨v,h,h1⟩ => by subst h; simp [h1.one],fun ⟨v,h,h1⟩ hk => ⟨v,h,h1.stab hk⟩⟩
def Rp.arr {α : Type} (n : Nat) (r : Rp α) : Rp (List α) :=
  ⟨n * r.sz,fun w A cs l => l.length = n ∧ A8 r w A cs l,fun ⟨hn,h⟩ => by rw [h.len,hn],fun ⟨_,h⟩ => h.one,fun ⟨hn,h⟩ hk => ⟨hn,h.stab hk⟩⟩
def Rp.raw : Rp Value := ⟨1,fun _ _ cs a => cs = [a] ∧ a.oneCell' = true,fun ⟨h,_⟩ => by subst h; rfl,fun ⟨h,h1⟩ => by subst h; simp [h1],fun h _ => h⟩
abbrev any : Nat → Prop := fun _ => True
theorem Sl.any {α : Type} {r : Rp α} {w : World} {A : Nat → Prop} {v : Value} {l : List α} (h : Sl w A r v l) : Sl w any r v l := h.stab fun _ _ _ => ⟨trivial,rfl⟩
theorem Sl.nil {α : Type} {r : Rp α} {w : World} {A : Nat → Prop} : Sl w A r (.slice none 0 0) ([] : List α) := .inl ⟨none,0,rfl,rfl⟩
def ES : Value → Option Nat
  | .slice (some a) _ c => if c = 0 then none else some a.block
  | _ => none
theorem DK (ad : Option Addr) (n : Nat) : ES (.slice ad n 0) = none := by cases ad <;> rfl
theorem CL {a : Addr} {n c : Nat} (h : 0 < c) : ES (.slice (some a) n c) = some a.block := by
  show (if c = 0 then none else some a.block) = _
  rw [if_neg (by omega)]
def DZ {α : Type} (w : World) (A : Nat → Prop) (e : TypeId) (r : Rp α) (v : Value) (l : List α) : Prop :=
  (∃ ad,v = .slice ad 0 0 ∧ l = []) ∨ ∃ g off cap cur xs,v = .slice (some ⟨g,off,none⟩) l.length cap ∧ 0 < cap ∧ w.heap[g]? = some (.cells cur e (0,0)) ∧ l.length ≤ cap ∧ cap ≤ maxLen ∧ off + cap * r.sz ≤ cur.size ∧ (cur.toList.drop off).take (l.length * r.sz) = xs ∧ A8 r w A xs l
theorem DZ.lt {α : Type} {w : World} {A : Nat → Prop} {e : TypeId} {r : Rp α} {v : Value} {l : List α} (h : DZ w A e r v l) {g : Nat} (hg : ES v = some g) : g < w.heap.size := by
  rcases h with ⟨ad,rfl,_⟩ | ⟨b,off,cap,cur,xs,rfl,hp,hb,_⟩
  · rw [DK] at hg; cases hg
  · rw [CL hp] at hg; cases hg; exact (Array.getElem?_eq_some_iff.1 hb).1
theorem DZ.stab {α : Type} {w w' : World} {A A' : Nat → Prop} {e : TypeId} {r : Rp α} {v : Value} {l : List α} (h : DZ w A e r v l) (hk : E5 w w' A A') (hg : ∀ g,ES v = some g → w'.heap[g]? = w.heap[g]?) : DZ w' A' e r v l := by
  rcases h with h | ⟨b,off,cap,cur,xs,rfl,hp,hb,h1,h2,h3,h4,h5⟩
  · exact .inl h
  · exact .inr ⟨b,off,cap,cur,xs,rfl,hp,by rw [hg b (CL hp)]; exact hb,h1,h2,h3,h4,h5.stab hk⟩
theorem DZ.one {α : Type} {w : World} {A : Nat → Prop} {e : TypeId} {r : Rp α} {v : Value} {l : List α} (h : DZ w A e r v l) : v.oneCell' = true := by
  rcases h with ⟨ad,h,_⟩ | ⟨b,off,cap,cur,xs,h,_⟩ <;> rw [h] <;> rfl
theorem DZ.sl {α : Type} {w : World} {A A' : Nat → Prop} {e : TypeId} {r : Rp α} {v : Value} {l : List α} (h : DZ w A e r v l) (hA : ∀ b,A b → A' b) (hg : ∀ g,ES v = some g → A' g) : Sl w A' r v l := by
  rcases h with ⟨ad,h⟩ | ⟨b,off,cap,cur,xs,rfl,hp,hb,h1,h2,h3,h4,h5⟩
  · exact .inl ⟨ad,0,h.1,h.2⟩
  · refine .inr ⟨b,off,cap,xs,rfl,h1,hg b (CL hp),(Array.getElem?_eq_some_iff.1 hb).1,fun j u hu => ?_,h5.stab fun b hb _ => ⟨hA b hb,rfl⟩⟩
    rw [cell_of_row w b (off + j) cur e (0,0) hb]
    rw [← h4,List.getElem?_take] at hu
    split at hu
    · simpa [List.getElem?_drop] using hu
    · cases hu
structure Frm (X : List Nat) (w0 w : World) : Prop where
  os : w.os = w0.os
  tape : w.tape = w0.tape
  output : w.output = w0.output
  size : w0.heap.size ≤ w.heap.size
  block : ∀ k,k < w0.heap.size → k ∉ X → w.heap[k]? = w0.heap[k]?
theorem Frm.refl (X : List Nat) (w : World) : Frm X w w := ⟨rfl,rfl,rfl,Nat.le_refl _,fun _ _ _ => rfl⟩
theorem Frm.below {w0 w : World} (h : Frm [] w0 w) : Below w0.heap.size w0 w := ⟨h.os,h.tape,h.output,h.size,fun k hk => h.block k hk (by simp)⟩
theorem Frm.of_below {X : List Nat} {w0 w w' : World} (h : Frm X w0 w) (hb : Below w.heap.size w w') : Frm X w0 w' :=
  ⟨hb.os.trans h.os,hb.tape.trans h.tape,hb.output.trans h.output,Nat.le_trans h.size hb.size,
   fun k hk hx => (hb.block k (Nat.lt_of_lt_of_le hk h.size)).trans (h.block k hk hx)⟩
def HV (v : Value) : List Nat := match ES v with | some g => [g] | none => []
theorem Dx {v : Value} {g : Nat} : g ∈ HV v ↔ ES v = some g := by unfold HV; cases h : ES v <;> simp [eq_comm]
theorem PU (v : Value) : (HV v).Nodup := by unfold HV; split <;> simp
theorem JJ (ad : Option Addr) (n : Nat) : HV (.slice ad n 0) = [] := by unfold HV; rw [DK]
theorem OP {a : Addr} {n c : Nat} (h : 0 < c) : HV (.slice (some a) n c) = [a.block] := by unfold HV; rw [CL h]
structure It where
  bl : List Nat
  ok : World → (Nat → Prop) → Prop
  stab : ∀ {w w' A A'},ok w A → E5 w w' A A' → (∀ g ∈ bl,w'.heap[g]? = w.heap[g]?) → ok w' A'
  lt : ∀ {w A},ok w A → ∀ g ∈ bl,g < w.heap.size
  nd : ∀ {w A},ok w A → bl.Nodup
def row {α : Type} (v : Value) (e : TypeId) (r : Rp α) (l : List α) : It := ⟨HV v,fun w A => DZ w A e r v l,fun h hk hg => h.stab hk fun g hb => hg g (Dx.2 hb),fun h _ hg => h.lt (Dx.1 hg),fun _ => PU v⟩
def KB {α : Type} (v : Value) (r : Rp α) (l : List α) : It := ⟨[],fun w A => Sl w A r v l,fun h hk _ => h.stab hk,fun _ _ hg => (by cases hg),fun _ => List.nodup_nil⟩
def AA (M : Bi) (Z : List It) : List Nat := M.map (·.1) ++ Z.flatMap It.bl
structure Bs where
  Y : Nat → Prop
  X : List Nat
  w0 : World
def Fz (B : Bs) (l : List Nat) : Nat → Prop := fun b => (B.Y b ∨ b ∈ B.X ∨ B.w0.heap.size ≤ b) ∧ b ∉ l
structure Stw (B : Bs) (M : Bi) (Z : List It) (w : World) : Prop where
  frm : Frm B.X B.w0 w
  own : ∀ g ∈ AA M Z,g ∈ B.X ∨ B.w0.heap.size ≤ g
  at_ : ∀ p ∈ M, ∃ t,w.heap[p.1]? = some (.cells p.2.toArray t (0,0))
  items : ∀ z ∈ Z,z.ok w (Fz B (AA M Z))
  nodup : (AA M Z).Nodup
  disj : ∀ b ∈ B.X, ¬ B.Y b
theorem BZ {α : Type} {l : List α} {i : Nat} {x : α} (h : l[i]? = some x) : x ∈ l := List.mem_of_getElem? h
theorem Stw.start (Y : Nat → Prop) (w : World) : Stw ⟨Y,[],w⟩ [] [] w := ⟨Frm.refl _ _,by simp [AA],by simp,by simp,by simp [AA],by simp⟩
section
variable {B : Bs} {w w' : World} {M M' : Bi} {Z Z' Z1 : List It}
theorem Du {p : Nat × List Value} (h : p ∈ M) : p.1 ∈ AA M Z := List.mem_append_left _ (List.mem_map.2 ⟨p,h,rfl⟩)
theorem BT {z : It} (h : z ∈ Z) {g : Nat} (hg : g ∈ z.bl) : g ∈ AA M Z := List.mem_append_right _ (List.mem_flatMap.2 ⟨z,h,hg⟩)
theorem Stw.cell (h : Stw B M Z w) {i b : Nat} {cs : List Value} (hM : M[i]? = some (b,cs)) (o : Nat) : w.cell? ⟨b,o,none⟩ = cs[o]? := by
  obtain ⟨t,ht⟩ := h.at_ _ (BZ hM)
  simp [World.cell?,ht]
theorem Stw.frozen (h : Stw B M Z w) {i b : Nat} {cs : List Value} (hM : M[i]? = some (b,cs)) (o : Nat) : w.frozen? ⟨b,o,none⟩ = false := by
  obtain ⟨t,ht⟩ := h.at_ _ (BZ hM)
  simp [World.frozen?,ht]
theorem Stw.lt_all (h : Stw B M Z w) {g : Nat} (hg : g ∈ AA M Z) : g < w.heap.size := by
  rcases List.mem_append.1 hg with hg | hg
  · obtain ⟨p,hp,rfl⟩ := List.mem_map.1 hg
    obtain ⟨t,ht⟩ := h.at_ p hp
    exact (Array.getElem?_eq_some_iff.1 ht).1
  · obtain ⟨z,hz,hb⟩ := List.mem_flatMap.1 hg
    exact z.lt (h.items z hz) g hb
theorem Fz.mono {l l' : List Nat} {b : Nat} (h : Fz B l b) (hs : ∀ g ∈ l',g ∈ l) : Fz B l' b := ⟨h.1,fun hm => h.2 (hs b hm)⟩
theorem Stw.below (h : Stw B M Z w) (hb : Below w.heap.size w w') : Stw B M Z w' := by
  refine ⟨h.frm.of_below hb,h.own,fun p hp => ?_,fun z hz => ?_,h.nodup,h.disj⟩
  · obtain ⟨t,ht⟩ := h.at_ p hp
    exact ⟨t,by rw [hb.block p.1 (h.lt_all (Du hp))]; exact ht⟩
  · exact z.stab (h.items z hz) (fun b hA hlt => ⟨hA,hb.block b hlt⟩) fun g hg => hb.block g (h.lt_all (BT hz hg))
theorem Stw.drew (h : Stw B M Z w) : Stw B M Z { w with drawn := w.drawn + 1 } := h.below ⟨rfl,rfl,rfl,Nat.le_refl _,fun _ _ => rfl⟩
theorem Stw.alloc (h : Stw B M Z w) (cs : List Value) (t : TypeId) : Stw B ((w.heap.size,cs) :: M) Z (w.alloc (.cells cs.toArray t)) := by
  have hb : Below w.heap.size w (w.alloc (.cells cs.toArray t)) := (Below.refl _ _).alloc (Nat.le_refl _) _
  have h' := h.below hb
  refine ⟨h'.frm,fun g hg => ?_,fun p hp => ?_,fun z hz => ?_, ?_,h.disj⟩
  · rcases List.mem_cons.1 (show g ∈ w.heap.size :: AA M Z from hg) with rfl | hg
    · exact .inr h.frm.size
    · exact h.own g hg
  · rcases List.mem_cons.1 hp with rfl | hp
    · exact ⟨t,by show (w.heap.push _)[w.heap.size]? = _; simp⟩
    · exact h'.at_ p hp
  · exact z.stab (h.items z hz) (fun b hA hlt => ⟨⟨hA.1,fun hm => by
      rcases List.mem_cons.1 (show b ∈ w.heap.size :: AA M Z from hm) with rfl | hm
      · exact Nat.lt_irrefl _ hlt
      · exact hA.2 hm⟩,hb.block b hlt⟩) fun g hg => hb.block g (h.lt_all (BT hz hg))
  · show (w.heap.size :: AA M Z).Nodup
    rw [List.nodup_cons]
    exact ⟨fun hm => Nat.lt_irrefl _ (h.lt_all hm),h.nodup⟩
theorem Nodup.get_ne {l : Bi} (hn : (l.map (·.1)).Nodup) {i j : Nat} {p q : Nat × List Value} (hi : l[i]? = some p) (hj : l[j]? = some q) (hij : i ≠ j) : p.1 ≠ q.1 := by
  intro he
  have h1 : (l.map (·.1))[i]? = some p.1 := by simp [hi]
  have h2 : (l.map (·.1))[j]? = some q.1 := by simp [hj]
  have hi' : i < (l.map (·.1)).length := (List.getElem?_eq_some_iff.1 h1).1
  have hj' : j < (l.map (·.1)).length := (List.getElem?_eq_some_iff.1 h2).1
  have e1 := (List.getElem?_eq_some_iff.1 h1).2
  have e2 := (List.getElem?_eq_some_iff.1 h2).2
  rcases Nat.lt_or_gt_of_ne hij with hlt | hlt
  · exact List.pairwise_iff_getElem.1 hn i j hi' hj' hlt (by rw [e1,e2,he])
  · exact List.pairwise_iff_getElem.1 hn j i hj' hi' hlt (by rw [e1,e2,he])
theorem Mc (w : World) (b o : Nat) (v : Value) {cs : Array Value} {t : TypeId} (h : w.heap[b]? = some (.cells cs t (0,0))) : (w.setCell ⟨b,o,none⟩ v).heap[b]? = some (.cells (cs.setIfInBounds o v) t (0,0)) := by
  simp only [World.setCell,Array.getElem?_modify,if_pos,h,Option.map_some]
  simp
theorem ND {M : Bi} {i b : Nat} {cs cs' : List Value} (hM : M[i]? = some (b,cs)) : (M.set i (b,cs')).map (·.1) = M.map (·.1) := by
  rw [List.map_set]
  refine List.ext_getElem? fun j => ?_
  by_cases hij : i = j
  · subst hij
    rw [List.getElem?_set_self (by simpa using (List.getElem?_eq_some_iff.1 hM).1)]
    simp [hM]
  · rw [List.getElem?_set_ne hij]
structure One (b : Nat) (w w' : World) : Prop where
  os : w'.os = w.os
  tape : w'.tape = w.tape
  output : w'.output = w.output
  size : w.heap.size ≤ w'.heap.size
  block : ∀ k,k < w.heap.size → k ≠ b → w'.heap[k]? = w.heap[k]?
theorem One.setCell (w : World) (b o : Nat) (v : Value) : One b w (w.setCell ⟨b,o,none⟩ v) := ⟨rfl,rfl,rfl,by simp [World.setCell],fun k _ hk => Below.heap_setCell _ _ _ _ hk⟩
theorem One.trans {b : Nat} {u w w' : World} (h : One b u w) (h' : One b w w') : One b u w' := ⟨h'.os.trans h.os,h'.tape.trans h.tape,h'.output.trans h.output,Nat.le_trans h.size h'.size,fun k hk hb => (h'.block k (Nat.lt_of_lt_of_le hk h.size) hb).trans (h.block k hk hb)⟩
theorem One.refl (b : Nat) (w : World) : One b w w := ⟨rfl,rfl,rfl,Nat.le_refl _,fun _ _ _ => rfl⟩
theorem Frm.one {X : List Nat} {w0 : World} (h : Frm X w0 w) {b : Nat} (ho : One b w w') (hown : b ∈ X ∨ w0.heap.size ≤ b) : Frm X w0 w' := by
  refine ⟨ho.os.trans h.os,ho.tape.trans h.tape,ho.output.trans h.output,Nat.le_trans h.size ho.size,fun k hk hx => ?_⟩
  have hkb : k ≠ b := by
    rintro rfl
    rcases hown with h1 | h1
    · exact hx h1
    · omega
  rw [ho.block k (Nat.lt_of_lt_of_le hk h.size) hkb]
  exact h.block k hk hx
theorem Stw.writeM (h : Stw B M Z w) {i b : Nat} {cs cs' : List Value} (hM : M[i]? = some (b,cs)) (ho : One b w w') (hb : ∀ t,w.heap[b]? = some (.cells cs.toArray t (0,0)) → w'.heap[b]? = some (.cells cs'.toArray t (0,0))) : Stw B (M.set i (b,cs')) Z w' := by
  have hbm : b ∈ AA M Z := Du (BZ hM)
  have hi : i < M.length := (List.getElem?_eq_some_iff.1 hM).1
  have hbl : AA (M.set i (b,cs')) Z = AA M Z := by unfold AA; rw [ND hM]
  have hnd := List.nodup_append.1 h.nodup
  have hlt : ∀ g ∈ AA M Z,g < w.heap.size := fun g hg => h.lt_all hg
  refine ⟨h.frm.one ho (h.own b hbm),by rw [hbl]; exact h.own,fun p hp => ?_,fun z hz => ?_,by rw [hbl]; exact h.nodup,h.disj⟩
  · obtain ⟨j,hj⟩ := List.mem_iff_getElem?.1 hp
    by_cases hij : i = j
    · subst hij
      rw [List.getElem?_set_self hi] at hj
      cases hj
      obtain ⟨t,ht⟩ := h.at_ _ (BZ hM)
      exact ⟨t,hb t ht⟩
    · rw [List.getElem?_set_ne hij] at hj
      obtain ⟨t,ht⟩ := h.at_ _ (BZ hj)
      exact ⟨t,by rw [ho.block _ (hlt _ (Du (BZ hj))) (Nodup.get_ne hnd.1 hj hM (Ne.symm hij))]; exact ht⟩
  · rw [hbl]
    refine z.stab (h.items z hz) (fun k hA hlt => ⟨hA,ho.block k hlt ?_⟩) fun g hg => ho.block g (hlt g (BT hz hg)) ?_
    · rintro rfl; exact hA.2 hbm
    · rintro rfl
      exact hnd.2.2 g (List.mem_map.2 ⟨_,BZ hM,rfl⟩) g (List.mem_flatMap.2 ⟨z,hz,hg⟩) rfl
theorem Stw.setCell (h : Stw B M Z w) {i b : Nat} {cs : List Value} (hM : M[i]? = some (b,cs)) (o : Nat) (v : Value) :
    Stw B (M.set i (b,cs.set o v)) Z (w.setCell ⟨b,o,none⟩ v) :=
  h.writeM hM (One.setCell _ _ _ _) fun t ht => by rw [Mc _ _ _ _ ht]; simp
theorem Stw.perm {A C : Bi} (h : Stw B A Z w) (hp : A.Perm C) : Stw B C Z w := by
  have hb : (AA A Z).Perm (AA C Z) := (hp.map (·.1)).append_right _
  exact ⟨h.frm,fun g hg => h.own g (hb.mem_iff.2 hg),fun p hm => h.at_ p (hp.mem_iff.2 hm),fun z hz => z.stab (h.items z hz) (fun b hA _ => ⟨hA.mono fun g hg => hb.mem_iff.2 hg,rfl⟩) fun _ _ => rfl,hb.nodup_iff.1 h.nodup,h.disj⟩
theorem Stw.permZ (h : Stw B M Z w) (hp : Z.Perm Z') : Stw B M Z' w := by
  have hb : (AA M Z).Perm (AA M Z') := List.Perm.append_left _ (hp.flatMap_right _)
  exact ⟨h.frm,fun g hg => h.own g (hb.mem_iff.2 hg),h.at_,fun z hz => z.stab (h.items z (hp.mem_iff.2 hz)) (fun b hA _ => ⟨hA.mono fun g hg => hb.mem_iff.2 hg,rfl⟩) fun _ _ => rfl,hb.nodup_iff.1 h.nodup,h.disj⟩
theorem Es {f : It → List Nat} {A C : List It} (h : A.Sublist C) : (A.flatMap f).Sublist (C.flatMap f) := by
  induction h with
  | slnil => simp
  | cons x _ ih => simp only [List.flatMap_cons]; exact ih.trans (List.sublist_append_right _ _)
  | cons_cons x _ ih => simp only [List.flatMap_cons]; exact List.Sublist.append (List.Sublist.refl _) ih
theorem Stw.sub (h : Stw B M Z w) (hM : M'.Sublist M) (hZ : Z'.Sublist Z) : Stw B M' Z' w := by
  have hsub : (AA M' Z').Sublist (AA M Z) := List.Sublist.append (hM.map _) (Es hZ)
  exact ⟨h.frm,fun g hg => h.own g (hsub.subset hg),fun p hp => h.at_ p (hM.subset hp),fun z hz => z.stab (h.items z (hZ.subset hz)) (fun b hA _ => ⟨hA.mono fun g hg => hsub.subset hg,rfl⟩) fun _ _ => rfl,h.nodup.sublist hsub,h.disj⟩
theorem Stw.drop {A : Bi} (h : Stw B (A ++ M) Z w) : Stw B M Z w := h.sub (List.sublist_append_right _ _) (List.Sublist.refl _)
theorem CH {α : Type} : ∀ {l l1 : List α} {i : Nat} {r : α},l[i]? = some r → l.eraseIdx i = l1 → l.Perm (r :: l1)
  | [],_,_,_,h,_ => by simp at h
  | x :: l,_,0,r,h,he => by simp at h he; subst h; subst he; exact List.Perm.refl _
  | x :: l,_,i + 1,r,h,he => by
    simp at h he
    subst he
    exact ((CH h rfl).cons x).trans (List.Perm.swap r x _)
theorem Stw.frontM (h : Stw B M Z w) {i : Nat} {p : Nat × List Value} (hM : M[i]? = some p) (he : M.eraseIdx i = M') : Stw B (p :: M') Z w := h.perm (CH hM he)
theorem Stw.frontZ (h : Stw B M Z w) {i : Nat} {z : It} (hZ : Z[i]? = some z) (he : Z.eraseIdx i = Z1) : Stw B M (z :: Z1) w := h.permZ (CH hZ he)
theorem Stw.item (h : Stw B M Z w) {i : Nat} {z : It} (hZ : Z[i]? = some z) : z.ok w (Fz B (AA M Z)) := h.items z (BZ hZ)
theorem Stw.note {α : Type} {r : Rp α} {v : Value} {l : List α} (h : Stw B M Z w) (hs : Sl w (Fz B (AA M Z)) r v l) : Stw B M (KB v r l :: Z) w := by
  have hbl : AA M (KB v r l :: Z) = AA M Z := by unfold AA; simp [KB]
  refine ⟨h.frm,by rw [hbl]; exact h.own,h.at_,fun z hz => ?_,by rw [hbl]; exact h.nodup,h.disj⟩
  rw [hbl]
  rcases List.mem_cons.1 hz with rfl | hz
  · exact hs
  · exact h.items z hz
theorem Stw.freeze {α : Type} {e : TypeId} {r : Rp α} {v : Value} {l : List α} (h : Stw B M (row v e r l :: Z) w) : Stw B M (KB v r l :: Z) w := by
  have hs : (AA M Z).Sublist (AA M (row v e r l :: Z)) := List.Sublist.append (List.Sublist.refl _) (Es (List.sublist_cons_self _ _))
  refine (h.sub (List.Sublist.refl _) (List.sublist_cons_self _ _)).note ?_
  have ho : DZ w (Fz B (AA M (row v e r l :: Z))) e r v l := h.items _ (List.mem_cons_self ..)
  refine ho.sl (fun b hA => hA.mono fun g hg => hs.subset hg) fun g hg => ⟨.inr (h.own g (BT (z := row v e r l) (List.mem_cons_self ..) (Dx.2 hg))),fun hm => ?_⟩
  have hnd := h.nodup
  have hp : (AA M (row v e r l :: Z)).Perm (g :: AA M Z) := by
    have hb : (row v e r l).bl = [g] := by show HV v = [g]; unfold HV; rw [hg]
    unfold AA
    rw [List.flatMap_cons,hb]
    exact List.perm_middle
  exact (List.nodup_cons.1 (hp.nodup_iff.1 hnd)).1 hm
theorem Stw.keeps (h : Stw B M Z w) : E5 B.w0 w B.Y (Fz B (AA M Z)) := fun b hY hlt =>
  ⟨⟨.inl hY,fun hm => by
    rcases h.own b hm with h1 | h1
    · exact h.disj b h1 hY
    · omega⟩,h.frm.block b hlt fun hx => h.disj b hx hY⟩
theorem Stw.old {α : Type} {r : Rp α} {v : Value} {l : List α} (h : Stw B M Z w) (hs : Sl B.w0 B.Y r v l) : Sl w (Fz B (AA M Z)) r v l := hs.stab h.keeps
structure Turns (l : List Nat) (w w' : World) : Prop where
  os : w'.os = w.os
  tape : w'.tape = w.tape
  output : w'.output = w.output
  size : w.heap.size ≤ w'.heap.size
  block : ∀ k,k < w.heap.size → k ∉ l → w'.heap[k]? = w.heap[k]?
theorem Stw.itemTurn {z z' : It} (h : Stw B M (z :: Z) w) (hg : Turns z.bl w w')
    (ho : ∀ A,z.ok w (Fz B (AA M (z :: Z))) → E5 w w' (Fz B (AA M (z :: Z))) A → z'.ok w' A)
    (hb : ∀ g ∈ z'.bl,g ∈ z.bl ∨ w.heap.size ≤ g) : Stw B M (z' :: Z) w' := by
  have hflat : ∀ z : It,((z :: Z).flatMap It.bl) = z.bl ++ Z.flatMap It.bl := fun z => by simp
  have hnd := List.nodup_append.1 h.nodup
  rw [hflat] at hnd
  have hnd2 := List.nodup_append.1 hnd.2.1
  have hin : ∀ g ∈ z.bl,g ∈ AA M (z :: Z) := fun g hg => BT (List.mem_cons_self ..) hg
  have hMne : ∀ g ∈ M.map (·.1),g ∉ z.bl := fun g hm e' => hnd.2.2 g hm g (List.mem_append_left _ e') rfl
  have hZne : ∀ g ∈ Z.flatMap It.bl,g ∉ z.bl := fun g hm e' => hnd2.2.2 g e' g hm rfl
  have hsub : ∀ g ∈ AA M Z,g ∈ AA M (z :: Z) := fun g hg => (List.Sublist.append (List.Sublist.refl _) (Es (List.sublist_cons_self _ _))).subset hg
  have hlt : ∀ g ∈ AA M Z,g < w.heap.size := fun g hg => h.lt_all (hsub g hg)
  have hne : ∀ g ∈ AA M Z,g ∉ z.bl := fun g hgm => (List.mem_append.1 hgm).elim (hMne g) (hZne g)
  have hkeep : ∀ g ∈ AA M Z,w'.heap[g]? = w.heap[g]? := fun g hgm => hg.block g (hlt g hgm) (hne g hgm)
  have hmem' : ∀ g,g ∈ AA M (z' :: Z) → g ∈ AA M Z ∨ g ∈ z'.bl := fun g hgm => by
    rcases List.mem_append.1 hgm with hm | hm
    · exact .inl (List.mem_append_left _ hm)
    · rw [hflat] at hm
      rcases List.mem_append.1 hm with hm | hm
      · exact .inr hm
      · exact .inl (List.mem_append_right _ hm)
  have hA : E5 w w' (Fz B (AA M (z :: Z))) (Fz B (AA M (z' :: Z))) := fun b hF hb' => ⟨⟨hF.1,fun hm => by
      rcases hmem' b hm with h1 | h1
      · exact hF.2 (hsub b h1)
      · rcases hb b h1 with h2 | h2
        · exact hF.2 (hin b h2)
        · omega⟩,hg.block b hb' fun e' => hF.2 (hin b e')⟩
  have hok : z'.ok w' (Fz B (AA M (z' :: Z))) := ho _ (h.items _ (List.mem_cons_self ..)) hA
  refine ⟨⟨hg.os.trans h.frm.os,hg.tape.trans h.frm.tape,hg.output.trans h.frm.output,Nat.le_trans h.frm.size hg.size,fun k hk hx => ?_⟩,fun g hgm => ?_,fun p hp => ?_,fun y hy => ?_, ?_,h.disj⟩
  · rw [hg.block k (Nat.lt_of_lt_of_le hk h.frm.size) ?_]
    · exact h.frm.block k hk hx
    · intro e'
      rcases h.own k (hin k e') with h1 | h1
      · exact hx h1
      · omega
  · rcases hmem' g hgm with h1 | h1
    · exact h.own g (hsub g h1)
    · rcases hb g h1 with h2 | h2
      · exact h.own g (hin g h2)
      · exact .inr (Nat.le_trans h.frm.size h2)
  · obtain ⟨t,ht⟩ := h.at_ p hp
    exact ⟨t,by rw [hkeep p.1 (Du hp)]; exact ht⟩
  · rcases List.mem_cons.1 hy with rfl | hy
    · exact hok
    · exact y.stab (h.items y (zc _ hy)) hA fun g hg' => hkeep g (BT hy hg')
  · unfold AA
    rw [hflat,List.nodup_append]
    refine ⟨hnd.1,List.nodup_append.2 ⟨z'.nd hok,hnd2.2.1, ?_⟩, ?_⟩
    · intro x hx y hy e'
      subst e'
      rcases hb x hx with h1 | h1
      · exact hnd2.2.2 x h1 x hy rfl
      · have := hlt x (List.mem_append_right _ hy); omega
    · intro x hx y hy e'
      subst e'
      rcases List.mem_append.1 hy with hy | hy
      · rcases hb x hy with h1 | h1
        · exact hMne x hx h1
        · have := hlt x (List.mem_append_left _ hx); omega
      · exact hnd.2.2 x hx x (List.mem_append_right _ hy) rfl
theorem Turns.of_grownE {v : Value} (h : w.grownBy w' (ES v)) : Turns (HV v) w w' := ⟨h.os,h.tape,h.output,h.size,fun k hk hn => h.block k hk fun e => hn (Dx.2 e.symm)⟩
theorem Stw.rowTurn {α β : Type} {e e' : TypeId} {r : Rp α} {r' : Rp β} {v v' : Value} {l : List α} {l' : List β} (h : Stw B M (row v e r l :: Z) w) (hg : w.grownBy w' (ES v))
    (ho : ∀ A,DZ w (Fz B (AA M (row v e r l :: Z))) e r v l → E5 w w' (Fz B (AA M (row v e r l :: Z))) A → DZ w' A e' r' v' l')
    (hb : ∀ g,ES v' = some g → ES v = some g ∨ w.heap.size ≤ g) : Stw B M (row v' e' r' l' :: Z) w' :=
  h.itemTurn (z := row v e r l) (z' := row v' e' r' l') (Turns.of_grownE hg) ho fun g hg => (hb g (Dx.1 hg)).imp Dx.2 id
end
end Go.Proofs.YtbiekjhlijdjbaaGreat
namespace Go.Proofs.YtbiekjhlijdjbaaGreat
variable {rl : Option Nat}
section
variable {P : Program} {B : Bs} {M : List (Nat × List Value)} {Z : List It} {ops : Array Oper} {md : Region.Mode}
def Yq (P : Program) (B : Bs) (M : Bi) (Z : List It) (a : Act) (o : Oper) (v : Value) : Prop :=
  ∀ w,Stw B M Z w → o.quietAt P a (Below w.heap.size w) w v
def C2 (P : Program) (o : Oper) : Option (List Value) :=
  match o.op with
  | .alloc t => ((P.info? t).bind (·.zero)).map (·.cells.toList)
  | _ => none
def M8 (P : Program) (B : Bs) (M : Bi) (Z : List It) (ops : Array Oper) (i : Nat) (K : Bi → Act → Prop) (A : Bi) (a : Act) : Prop :=
  match ops[i]? with
  | none => False
  | some o =>
    if Region.wanted o (yielded ops a.tmps) then
      (match C2 P o with
      | some cs => ∀ b,K ((b,cs) :: A) (a.put o.dst (.pointer (some ⟨b,0,none⟩)))
      | none => ∃ v,Yq P B M Z a o v ∧ K A (a.put o.dst v))
    else K A (a.put o.dst undef)
theorem LP {i : Nat} {K K' : Bi → Act → Prop} {A : Bi} {a : Act} (h : ∀ A a,K A a → K' A a) (hh : M8 P B M Z ops i K A a) : M8 P B M Z ops i K' A a := by
  unfold M8 at *
  split
  · rename_i ho; simp only [ho] at hh
  · rename_i o ho
    simp only [ho] at hh
    split
    · rename_i hw
      rw [if_pos hw] at hh
      split
      · rename_i cs hz; simp only [hz] at hh; exact fun b => h _ _ (hh b)
      · rename_i hz; simp only [hz] at hh; obtain ⟨v,h1,h2⟩ := hh; exact ⟨v,h1,h _ _ h2⟩
    · rename_i hw; rw [if_neg hw] at hh; exact h _ _ hh
theorem SK {i : Nat} {K : Bi → Act → Prop} (hK : ∀ A A' a,A.Perm A' → K A a → K A' a) {A A' : Bi} {a : Act} (hp : A.Perm A') (hh : M8 P B M Z ops i K A a) : M8 P B M Z ops i K A' a := by
  unfold M8 at *
  split
  · rename_i ho; simp only [ho] at hh
  · rename_i o ho
    simp only [ho] at hh
    split
    · rename_i hw
      rw [if_pos hw] at hh
      split
      · rename_i cs hz; simp only [hz] at hh; exact fun b => hK _ _ _ (hp.cons _) (hh b)
      · rename_i hz; simp only [hz] at hh; obtain ⟨v,h1,h2⟩ := hh; exact ⟨v,h1,hK _ _ _ hp h2⟩
    · rename_i hw; rw [if_neg hw] at hh; exact hK _ _ _ hp hh
theorem NF {o : Oper} {a : Act} {cs : List Value} (hz : C2 P o = some cs) (w : World) : ∃ t,(execOp a.eval o).run P w = .ok (.value (.pointer (some ⟨w.heap.size,0,none⟩))) (w.alloc (.cells cs.toArray t)) := by
  obtain ⟨dst,op,ty,pos,aft,g⟩ := o
  cases op with
  | alloc t =>
    simp only [C2,Option.map_eq_some_iff] at hz
    obtain ⟨z,hz,rfl⟩ := hz
    refine ⟨t, ?_⟩
    have hz' : (zeroValue t).run P w = .ok z w := by
      unfold zeroValue typeInfo
      cases hi : P.info? t with
      | none => rw [hi] at hz; simp at hz
      | some i => rw [hi] at hz; simp at hz; simp [hi,hz]
    simp [execOp,Instr.alloc,hz',newVar,newRow]
  | _ => simp [C2] at hz
theorem OW {i : Nat} {A : Bi} {a : Act} {w : World} {K : Bi → Act → Prop} {K' : Act → World → Prop} {Q' : Exit → Act → World → Prop} (hW : Stw B (A ++ M) Z w)
    (h : ∀ A' a' w',Stw B (A' ++ M) Z w' → K A' a' → K' a' w') (hh : M8 P B M Z ops i K A a) : wpOp P ops Q' i K' a w := by
  unfold M8 at hh
  unfold wpOp
  split
  · rename_i ho; simp only [ho] at hh
  · rename_i o ho
    simp only [ho] at hh
    split
    · rename_i hw
      rw [if_pos hw] at hh
      refine .inl ?_
      split at hh
      · rename_i cs hz
        obtain ⟨t,hr⟩ := NF (P := P) (a := a) hz w
        unfold Oper.wp
        rw [hr]
        exact h ((w.heap.size,cs) :: A) _ _ (hW.alloc cs t) (hh _)
      · obtain ⟨v,hy,hk⟩ := hh
        refine Oper.wp_of_quiet (C := fun w' => Below w.heap.size w w') (K := fun a' => a' = a.put o.dst v) (Below.refl _ _) (fun a' w' hb he => by subst he; exact h A _ w' (hW.below hb) hk) ⟨v, ?_,rfl⟩
        intro w1 hb1
        have := hy w1 (hW.drop.below hb1)
        unfold Oper.quietAt Oper.quietUpon at *
        generalize (execOp a.eval o).run P w1 = r at *
        cases r with
        | ok nx w2 =>
          cases nx <;> simp only at this ⊢ <;> try exact this
          exact ⟨this.1,this.2.mono fun e w3 ⟨he,hb⟩ => ⟨he,hb1.trans (hb.mono hb1.size)⟩⟩
        | halt x w2 => exact this
    · rename_i hw; rw [if_neg hw] at hh; exact h _ _ _ hW hh
def N5 (P : Program) (B : Bs) (M : Bi) (Z : List It) (md : Region.Mode) (ops : Array Oper) (n : Nat) (L : Array Bool → Bi → Act → Prop) : Nat → Array Bool → Bi → Act → Prop
  | 0,listed,A,a => L listed A a
  | f + 1,listed,A,a => Region.ready md ops listed ≠ [] ∧ ∀ i ∈ Region.ready md ops listed,i < n ∧ M8 P B M Z ops i (N5 P B M Z md ops n L f (listed.setIfInBounds i true)) A a
theorem MA {n : Nat} {L : Array Bool → Bi → Act → Prop} (hL : ∀ l A A' a,A.Perm A' → L l A a → L l A' a) : ∀ (f : Nat) (listed : Array Bool) (A A' : Bi) (a : Act),A.Perm A' → N5 P B M Z md ops n L f listed A a → N5 P B M Z md ops n L f listed A' a
  | 0,_,_,_,_,hp,h => hL _ _ _ _ hp h
  | f + 1,listed,A,A',a,hp,h => ⟨h.1,fun i hi => ⟨(h.2 i hi).1,SK (fun A A' a hp => MA hL f _ A A' a hp) hp (h.2 i hi).2⟩⟩
theorem JZ {n g : Nat} {L : Array Bool → Bi → Act → Prop} {Q' : Exit → Act → World → Prop} (hL : ∀ listed A a w,Stw B (A ++ M) Z w → L listed A a → wpAny P md ops Q' g listed a w) :
    ∀ (f : Nat) (listed : Array Bool) (A : Bi) (a : Act) (w : World),Stw B (A ++ M) Z w → N5 P B M Z md ops n L f listed A a → wpAny P md ops Q' (f + g) listed a w
  | 0,listed,A,a,w,hw,h => by rw [Nat.zero_add]; exact hL _ _ _ _ hw h
  | f + 1,listed,A,a,w,hw,h => by
    rw [show f + 1 + g = (f + g) + 1 by omega]
    exact ⟨fun h0 => absurd h0 h.1,fun i hi => OW hw (fun A' a' w' hw' h' => JZ hL f _ A' a' w' hw' h') (h.2 i hi).2⟩
theorem Sq {oj : Oper} {a : Act} {dst : Option Tmp} {v : Value} (hs : ∀ cs b,oj.op ≠ .select cs b) (h : ∀ d,dst = some d → d ∉ oj.looksAt ops) {u : Value} : Yq P B M Z (a.put dst v) oj u ↔ Yq P B M Z a oj u := by
  unfold Yq Oper.quietAt
  rw [execOp_put oj hs a dst v h]
theorem Uj {i j : Nat} {oi oj : Oper} (hi : ops[i]? = some oi) (hj : ops[j]? = some oj) (hap : oi.apart ops oj = true) (hsi : ∀ cs b,oi.op ≠ .select cs b) (hsj : ∀ cs b,oj.op ≠ .select cs b)
    (hk : C2 P oi = none ∨ (C2 P oj).isSome = true) {K : Bi → Act → Prop} (hK : ∀ A A' a,A.Perm A' → K A a → K A' a) {A : Bi} {a : Act}
    (h : M8 P B M Z ops i (fun A a => M8 P B M Z ops j K A a) A a) : M8 P B M Z ops j (fun A a => M8 P B M Z ops i K A a) A a := by
  obtain ⟨h1,h2,h3⟩ := Oper.apart_spec hap
  have wi : ∀ u,Region.wanted oi (yielded ops (a.put oj.dst u).tmps) = Region.wanted oi (yielded ops a.tmps) := fun u => wanted_put oi a oj.dst u h3
  have wj : ∀ u,Region.wanted oj (yielded ops (a.put oi.dst u).tmps) = Region.wanted oj (yielded ops a.tmps) := fun u => wanted_put oj a oi.dst u h1
  have yi : ∀ u v,Yq P B M Z (a.put oj.dst u) oi v ↔ Yq P B M Z a oi v := fun u v => Sq hsi h3
  have yj : ∀ u v,Yq P B M Z (a.put oi.dst u) oj v ↔ Yq P B M Z a oj v := fun u v => Sq hsj h1
  have pc : ∀ u v,(a.put oi.dst u).put oj.dst v = (a.put oj.dst v).put oi.dst u := fun u v => Act.put_comm a u v h2
  unfold M8 at *
  simp only [hi,hj,wi,wj,yi,yj,pc] at *
  by_cases hwi : Region.wanted oi (yielded ops a.tmps) = true <;> by_cases hwj : Region.wanted oj (yielded ops a.tmps) = true
  · simp only [hwi,hwj,if_true] at h ⊢
    cases hzi : C2 P oi with
    | none =>
      simp only [hzi] at h ⊢
      obtain ⟨v,hv,h⟩ := h
      cases hzj : C2 P oj with
      | none =>
        simp only [hzj] at h ⊢
        obtain ⟨u,hu,h⟩ := h
        exact ⟨u,hu,v,hv,h⟩
      | some cj =>
        simp only [hzj] at h ⊢
        exact fun b => ⟨v,hv,h b⟩
    | some ci =>
      simp only [hzi] at h ⊢
      cases hzj : C2 P oj with
      | none => rw [hzi,hzj] at hk; simp at hk
      | some cj =>
        simp only [hzj] at h ⊢
        exact fun b b' => hK _ _ _ (List.Perm.swap _ _ _) (h b' b)
  · simp only [hwi,hwj,if_true,Bool.false_eq_true,if_false] at h ⊢
    cases hzi : C2 P oi with
    | none => simp only [hzi] at h ⊢; exact h
    | some ci => simp only [hzi] at h ⊢; exact h
  · simp only [hwi,hwj,if_true,Bool.false_eq_true,if_false] at h ⊢
    cases hzj : C2 P oj with
    | none => simp only [hzj] at h ⊢; exact h
    | some ci => simp only [hzj] at h ⊢; exact h
  · simp only [hwi,hwj,Bool.false_eq_true,if_false] at h ⊢
    exact h
def Region.sinkF (md : Region.Mode) (ops : Array Oper) (n : Nat) (L0 : List Nat) : Bool :=
  (List.range n).all fun i => L0.contains i || (List.range (n + 1)).any fun j => decide (i < j) && Region.waitsFor md ops j i
structure HInv (md : Region.Mode) (ops : Array Oper) (n : Nat) (L0 : List Nat) (listed : Array Bool) : Prop where
  head : HeadInv md ops n listed
  first : ∀ i ∈ L0,listed.getD i true = true
theorem HInv.set {n : Nat} {L0 : List Nat} {listed : Array Bool} (h : HInv md ops n L0 listed) {j : Nat} (hj : j ∈ Region.ready md ops listed) (hjn : j < n) : HInv md ops n L0 (listed.setIfInBounds j true) :=
  ⟨h.head.set hj hjn,fun i hi => by
    by_cases hji : j = i
    · subst hji
      have hs : j < listed.size := by
        obtain ⟨_,oj,hoj,_⟩ := mem_ready.1 hj
        rw [h.head.size]; exact (Array.getElem?_eq_some_iff.1 hoj).1
      simp [hs]
    · rw [getD_set_ne true hji]; exact h.first i hi⟩
theorem JX {n : Nat} {L0 : List Nat} {listed : Array Bool} (hs : Region.sinkF md ops n L0 = true) (hc : Region.chainB md ops n = true) (hn : n < ops.size) (hinv : HInv md ops n L0 listed) :
    ∀ (d i : Nat),n - i = d → i < n → listed.getD i true = false → ∀ t,n ≤ t → t ∉ Region.ready md ops listed := by
  have inv := hinv.head
  intro d
  induction d using Nat.strongRecOn with
  | _ d ih =>
    intro i hd hi hun t ht hr
    obtain ⟨_,ot,hot,hall⟩ := mem_ready.1 hr
    have htlt : t < ops.size := (Array.getElem?_eq_some_iff.1 hot).1
    by_cases htn : t = n
    · subst htn
      have h1 := List.all_eq_true.1 hs i (List.mem_range.2 hi)
      rcases Bool.or_eq_true_iff.1 h1 with h1 | h1
      · have h2 := hinv.first i (by simpa using h1)
        rw [h2] at hun; cases hun
      obtain ⟨j,hj,hj2⟩ := List.any_eq_true.1 h1
      simp only [zf,decide_eq_true_eq] at hj2
      obtain ⟨oj,hoj,e,he,hb,hon⟩ := Region.waitsFor_spec hj2.2
      have hjle : j ≤ t := by have := List.mem_range.1 hj; omega
      by_cases hjt : j = t
      · subst hjt
        have : oj = ot := Option.some.inj (hoj.symm.trans hot)
        subst this
        have h2 := hall e he hb
        rw [hon,getD_both hun] at h2
        cases h2
      · cases hl : listed.getD j false with
        | true =>
          have h2 := inv.closed j oj hoj hl e he hb
          rw [hon,getD_both hun] at h2
          cases h2
        | false =>
          have hjs : j < listed.size := by rw [inv.size]; omega
          exact ih (t - j) (by omega) j rfl (by omega) (getD_in hjs hl) t (Nat.le_refl _) hr
    · have h1 := List.all_eq_true.1 hc t (List.mem_range.2 htlt)
      rcases Bool.or_eq_true_iff.1 h1 with h2 | h2
      · have := of_decide_eq_true h2; omega
      · obtain ⟨oj,hoj,e,he,hb,hon⟩ := Region.waitsFor_spec h2
        have : oj = ot := Option.some.inj (hoj.symm.trans hot)
        subst this
        have h3 := hall e he hb
        have h4 := inv.tail (t - 1) (by omega) (by omega)
        rw [hon,getD_both h4] at h3
        cases h3
variable {L0 : List Nat}
theorem Qw {n i : Nat} {oi : Oper} {L : Array Bool → Bi → Act → Prop} (hLp : ∀ l A A' a,A.Perm A' → L l A a → L l A' a) (hi : ops[i]? = some oi) (hsel : ∀ (j : Nat) (o : Oper) cs b,ops[j]? = some o → o.op ≠ .select cs b)
    (hs : Region.sinkF md ops n L0 = true) (hc : Region.chainB md ops n = true) (hn : n < ops.size) (hin : i < n)
    (hdone : ∀ listed A a,L listed A a → ∀ j ∈ Region.ready md ops listed,n ≤ j) :
    ∀ (f : Nat) (listed : Array Bool) (A : Bi) (a : Act),HInv md ops n L0 listed →
      (∀ j oj,ops[j]? = some oj → j ≠ i → listed.getD j true = false → (∀ e ∈ oj.after,Region.binds md e = true → e.on ≠ i) → oi.apart ops oj = true) →
      (C2 P oi = none ∨ ∀ j oj,ops[j]? = some oj → j < n → listed.getD j true = false → (C2 P oj).isSome = true) →
      i ∈ Region.ready md ops listed →
      M8 P B M Z ops i (N5 P B M Z md ops n L f (listed.setIfInBounds i true)) A a → N5 P B M Z md ops n L (f + 1) listed A a := by
  intro f
  induction f with
  | zero =>
    intro listed A a inv _ _ hr H
    have hun := (mem_ready.1 hr).1
    refine ⟨fun h => (by rw [h] at hr; cases hr),fun j hj => ?_⟩
    have hjn : j < n := by
      rcases Nat.lt_or_ge j n with h | h
      · exact h
      · exact absurd hj (JX hs hc hn inv _ i rfl hin hun j h)
    refine ⟨hjn, ?_⟩
    by_cases hji : j = i
    · subst hji; exact H
    · have hrdy := ready_mono hj hji
      exfalso
      unfold M8 at H
      simp only [hi] at H
      split at H
      · split at H
        · have := hdone _ _ _ (H 0) j hrdy; omega
        · obtain ⟨v,_,H⟩ := H; have := hdone _ _ _ H j hrdy; omega
      · have := hdone _ _ _ H j hrdy; omega
  | succ f ih =>
    intro listed A a inv hfree hkind hr H
    have hun := (mem_ready.1 hr).1
    refine ⟨fun h => (by rw [h] at hr; cases hr),fun j hj => ?_⟩
    have hjn : j < n := by
      rcases Nat.lt_or_ge j n with h | h
      · exact h
      · exact absurd hj (JX hs hc hn inv _ i rfl hin hun j h)
    refine ⟨hjn, ?_⟩
    by_cases hji : j = i
    · subst hji; exact H
    · obtain ⟨hjun,oj,hoj,hall⟩ := mem_ready.1 hj
      have hnot : ∀ e ∈ oj.after,Region.binds md e = true → e.on ≠ i := fun e he hb heq => by
        have h1 := hall e he hb
        rw [heq,getD_both hun] at h1
        cases h1
      have hap := hfree j oj hoj hji hjun hnot
      have h1 := LP (fun A' a' (h : N5 P B M Z md ops n L (f + 1) (listed.setIfInBounds i true) A' a') => (h.2 j (ready_mono hj hji)).2) H
      have h2 := Uj hi hoj hap (fun cs b => hsel i oi cs b hi) (fun cs b => hsel j oj cs b hoj) (hkind.imp id fun h => h j oj hoj hjn hjun)
        (fun A A' a hp => MA hLp f _ A A' a hp) h1
      have hfree' : ∀ k ok,ops[k]? = some ok → k ≠ i → (listed.setIfInBounds j true).getD k true = false →
          (∀ e ∈ ok.after,Region.binds md e = true → e.on ≠ i) → oi.apart ops ok = true := fun k ok hk hki hun hno => by
        refine hfree k ok hk hki ?_ hno
        by_cases hjk : j = k
        · subst hjk; exact hjun
        · rw [getD_set_ne true hjk] at hun; exact hun
      refine LP (fun A' a' h3 => ih (listed.setIfInBounds j true) A' a' (inv.set hj hjn) hfree' ?_ (ready_mono hr (Ne.symm hji)) ?_) h2
      · refine hkind.imp id fun h k ok hk hkn hun => h k ok hk hkn ?_
        by_cases hjk : j = k
        · subst hjk; exact hjun
        · rw [getD_set_ne true hjk] at hun; exact hun
      · rw [Array.setIfInBounds_comm _ _ hji]
        exact h3
def Region.ordB (P : Program) (md : Region.Mode) (ops : Array Oper) (n g : Nat) : List Nat → Array Bool → Bool
  | [],listed => Region.seqB md ops g n listed
  | k :: ks,listed => decide (k < n) && (Region.ready md ops listed).contains k && Region.free md ops listed k &&
      (match ops[k]? with
       | some o => (C2 P o).isNone || (List.range n).all (fun j => listed.getD j true || (match ops[j]? with | some oj => (C2 P oj).isSome | none => true))
       | none => false) &&
      Region.ordB P md ops n g ks (listed.setIfInBounds k true)
def PJ (P : Program) (B : Bs) (M : Bi) (Z : List It) (ops : Array Oper) (Q : Bi → Act → Prop) : List Nat → Bi → Act → Prop
  | [],A,a => Q A a
  | k :: ks,A,a => M8 P B M Z ops k (PJ P B M Z ops Q ks) A a
theorem Oe {n g : Nat} {Lq : Bi → Act → Prop} (hLp : ∀ A A' a,A.Perm A' → Lq A a → Lq A' a) (hsel : Region.noSelect ops = true) (hs : Region.sinkF md ops n L0 = true) (hc : Region.chainB md ops n = true) (hn : n < ops.size) :
    ∀ (ks : List Nat) (listed : Array Bool) (A : Bi) (a : Act),HInv md ops n L0 listed → Region.ordB P md ops n g ks listed = true → PJ P B M Z ops Lq ks A a →
    N5 P B M Z md ops n (fun listed' A' a' => Region.seqB md ops g n listed' = true ∧ Lq A' a') ks.length listed A a
  | [],listed,A,a,_,hB,h => ⟨by simpa [Region.ordB] using hB,h⟩
  | k :: ks,listed,A,a,inv,hB,h => by
    simp only [Region.ordB,zf,decide_eq_true_eq] at hB
    obtain ⟨⟨⟨⟨hkn,hr⟩,hf⟩,hz⟩,hB'⟩ := hB
    have hr' : k ∈ Region.ready md ops listed := by simpa using hr
    cases h0 : ops[k]? with
    | none => rw [h0] at hz; cases hz
    | some o =>
      rw [h0] at hz
      refine Qw (fun l A A' a hp h => ⟨h.1,hLp _ _ _ hp h.2⟩) h0 (Region.noSelect_spec hsel) hs hc hn hkn (fun listed' A' a' hL => seqB_ready hL.1) ks.length listed A a inv (Region.free_spec h0 hf) ?_ hr' ?_
      · rcases Bool.or_eq_true_iff.1 hz with hz | hz
        · exact .inl (by simpa using hz)
        · refine .inr fun j oj hj hjn hun => ?_
          have := List.all_eq_true.1 hz j (List.mem_range.2 hjn)
          rw [hj,hun] at this
          simpa using this
      · exact LP (fun A' a' h' => Oe hLp hsel hs hc hn ks _ A' a' (inv.set hr' hkn) hB' h') h
def Ht (Q : Exit → Act → World → Prop) : Prop := ∀ ch a d v w,Q (.panic ch) (Act.put a d v) w → Q (.panic ch) a w
def CJ (ops : Array Oper) (Q : Exit → Act → World → Prop) : Prop := ∀ (i : Nat) (o : Oper),ops[i]? = some o → ∀ ch a v w,Q (.panic ch) (Act.put a o.dst v) w → Q (.panic ch) a w
theorem Ht.on {ops : Array Oper} {Q : Exit → Act → World → Prop} (h : Ht Q) : CJ ops Q := fun _ o _ ch a v w => h ch a o.dst v w
def Iu (o : Oper) : Option Operand := match o.op,o.guard,o.dst with | .move x,none,some _ => some x | _,_,_ => none
theorem Qn {Q' : Exit → Act → World → Prop} (hQ : CJ ops Q') {i : Nat} {oi : Oper} {x : Operand} (hi : ops[i]? = some oi) (hm : Iu oi = some x) (hsel : ∀ (j : Nat) (o : Oper) cs b,ops[j]? = some o → o.op ≠ .select cs b) :
    ∀ (f : Nat) (listed : Array Bool) (a : Act) (w : World),
      (∀ j oj,ops[j]? = some oj → j ≠ i → listed.getD j true = false → (∀ e ∈ oj.after,Region.binds md e = true → e.on ≠ i) → oi.apart ops oj = true) →
      i ∈ Region.ready md ops listed → wpAny P md ops Q' f (listed.setIfInBounds i true) (a.put oi.dst (a.eval x)) w → wpAny P md ops Q' (f + 1) listed a w := by
  obtain ⟨dst,op,ty,pos,aft,g⟩ := oi
  have hshape : op = .move x ∧ g = none ∧ ∃ d,dst = some d := by
    cases op <;> cases g <;> cases dst <;> simp_all [Iu]
  obtain ⟨rfl,rfl,d,rfl⟩ := hshape
  have here : ∀ (K : Act → World → Prop) (a : Act) (w : World),K (a.put (some d) (a.eval x)) w → wpOp P ops Q' i K a w := fun K a w h => by
    unfold wpOp
    simp only [hi]
    rw [if_pos (by simp [Region.wanted])]
    refine .inl ?_
    unfold Oper.wp
    simp only [execOp,Sem.run_pure,Oper.upon]
    exact h
  intro f
  induction f with
  | zero =>
    intro listed a w _ hr H
    refine ⟨fun h => (by rw [h] at hr; cases hr),fun j hj => ?_⟩
    by_cases hji : j = i
    · subst hji; exact here _ _ _ H
    · have := ready_mono hj hji
      rw [H.1] at this; cases this
  | succ f ih =>
    intro listed a w hfree hr H
    refine ⟨fun h => (by rw [h] at hr; cases hr),fun j hj => ?_⟩
    by_cases hji : j = i
    · subst hji; exact here _ _ _ H
    · have h1 := H.2 j (ready_mono hj hji)
      obtain ⟨hjun,oj,hoj,hall⟩ := mem_ready.1 hj
      have hun := (mem_ready.1 hr).1
      have hnot : ∀ e ∈ oj.after,Region.binds md e = true → e.on ≠ i := fun e he hb heq => by
        have h1 := hall e he hb
        rw [heq,getD_both hun] at h1
        cases h1
      have hap := hfree j oj hoj hji hjun hnot
      obtain ⟨q1,q2,q3⟩ := Oper.apart_spec hap
      have hx : ∀ dj,oj.dst = some dj → x ≠ .tmp dj := fun dj hd he => by
        refine q3 dj hd ?_
        subst he
        simp [Oper.looksAt,Op.operands]
      have hev : ∀ (a : Act) (u : Value),(a.put oj.dst u).eval x = a.eval x := fun a u => Act.eval_put fun d hd hxd => hx d hd hxd
      have hK : ∀ a' w',wpAny P md ops Q' f ((listed.setIfInBounds i true).setIfInBounds j true) (a'.put (some d) (a'.eval x)) w' → wpAny P md ops Q' (f + 1) (listed.setIfInBounds j true) a' w' := fun a' w' h => by
        refine ih (listed.setIfInBounds j true) a' w' (fun k ok hk hki hku hno => hfree k ok hk hki ?_ hno) (ready_mono hr (Ne.symm hji)) ?_
        · by_cases hjk : j = k
          · subst hjk; exact hjun
          · rw [getD_set_ne true hjk] at hku; exact hku
        · rw [Array.setIfInBounds_comm _ _ hji]; exact h
      have hput : ∀ u,wpAny P md ops Q' f ((listed.setIfInBounds i true).setIfInBounds j true) ((a.put (some d) (a.eval x)).put oj.dst u) = wpAny P md ops Q' f ((listed.setIfInBounds i true).setIfInBounds j true) ((a.put oj.dst u).put (some d) ((a.put oj.dst u).eval x)) := fun u => by
        rw [hev a u,Act.put_comm a (a.eval x) u q2]
      unfold wpOp at h1 ⊢
      simp only [hoj] at h1 ⊢
      rw [wanted_put oj a (some d) (a.eval x) q1] at h1
      have hex := execOp_put (ops := ops) oj (fun cs b => hsel j oj cs b hoj) a (some d) (a.eval x) q1
      split
      · rename_i hw
        rw [if_pos hw] at h1
        rcases h1 with h1 | ⟨h1,h2⟩
        · refine .inl ?_
          unfold Oper.wp at h1 ⊢
          rw [hex] at h1
          generalize (execOp a.eval oj).run P w = res at h1 ⊢
          cases res with
          | ok nx w2 =>
            cases nx with
            | value u => simp only [Oper.upon] at h1 ⊢; rw [hput] at h1; exact hK _ _ h1
            | skip => simp only [Oper.upon] at h1 ⊢; rw [hput] at h1; exact hK _ _ h1
            | defer dd =>
              simp only [Oper.upon] at h1 ⊢
              have e1 : ({ a.put (some d) (a.eval x) with defers := dd :: (a.put (some d) (a.eval x)).defers } : Act).put oj.dst undef = (({ a with defers := dd :: a.defers } : Act).put oj.dst undef).put (some d) ((({ a with defers := dd :: a.defers } : Act).put oj.dst undef).eval x) := by
                rw [hev { a with defers := dd :: a.defers } undef]
                have : ({ a with defers := dd :: a.defers } : Act).eval x = a.eval x := by cases x <;> rfl
                rw [this,Act.put_comm { a with defers := dd :: a.defers } undef (a.eval x) (fun d' hd' he => q2 d rfl (by rw [hd']; exact he.symm))]
                rfl
              rw [e1] at h1
              exact hK _ _ h1
            | enter ff args =>
              simp only [Oper.upon] at h1 ⊢
              refine h1.mono fun e w3 h => ?_
              cases e with
              | returned u => dsimp only at h ⊢; rw [hput] at h; exact hK _ _ h
              | panicked ch => exact hQ _ _ hi _ _ _ _ h
              | outgrown => exact h
            | row row args =>
              simp only [Oper.upon] at h1 ⊢
              exact h1.mono fun u w3 h => by rw [hput] at h; exact hK _ _ h
            | _ => simp only [Oper.upon] at h1
          | halt st w2 =>
            cases st with
            | panic v => exact hQ _ _ hi _ _ _ _ h1
            | _ => exact h1.elim
        · refine .inr ⟨?_,h2⟩
          unfold Oper.asks at h1 ⊢
          rw [hex] at h1
          exact h1
      · rename_i hw
        rw [if_neg hw] at h1
        rw [hput] at h1; exact hK _ _ h1
def LO : List Nat → Array Bool → Array Bool
  | [],l => l
  | k :: ks,l => LO ks (l.setIfInBounds k true)
def Region.hoistB (md : Region.Mode) (ops : Array Oper) : List Nat → Array Bool → Bool
  | [],_ => true
  | k :: ks,listed => (Region.ready md ops listed).contains k && Region.free md ops listed k && (match ops[k]? with | some o => (Iu o).isSome | none => false) && Region.hoistB md ops ks (listed.setIfInBounds k true)
def RJ (ops : Array Oper) (K : Act → Prop) : List Nat → Act → Prop
  | [],a => K a
  | k :: ks,a => match ops[k]? with
    | some o => match Iu o with | some x => RJ ops K ks (a.put o.dst (a.eval x)) | none => False
    | none => False
theorem JW {Q' : Exit → Act → World → Prop} (hQ : CJ ops Q') (hsel : Region.noSelect ops = true) {f : Nat} {w : World} : ∀ (hs : List Nat) (listed : Array Bool) (a : Act),Region.hoistB md ops hs listed = true →
    RJ ops (fun a => wpAny P md ops Q' f (LO hs listed) a w) hs a → wpAny P md ops Q' (hs.length + f) listed a w
  | [],listed,a,_,h => by rw [List.length_nil,Nat.zero_add]; exact h
  | k :: ks,listed,a,hB,h => by
    simp only [Region.hoistB,zf] at hB
    obtain ⟨⟨⟨hr,hf⟩,hm⟩,hB'⟩ := hB
    unfold RJ at h
    cases ho : ops[k]? with
    | none => rw [ho] at hm; cases hm
    | some o =>
      rw [ho] at hm h
      dsimp only at hm h
      cases hx : Iu o with
      | none => rw [hx] at hm; cases hm
      | some x =>
        rw [hx] at h
        dsimp only at h
        rw [List.length_cons,show ks.length + 1 + f = (ks.length + f) + 1 by omega]
        exact Qn hQ ho hx (Region.noSelect_spec hsel) _ listed a w (Region.free_spec ho hf) (by simpa using hr) (JW hQ hsel ks _ _ hB' h)
def Region.ordTailB (P : Program) (md : Region.Mode) (ops : Array Oper) (n : Nat) (hs ks : List Nat) : Bool :=
  Region.noSelect ops && decide (n < ops.size) && Region.sinkF md ops n hs && Region.chainB md ops n && decide (hs.length + ks.length = n) && hs.all (fun i => decide (i < n)) && Region.hoistB md ops hs (Array.replicate ops.size false) && Region.ordB P md ops n (ops.size - n) ks (LO hs (Array.replicate ops.size false))
theorem HInv.all {n : Nat} : ∀ (hs : List Nat) {L : List Nat} {listed : Array Bool},HInv md ops n L listed → (∀ i ∈ hs,i < n) → Region.hoistB md ops hs listed = true → HInv md ops n (L ++ hs) (LO hs listed)
  | [],L,listed,h,_,_ => by rw [List.append_nil]; exact h
  | k :: ks,L,listed,h,hn,hB => by
    simp only [Region.hoistB,zf] at hB
    obtain ⟨⟨⟨hr,hf⟩,hm⟩,hB'⟩ := hB
    have hr' : k ∈ Region.ready md ops listed := by simpa using hr
    have h1 := h.set hr' (hn k (by simp))
    have h2 : HInv md ops n (L ++ [k]) (listed.setIfInBounds k true) := ⟨h1.head,fun i hi => by
      rcases List.mem_append.1 hi with hi | hi
      · exact h1.first i hi
      · have : i = k := by simpa using hi
        subst this
        have hs : i < listed.size := by
          obtain ⟨_,oj,hoj,_⟩ := mem_ready.1 hr'
          rw [h.head.size]; exact (Array.getElem?_eq_some_iff.1 hoj).1
        simp [hs]⟩
    have h3 := HInv.all ks h2 (fun i hi => hn i (by simp [hi])) hB'
    rw [List.append_assoc] at h3
    exact h3
theorem Iq {id : Nat} {Q : Exit → Act → World → Prop} {a : Act} {w : World} {l : List Oper} (n : Nat) (hs ks : List Nat) (hQ : CJ l.toArray Q) (hW : Stw B M Z w) (hm : P.follows .mixedOrders = true) (hB : Region.ordTailB P .any l.toArray n hs ks = true)
    (h : RJ l.toArray (fun a => PJ P B M Z l.toArray (fun A a' => ∀ w',Stw B (A ++ M) Z w' → wpList P l.toArray Q (l.drop n) a' w') ks [] a) hs a) (hd : Mk rl l = true := by rfl) : (Code.region id l.toArray true).wr rl P Q a w := by
  simp only [Region.ordTailB,zf,decide_eq_true_eq] at hB
  obtain ⟨⟨⟨⟨⟨⟨⟨hsel,hn⟩,hsk⟩,hc⟩,hlen⟩,hlt⟩,hho⟩,hord⟩ := hB
  have hn' : n < l.length := by simpa using hn
  have hdl : (l.drop n).length = l.toArray.size - n := by simp
  have inv0 : HInv .any l.toArray n [] (Array.replicate l.toArray.size false) :=
    ⟨⟨by simp,fun j oj _ hl => (by rw [getD_replicate_false] at hl; cases hl),fun t _ ht => getD_in (by simpa using ht) (getD_replicate_false _ _)⟩,by simp⟩
  have inv1 := HInv.all hs inv0 (fun i hi => of_decide_eq_true (List.all_eq_true.1 hlt i hi)) hho
  rw [List.nil_append] at inv1
  refine Df hd hm ?_
  have key : ∀ a,PJ P B M Z l.toArray (fun A a' => ∀ w',Stw B (A ++ M) Z w' → wpList P l.toArray Q (l.drop n) a' w') ks [] a → wpAny P .any l.toArray Q (ks.length + (l.toArray.size - n)) (LO hs (Array.replicate l.toArray.size false)) a { w with drawn := w.drawn + 1 } := by
    intro a h
    have H := Oe (md := .any) (g := l.toArray.size - n) (fun A A' a hp (h : ∀ w',Stw B (A ++ M) Z w' → wpList P l.toArray Q (l.drop n) a w') w' hw' => h w' (hw'.perm (hp.symm.append_right M))) hsel hsk hc hn ks _ [] a inv1 hord h
    exact JZ (Q' := Q) (g := l.toArray.size - n) (fun listed A a' w' hw' hL => by
      have := wpAny_of_seq (md := .any) (Q' := Q) (l.drop n) n listed a' w' (fun j => by simp [List.getElem?_drop]) (by rw [hdl]; exact hL.1) (hL.2 w' hw')
      rwa [hdl] at this) _ _ [] _ _ (show Stw B ([] ++ M) Z _ from hW.drew) H
  have hmono : ∀ (hs : List Nat) (a : Act) {K K' : Act → Prop},(∀ a,K a → K' a) → RJ l.toArray K hs a → RJ l.toArray K' hs a := by
    intro hs
    induction hs with
    | nil => intro a K K' hk h; exact hk _ h
    | cons k ks ih =>
      intro a K K' hk h
      unfold RJ at h ⊢
      cases ho : l.toArray[k]? with
      | none => rw [ho] at h; exact h.elim
      | some o =>
        rw [ho] at h
        dsimp only at h ⊢
        cases hx : Iu o with
        | none => rw [hx] at h; exact h.elim
        | some x => rw [hx] at h; exact ih _ hk h
  have := JW (f := ks.length + (l.toArray.size - n)) (w := { w with drawn := w.drawn + 1 }) hQ hsel hs (Array.replicate l.toArray.size false) a hho (hmono hs a key h)
  rw [← Nat.add_assoc,hlen,show n + (l.toArray.size - n) = l.toArray.size by omega] at this
  exact this
end
end Go.Proofs.YtbiekjhlijdjbaaGreat
