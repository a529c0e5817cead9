/- The walk in a frame that may be a round's: one name for the plain walk and the walk within a round. Conditions: none. -/
import Derived.Calls
import Derived.Orders
import Derived.OrdersHeld
import Derived.Deep.Quiet
import Derived.Deep.LoopGhost
import Derived.Scope
import Derived.CallsIn
import Derived.TacticsIn
import Derived.StillTail
namespace Go.Proofs.YtpckgggmgijiiaaGreatDoor
set_option linter.unusedVariables false
set_option linter.unusedSimpArgs false
open Go
theorem bxq (b : Bool) : b = true ∨ b = false := Bool.eq_false_or_eq_true b
abbrev fw (l : Nat) : Fence := Fence.wide.inRound l
def _root_.Go.Code.wr (rl : Option Nat) (P : Program) (c : Code) (Q : Exit → Act → World → Prop) (a : Act) (w : World) : Prop :=
  match rl with
  | none => c.wp P Q a w
  | some l => LetsOut Q ∨ c.wpIn (fw l) 0 P Q a w
section
variable {rl : Option Nat} {P : Program} {Q Q' : Exit → Act → World → Prop} {a : Act} {w : World} {ops : Array Oper}
theorem SO {l m : Nat} {c : Code} (hq : ¬ LetsOut Q) (h : c.wr (some l) P Q a w) : c.wpIn (fw l) m P Q a w := by
  have h := h.resolve_left hq
  exact fun b k cs h1 h2 h3 => h b k cs h1 h2 (fun d hd => by simp [fw, Fence.wide, Fence.inRound] at hd)
theorem RE {l : Nat} {c : Code} (h : ¬ LetsOut Q → c.wpIn (fw l) 0 P Q a w) : c.wr (some l) P Q a w := by
  by_cases hq : LetsOut Q
  · exact .inl hq
  · exact .inr (h hq)
theorem PP {J : Act → World → Prop} : LetsOut (Exit.then J Q) ↔ LetsOut Q := Iff.rfl
theorem Lb {c : Code} (hq : ∀ e a w, Q e a w → Q' e a w) (h : c.wr rl P Q a w) : c.wr rl P Q' a w := by
  cases rl with
  | none => exact Code.wp_mono hq h
  | some l => exact h.imp (fun ⟨a, w, h⟩ => ⟨a, w, hq _ _ _ h⟩) (fun h => wpIn_mono h hq)
theorem Bc (h : Q .normal a w) : Code.skip.wr rl P Q a w := by
  cases rl with
  | none => exact wp_skip h
  | some l => exact .inr (wpIn_skip h)
theorem Us {t : Nat} (h : Q .normal a w) : (Code.label t).wr rl P Q a w := by
  cases rl with
  | none => exact wp_label h
  | some l => exact .inr (wpIn_label h)
theorem BB {id : Nat} (h : Q (.exit id) a w) : (Code.exit id).wr rl P Q a w := by
  cases rl with
  | none => exact wp_exit h
  | some l => exact .inr (wpIn_exit h)
theorem Am (h : Q .ret a w) : Code.ret.wr rl P Q a w := by
  cases rl with
  | none => exact wp_ret h
  | some l => exact .inr (wpIn_ret h)
theorem Ug {x y : Code} (h : x.wr rl P (Exit.then (y.wr rl P Q) Q) a w) : (Code.seq x y).wr rl P Q a w := by
  cases rl with
  | none => exact wp_seq h
  | some l =>
    refine RE fun hq => wpIn_seq (wpIn_mono (SO (m := 0) (fun h => hq (PP.1 h)) h) fun e a w he => ?_)
    cases e <;> first | exact he | exact Or.resolve_left he hq
theorem Ji {c : Operand} {x y : Code} {t : Bool} (hc : a.eval c = .bool t) (ht : t = true → x.wr rl P Q a w) (hf : t = false → y.wr rl P Q a w) : (Code.cond c x y).wr rl P Q a w := by
  cases rl with
  | none => exact wp_cond_split hc ht hf
  | some l => exact RE fun hq => wpIn_cond_split hc (fun h => SO hq (ht h)) (fun h => SO hq (hf h))
theorem QB {c : Operand} {x y : Code} (hc : a.eval c = .bool true) (ht : x.wr rl P Q a w) : (Code.cond c x y).wr rl P Q a w := Ji hc (fun _ => ht) (fun h => nomatch h)
theorem Pt {c : Operand} {x y : Code} (hc : a.eval c = .bool false) (ht : y.wr rl P Q a w) : (Code.cond c x y).wr rl P Q a w := Ji hc (fun h => nomatch h) (fun _ => ht)
theorem Ep {id : Nat} {c : Code} (h : c.wr rl P (Exit.inBlock id Q) a w) : (Code.block id c).wr rl P Q a w := by
  cases rl with
  | none => exact wp_block h
  | some l => exact h.imp (fun ⟨a, w, h⟩ => ⟨a, w, h⟩) wpIn_block
theorem Ly {c : Code} (I : Nat → Act → World → Prop) (n₀ : Nat) (h₀ : I n₀ a w)
    (round : ∀ n a w, I n a w → c.wr rl P (Exit.then (fun a' w' => ∃ n', n' < n ∧ I n' a' w') Q) a w) : (Code.loop c).wr rl P Q a w := by
  cases rl with
  | none => exact wp_loop_ghost I n₀ h₀ round
  | some l =>
    refine RE fun hq => wpIn_loop (fun a w => ∃ n, I n a w) (fun a w => leastOf (fun n => I n a w)) ⟨n₀, h₀⟩ fun a w hI => ?_
    have hs := leastOf_spec hI
    refine wpIn_mono (SO (m := 0) (fun h => hq (PP.1 h)) (round _ a w hs.1)) fun e a' w' he => ?_
    cases e <;> first | exact he | (obtain ⟨n', h1, h2⟩ := he; exact ⟨⟨n', h2⟩, Nat.lt_of_le_of_lt ((leastOf_spec ⟨n', h2⟩).2 n' h2) h1⟩)
def VU : List Oper → Bool
  | [] => true
  | o :: r => (match o.op with | .defer _ => false | _ => true) && VU r
theorem Tx : ∀ {l : List Oper} {i : Nat} {o : Oper}, VU l = true → l[i]? = some o → ∀ c, o.op ≠ .defer c
  | [], i, o, _, h => by simp at h
  | o' :: r, 0, o, h, hi => by
    simp at hi; subst hi
    intro c hc
    simp [VU, hc] at h
  | o' :: r, i + 1, o, h, hi => by
    simp at hi
    simp only [VU, Bool.and_eq_true] at h
    exact Tx h.2 hi
theorem UT {l : Nat} {o : Oper} {K K' : Act → World → Prop} (hq : ¬ LetsOut Q) (hd : ∀ c, o.op ≠ .defer c) (hk : ∀ a w, K a w → K' a w) (h : o.wp P a w K Q) : o.wpIn (fw l) 0 P a w K' Q := by
  refine ⟨fun _ _ => trivial, ?_⟩
  rw [Oper.semAt_eq _ _ _ hd]
  unfold Oper.wp at h
  have hdep : (fw l).depth.isSome = true → 1 ≤ 0 := fun h => by simp [fw, Fence.wide, Fence.inRound] at h
  generalize (execOp a.eval o).run P w = r at h
  unfold Oper.upon at h
  split at h
  · exact hk _ _ h
  · exact hk _ _ h
  · exact hk _ _ h
  · refine ⟨hdep, ?_⟩
    have h := callsIn_wide (n := 0).2 h
    exact (show CallsIn (fw l) 0 P _ _ _ _ from h).mono fun e w' he => by
      cases e with
      | returned v => exact hk _ _ he
      | panicked ch => exact he
      | outgrown => exact he
  · refine ⟨hdep, fun c cs _ => ?_⟩
    obtain ⟨v, w', hv, hs⟩ := h c cs
    exact ⟨v, w', hk _ _ hv, stepsIn_wide.2 hs⟩
  · exact h
  · exact h.elim
theorem Ow {l : Nat} (hq : ¬ LetsOut Q) (hd : VU ops.toList = true) : ∀ (L : List Nat) (a : Act) (w : World), wpOps P ops Q L a w → wpOpsIn (fw l) 0 P ops Q L a w
  | [], a, w, h => h
  | i :: r, a, w, h => by
    unfold wpOps at h
    unfold wpOpsIn
    cases ho : ops[i]? with
    | none => rw [ho] at h; exact Ow hq hd r a w h
    | some o =>
      rw [ho] at h
      simp only [] at h ⊢
      split
      · rename_i hw
        rw [if_pos hw] at h
        rcases h with h | h
        · exact UT hq (Tx hd (by rw [Array.getElem?_toList]; exact ho)) (fun a w => Ow hq hd r a w) h
        · exact absurd h.2 hq
      · rename_i hw
        rw [if_neg hw] at h
        exact ⟨fun _ _ => trivial, Ow hq hd r _ w h⟩
def O4 (rl : Option Nat) (l : List Oper) : Bool := if VU l then true else rl.isNone
theorem T4 {l : Nat} {L : List Oper} (h : O4 (some l) L = true) : VU L = true := by
  unfold O4 at h
  split at h
  · assumption
  · cases h
theorem SU (id : Nat) (hd : O4 rl ops.toList = true) (h : wpOps P ops Q (List.range ops.size) a w) : (Code.region id ops false).wr rl P Q a w := by
  cases rl with
  | none => exact wp_region h
  | some l => exact RE fun hq => wpIn_region (Ow hq (T4 hd) _ _ _ h)
theorem Pa (id : Nat) (hd : O4 rl ops.toList = true) (h : ∀ t, wpOps P ops Q (Region.schedule (P.follows .mixedOrders) ops t) a { w with drawn := w.drawn + 1 }) : (Code.region id ops true).wr rl P Q a w := by
  cases rl with
  | none => exact wp_region_draw h
  | some l => exact RE fun hq => wpIn_region_draw fun t => Ow hq (T4 hd) _ _ _ (h t)
theorem Pu {id : Nat} {l : List Oper} (hd : O4 rl l = true) (h : wpList P l.toArray Q l a w) : (Code.region id l.toArray false).wr rl P Q a w := by
  refine SU id hd ?_
  rw [show (l.toArray).size = l.length by simp, List.range_eq_range', wpOps_eq_wpList l 0 (by simp)]
  exact h
theorem GU {id : Nat} (hd : O4 rl ops.toList = true) (hm : P.follows .mixedOrders = true)
    (h : wpAny P .any ops Q ops.size (Array.replicate ops.size false) a { w with drawn := w.drawn + 1 }) : (Code.region id ops true).wr rl P Q a w := by
  refine Pa id hd fun t => ?_
  simp only [Region.schedule, hm, Bool.true_or, if_true]
  exact wpAny_sound ops.size t _ a _ h
theorem NI {id : Nat} {C : World → Prop} (hd : O4 rl ops.toList = true) (hm : P.follows .mixedOrders = true) (hB : Region.lexB .any ops = true) (hC : C { w with drawn := w.drawn + 1 })
    (h : wpQuiet P ops C (fun a' => ∀ w', C w' → Q .normal a' w') ops.toList a) : (Code.region id ops true).wr rl P Q a w := by
  have h2 := (Bool.and_eq_true _ _ |>.mp hB)
  refine GU hd hm (wpAny_of_quiet (Q := fun a' => ∀ w', C w' → Q .normal a' w') (fun _ w' hw' h => h w' hw') _ _ _ _ hC ?_)
  simpa using wpAnyQ_lex (C := C) (md := .any) h2.1 ops.toList 0 (Array.replicate ops.size false) a (by simp) (by simpa using h2.2) h
end
end Go.Proofs.YtpckgggmgijiiaaGreatDoor
