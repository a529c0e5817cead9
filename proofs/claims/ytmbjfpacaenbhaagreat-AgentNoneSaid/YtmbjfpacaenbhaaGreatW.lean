/- The walk in a frame that may be a round's: one name for the plain walk and the walk within a round. Conditions: none. -/
import Derived.Calls
import Derived.Orders
import Derived.OrdersHeld
import Derived.Deep.Quiet
import Derived.Deep.LoopGhost
import Derived.Scope
import Derived.CallsIn
import Derived.TacticsIn
import Derived.StillTail
namespace Go.Proofs.YtmbjfpacaenbhaaGreat
set_option linter.unusedVariables false
set_option linter.unusedSimpArgs false
open Go

/-- The fence of a frame that is a round of the loop l, or none. -/
abbrev fw (l : Nat) : Fence := Fence.wide.inRound l

/-- The walk of a code: the plain one; or in a round's frame, where nothing is said when the end may let out. -/
def _root_.Go.Code.wr (rl : Option Nat) (P : Program) (c : Code) (Q : Exit → Act → World → Prop) (a : Act) (w : World) : Prop :=
  match rl with
  | none => c.wp P Q a w
  | some l => LetsOut Q ∨ c.wpIn (fw l) 0 P Q a w

section
variable {rl : Option Nat} {P : Program} {Q Q' : Exit → Act → World → Prop} {a : Act} {w : World} {ops : Array Oper}

theorem wr_none {c : Code} : c.wr none P Q a w ↔ c.wp P Q a w := Iff.rfl
theorem wr_in {l m : Nat} {c : Code} (hq : ¬ LetsOut Q) (h : c.wr (some l) P Q a w) : c.wpIn (fw l) m P Q a w := by
  have h := h.resolve_left hq
  exact fun b k cs h1 h2 h3 => h b k cs h1 h2 (fun d hd => by simp [fw, Fence.wide, Fence.inRound] at hd)
theorem wr_of {l : Nat} {c : Code} (h : ¬ LetsOut Q → c.wpIn (fw l) 0 P Q a w) : c.wr (some l) P Q a w := by
  by_cases hq : LetsOut Q
  · exact .inl hq
  · exact .inr (h hq)
theorem lets_then {J : Act → World → Prop} : LetsOut (Exit.then J Q) ↔ LetsOut Q := Iff.rfl

theorem wr_mono {c : Code} (hq : ∀ e a w, Q e a w → Q' e a w) (h : c.wr rl P Q a w) : c.wr rl P Q' a w := by
  cases rl with
  | none => exact Code.wp_mono hq h
  | some l => exact h.imp (fun ⟨a, w, h⟩ => ⟨a, w, hq _ _ _ h⟩) (fun h => wpIn_mono h hq)
theorem wr_skip (h : Q .normal a w) : Code.skip.wr rl P Q a w := by
  cases rl with
  | none => exact wp_skip h
  | some l => exact .inr (wpIn_skip h)
theorem wr_label {t : Nat} (h : Q .normal a w) : (Code.label t).wr rl P Q a w := by
  cases rl with
  | none => exact wp_label h
  | some l => exact .inr (wpIn_label h)
theorem wr_exit {id : Nat} (h : Q (.exit id) a w) : (Code.exit id).wr rl P Q a w := by
  cases rl with
  | none => exact wp_exit h
  | some l => exact .inr (wpIn_exit h)
theorem wr_ret (h : Q .ret a w) : Code.ret.wr rl P Q a w := by
  cases rl with
  | none => exact wp_ret h
  | some l => exact .inr (wpIn_ret h)
theorem wr_seq {x y : Code} (h : x.wr rl P (Exit.then (y.wr rl P Q) Q) a w) : (Code.seq x y).wr rl P Q a w := by
  cases rl with
  | none => exact wp_seq h
  | some l =>
    refine wr_of fun hq => wpIn_seq (wpIn_mono (wr_in (m := 0) (fun h => hq (lets_then.1 h)) h) fun e a w he => ?_)
    cases e <;> first | exact he | exact Or.resolve_left he hq
theorem wr_cond_split {c : Operand} {x y : Code} {t : Bool} (hc : a.eval c = .bool t) (ht : t = true → x.wr rl P Q a w) (hf : t = false → y.wr rl P Q a w) : (Code.cond c x y).wr rl P Q a w := by
  cases rl with
  | none => exact wp_cond_split hc ht hf
  | some l => exact wr_of fun hq => wpIn_cond_split hc (fun h => wr_in hq (ht h)) (fun h => wr_in hq (hf h))
theorem wr_cond_true {c : Operand} {x y : Code} (hc : a.eval c = .bool true) (ht : x.wr rl P Q a w) : (Code.cond c x y).wr rl P Q a w := wr_cond_split hc (fun _ => ht) (fun h => nomatch h)
theorem wr_cond_false {c : Operand} {x y : Code} (hc : a.eval c = .bool false) (ht : y.wr rl P Q a w) : (Code.cond c x y).wr rl P Q a w := wr_cond_split hc (fun h => nomatch h) (fun _ => ht)
theorem wr_block {id : Nat} {c : Code} (h : c.wr rl P (Exit.inBlock id Q) a w) : (Code.block id c).wr rl P Q a w := by
  cases rl with
  | none => exact wp_block h
  | some l => exact h.imp (fun ⟨a, w, h⟩ => ⟨a, w, h⟩) wpIn_block
theorem wr_loop_ghost {c : Code} (I : Nat → Act → World → Prop) (n₀ : Nat) (h₀ : I n₀ a w)
    (round : ∀ n a w, I n a w → c.wr rl P (Exit.then (fun a' w' => ∃ n', n' < n ∧ I n' a' w') Q) a w) : (Code.loop c).wr rl P Q a w := by
  cases rl with
  | none => exact wp_loop_ghost I n₀ h₀ round
  | some l =>
    refine wr_of fun hq => wpIn_loop (fun a w => ∃ n, I n a w) (fun a w => leastOf (fun n => I n a w)) ⟨n₀, h₀⟩ fun a w hI => ?_
    have hs := leastOf_spec hI
    refine wpIn_mono (wr_in (m := 0) (fun h => hq (lets_then.1 h)) (round _ a w hs.1)) fun e a' w' he => ?_
    cases e <;> first | exact he | (obtain ⟨n', h1, h2⟩ := he; exact ⟨⟨n', h2⟩, Nat.lt_of_le_of_lt ((leastOf_spec ⟨n', h2⟩).2 n' h2) h1⟩)

/-! ### Steps of a region in a round -/
/-- No operation defers. -/
def ndf : List Oper → Bool
  | [] => true
  | o :: r => (match o.op with | .defer _ => false | _ => true) && ndf r
theorem ndf_at : ∀ {l : List Oper} {i : Nat} {o : Oper}, ndf l = true → l[i]? = some o → ∀ c, o.op ≠ .defer c
  | [], i, o, _, h => by simp at h
  | o' :: r, 0, o, h, hi => by
    simp at hi; subst hi
    intro c hc
    simp [ndf, hc] at h
  | o' :: r, i + 1, o, h, hi => by
    simp at hi
    simp only [ndf, Bool.and_eq_true] at h
    exact ndf_at h.2 hi

theorem oper_in {l : Nat} {o : Oper} {K K' : Act → World → Prop} (hq : ¬ LetsOut Q) (hd : ∀ c, o.op ≠ .defer c) (hk : ∀ a w, K a w → K' a w) (h : o.wp P a w K Q) : o.wpIn (fw l) 0 P a w K' Q := by
  refine ⟨fun _ _ => trivial, ?_⟩
  rw [Oper.semAt_eq _ _ _ hd]
  unfold Oper.wp at h
  have hdep : (fw l).depth.isSome = true → 1 ≤ 0 := fun h => by simp [fw, Fence.wide, Fence.inRound] at h
  generalize (execOp a.eval o).run P w = r at h
  unfold Oper.upon at h
  split at h
  · exact hk _ _ h
  · exact hk _ _ h
  · exact hk _ _ h
  · refine ⟨hdep, ?_⟩
    have h := callsIn_wide (n := 0).2 h
    exact (show CallsIn (fw l) 0 P _ _ _ _ from h).mono fun e w' he => by
      cases e with
      | returned v => exact hk _ _ he
      | panicked ch => exact he
      | outgrown => exact he
  · refine ⟨hdep, fun c cs _ => ?_⟩
    obtain ⟨v, w', hv, hs⟩ := h c cs
    exact ⟨v, w', hk _ _ hv, stepsIn_wide.2 hs⟩
  · exact h
  · exact h.elim

theorem ops_in {l : Nat} (hq : ¬ LetsOut Q) (hd : ndf ops.toList = true) : ∀ (L : List Nat) (a : Act) (w : World), wpOps P ops Q L a w → wpOpsIn (fw l) 0 P ops Q L a w
  | [], a, w, h => h
  | i :: r, a, w, h => by
    unfold wpOps at h
    unfold wpOpsIn
    cases ho : ops[i]? with
    | none => rw [ho] at h; exact ops_in hq hd r a w h
    | some o =>
      rw [ho] at h
      simp only [] at h ⊢
      split
      · rename_i hw
        rw [if_pos hw] at h
        rcases h with h | h
        · exact oper_in hq (ndf_at hd (by rw [Array.getElem?_toList]; exact ho)) (fun a w => ops_in hq hd r a w) h
        · exact absurd h.2 hq
      · rename_i hw
        rw [if_neg hw] at h
        exact ⟨fun _ _ => trivial, ops_in hq hd r _ w h⟩

/-- The operations of a region: no defers, or no round. -/
def okd (rl : Option Nat) (l : List Oper) : Bool := if ndf l then true else rl.isNone
theorem okd_of {l : Nat} {L : List Oper} (h : okd (some l) L = true) : ndf L = true := by
  unfold okd at h
  split at h
  · assumption
  · cases h

theorem wr_region (id : Nat) (hd : okd rl ops.toList = true) (h : wpOps P ops Q (List.range ops.size) a w) : (Code.region id ops false).wr rl P Q a w := by
  cases rl with
  | none => exact wp_region h
  | some l => exact wr_of fun hq => wpIn_region (ops_in hq (okd_of hd) _ _ _ h)
theorem wr_region_draw (id : Nat) (hd : okd rl ops.toList = true) (h : ∀ t, wpOps P ops Q (Region.schedule (P.follows .mixedOrders) ops t) a { w with drawn := w.drawn + 1 }) : (Code.region id ops true).wr rl P Q a w := by
  cases rl with
  | none => exact wp_region_draw h
  | some l => exact wr_of fun hq => wpIn_region_draw fun t => ops_in hq (okd_of hd) _ _ _ (h t)
theorem wr_region_lit {id : Nat} {l : List Oper} (hd : okd rl l = true) (h : wpList P l.toArray Q l a w) : (Code.region id l.toArray false).wr rl P Q a w := by
  refine wr_region id hd ?_
  rw [show (l.toArray).size = l.length by simp, List.range_eq_range', wpOps_eq_wpList l 0 (by simp)]
  exact h
theorem wr_region_any {id : Nat} (hd : okd rl ops.toList = true) (hm : P.follows .mixedOrders = true)
    (h : wpAny P .any ops Q ops.size (Array.replicate ops.size false) a { w with drawn := w.drawn + 1 }) : (Code.region id ops true).wr rl P Q a w := by
  refine wr_region_draw id hd fun t => ?_
  simp only [Region.schedule, hm, Bool.true_or, if_true]
  exact wpAny_sound ops.size t _ a _ h
theorem wr_region_quiet {id : Nat} {C : World → Prop} (hd : okd rl ops.toList = true) (hm : P.follows .mixedOrders = true) (hB : Region.lexB .any ops = true) (hC : C { w with drawn := w.drawn + 1 })
    (h : wpQuiet P ops C (fun a' => ∀ w', C w' → Q .normal a' w') ops.toList a) : (Code.region id ops true).wr rl P Q a w := by
  have h2 := (Bool.and_eq_true _ _ |>.mp hB)
  refine wr_region_any hd hm (wpAny_of_quiet (Q := fun a' => ∀ w', C w' → Q .normal a' w') (fun _ w' hw' h => h w' hw') _ _ _ _ hC ?_)
  simpa using wpAnyQ_lex (C := C) (md := .any) h2.1 ops.toList 0 (Array.replicate ops.size false) a (by simp) (by simpa using h2.2) h

theorem wr_scope_straight {c : Code} (h : c.wr rl P (Exit.noGoto Q) a w) : (Code.scope c).wr rl P Q a w := by
  cases rl with
  | none => exact wp_scope_straight h
  | some l =>
    refine wr_of fun hq b k cs hro hb hr => ?_
    have h := wr_in (Q := Exit.noGoto Q) (m := 0) (fun hl => hq hl) h
    obtain ⟨e, a₁, w₁, hq1, harr⟩ := h b (.inScope c :: k) cs hro hb hr
    have s1 : StepsIn (Machine.fenced P (fw l)) P (lone (b.atR a (.code (.scope c) :: k)) cs w) (lone (b.atR a (.code c :: .inScope c :: k)) cs w) :=
      .one (fenced_calm hb hr rfl) (step_lone_go (by simp [stepG, stepG.exec, Frame.atR]))
    have s2 : ∀ a w, StepsIn (Machine.fenced P (fw l)) P (lone (b.atR a (.inScope c :: k)) cs w) (lone (b.atR a k) cs w) := fun a w =>
      .one (fenced_calm hb hr rfl) (step_lone_go (by simp [stepG, stepG.exec, Frame.atR]))
    cases e with
    | normal => exact ⟨.normal, a₁, w₁, hq1, s1.trans (StepsIn.trans harr (s2 _ _))⟩
    | exit id => exact ⟨.exit id, a₁, w₁, hq1, fun k' hk => s1.trans (harr.1 k' (by simp [exitTo, hk])), fun h1 h2 => let ⟨k₁, h3, h4⟩ := harr.2 h1 (by simp [exitTo, h2]); ⟨k₁, h3, s1.trans h4⟩⟩
    | goto t => exact hq1.elim
    | ret => exact ⟨.ret, a₁, w₁, hq1, .of_steps s1 harr⟩
    | panic ch => exact ⟨.panic ch, a₁, w₁, hq1, .of_steps s1 harr⟩
    | outgrown => exact ⟨.outgrown, a₁, w₁, hq1, .of_steps s1 harr⟩
end
end Go.Proofs.YtmbjfpacaenbhaaGreat
