/- A region that draws its order: operations that are quiet, new variables laid in whatever order, then a tail in one forced order. Conditions: none. -/
import Derived.Test.YtmbjfpacaenbhaaGreatK
namespace Go.Proofs.YtmbjfpacaenbhaaGreat
set_option linter.unusedVariables false
set_option linter.unusedSimpArgs false
open Go Go.RowKit
variable {rl : Option Nat}

section
variable {P : Program} {B : Bs} {M : List (Nat × List Value)} {Z : List It} {ops : Array Oper} {md : Region.Mode}

/-- In every world of which this is known the operation yields v; nothing that was there turns. -/
def Yq (P : Program) (B : Bs) (M : Blks) (Z : List It) (a : Act) (o : Oper) (v : Value) : Prop :=
  ∀ w, Stw B M Z w → o.quietAt P a (Below w.heap.size w) w v

/-- Which operations lay a variable, and what lies in it. -/
def zeroOf (P : Program) (o : Oper) : Option (List Value) :=
  match o.op with
  | .alloc t => ((P.info? t).bind (·.zero)).map (·.cells.toList)
  | _ => none

/-- Operation number i comes up. -/
def stA (P : Program) (B : Bs) (M : Blks) (Z : List It) (ops : Array Oper) (i : Nat) (K : Blks → Act → Prop) (A : Blks) (a : Act) : Prop :=
  match ops[i]? with
  | none => False
  | some o =>
    if Region.wanted o (yielded ops a.tmps) then
      (match zeroOf P o with
      | some cs => ∀ b, K ((b, cs) :: A) (a.put o.dst (.pointer (some ⟨b, 0, none⟩)))
      | none => ∃ v, Yq P B M Z a o v ∧ K A (a.put o.dst v))
    else K A (a.put o.dst undef)

theorem stA_mono {i : Nat} {K K' : Blks → Act → Prop} {A : Blks} {a : Act} (h : ∀ A a, K A a → K' A a) (hh : stA P B M Z ops i K A a) : stA P B M Z ops i K' A a := by
  unfold stA at *
  split
  · rename_i ho; simp only [ho] at hh
  · rename_i o ho
    simp only [ho] at hh
    split
    · rename_i hw
      rw [if_pos hw] at hh
      split
      · rename_i cs hz; simp only [hz] at hh; exact fun b => h _ _ (hh b)
      · rename_i hz; simp only [hz] at hh; obtain ⟨v, h1, h2⟩ := hh; exact ⟨v, h1, h _ _ h2⟩
    · rename_i hw; rw [if_neg hw] at hh; exact h _ _ hh

theorem stA_perm {i : Nat} {K : Blks → Act → Prop} (hK : ∀ A A' a, A.Perm A' → K A a → K A' a) {A A' : Blks} {a : Act} (hp : A.Perm A') (hh : stA P B M Z ops i K A a) : stA P B M Z ops i K A' a := by
  unfold stA at *
  split
  · rename_i ho; simp only [ho] at hh
  · rename_i o ho
    simp only [ho] at hh
    split
    · rename_i hw
      rw [if_pos hw] at hh
      split
      · rename_i cs hz; simp only [hz] at hh; exact fun b => hK _ _ _ (hp.cons _) (hh b)
      · rename_i hz; simp only [hz] at hh; obtain ⟨v, h1, h2⟩ := hh; exact ⟨v, h1, hK _ _ _ hp h2⟩
    · rename_i hw; rw [if_neg hw] at hh; exact hK _ _ _ hp hh

theorem run_alloc_op {o : Oper} {a : Act} {cs : List Value} (hz : zeroOf P o = some cs) (w : World) : ∃ t, (execOp a.eval o).run P w = .ok (.value (.pointer (some ⟨w.heap.size, 0, none⟩))) (w.alloc (.cells cs.toArray t)) := by
  obtain ⟨dst, op, ty, pos, aft, g⟩ := o
  cases op with
  | alloc t =>
    simp only [zeroOf, Option.map_eq_some_iff] at hz
    obtain ⟨z, hz, rfl⟩ := hz
    refine ⟨t, ?_⟩
    have hz' : (zeroValue t).run P w = .ok z w := by
      unfold zeroValue typeInfo
      cases hi : P.info? t with
      | none => rw [hi] at hz; simp at hz
      | some i => rw [hi] at hz; simp at hz; simp [hi, hz]
    simp [execOp, Instr.alloc, hz', newVar, newRow]
  | _ => simp [zeroOf] at hz

theorem wpOp_of_stA {i : Nat} {A : Blks} {a : Act} {w : World} {K : Blks → Act → Prop} {K' : Act → World → Prop} {Q' : Exit → Act → World → Prop} (hW : Stw B (A ++ M) Z w)
    (h : ∀ A' a' w', Stw B (A' ++ M) Z w' → K A' a' → K' a' w') (hh : stA P B M Z ops i K A a) : wpOp P ops Q' i K' a w := by
  unfold stA at hh
  unfold wpOp
  split
  · rename_i ho; simp only [ho] at hh
  · rename_i o ho
    simp only [ho] at hh
    split
    · rename_i hw
      rw [if_pos hw] at hh
      refine .inl ?_
      split at hh
      · rename_i cs hz
        obtain ⟨t, hr⟩ := run_alloc_op (P := P) (a := a) hz w
        unfold Oper.wp
        rw [hr]
        exact h ((w.heap.size, cs) :: A) _ _ (hW.alloc cs t) (hh _)
      · obtain ⟨v, hy, hk⟩ := hh
        refine Oper.wp_of_quiet (C := fun w' => Below w.heap.size w w') (K := fun a' => a' = a.put o.dst v) (Below.refl _ _) (fun a' w' hb he => by subst he; exact h A _ w' (hW.below hb) hk) ⟨v, ?_, rfl⟩
        intro w1 hb1
        have := hy w1 (hW.drop.below hb1)
        unfold Oper.quietAt Oper.quietUpon at *
        generalize (execOp a.eval o).run P w1 = r at *
        cases r with
        | ok nx w2 =>
          cases nx <;> simp only at this ⊢ <;> try exact this
          exact ⟨this.1, this.2.mono fun e w3 ⟨he, hb⟩ => ⟨he, hb1.trans (hb.mono hb1.size)⟩⟩
        | halt x w2 => exact this
    · rename_i hw; rw [if_neg hw] at hh; exact h _ _ _ hW hh

/-- Whatever order the head is taken in. -/
def wpAA (P : Program) (B : Bs) (M : Blks) (Z : List It) (md : Region.Mode) (ops : Array Oper) (n : Nat) (L : Array Bool → Blks → Act → Prop) : Nat → Array Bool → Blks → Act → Prop
  | 0, listed, A, a => L listed A a
  | f + 1, listed, A, a => Region.ready md ops listed ≠ [] ∧ ∀ i ∈ Region.ready md ops listed, i < n ∧ stA P B M Z ops i (wpAA P B M Z md ops n L f (listed.setIfInBounds i true)) A a

theorem wpAA_perm {n : Nat} {L : Array Bool → Blks → Act → Prop} (hL : ∀ l A A' a, A.Perm A' → L l A a → L l A' a) : ∀ (f : Nat) (listed : Array Bool) (A A' : Blks) (a : Act), A.Perm A' → wpAA P B M Z md ops n L f listed A a → wpAA P B M Z md ops n L f listed A' a
  | 0, _, _, _, _, hp, h => hL _ _ _ _ hp h
  | f + 1, listed, A, A', a, hp, h => ⟨h.1, fun i hi => ⟨(h.2 i hi).1, stA_perm (fun A A' a hp => wpAA_perm hL f _ A A' a hp) hp (h.2 i hi).2⟩⟩

theorem wpAny_of_AA {n g : Nat} {L : Array Bool → Blks → Act → Prop} {Q' : Exit → Act → World → Prop} (hL : ∀ listed A a w, Stw B (A ++ M) Z w → L listed A a → wpAny P md ops Q' g listed a w) :
    ∀ (f : Nat) (listed : Array Bool) (A : Blks) (a : Act) (w : World), Stw B (A ++ M) Z w → wpAA P B M Z md ops n L f listed A a → wpAny P md ops Q' (f + g) listed a w
  | 0, listed, A, a, w, hw, h => by rw [Nat.zero_add]; exact hL _ _ _ _ hw h
  | f + 1, listed, A, a, w, hw, h => by
    rw [show f + 1 + g = (f + g) + 1 by omega]
    exact ⟨fun h0 => absurd h0 h.1, fun i hi => wpOp_of_stA hw (fun A' a' w' hw' h' => wpAny_of_AA hL f _ A' a' w' hw' h') (h.2 i hi).2⟩

theorem Yq_put {oj : Oper} {a : Act} {dst : Option Tmp} {v : Value} (hs : ∀ cs b, oj.op ≠ .select cs b) (h : ∀ d, dst = some d → d ∉ oj.looksAt ops) {u : Value} : Yq P B M Z (a.put dst v) oj u ↔ Yq P B M Z a oj u := by
  unfold Yq Oper.quietAt
  rw [execOp_put oj hs a dst v h]

/-- Two that are apart: the one that is taken second may come up first. The first is quiet, or the second lays a variable. -/
theorem stA_swap {i j : Nat} {oi oj : Oper} (hi : ops[i]? = some oi) (hj : ops[j]? = some oj) (hap : oi.apart ops oj = true) (hsi : ∀ cs b, oi.op ≠ .select cs b) (hsj : ∀ cs b, oj.op ≠ .select cs b)
    (hk : zeroOf P oi = none ∨ (zeroOf P oj).isSome = true) {K : Blks → Act → Prop} (hK : ∀ A A' a, A.Perm A' → K A a → K A' a) {A : Blks} {a : Act}
    (h : stA P B M Z ops i (fun A a => stA P B M Z ops j K A a) A a) : stA P B M Z ops j (fun A a => stA P B M Z ops i K A a) A a := by
  obtain ⟨h1, h2, h3⟩ := Oper.apart_spec hap
  have wi : ∀ u, Region.wanted oi (yielded ops (a.put oj.dst u).tmps) = Region.wanted oi (yielded ops a.tmps) := fun u => wanted_put oi a oj.dst u h3
  have wj : ∀ u, Region.wanted oj (yielded ops (a.put oi.dst u).tmps) = Region.wanted oj (yielded ops a.tmps) := fun u => wanted_put oj a oi.dst u h1
  have yi : ∀ u v, Yq P B M Z (a.put oj.dst u) oi v ↔ Yq P B M Z a oi v := fun u v => Yq_put hsi h3
  have yj : ∀ u v, Yq P B M Z (a.put oi.dst u) oj v ↔ Yq P B M Z a oj v := fun u v => Yq_put hsj h1
  have pc : ∀ u v, (a.put oi.dst u).put oj.dst v = (a.put oj.dst v).put oi.dst u := fun u v => Act.put_comm a u v h2
  unfold stA at *
  simp only [hi, hj, wi, wj, yi, yj, pc] at *
  by_cases hwi : Region.wanted oi (yielded ops a.tmps) = true <;> by_cases hwj : Region.wanted oj (yielded ops a.tmps) = true
  · simp only [hwi, hwj, if_true] at h ⊢
    cases hzi : zeroOf P oi with
    | none =>
      simp only [hzi] at h ⊢
      obtain ⟨v, hv, h⟩ := h
      cases hzj : zeroOf P oj with
      | none =>
        simp only [hzj] at h ⊢
        obtain ⟨u, hu, h⟩ := h
        exact ⟨u, hu, v, hv, h⟩
      | some cj =>
        simp only [hzj] at h ⊢
        exact fun b => ⟨v, hv, h b⟩
    | some ci =>
      simp only [hzi] at h ⊢
      cases hzj : zeroOf P oj with
      | none => rw [hzi, hzj] at hk; simp at hk
      | some cj =>
        simp only [hzj] at h ⊢
        exact fun b b' => hK _ _ _ (List.Perm.swap _ _ _) (h b' b)
  · simp only [hwi, hwj, if_true, Bool.false_eq_true, if_false] at h ⊢
    cases hzi : zeroOf P oi with
    | none => simp only [hzi] at h ⊢; exact h
    | some ci => simp only [hzi] at h ⊢; exact h
  · simp only [hwi, hwj, if_true, Bool.false_eq_true, if_false] at h ⊢
    cases hzj : zeroOf P oj with
    | none => simp only [hzj] at h ⊢; exact h
    | some ci => simp only [hzj] at h ⊢; exact h
  · simp only [hwi, hwj, Bool.false_eq_true, if_false] at h ⊢
    exact h

/-! ### The head is taken in an order of one's own; some moves are taken first -/
def Region.sinkF (md : Region.Mode) (ops : Array Oper) (n : Nat) (L0 : List Nat) : Bool :=
  (List.range n).all fun i => L0.contains i || (List.range (n + 1)).any fun j => decide (i < j) && Region.waitsFor md ops j i
structure HInv (md : Region.Mode) (ops : Array Oper) (n : Nat) (L0 : List Nat) (listed : Array Bool) : Prop where
  head : HeadInv md ops n listed
  first : ∀ i ∈ L0, listed.getD i true = true
theorem HInv.set {n : Nat} {L0 : List Nat} {listed : Array Bool} (h : HInv md ops n L0 listed) {j : Nat} (hj : j ∈ Region.ready md ops listed) (hjn : j < n) : HInv md ops n L0 (listed.setIfInBounds j true) :=
  ⟨h.head.set hj hjn, fun i hi => by
    by_cases hji : j = i
    · subst hji
      have hs : j < listed.size := by
        obtain ⟨_, oj, hoj, _⟩ := mem_ready.1 hj
        rw [h.head.size]; exact (Array.getElem?_eq_some_iff.1 hoj).1
      simp [hs]
    · rw [getD_set_ne true hji]; exact h.first i hi⟩
theorem tail_waitsF {n : Nat} {L0 : List Nat} {listed : Array Bool} (hs : Region.sinkF md ops n L0 = true) (hc : Region.chainB md ops n = true) (hn : n < ops.size) (hinv : HInv md ops n L0 listed) :
    ∀ (d i : Nat), n - i = d → i < n → listed.getD i true = false → ∀ t, n ≤ t → t ∉ Region.ready md ops listed := by
  have inv := hinv.head
  intro d
  induction d using Nat.strongRecOn with
  | _ d ih =>
    intro i hd hi hun t ht hr
    obtain ⟨_, ot, hot, hall⟩ := mem_ready.1 hr
    have htlt : t < ops.size := (Array.getElem?_eq_some_iff.1 hot).1
    by_cases htn : t = n
    · subst htn
      have h1 := List.all_eq_true.1 hs i (List.mem_range.2 hi)
      rcases Bool.or_eq_true_iff.1 h1 with h1 | h1
      · have h2 := hinv.first i (by simpa using h1)
        rw [h2] at hun; cases hun
      obtain ⟨j, hj, hj2⟩ := List.any_eq_true.1 h1
      simp only [Bool.and_eq_true, decide_eq_true_eq] at hj2
      obtain ⟨oj, hoj, e, he, hb, hon⟩ := Region.waitsFor_spec hj2.2
      have hjle : j ≤ t := by have := List.mem_range.1 hj; omega
      by_cases hjt : j = t
      · subst hjt
        have : oj = ot := Option.some.inj (hoj.symm.trans hot)
        subst this
        have h2 := hall e he hb
        rw [hon, getD_both hun] at h2
        cases h2
      · cases hl : listed.getD j false with
        | true =>
          have h2 := inv.closed j oj hoj hl e he hb
          rw [hon, getD_both hun] at h2
          cases h2
        | false =>
          have hjs : j < listed.size := by rw [inv.size]; omega
          exact ih (t - j) (by omega) j rfl (by omega) (getD_in hjs hl) t (Nat.le_refl _) hr
    · have h1 := List.all_eq_true.1 hc t (List.mem_range.2 htlt)
      rcases Bool.or_eq_true_iff.1 h1 with h2 | h2
      · have := of_decide_eq_true h2; omega
      · obtain ⟨oj, hoj, e, he, hb, hon⟩ := Region.waitsFor_spec h2
        have : oj = ot := Option.some.inj (hoj.symm.trans hot)
        subst this
        have h3 := hall e he hb
        have h4 := inv.tail (t - 1) (by omega) (by omega)
        rw [hon, getD_both h4] at h3
        cases h3
variable {L0 : List Nat}

theorem wpAA_first {n i : Nat} {oi : Oper} {L : Array Bool → Blks → Act → Prop} (hLp : ∀ l A A' a, A.Perm A' → L l A a → L l A' a) (hi : ops[i]? = some oi) (hsel : ∀ (j : Nat) (o : Oper) cs b, ops[j]? = some o → o.op ≠ .select cs b)
    (hs : Region.sinkF md ops n L0 = true) (hc : Region.chainB md ops n = true) (hn : n < ops.size) (hin : i < n)
    (hdone : ∀ listed A a, L listed A a → ∀ j ∈ Region.ready md ops listed, n ≤ j) :
    ∀ (f : Nat) (listed : Array Bool) (A : Blks) (a : Act), HInv md ops n L0 listed →
      (∀ j oj, ops[j]? = some oj → j ≠ i → listed.getD j true = false → (∀ e ∈ oj.after, Region.binds md e = true → e.on ≠ i) → oi.apart ops oj = true) →
      (zeroOf P oi = none ∨ ∀ j oj, ops[j]? = some oj → j < n → listed.getD j true = false → (zeroOf P oj).isSome = true) →
      i ∈ Region.ready md ops listed →
      stA P B M Z ops i (wpAA P B M Z md ops n L f (listed.setIfInBounds i true)) A a → wpAA P B M Z md ops n L (f + 1) listed A a := by
  intro f
  induction f with
  | zero =>
    intro listed A a inv _ _ hr H
    have hun := (mem_ready.1 hr).1
    refine ⟨fun h => (by rw [h] at hr; cases hr), fun j hj => ?_⟩
    have hjn : j < n := by
      rcases Nat.lt_or_ge j n with h | h
      · exact h
      · exact absurd hj (tail_waitsF hs hc hn inv _ i rfl hin hun j h)
    refine ⟨hjn, ?_⟩
    by_cases hji : j = i
    · subst hji; exact H
    · have hrdy := ready_mono hj hji
      exfalso
      unfold stA at H
      simp only [hi] at H
      split at H
      · split at H
        · have := hdone _ _ _ (H 0) j hrdy; omega
        · obtain ⟨v, _, H⟩ := H; have := hdone _ _ _ H j hrdy; omega
      · have := hdone _ _ _ H j hrdy; omega
  | succ f ih =>
    intro listed A a inv hfree hkind hr H
    have hun := (mem_ready.1 hr).1
    refine ⟨fun h => (by rw [h] at hr; cases hr), fun j hj => ?_⟩
    have hjn : j < n := by
      rcases Nat.lt_or_ge j n with h | h
      · exact h
      · exact absurd hj (tail_waitsF hs hc hn inv _ i rfl hin hun j h)
    refine ⟨hjn, ?_⟩
    by_cases hji : j = i
    · subst hji; exact H
    · obtain ⟨hjun, oj, hoj, hall⟩ := mem_ready.1 hj
      have hnot : ∀ e ∈ oj.after, Region.binds md e = true → e.on ≠ i := fun e he hb heq => by
        have h1 := hall e he hb
        rw [heq, getD_both hun] at h1
        cases h1
      have hap := hfree j oj hoj hji hjun hnot
      have h1 := stA_mono (fun A' a' (h : wpAA P B M Z md ops n L (f + 1) (listed.setIfInBounds i true) A' a') => (h.2 j (ready_mono hj hji)).2) H
      have h2 := stA_swap hi hoj hap (fun cs b => hsel i oi cs b hi) (fun cs b => hsel j oj cs b hoj) (hkind.imp id fun h => h j oj hoj hjn hjun)
        (fun A A' a hp => wpAA_perm hLp f _ A A' a hp) h1
      have hfree' : ∀ k ok, ops[k]? = some ok → k ≠ i → (listed.setIfInBounds j true).getD k true = false →
          (∀ e ∈ ok.after, Region.binds md e = true → e.on ≠ i) → oi.apart ops ok = true := fun k ok hk hki hun hno => by
        refine hfree k ok hk hki ?_ hno
        by_cases hjk : j = k
        · subst hjk; exact hjun
        · rw [getD_set_ne true hjk] at hun; exact hun
      refine stA_mono (fun A' a' h3 => ih (listed.setIfInBounds j true) A' a' (inv.set hj hjn) hfree' ?_ (ready_mono hr (Ne.symm hji)) ?_) h2
      · refine hkind.imp id fun h k ok hk hkn hun => h k ok hk hkn ?_
        by_cases hjk : j = k
        · subst hjk; exact hjun
        · rw [getD_set_ne true hjk] at hun; exact hun
      · rw [Array.setIfInBounds_comm _ _ hji]
        exact h3

/-- The order in which the head is walked: first what is quiet, then what lays variables. -/
def Region.ordB (P : Program) (md : Region.Mode) (ops : Array Oper) (n g : Nat) : List Nat → Array Bool → Bool
  | [], listed => Region.seqB md ops g n listed
  | k :: ks, listed => decide (k < n) && (Region.ready md ops listed).contains k && Region.free md ops listed k &&
      (match ops[k]? with
       | some o => (zeroOf P o).isNone || (List.range n).all (fun j => listed.getD j true || (match ops[j]? with | some oj => (zeroOf P oj).isSome | none => true))
       | none => false) &&
      Region.ordB P md ops n g ks (listed.setIfInBounds k true)

/-- The walk in that order. -/
def wpH (P : Program) (B : Bs) (M : Blks) (Z : List It) (ops : Array Oper) (Q : Blks → Act → Prop) : List Nat → Blks → Act → Prop
  | [], A, a => Q A a
  | k :: ks, A, a => stA P B M Z ops k (wpH P B M Z ops Q ks) A a

theorem wpAA_ord {n g : Nat} {Lq : Blks → Act → Prop} (hLp : ∀ A A' a, A.Perm A' → Lq A a → Lq A' a) (hsel : Region.noSelect ops = true) (hs : Region.sinkF md ops n L0 = true) (hc : Region.chainB md ops n = true) (hn : n < ops.size) :
    ∀ (ks : List Nat) (listed : Array Bool) (A : Blks) (a : Act), HInv md ops n L0 listed → Region.ordB P md ops n g ks listed = true → wpH P B M Z ops Lq ks A a →
    wpAA P B M Z md ops n (fun listed' A' a' => Region.seqB md ops g n listed' = true ∧ Lq A' a') ks.length listed A a
  | [], listed, A, a, _, hB, h => ⟨by simpa [Region.ordB] using hB, h⟩
  | k :: ks, listed, A, a, inv, hB, h => by
    simp only [Region.ordB, Bool.and_eq_true, decide_eq_true_eq] at hB
    obtain ⟨⟨⟨⟨hkn, hr⟩, hf⟩, hz⟩, hB'⟩ := hB
    have hr' : k ∈ Region.ready md ops listed := by simpa using hr
    cases h0 : ops[k]? with
    | none => rw [h0] at hz; cases hz
    | some o =>
      rw [h0] at hz
      refine wpAA_first (fun l A A' a hp h => ⟨h.1, hLp _ _ _ hp h.2⟩) h0 (Region.noSelect_spec hsel) hs hc hn hkn (fun listed' A' a' hL => seqB_ready hL.1) ks.length listed A a inv (Region.free_spec h0 hf) ?_ hr' ?_
      · rcases Bool.or_eq_true_iff.1 hz with hz | hz
        · exact .inl (by simpa using hz)
        · refine .inr fun j oj hj hjn hun => ?_
          have := List.all_eq_true.1 hz j (List.mem_range.2 hjn)
          rw [hj, hun] at this
          simpa using this
      · exact stA_mono (fun A' a' h' => wpAA_ord hLp hsel hs hc hn ks _ A' a' (inv.set hr' hkn) hB' h') h

/-! ### Moves that are taken first -/
/-- What a panic leaves does not hang on a slot. -/
def SlotFree (Q : Exit → Act → World → Prop) : Prop := ∀ ch a d v w, Q (.panic ch) (Act.put a d v) w → Q (.panic ch) a w
/-- .. not on the slots of these operations. -/
def SlotFreeOn (ops : Array Oper) (Q : Exit → Act → World → Prop) : Prop := ∀ (i : Nat) (o : Oper), ops[i]? = some o → ∀ ch a v w, Q (.panic ch) (Act.put a o.dst v) w → Q (.panic ch) a w
theorem SlotFree.on {ops : Array Oper} {Q : Exit → Act → World → Prop} (h : SlotFree Q) : SlotFreeOn ops Q := fun _ o _ ch a v w => h ch a o.dst v w
def movesB (o : Oper) : Option Operand := match o.op, o.guard, o.dst with | .move x, none, some _ => some x | _, _, _ => none

theorem wpAny_move {Q' : Exit → Act → World → Prop} (hQ : SlotFreeOn ops Q') {i : Nat} {oi : Oper} {x : Operand} (hi : ops[i]? = some oi) (hm : movesB oi = some x) (hsel : ∀ (j : Nat) (o : Oper) cs b, ops[j]? = some o → o.op ≠ .select cs b) :
    ∀ (f : Nat) (listed : Array Bool) (a : Act) (w : World),
      (∀ j oj, ops[j]? = some oj → j ≠ i → listed.getD j true = false → (∀ e ∈ oj.after, Region.binds md e = true → e.on ≠ i) → oi.apart ops oj = true) →
      i ∈ Region.ready md ops listed → wpAny P md ops Q' f (listed.setIfInBounds i true) (a.put oi.dst (a.eval x)) w → wpAny P md ops Q' (f + 1) listed a w := by
  obtain ⟨dst, op, ty, pos, aft, g⟩ := oi
  have hshape : op = .move x ∧ g = none ∧ ∃ d, dst = some d := by
    cases op <;> cases g <;> cases dst <;> simp_all [movesB]
  obtain ⟨rfl, rfl, d, rfl⟩ := hshape
  have here : ∀ (K : Act → World → Prop) (a : Act) (w : World), K (a.put (some d) (a.eval x)) w → wpOp P ops Q' i K a w := fun K a w h => by
    unfold wpOp
    simp only [hi]
    rw [if_pos (by simp [Region.wanted])]
    refine .inl ?_
    unfold Oper.wp
    simp only [execOp, Sem.run_pure, Oper.upon]
    exact h
  intro f
  induction f with
  | zero =>
    intro listed a w _ hr H
    refine ⟨fun h => (by rw [h] at hr; cases hr), fun j hj => ?_⟩
    by_cases hji : j = i
    · subst hji; exact here _ _ _ H
    · have := ready_mono hj hji
      rw [H.1] at this; cases this
  | succ f ih =>
    intro listed a w hfree hr H
    refine ⟨fun h => (by rw [h] at hr; cases hr), fun j hj => ?_⟩
    by_cases hji : j = i
    · subst hji; exact here _ _ _ H
    · have h1 := H.2 j (ready_mono hj hji)
      obtain ⟨hjun, oj, hoj, hall⟩ := mem_ready.1 hj
      have hun := (mem_ready.1 hr).1
      have hnot : ∀ e ∈ oj.after, Region.binds md e = true → e.on ≠ i := fun e he hb heq => by
        have h1 := hall e he hb
        rw [heq, getD_both hun] at h1
        cases h1
      have hap := hfree j oj hoj hji hjun hnot
      obtain ⟨q1, q2, q3⟩ := Oper.apart_spec hap
      have hx : ∀ dj, oj.dst = some dj → x ≠ .tmp dj := fun dj hd he => by
        refine q3 dj hd ?_
        subst he
        simp [Oper.looksAt, Op.operands]
      have hev : ∀ (a : Act) (u : Value), (a.put oj.dst u).eval x = a.eval x := fun a u => Act.eval_put fun d hd hxd => hx d hd hxd
      have hK : ∀ a' w', wpAny P md ops Q' f ((listed.setIfInBounds i true).setIfInBounds j true) (a'.put (some d) (a'.eval x)) w' → wpAny P md ops Q' (f + 1) (listed.setIfInBounds j true) a' w' := fun a' w' h => by
        refine ih (listed.setIfInBounds j true) a' w' (fun k ok hk hki hku hno => hfree k ok hk hki ?_ hno) (ready_mono hr (Ne.symm hji)) ?_
        · by_cases hjk : j = k
          · subst hjk; exact hjun
          · rw [getD_set_ne true hjk] at hku; exact hku
        · rw [Array.setIfInBounds_comm _ _ hji]; exact h
      have hput : ∀ u, wpAny P md ops Q' f ((listed.setIfInBounds i true).setIfInBounds j true) ((a.put (some d) (a.eval x)).put oj.dst u) = wpAny P md ops Q' f ((listed.setIfInBounds i true).setIfInBounds j true) ((a.put oj.dst u).put (some d) ((a.put oj.dst u).eval x)) := fun u => by
        rw [hev a u, Act.put_comm a (a.eval x) u q2]
      unfold wpOp at h1 ⊢
      simp only [hoj] at h1 ⊢
      rw [wanted_put oj a (some d) (a.eval x) q1] at h1
      have hex := execOp_put (ops := ops) oj (fun cs b => hsel j oj cs b hoj) a (some d) (a.eval x) q1
      split
      · rename_i hw
        rw [if_pos hw] at h1
        rcases h1 with h1 | ⟨h1, h2⟩
        · refine .inl ?_
          unfold Oper.wp at h1 ⊢
          rw [hex] at h1
          generalize (execOp a.eval oj).run P w = res at h1 ⊢
          cases res with
          | ok nx w2 =>
            cases nx with
            | value u => simp only [Oper.upon] at h1 ⊢; rw [hput] at h1; exact hK _ _ h1
            | skip => simp only [Oper.upon] at h1 ⊢; rw [hput] at h1; exact hK _ _ h1
            | defer dd =>
              simp only [Oper.upon] at h1 ⊢
              have e1 : ({ a.put (some d) (a.eval x) with defers := dd :: (a.put (some d) (a.eval x)).defers } : Act).put oj.dst undef = (({ a with defers := dd :: a.defers } : Act).put oj.dst undef).put (some d) ((({ a with defers := dd :: a.defers } : Act).put oj.dst undef).eval x) := by
                rw [hev { a with defers := dd :: a.defers } undef]
                have : ({ a with defers := dd :: a.defers } : Act).eval x = a.eval x := by cases x <;> rfl
                rw [this, Act.put_comm { a with defers := dd :: a.defers } undef (a.eval x) (fun d' hd' he => q2 d rfl (by rw [hd']; exact he.symm))]
                rfl
              rw [e1] at h1
              exact hK _ _ h1
            | enter ff args =>
              simp only [Oper.upon] at h1 ⊢
              refine h1.mono fun e w3 h => ?_
              cases e with
              | returned u => dsimp only at h ⊢; rw [hput] at h; exact hK _ _ h
              | panicked ch => exact hQ _ _ hi _ _ _ _ h
              | outgrown => exact h
            | row row args =>
              simp only [Oper.upon] at h1 ⊢
              exact h1.mono fun u w3 h => by rw [hput] at h; exact hK _ _ h
            | _ => simp only [Oper.upon] at h1
          | halt st w2 =>
            cases st with
            | panic v => exact hQ _ _ hi _ _ _ _ h1
            | _ => exact h1.elim
        · refine .inr ⟨?_, h2⟩
          unfold Oper.asks at h1 ⊢
          rw [hex] at h1
          exact h1
      · rename_i hw
        rw [if_neg hw] at h1
        rw [hput] at h1; exact hK _ _ h1

def setAll : List Nat → Array Bool → Array Bool
  | [], l => l
  | k :: ks, l => setAll ks (l.setIfInBounds k true)
def Region.hoistB (md : Region.Mode) (ops : Array Oper) : List Nat → Array Bool → Bool
  | [], _ => true
  | k :: ks, listed => (Region.ready md ops listed).contains k && Region.free md ops listed k && (match ops[k]? with | some o => (movesB o).isSome | none => false) && Region.hoistB md ops ks (listed.setIfInBounds k true)
/-- The moves, one by one. -/
def wpM (ops : Array Oper) (K : Act → Prop) : List Nat → Act → Prop
  | [], a => K a
  | k :: ks, a => match ops[k]? with
    | some o => match movesB o with | some x => wpM ops K ks (a.put o.dst (a.eval x)) | none => False
    | none => False
theorem wpAny_moves {Q' : Exit → Act → World → Prop} (hQ : SlotFreeOn ops Q') (hsel : Region.noSelect ops = true) {f : Nat} {w : World} : ∀ (hs : List Nat) (listed : Array Bool) (a : Act), Region.hoistB md ops hs listed = true →
    wpM ops (fun a => wpAny P md ops Q' f (setAll hs listed) a w) hs a → wpAny P md ops Q' (hs.length + f) listed a w
  | [], listed, a, _, h => by rw [List.length_nil, Nat.zero_add]; exact h
  | k :: ks, listed, a, hB, h => by
    simp only [Region.hoistB, Bool.and_eq_true] at hB
    obtain ⟨⟨⟨hr, hf⟩, hm⟩, hB'⟩ := hB
    unfold wpM at h
    cases ho : ops[k]? with
    | none => rw [ho] at hm; cases hm
    | some o =>
      rw [ho] at hm h
      dsimp only at hm h
      cases hx : movesB o with
      | none => rw [hx] at hm; cases hm
      | some x =>
        rw [hx] at h
        dsimp only at h
        rw [List.length_cons, show ks.length + 1 + f = (ks.length + f) + 1 by omega]
        exact wpAny_move hQ ho hx (Region.noSelect_spec hsel) _ listed a w (Region.free_spec ho hf) (by simpa using hr) (wpAny_moves hQ hsel ks _ _ hB' h)

def Region.ordTailB (P : Program) (md : Region.Mode) (ops : Array Oper) (n : Nat) (hs ks : List Nat) : Bool :=
  Region.noSelect ops && decide (n < ops.size) && Region.sinkF md ops n hs && Region.chainB md ops n && decide (hs.length + ks.length = n) && hs.all (fun i => decide (i < n)) && Region.hoistB md ops hs (Array.replicate ops.size false) && Region.ordB P md ops n (ops.size - n) ks (setAll hs (Array.replicate ops.size false))

theorem HInv.all {n : Nat} : ∀ (hs : List Nat) {L : List Nat} {listed : Array Bool}, HInv md ops n L listed → (∀ i ∈ hs, i < n) → Region.hoistB md ops hs listed = true → HInv md ops n (L ++ hs) (setAll hs listed)
  | [], L, listed, h, _, _ => by rw [List.append_nil]; exact h
  | k :: ks, L, listed, h, hn, hB => by
    simp only [Region.hoistB, Bool.and_eq_true] at hB
    obtain ⟨⟨⟨hr, hf⟩, hm⟩, hB'⟩ := hB
    have hr' : k ∈ Region.ready md ops listed := by simpa using hr
    have h1 := h.set hr' (hn k (by simp))
    have h2 : HInv md ops n (L ++ [k]) (listed.setIfInBounds k true) := ⟨h1.head, fun i hi => by
      rcases List.mem_append.1 hi with hi | hi
      · exact h1.first i hi
      · have : i = k := by simpa using hi
        subst this
        have hs : i < listed.size := by
          obtain ⟨_, oj, hoj, _⟩ := mem_ready.1 hr'
          rw [h.head.size]; exact (Array.getElem?_eq_some_iff.1 hoj).1
        simp [hs]⟩
    have h3 := HInv.all ks h2 (fun i hi => hn i (by simp [hi])) hB'
    rw [List.append_assoc] at h3
    exact h3

theorem wp_region_ord_tail {id : Nat} {Q : Exit → Act → World → Prop} {a : Act} {w : World} {l : List Oper} (n : Nat) (hs ks : List Nat) (hQ : SlotFreeOn l.toArray Q) (hW : Stw B M Z w) (hm : P.follows .mixedOrders = true) (hB : Region.ordTailB P .any l.toArray n hs ks = true)
    (h : wpM l.toArray (fun a => wpH P B M Z l.toArray (fun A a' => ∀ w', Stw B (A ++ M) Z w' → wpList P l.toArray Q (l.drop n) a' w') ks [] a) hs a) (hd : okd rl l = true := by rfl) : (Code.region id l.toArray true).wr rl P Q a w := by
  simp only [Region.ordTailB, Bool.and_eq_true, decide_eq_true_eq] at hB
  obtain ⟨⟨⟨⟨⟨⟨⟨hsel, hn⟩, hsk⟩, hc⟩, hlen⟩, hlt⟩, hho⟩, hord⟩ := hB
  have hn' : n < l.length := by simpa using hn
  have hdl : (l.drop n).length = l.toArray.size - n := by simp
  have inv0 : HInv .any l.toArray n [] (Array.replicate l.toArray.size false) :=
    ⟨⟨by simp, fun j oj _ hl => (by rw [getD_replicate_false] at hl; cases hl), fun t _ ht => getD_in (by simpa using ht) (getD_replicate_false _ _)⟩, by simp⟩
  have inv1 := HInv.all hs inv0 (fun i hi => of_decide_eq_true (List.all_eq_true.1 hlt i hi)) hho
  rw [List.nil_append] at inv1
  refine wr_region_any hd hm ?_
  have key : ∀ a, wpH P B M Z l.toArray (fun A a' => ∀ w', Stw B (A ++ M) Z w' → wpList P l.toArray Q (l.drop n) a' w') ks [] a → wpAny P .any l.toArray Q (ks.length + (l.toArray.size - n)) (setAll hs (Array.replicate l.toArray.size false)) a { w with drawn := w.drawn + 1 } := by
    intro a h
    have H := wpAA_ord (md := .any) (g := l.toArray.size - n) (fun A A' a hp (h : ∀ w', Stw B (A ++ M) Z w' → wpList P l.toArray Q (l.drop n) a w') w' hw' => h w' (hw'.perm (hp.symm.append_right M))) hsel hsk hc hn ks _ [] a inv1 hord h
    exact wpAny_of_AA (Q' := Q) (g := l.toArray.size - n) (fun listed A a' w' hw' hL => by
      have := wpAny_of_seq (md := .any) (Q' := Q) (l.drop n) n listed a' w' (fun j => by simp [List.getElem?_drop]) (by rw [hdl]; exact hL.1) (hL.2 w' hw')
      rwa [hdl] at this) _ _ [] _ _ (show Stw B ([] ++ M) Z _ from hW.drew) H
  have hmono : ∀ (hs : List Nat) (a : Act) {K K' : Act → Prop}, (∀ a, K a → K' a) → wpM l.toArray K hs a → wpM l.toArray K' hs a := by
    intro hs
    induction hs with
    | nil => intro a K K' hk h; exact hk _ h
    | cons k ks ih =>
      intro a K K' hk h
      unfold wpM at h ⊢
      cases ho : l.toArray[k]? with
      | none => rw [ho] at h; exact h.elim
      | some o =>
        rw [ho] at h
        dsimp only at h ⊢
        cases hx : movesB o with
        | none => rw [hx] at h; exact h.elim
        | some x => rw [hx] at h; exact ih _ hk h
  have := wpAny_moves (f := ks.length + (l.toArray.size - n)) (w := { w with drawn := w.drawn + 1 }) hQ hsel hs (Array.replicate l.toArray.size false) a hho (hmono hs a key h)
  rw [← Nat.add_assoc, hlen, show n + (l.toArray.size - n) = l.toArray.size by omega] at this
  exact this
end
end Go.Proofs.YtmbjfpacaenbhaaGreat
