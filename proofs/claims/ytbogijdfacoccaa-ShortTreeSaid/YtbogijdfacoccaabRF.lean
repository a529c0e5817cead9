/- Ranges over a function: the statement and its rounds; a closure that hands out a list. Conditions: none. -/
import Derived.Test.YtbogijdfacoccaabOA
import Derived.Test.YtbogijdfacoccaabOM
import Derived.Test.YtbogijdfacoccaabOD
import Derived.RangeFuncRecord
namespace Go.Proofs.Ytbogijdfacoccaa
set_option linter.unusedVariables false
set_option linter.unusedSimpArgs false
set_option linter.unusedSectionVars false
open Go Go.RowKit
variable {rl : Option Nat}
section
variable {P : Program} {B : Bs} {M M' : BA} {Z Z' Z1 : List It} {n : Nat} {ds : List Deferred} {F F' : List (Nat × Value)} {a : Act} {w w' : World}
variable {ops : Array Oper} {Q : Exit → Act → World → Prop} {rest : List Oper} {o : Oper}
variable {dst : Option Tmp} {ty : TypeId} {pos : String} {aft : Array Edge} {g : Option (Nat × Bool)} {v : Value}
variable {fn : Func} {R : Ending → World → Prop}
def ob (b : Nat) (o : Obj) : It :=
  ⟨[b], fun w _ => w.heap[b]? = some o, fun h _ hg => by rw [hg b (by simp)]; exact h,
   fun h g hg => by rw [List.mem_singleton] at hg; subst hg; exact (Array.getElem?_eq_some_iff.1 h).1, fun _ => by simp⟩
theorem Stw.turnOb {b : Nat} {o : Obj} (h : Stw B M (ob b o :: Z) w) (o' : Obj) : Stw B M (ob b o' :: Z) (w.putObj b o') :=
  h.itemTurn (z := ob b o) (z' := ob b o') ⟨rfl, rfl, rfl, by simp, fun k hk hn => World.putObj_heap_other (by simpa [ob] using hn)⟩
    (fun A hz _ => World.putObj_heap_same (Array.getElem?_eq_some_iff.1 hz).1) (fun g hg => .inl hg)
theorem R8 {Z1 : List It} {x : It} {y : List It} : (Z1 ++ x :: y).Perm (x :: (Z1 ++ y)) := List.perm_middle
theorem Stw.obAt {b : Nat} {o : Obj} {y : List It} (h : Stw B M (Z ++ ob b o :: y) w) : w.heap[b]? = some o := h.items (ob b o) (by simp)
theorem Stw.turnAt {b : Nat} {o : Obj} {y : List It} (h : Stw B M (Z ++ ob b o :: y) w) (o' : Obj) : Stw B M (Z ++ ob b o' :: y) (w.putObj b o') := ((h.permZ R8).turnOb o').permZ R8.symm
theorem Stw.dropAt {x : It} {y : List It} (h : Stw B M (Z ++ x :: y) w) : Stw B M (Z ++ y) w :=
  h.sub (List.Sublist.refl _) (List.Sublist.append (List.Sublist.refl _) (List.sublist_cons_self _ _))
def Gb {α σ ε : Type} (step : α → σ → Option (σ ⊕ ε)) : List α → σ → Option (σ ⊕ ε)
  | [], s => some (.inl s)
  | x :: l, s => (step x s).bind fun o => match o with | .inl s' => Gb step l s' | .inr e => some (.inr e)
def R1 (P : Program) (l : Nat) (args : Array Value) (W : World) (R : Ending → World → Prop) : Prop :=
  ∃ fn tmps assign body, (Instr.yield l args).run P W = .ok (.round l fn tmps assign body) W ∧ RoundIn Fence.wide 0 P l fn tmps assign body W R
def Ra {α : Type} (P : Program) (gf : Nat) (lb : List Value) (Rd : World → Prop) (L : List α) (encs : α → List Value) : Prop :=
  ∀ (l : Nat) (K : List α → World → Prop) (Kx : World → Prop) (w : World),
    (∀ L' w w', K L' w → Below w.heap.size w w' → K L' w') → (∀ L' w, K L' w → Rd w) →
    (∀ x L' w, K (x :: L') w → R1 P l (encs x).toArray w fun e w' => (e = .returned (.bool true) ∧ K L' w') ∨ (e = .returned (.bool false) ∧ Kx w')) →
    K L w → Calls P gf ((.func (.yield l) #[] #[] :: lb).toArray) w fun e w' => (∃ v, e = .returned v) ∧ (K [] w' ∨ Kx w')
abbrev Pz (D : Nat) : Deferred := { target := .collected D, args := #[] }
abbrev KU (D : Nat) : It := ob D (.deferred (some []))
def RQ {σ ε : Type} (P : Program) (B : Bs) (Q : Exit → Act → World → Prop) (KS : σ → BA → List It → Prop) (o : σ ⊕ ε) (r d : It) (a2 : Act) : Exit → Act → World → Prop
  | .normal, _, w => ∃ s' M Z, some (Sum.inl s') = some o ∧ KS s' M Z ∧ Stw B M (Z ++ [r, d]) w
  | .ret, _, w => ∃ M Z, Stw B M (Z ++ [r, d]) w ∧ ∀ w, Stw B M (Z ++ [d]) w → Code.ret.wr none P Q a2 w
  | .exit id, _, w => ∃ M Z, Stw B M (Z ++ [r, d]) w ∧ ∀ w, Stw B M (Z ++ [d]) w → (Code.exit id).wr none P Q a2 w
  | _, _, _ => False
theorem RD {σ ε : Type} {KS : σ → BA → List It → Prop} {o : σ ⊕ ε} {r d : It} {a2 : Act} (h : ∃ s' M Z, some (Sum.inl s') = some o ∧ KS s' M Z ∧ Stw B M (Z ++ [r, d]) w) : RQ P B Q KS o r d a2 .normal a w := h
theorem Qu {σ ε : Type} {KS : σ → BA → List It → Prop} {o : σ ⊕ ε} {r d : It} {a2 : Act} (hW : Stw B M (Z ++ [r, d]) w) (h : ∀ w, Stw B M (Z ++ [d]) w → Code.ret.wr none P Q a2 w) : RQ P B Q KS o r d a2 .ret a w := ⟨M, Z, hW, h⟩
def NQ : Exit → Act → World → Prop := fun _ _ _ => False
def pz : List (Tmp × Value) → List (Nat × Value) → List (Nat × Value)
  | [], F => F
  | (p, v) :: l, F => pz l ((p, v) :: F)
theorem Fr.pz {zs : List (Tmp × Value)} (hz : zs.all (fun p => Nat.blt p.1 n) = true) : ∀ {F : List (Nat × Value)} {t : Array Value}, Fr n [] F { tmps := t, defers := [] } →
    Fr n [] (pz zs F) { tmps := zs.foldl (fun t (p, v) => t.setIfInBounds p v) t, defers := [] } := by
  induction zs with
  | nil => intro F t h; exact h
  | cons x l ih =>
    intro F t h
    simp only [List.all_cons, Bool.and_eq_true] at hz
    exact ih hz.2 (h.put (Nat.le_of_ble_eq_true hz.1) x.2)
theorem PO {α σ ε : Type} {gg : Operand} {ps : List Tmp} {assign body : Code} {step : α → σ → Option (σ ⊕ ε)} {kk : σ → Option ε} {e : ε} {L : List α} {encs : α → List Value} {gf : Nat} {lb : List Value} {Rd : World → Prop}
    (KS : σ → BA → List It → Prop) {s0 : σ} (H : IW (Gb step L s0) kk = some e) (hF : Fr n [] F a) (hW : Stw B M Z w) (h0 : KS s0 M Z)
    (hg : Cr F gg = some (.func (.func gf) #[] lb.toArray)) (hP : Has P gf) (C : Ra P gf lb Rd L encs)
    (hps : ∀ x, (encs x).length = ps.length) (hpn : ps.all (fun p => Nat.blt p n) = true)
    (hRd : ∀ s M Z, KS s M Z → ∀ w Z', Stw B M (Z ++ Z') w → Rd w)
    (round : ∀ (l D : Nat) (r1 r2 : It) x s o M Z a₁ a₂ w, step x s = some o → (∀ e', some (Sum.inr e') = some o → some e' = some e) → KS s M Z →
      Fr n [] (pz (ps.zip (encs x)) F) a₁ → Fr n [Pz D] F a₂ → Stw B M (Z ++ [r1, KU D]) w →
      assign.wr (some l) P (Exit.then (fun a₁ w => ∃ M Z, Stw B M (Z ++ [r1, KU D]) w ∧ ∀ w, Stw B M (Z ++ [r2, KU D]) w → body.wr (some l) P (RQ P B Q KS o r2 (KU D) a₂) a₁ w) NQ) a₁ w)
    (done : ∀ D s M Z a₂ w, kk s = some e → KS s M Z → Fr n [Pz D] F a₂ → Stw B M (Z ++ [KU D]) w → Q .normal a₂ w) :
    (Code.rangeFunc gg ps.toArray assign body).wr none P Q a w := by
  obtain ⟨sE, G, hK, hX⟩ := Pi H
  refine (wpIn_wide (n := 0)).1 (wpIn_rangeFunc ?_)
  intro fn hfn
  have hd0 : a.defers = [] := hF.defers
  obtain ⟨rec, hrec⟩ : ∃ rec : LoopState → Option Code → Loop, rec = fun st pe => { state := st, pending := pe, fn, tmps := a.tmps, params := ps.toArray, assign, body, defers := w.heap.size } := ⟨_, rfl⟩
  obtain ⟨D, hD⟩ : ∃ D, D = w.heap.size := ⟨_, rfl⟩
  obtain ⟨l, hl⟩ : ∃ l, l = D + 1 := ⟨_, rfl⟩
  obtain ⟨W1, hW1⟩ : ∃ W1, (w.alloc (.deferred (some []))).alloc (.loop (rec .ready none)) = W1 := ⟨_, rfl⟩
  have e1 : ∀ x p, (rec x p).pending = p := fun x p => by rw [hrec]
  have e2 : ∀ x p y q, ({ rec x p with state := y, pending := q } : Loop) = rec y q := fun x p y q => by rw [hrec]
  have e3 : ∀ x p y, ({ rec x p with state := y } : Loop) = rec y p := fun x p y => by rw [hrec]
  obtain ⟨a₂, ha₂⟩ : ∃ a₂ : Act, a₂ = { a with defers := [Pz D] ++ a.defers } := ⟨_, rfl⟩
  have hF2 : Fr n [Pz D] F a₂ := by subst ha₂; exact ⟨hF.size, by simp [hd0], hF.slots⟩
  have hW' : Stw B M (Z ++ [ob l (.loop (rec .ready none)), KU D]) W1 := by
    have h1 : Stw B M (KU D :: Z) (w.alloc (.deferred (some []))) := by
      subst hD
      exact hW.newIt (.deferred (some [])) (KU w.heap.size) rfl (fun A => by show (w.heap.push _)[w.heap.size]? = _; simp)
    have h2 : Stw B M (ob l (.loop (rec .ready none)) :: KU D :: Z) W1 := by
      have := h1.newIt (.loop (rec .ready none)) (ob l (.loop (rec .ready none))) (by subst hl hD; simp [ob]) (fun A => by
        subst hl hD
        have h := World.alloc_heap_new (w.alloc (.deferred (some []))) (.loop (rec .ready none))
        rwa [World.size_alloc] at h)
      rw [hW1] at this
      exact this
    refine h2.permZ ?_
    exact (List.perm_append_comm (l₁ := [ob l (.loop (rec .ready none)), KU D]) (l₂ := Z))
  refine ⟨l, [Pz D], W1, { target := .fn (.func gf) lb.toArray, args := #[.func (.yield l) #[] #[]] }, W1, gf, #[.func (.yield l) #[] #[]] ++ lb.toArray, W1, ?_, ?_, ?_, ?_, fun h => by simp [Fence.wide] at h, ?_⟩
  · have := run_enterLoop_outer (P := P) (w := w) fn a.tmps ps.toArray assign body
    rw [← hD] at this
    subst hl
    rw [← hW1, hrec, ← hD]
    exact this
  · simp only [resolve, hF.eval hg]
    simp [go_sem]
  · intro _ _; trivial
  · have := hP.enter (#[.func (.yield l) #[] #[]] ++ lb.toArray) W1
    simpa [invoke] using this
  · refine callsIn_wide.2 ?_
    have hcl := C l
      (fun L' w' => ∃ s M Z, Gb step L' s = some sE ∧ KS s M Z ∧ Stw B M (Z ++ [ob l (.loop (rec .ready none)), KU D]) w')
      (fun w' => ∃ c M Z, Stw B M (Z ++ [ob l (.loop (rec .done (some c))), KU D]) w' ∧ ∀ w, Stw B M (Z ++ [KU D]) w → c.wr none P Q a₂ w)
      W1 (fun L' w w' ⟨s, M, Z, h1, h2, h3⟩ hb => ⟨s, M, Z, h1, h2, h3.below hb⟩) (fun L' w ⟨s, M, Z, h1, h2, h3⟩ => hRd s M Z h2 w _ h3) ?_ ⟨s0, M, Z, G, h0, hW'⟩
    · have he : (Value.func (.yield l) #[] #[] :: lb).toArray = #[.func (.yield l) #[] #[]] ++ lb.toArray := by simp
      rw [he] at hcl
      refine hcl.mono ?_
      rintro e1 w3 ⟨⟨v, rfl⟩, ⟨s, M3, Z3, h1, h2, h3⟩ | ⟨c, M3, Z3, h3, h4⟩⟩
      · have hr := run_endLoop (P := P) h3.obAt (by rw [hrec]; simp)
        rw [e1] at hr
        refine ⟨none, _, hr, ?_⟩
        rw [show ({ a with defers := [Pz D] ++ a.defers } : Act) = a₂ from ha₂.symm]
        exact done D s M3 Z3 a₂ _ (hK s h1) h2 hF2 (h3.turnAt _).dropAt
      · have hr := run_endLoop (P := P) h3.obAt (by rw [hrec]; simp)
        rw [e1] at hr
        refine ⟨some c, _, hr, ?_⟩
        rw [show ({ a with defers := [Pz D] ++ a.defers } : Act) = a₂ from ha₂.symm]
        exact (wpIn_wide (n := 0)).2 (h4 _ (h3.turnAt _).dropAt)
    · rintro x L' w3 ⟨s, M3, Z3, h1, h2, h3⟩
      obtain ⟨o, g1, g4⟩ := Al (show (step x s).bind (fun o => match o with | .inl s' => Gb step L' s' | .inr e => some (.inr e)) = some sE from h1)
      have g2 : ∀ s', some (Sum.inl s') = some o → Gb step L' s' = some sE := fun s' hs => by cases hs; exact g4
      have g3 : ∀ e', some (Sum.inr e') = some o → some (Sum.inr e' : σ ⊕ ε) = some sE := fun e' hs => by cases hs; exact g4
      have hy := run_yield (P := P) (args := (encs x).toArray) h3.obAt (by rw [hrec]; simp [hps x])
      rw [hrec] at hy
      refine ⟨fn, _, assign, body, hy, roundIn_of_wpIn hfn ?_⟩
      have hF1 : Fr n [] (pz (ps.zip (encs x)) F) { tmps := (ps.zip (encs x)).foldl (fun t (p, v) => t.setIfInBounds p v) a.tmps, defers := [] } := by
        refine Fr.pz ?_ ⟨hF.size, rfl, hF.slots⟩
        rw [List.all_eq_true] at hpn ⊢
        exact fun p hp => hpn p.1 (List.of_mem_zip hp).1
      have hrd := round l D (ob l (.loop (rec .ready none))) (ob l (.loop (rec .busy none))) x s o M3 Z3 _ a₂ w3 g1
        (fun e' he => hX e' (g3 e' he)) h2 hF1 hF2 h3
      have hzip : (ps.toArray.zip (encs x).toArray).foldl (fun tmps (t, a) => tmps.setIfInBounds t a) a.tmps = (ps.zip (encs x)).foldl (fun t (p, v) => t.setIfInBounds p v) a.tmps := by simp
      simp only [hzip]
      refine wpIn_mono (J7 (m := 0) (fun ⟨_, _, h⟩ => h) hrd) ?_
      intro e1 a1 w1 h5
      cases e1 with
      | normal =>
        obtain ⟨M4, Z4, h6, h7⟩ := h5
        have hbr := run_beginRound (P := P) h6.obAt (by rw [hrec])
        rw [e3] at hbr
        refine ⟨_, hbr, ?_⟩
        have h8 := h6.turnAt (.loop (rec .busy none))
        have h9 := J7 (m := 0) (fun ⟨_, _, h⟩ => h) (h7 _ h8)
        refine wpIn_mono h9 ?_
        intro e2 a2 w2 hq
        cases e2 with
        | normal =>
          obtain ⟨s', M5, Z5, hs, hk, hw⟩ := hq
          have := run_endRound (P := P) none hw.obAt
          simp only [Option.isNone_none, Option.isNone_some, if_true, Bool.false_eq_true, if_false] at this
          rw [e2] at this
          refine ⟨_, _, this, .inl ⟨rfl, s', M5, Z5, g2 s' hs, hk, ?_⟩⟩
          exact hw.turnAt _
        | ret =>
          obtain ⟨M5, Z5, hw, hc⟩ := hq
          have := run_endRound (P := P) (some .ret) hw.obAt
          simp only [Option.isNone_none, Option.isNone_some, if_true, Bool.false_eq_true, if_false] at this
          rw [e2] at this
          refine ⟨_, _, this, .inr ⟨rfl, .ret, M5, Z5, ?_, hc⟩⟩
          exact hw.turnAt _
        | exit id =>
          obtain ⟨M5, Z5, hw, hc⟩ := hq
          have := run_endRound (P := P) (some (.exit id)) hw.obAt
          simp only [Option.isNone_none, Option.isNone_some, if_true, Bool.false_eq_true, if_false] at this
          rw [e2] at this
          refine ⟨_, _, this, .inr ⟨rfl, .exit id, M5, Z5, ?_, hc⟩⟩
          exact hw.turnAt _
        | goto t => exact hq.elim
        | panic ch => exact hq.elim
        | outgrown => exact hq.elim
      | exit id => exact h5.elim
      | goto t => exact h5.elim
      | ret => exact h5.elim
      | panic ch => exact h5.elim
      | outgrown => exact h5.elim
theorem QB {f : FuncId} {c : Code} {args : List Value} {N : Nat} (hf : P.funcs[f]? = some fn) (hb : fn.body = some c) (hN : fn.ntmps = N) (hle : Nat.ble args.length N = true)
    (h : ∀ a, Fr N [] (args.zipIdx.map fun (v, i) => (i, v)) a → c.wr none P (bodyPostM Fence.wide 0 P fn R) a w) : Calls P f args.toArray w R :=
  callsIn_wide.1 (callsIn_of_wp_marks (n := 0) hf hb trivial ((wpIn_wide (n := 0)).2 (h _ (Fr.enter hN hle))))
theorem Ou {e : Exit} {D : Nat} (he : e = .ret ∨ e = .normal) (hF : Fr n [Pz D] F a) (hW : Stw B M (Z ++ [KU D]) w) (h : ∀ w, Stw B M Z w → LeavesIn Fence.wide 0 P fn a.tmps R [] .returning w) : bodyPostM Fence.wide 0 P fn R e a w := by
  have key : LeavesInM Fence.wide 0 P fn a.tmps R a.defers .returning w := by
    rw [hF.defers]
    refine ⟨by simp, .inl ⟨D, _, rfl, run_takeDeferred hW.obAt, ?_⟩⟩
    have := (hW.turnAt (.deferred none)).dropAt
    rw [List.append_nil] at this
    exact h _ this
  rcases he with rfl | rfl <;> exact key
theorem Lp {r : ResultVar} {x : Value} (hW : Stw B M Z w) (hr : fn.results = #[r]) (h1 : Rv P B M Z a r x) (h : R (.returned x) w) : LeavesIn Fence.wide 0 P fn a.tmps R [] .returning w := by
  have : (results fn a.tmps).run P w = .ok x w := by
    rw [FZ, hr]
    have := h1 w hW
    simp [this]
  exact ⟨x, this, h⟩
def Po {α : Type} (l : List α) : List (Int × α) := (l.zipIdx.map fun p => ((p.2 : Int), p.1)).reverse
theorem On {α : Type} {l : List α} {k : Nat} {x : α} (h : l[k]? = some x) : Po (l.take (k + 1)) = ((k : Int), x) :: Po (l.take k) := by
  have h1 : k < l.length := (List.getElem?_eq_some_iff.1 h).1
  unfold Po
  rw [List.take_add_one, h, List.zipIdx_append]
  simp [h1, Nat.min_eq_left (Nat.le_of_lt h1)]
theorem Og {k : Nat} (h : k ≤ 1000000000) : IntKind.i64.wrap ((k : Int) - 1) = (k : Int) - 1 := by
  exact IntWalk.i64_in _ ⟨by omega, by omega⟩
def back {α : Type} (l : List α) : Option (List (Int × α)) := if l.length ≤ 1000000000 then some (Po l) else none
theorem NG {α : Type} {l : List α} {L : List (Int × α)} (h : back l = some L) : l.length ≤ 1000000000 ∧ L = Po l := by
  unfold back at h
  split at h
  · exact ⟨‹_›, (Option.some.inj h).symm⟩
  · cases h
def Ri {α : Type} (b : Nat) (v : Value) (r : Rp α) (l : List α) (w : World) : Prop := (∃ t, w.heap[b]? = some (.cells #[v] t (0, 0))) ∧ Sl w any r v l
theorem Ri.of {α : Type} {r : Rp α} {l : List α} {i b : Nat} (hW : Stw B M Z w) (hM : M[i]? = some (b, [v])) (hR : Ee B M Z r v l) : Ri b v r l w := ⟨hW.at_ _ (B5 hM), hR w hW⟩
theorem Nj {x : Operand} {t : TypeId} {agg : Bool} {sz b off : Nat} {cs : List Value} {v : Value} (h : ∃ t, B.w0.heap[b]? = some (.cells cs.toArray t (0, 0))) (hX : b ∉ B.X) (hF : Fr n ds F a) (hx : Cr F x = some (.pointer (some ⟨b, off, none⟩))) (T : Ty P t agg sz) (hv : Np agg sz cs off = some v) :
    Yx P B M Z a ⟨dst, .load t x, ty, pos, aft, g⟩ v :=
  BN fun w hw => by
    obtain ⟨t0, h0⟩ := h
    have h1 := (hw.frm.block b (Array.getElem?_eq_some_iff.1 h0).1 hX).trans h0
    have hc : ∀ j, j < cs.length → w.cell? ⟨b, j, none⟩ = cs[j]? := fun j _ => by simp [World.cell?, h1]
    simp [execOp, hF.eval hx, Instr.loadAt, Instr.sureAddr, Fd T hc hv]
theorem NP {K : Act → World → Prop} {Q' : Exit → Act → World → Prop} (hq : ∀ e a w, Q e a w → Q' e a w) (h : o.wp P a w K Q) : o.wpIn Fence.wide 0 P a w K Q' := by
  refine ⟨fun _ _ => trivial, ?_⟩
  show o.uponIn Fence.wide 0 P a K Q' ((execOp a.eval o).run P w)
  unfold Oper.wp at h
  have hdep : Fence.wide.depth.isSome = true → 1 ≤ 0 := fun h => by simp [Fence.wide] at h
  generalize (execOp a.eval o).run P w = r at h
  unfold Oper.upon at h
  split at h
  · exact h
  · exact h
  · exact h
  · refine ⟨hdep, ?_⟩
    exact (callsIn_wide (n := 0).2 h).mono fun e w' he => by
      cases e with
      | returned v => exact he
      | panicked ch => exact hq _ _ _ he
      | outgrown => obtain ⟨a, w, h⟩ := he; exact ⟨a, w, hq _ _ _ h⟩
  · refine ⟨hdep, fun c cs _ => ?_⟩
    obtain ⟨v, w', hv, hs⟩ := h c cs
    exact ⟨v, w', hv, stepsIn_wide.2 hs⟩
  · exact hq _ _ _ h
  · exact h.elim
def Pa (Q : Exit → Act → World → Prop) (X : Act → World → Prop) : Exit → Act → World → Prop
  | .normal, a, w => X a w
  | e, a, w => Q e a w
theorem Ij {X : Act → World → Prop} {l2 : List Oper} (hq : ¬ LetsOut Q) (hX : ∀ a w, X a w → wpListIn Fence.wide 0 P ops Q l2 a w) :
    ∀ (l1 : List Oper) (a : Act) (w : World), wpList P ops (Pa (fun e a w => e ≠ .normal ∧ Q e a w) X) l1 a w → wpListIn Fence.wide 0 P ops Q (l1 ++ l2) a w
  | [], a, w, h => hX a w h
  | o :: l1, a, w, h => by
    unfold wpList at h
    show wpListIn Fence.wide 0 P ops Q (o :: (l1 ++ l2)) a w
    unfold wpListIn
    split
    · rename_i hw
      rw [if_pos hw] at h
      rcases h with h | h
      · have h2 : o.wp P a w (wpListIn Fence.wide 0 P ops Q (l1 ++ l2)) (Pa (fun e a w => e ≠ .normal ∧ Q e a w) X) := Oper.wp_mono (fun a w h => Ij hq hX l1 a w h) h
        have h3 := NP (Q' := fun e a w => e = .normal ∨ Q e a w) (fun e a w he => by cases e <;> first | exact .inl rfl | exact .inr he.2) h2
        refine ⟨fun _ _ => trivial, ?_⟩
        have h3 := h3.2
        generalize (o.semAt Fence.wide.round a.eval).run P w = r at h3
        unfold Oper.uponIn at h3 ⊢
        split at h3 <;> first
          | exact h3
          | exact ⟨h3.1, CallsIn.mono h3.2 fun e w' he => by cases e <;> first | exact he | exact he.resolve_left (by simp) | (obtain ⟨a, w, h⟩ := he; exact ⟨a, w, h.resolve_left (by simp)⟩)⟩
          | exact ⟨h3.1, RoundIn.mono h3.2 fun e w' he => by cases e <;> first | exact he | exact he.resolve_left (by simp) | (obtain ⟨a, w, h⟩ := he; exact ⟨a, w, h.resolve_left (by simp)⟩)⟩
          | exact h3.resolve_left (by simp)
          | exact h3.elim
      · obtain ⟨a, w, h⟩ := h.2
        exact absurd ⟨a, w, h.2⟩ hq
    · rename_i hw
      rw [if_neg hw] at h
      exact ⟨fun _ _ => trivial, Ij hq hX l1 _ w h⟩
theorem NH {id : Nat} {l : List Oper} (k : Nat) (hq : ¬ LetsOut Q)
    (h : wpList P l.toArray (Pa (fun e a w => e ≠ .normal ∧ Q e a w) (wpListIn Fence.wide 0 P l.toArray Q (l.drop k))) (l.take k) a w) : (Code.region id l.toArray false).wr none P Q a w := by
  refine (wpIn_wide (n := 0)).1 (wpIn_region_lit ?_)
  have := Ij hq (fun _ _ h => h) (l.take k) a w h
  rwa [List.take_append_drop] at this
theorem PH {l d : Nat} {fo : Operand} {xs : List Operand} {vs : List Value} {ts : Array TypeId} {R' : Ending → World → Prop} (hF : Fr n ds F a) (hx : Cr F fo = some (.func (.yield l) #[] #[])) (hv : NT F xs = some vs) (hn : Nat.blt d n = true)
    (hY : R1 P l vs.toArray w R') (hR : ∀ e w', R' e w' → ∃ v, e = .returned v ∧ ∀ a', Fr n ds ((d, v) :: F) a' → wpListIn Fence.wide 0 P ops Q rest a' w') :
    wpListIn Fence.wide 0 P ops Q (⟨some d, .call ⟨.value fo, xs.toArray, ts⟩, ty, pos, aft, none⟩ :: rest) a w := by
  obtain ⟨fn, tmps, assign, body, hy, hr⟩ := hY
  unfold wpListIn
  rw [if_pos (BI rfl)]
  refine ⟨fun _ _ => trivial, ?_⟩
  have hrun : (execOp a.eval ⟨some d, .call ⟨.value fo, xs.toArray, ts⟩, ty, pos, aft, none⟩).run P w = .ok (.round l fn tmps assign body) w := by
    have h1 : xs.toArray.map a.eval = vs.toArray := by rw [← hF.evals hv]; simp
    have h2 : a.eval fo = .func (.yield l) #[] #[] := hF.eval hx
    simp [execOp, resolve, h1, h2, Deferred.ofValue, invoke, hy]
  show Oper.uponIn Fence.wide 0 P _ a _ Q ((execOp a.eval ⟨some d, .call ⟨.value fo, xs.toArray, ts⟩, ty, pos, aft, none⟩).run P w)
  rw [hrun]
  refine ⟨fun h => by simp [Fence.wide] at h, ?_⟩
  refine RoundIn.mono hr fun e w' he => ?_
  obtain ⟨v, rfl, hk⟩ := hR e w' he
  exact hk _ (hF.put (Nat.le_of_ble_eq_true hn) v)
theorem OD (h : Q .normal a w) : wpListIn Fence.wide 0 P ops Q [] a w := h
theorem Ph {d : Nat} {x : Operand} {t : Bool} {T : TypeId} (hF : Fr n ds F a) (hx : Cr F x = some (.bool t)) (hn : Nat.blt d n = true) (k : ∀ a', Fr n ds ((d, .bool (!t)) :: F) a' → wpListIn Fence.wide 0 P ops Q rest a' w) :
    wpListIn Fence.wide 0 P ops Q (⟨some d, .unOp .not T x, ty, pos, aft, none⟩ :: rest) a w := by
  unfold wpListIn
  rw [if_pos (BI rfl)]
  refine ⟨fun _ _ => trivial, ?_⟩
  have hrun : (execOp a.eval ⟨some d, .unOp .not T x, ty, pos, aft, none⟩).run P w = .ok (.value (.bool (!t))) w := by simp [execOp, hF.eval hx, Op.unary]
  show Oper.uponIn Fence.wide 0 P _ a _ Q ((execOp a.eval ⟨some d, .unOp .not T x, ty, pos, aft, none⟩).run P w)
  rw [hrun]
  exact k _ (hF.put (Nat.le_of_ble_eq_true hn) _)
end
end Go.Proofs.Ytbogijdfacoccaa
