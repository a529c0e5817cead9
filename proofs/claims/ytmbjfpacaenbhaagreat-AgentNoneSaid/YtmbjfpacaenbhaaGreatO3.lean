/- Returns, panics, calls, loops. Conditions: none. -/
import Derived.Test.YtmbjfpacaenbhaaGreatO2
import Derived.Deep.LoopGhost
namespace Go.Proofs.YtmbjfpacaenbhaaGreat
set_option linter.unusedVariables false
set_option linter.unusedSimpArgs false
open Go Go.RowKit
variable {rl : Option Nat}

section
variable {P : Program} {B : Bs} {M M' : List (Nat × List Value)} {Z : List It} {n : Nat} {ds : List Deferred} {F F' : List (Nat × Value)} {a : Act} {w : World}
variable {ops : Array Oper} {Q : Exit → Act → World → Prop} {rest : List Oper} {o : Oper}
variable {dst : Option Tmp} {ty : TypeId} {pos : String} {aft : Array Edge} {g : Option (Nat × Bool)}
variable {fn : Func} {R : Ending → World → Prop}

def rvSem (tmps : Array Value) : ResultVar → Sem Value
  | .tmp t => pure (tmps.getD t undef)
  | .cell p t => do loadVar t (← asAddr (tmps.getD p undef))

/-- A result reads as v. -/
def Rv (P : Program) (B : Bs) (M : List (Nat × List Value)) (Z : List It) (a : Act) (r : ResultVar) (v : Value) : Prop := ∀ w, Stw B M Z w → (rvSem a.tmps r).run P w = .ok v w
theorem rv_tmp {t : Tmp} {v : Value} (hF : Fr n ds F a) (h : lk F t = some v) : Rv P B M Z a (.tmp t) v := fun w _ => by simp [rvSem, hF.getD h, -Array.getD_eq_getD_getElem?]
theorem rv_cell {p : Tmp} {t : TypeId} {v : Value} {b off sz : Nat} {agg : Bool} {cs : List Value} (i : Nat) (hF : Fr n ds F a) (h : lk F p = some (.pointer (some ⟨b, off, none⟩))) (hM : M[i]? = some (b, cs)) (T : Ty P t agg sz) (hv : rdv agg sz cs off = some v) :
    Rv P B M Z a (.cell p t) v := fun w hw => by
  simp [rvSem, hF.getD h, asAddr, run_loadVar_at T (fun j _ => hw.cell hM j) hv, -Array.getD_eq_getD_getElem?]

theorem results_eq (fn : Func) (tmps : Array Value) : results fn tmps = (do let vs ← fn.results.mapM (rvSem tmps); pure (if h : vs.size = 1 then vs[0] else .tuple vs)) := by
  rfl

theorem post0 {e : Exit} (he : e = .ret ∨ e = .normal) (hF : Fr n [] F a) (hr : fn.results = #[]) (h : R (.returned (.tuple #[])) w) : bodyPost P fn R e a w := by
  rcases he with rfl | rfl <;> exact ⟨hF.defers, _, results_none hr _ _ _, h⟩
theorem post1 {e : Exit} {r : ResultVar} {v : Value} (he : e = .ret ∨ e = .normal) (hF : Fr n [] F a) (hW : Stw B M Z w) (hr : fn.results = #[r]) (h1 : Rv P B M Z a r v) (h : R (.returned v) w) : bodyPost P fn R e a w := by
  have : (results fn a.tmps).run P w = .ok v w := by
    rw [results_eq, hr]
    have := h1 w hW
    simp [this]
  rcases he with rfl | rfl <;> exact ⟨hF.defers, v, this, h⟩
theorem post2 {e : Exit} {r s : ResultVar} {v u : Value} (he : e = .ret ∨ e = .normal) (hF : Fr n [] F a) (hW : Stw B M Z w) (hr : fn.results = #[r, s]) (h1 : Rv P B M Z a r v) (h2 : Rv P B M Z a s u) (h : R (.returned (.tuple #[v, u])) w) : bodyPost P fn R e a w := by
  have : (results fn a.tmps).run P w = .ok (.tuple #[v, u]) w := by
    rw [results_eq, hr]
    have e1 := h1 w hW
    have e2 := h2 w hW
    simp [e1, e2]
  rcases he with rfl | rfl <;> exact ⟨hF.defers, _, this, h⟩
theorem post3 {e : Exit} {r s t : ResultVar} {v u x : Value} (he : e = .ret ∨ e = .normal) (hF : Fr n [] F a) (hW : Stw B M Z w) (hr : fn.results = #[r, s, t]) (h1 : Rv P B M Z a r v) (h2 : Rv P B M Z a s u) (h3 : Rv P B M Z a t x) (h : R (.returned (.tuple #[v, u, x])) w) : bodyPost P fn R e a w := by
  have : (results fn a.tmps).run P w = .ok (.tuple #[v, u, x]) w := by
    rw [results_eq, hr]
    have e1 := h1 w hW
    have e2 := h2 w hW
    have e3 := h3 w hW
    simp [e1, e2, e3]
  rcases he with rfl | rfl <;> exact ⟨hF.defers, _, this, h⟩
theorem post_panic {ch : List PanicEntry} (hF : Fr n [] F a) (h : R (.panicked ch) w) : bodyPost P fn R (.panic ch) a w := ⟨hF.defers, h⟩

theorem l_panic {x : Operand} {t : TypeId} {v : Value} (hF : Fr n ds F a) (hx : opv F x = some (.iface t v)) (h : Q (.panic [{ v := .iface t v, recovered := false }]) a w) :
    wpList P ops Q (⟨dst, .panic x, ty, pos, aft, none⟩ :: rest) a w := by
  unfold wpList
  rw [if_pos (wanted_none rfl)]
  refine .inl ?_
  unfold Oper.wp
  have : (execOp a.eval ⟨dst, .panic x, ty, pos, aft, none⟩).run P w = .halt (.panic (.iface t v)) w := by simp [execOp, hF.eval hx, Instr.panic]
  rw [this]
  exact h

/-- A call, by a contract of whatever make. -/
theorem l_call {f : FuncId} {xs : List Operand} {vs : List Value} {ts : Array TypeId} {d : Nat} {R' : Ending → World → Prop} (hF : Fr n ds F a) (hP : Has P f) (hx : evs F xs = some vs) (hn : Nat.blt d n = true)
    (c : Calls P f vs.toArray w R') (hret : ∀ v w' a', R' (.returned v) w' → Fr n ds ((d, v) :: F) a' → wpList P ops Q rest a' w') (hpan : ∀ ch w', R' (.panicked ch) w' → Q (.panic ch) a w') (hout : ∀ w', R' .outgrown w' → LetsOut Q) :
    wpList P ops Q (⟨some d, .call ⟨.value (.func f), xs.toArray, ts⟩, ty, pos, aft, none⟩ :: rest) a w := by
  unfold wpList
  rw [if_pos (wanted_none rfl)]
  refine .inl ?_
  unfold Oper.wp
  rw [run_call hF hP hx]
  refine c.mono fun e w' h => ?_
  cases e with
  | returned v => exact hret v w' _ h (hF.put (Nat.le_of_ble_eq_true hn) v)
  | panicked ch => exact hpan ch w' h
  | outgrown => exact hout w' h
/-- A call that gives nothing back. -/
theorem l_call0 {f : FuncId} {xs : List Operand} {vs : List Value} {ts : Array TypeId} {R' : Ending → World → Prop} (hF : Fr n ds F a) (hP : Has P f) (hx : evs F xs = some vs)
    (c : Calls P f vs.toArray w R') (hret : ∀ v w', R' (.returned v) w' → wpList P ops Q rest a w') (hpan : ∀ ch w', R' (.panicked ch) w' → Q (.panic ch) a w') (hout : ∀ w', R' .outgrown w' → LetsOut Q) :
    wpList P ops Q (⟨none, .call ⟨.value (.func f), xs.toArray, ts⟩, ty, pos, aft, none⟩ :: rest) a w := by
  unfold wpList
  rw [if_pos (wanted_none rfl)]
  refine .inl ?_
  unfold Oper.wp
  rw [run_call hF hP hx]
  refine c.mono fun e w' h => ?_
  cases e with
  | returned v => exact hret v w' h
  | panicked ch => exact hpan ch w' h
  | outgrown => exact hout w' h

theorem l_callV {f : FuncId} {fo : Operand} {xs : List Operand} {ws : List Value} {ts : Array TypeId} {d : Nat} {R' : Ending → World → Prop} (hF : Fr n ds F a) (hP : Has P f) (hx : evc F fo xs = some (f, ws)) (hn : Nat.blt d n = true)
    (c : Calls P f ws.toArray w R') (hret : ∀ v w' a', R' (.returned v) w' → Fr n ds ((d, v) :: F) a' → wpList P ops Q rest a' w') (hpan : ∀ ch w', R' (.panicked ch) w' → Q (.panic ch) a w') (hout : ∀ w', R' .outgrown w' → LetsOut Q) :
    wpList P ops Q (⟨some d, .call ⟨.value fo, xs.toArray, ts⟩, ty, pos, aft, none⟩ :: rest) a w := by
  unfold wpList
  rw [if_pos (wanted_none rfl)]
  refine .inl ?_
  unfold Oper.wp
  rw [run_callV hF hP hx]
  refine c.mono fun e w' h => ?_
  cases e with
  | returned v => exact hret v w' _ h (hF.put (Nat.le_of_ble_eq_true hn) v)
  | panicked ch => exact hpan ch w' h
  | outgrown => exact hout w' h
/-- A call that gives nothing back. -/
theorem l_call0V {f : FuncId} {fo : Operand} {xs : List Operand} {ws : List Value} {ts : Array TypeId} {R' : Ending → World → Prop} (hF : Fr n ds F a) (hP : Has P f) (hx : evc F fo xs = some (f, ws))
    (c : Calls P f ws.toArray w R') (hret : ∀ v w', R' (.returned v) w' → wpList P ops Q rest a w') (hpan : ∀ ch w', R' (.panicked ch) w' → Q (.panic ch) a w') (hout : ∀ w', R' .outgrown w' → LetsOut Q) :
    wpList P ops Q (⟨none, .call ⟨.value fo, xs.toArray, ts⟩, ty, pos, aft, none⟩ :: rest) a w := by
  unfold wpList
  rw [if_pos (wanted_none rfl)]
  refine .inl ?_
  unfold Oper.wp
  rw [run_callV hF hP hx]
  refine c.mono fun e w' h => ?_
  cases e with
  | returned v => exact hret v w' h
  | panicked ch => exact hpan ch w' h
  | outgrown => exact hout w' h

/-! ### Exits, blocks, loops -/
theorem e_then {K : Act → World → Prop} {id : Nat} (h : Q (.exit id) a w) : Exit.then K Q (.exit id) a w := h
theorem e_block {id : Nat} (h : Q .normal a w) : Exit.inBlock id Q (.exit id) a w := by simp only [Exit.inBlock, if_pos]; exact h
theorem e_pass {id id' : Nat} (hne : Nat.beq id' id = false) (h : Q (.exit id') a w) : Exit.inBlock id Q (.exit id') a w := by
  have : id' ≠ id := by rintro rfl; simp at hne
  simp only [Exit.inBlock, if_neg this]; exact h
theorem r_then {K : Act → World → Prop} (h : Q .ret a w) : Exit.then K Q .ret a w := h
theorem r_block {id : Nat} (h : Q .ret a w) : Exit.inBlock id Q .ret a w := h
theorem p_then {K : Act → World → Prop} {ch : List PanicEntry} (h : Q (.panic ch) a w) : Exit.then K Q (.panic ch) a w := h
theorem p_block {id : Nat} {ch : List PanicEntry} (h : Q (.panic ch) a w) : Exit.inBlock id Q (.panic ch) a w := h
theorem b_normal {id : Nat} (h : Q .normal a w) : Exit.inBlock id Q .normal a w := h

def subF (F : List (Nat × Value)) : List (Nat × Value) → Prop
  | [] => True
  | (k, v) :: r => lk F k = some v ∧ subF F r
theorem Fr.re (h : Fr n ds F a) (hs : subF F F') : Fr n ds F' a := by
  refine h.sub fun k v => ?_
  induction F' with
  | nil => intro h; simp [lk] at h
  | cons p r ih =>
    intro hk
    obtain ⟨h1, h2⟩ := hs
    by_cases hkd : p.1 = k
    · subst hkd
      rw [lk_cons_eq] at hk
      simp only [Option.some.injEq] at hk
      subst hk
      exact h1
    · rw [lk_cons_ne hkd] at hk
      exact ih h2 hk

theorem c_loop {σ : Type} {c : Code} (I : σ → Prop) (Fs : σ → List (Nat × Value)) (Ms : σ → List (Nat × List Value)) (μ : σ → Nat) (s0 : σ) (h0 : I s0) (hF : Fr n ds (Fs s0) a) (hW : Stw B (Ms s0) Z w)
    (round : ∀ s a w, I s → Fr n ds (Fs s) a → Stw B (Ms s) Z w → c.wr rl P (Exit.then (fun a' w' => ∃ s', I s' ∧ μ s' < μ s ∧ Fr n ds (Fs s') a' ∧ Stw B (Ms s') Z w') Q) a w) : (Code.loop c).wr rl P Q a w := by
  refine wr_loop_ghost (fun m a w => ∃ s, I s ∧ μ s = m ∧ Fr n ds (Fs s) a ∧ Stw B (Ms s) Z w) (μ s0) ⟨s0, h0, rfl, hF, hW⟩ ?_
  rintro m a w ⟨s, hI, rfl, hF, hW⟩
  refine wr_mono ?_ (round s a w hI hF hW)
  intro e a' w' h
  cases e <;> first | exact h | skip
  obtain ⟨s', h1, h2, h3, h4⟩ := h
  exact ⟨μ s', h2, s', h1, rfl, h3, h4⟩
end
end Go.Proofs.YtmbjfpacaenbhaaGreat
