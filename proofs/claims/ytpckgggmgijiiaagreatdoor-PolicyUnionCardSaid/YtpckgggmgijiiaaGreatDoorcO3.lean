/- Returns, panics, calls, loops. Conditions: none. -/
import Derived.Test.YtpckgggmgijiiaaGreatDoorcO2
import Derived.Deep.LoopGhost
namespace Go.Proofs.YtpckgggmgijiiaaGreatDoor
set_option linter.unusedVariables false
set_option linter.unusedSimpArgs false
open Go Go.RowKit
variable {rl : Option Nat}
section
variable {P : Program} {B : Bs} {M M' : List (Nat × List Value)} {Z : List It} {n : Nat} {ds : List Deferred} {F F' : List (Nat × Value)} {a : Act} {w : World}
variable {ops : Array Oper} {Q : Exit → Act → World → Prop} {rest : List Oper} {o : Oper}
variable {dst : Option Tmp} {ty : TypeId} {pos : String} {aft : Array Edge} {g : Option (Nat × Bool)}
variable {fn : Func} {R : Ending → World → Prop}
def Sp (tmps : Array Value) : ResultVar → Sem Value
  | .tmp t => pure (tmps.getD t undef)
  | .cell p t => do loadVar t (← asAddr (tmps.getD p undef))
def Rv (P : Program) (B : Bs) (M : List (Nat × List Value)) (Z : List It) (a : Act) (r : ResultVar) (v : Value) : Prop := ∀ w, Stw B M Z w → (Sp a.tmps r).run P w = .ok v w
theorem Ap {t : Tmp} {v : Value} (hF : Fr n ds F a) (h : lk F t = some v) : Rv P B M Z a (.tmp t) v := fun w _ => by simp [Sp, hF.getD h, -Array.getD_eq_getD_getElem?]
theorem Jc {p : Tmp} {t : TypeId} {v : Value} {b off sz : Nat} {agg : Bool} {cs : List Value} (i : Nat) (hF : Fr n ds F a) (h : lk F p = some (.pointer (some ⟨b, off, none⟩))) (hM : M[i]? = some (b, cs)) (T : Ty P t agg sz) (hv : QJ agg sz cs off = some v) :
    Rv P B M Z a (.cell p t) v := fun w hw => by
  simp [Sp, hF.getD h, asAddr, KZ T (fun j _ => hw.cell hM j) hv, -Array.getD_eq_getD_getElem?]
theorem OQ (fn : Func) (tmps : Array Value) : results fn tmps = (do let vs ← fn.results.mapM (Sp tmps); pure (if h : vs.size = 1 then vs[0] else .tuple vs)) := by
  rfl
theorem J5 {e : Exit} (he : e = .ret ∨ e = .normal) (hF : Fr n [] F a) (hr : fn.results = #[]) (h : R (.returned (.tuple #[])) w) : bodyPost P fn R e a w := by
  rcases he with rfl | rfl <;> exact ⟨hF.defers, _, results_none hr _ _ _, h⟩
theorem Ax {e : Exit} {r : ResultVar} {v : Value} (he : e = .ret ∨ e = .normal) (hF : Fr n [] F a) (hW : Stw B M Z w) (hr : fn.results = #[r]) (h1 : Rv P B M Z a r v) (h : R (.returned v) w) : bodyPost P fn R e a w := by
  have : (results fn a.tmps).run P w = .ok v w := by
    rw [OQ, hr]
    have := h1 w hW
    simp [this]
  rcases he with rfl | rfl <;> exact ⟨hF.defers, v, this, h⟩
theorem OG {e : Exit} {r s : ResultVar} {v u : Value} (he : e = .ret ∨ e = .normal) (hF : Fr n [] F a) (hW : Stw B M Z w) (hr : fn.results = #[r, s]) (h1 : Rv P B M Z a r v) (h2 : Rv P B M Z a s u) (h : R (.returned (.tuple #[v, u])) w) : bodyPost P fn R e a w := by
  have : (results fn a.tmps).run P w = .ok (.tuple #[v, u]) w := by
    rw [OQ, hr]
    have e1 := h1 w hW
    have e2 := h2 w hW
    simp [e1, e2]
  rcases he with rfl | rfl <;> exact ⟨hF.defers, _, this, h⟩
theorem VO {f : FuncId} {xs : List Operand} {vs : List Value} {ts : Array TypeId} {d : Nat} {R' : Ending → World → Prop} (hF : Fr n ds F a) (hP : Has P f) (hx : Uc F xs = some vs) (hn : Nat.blt d n = true)
    (c : Calls P f vs.toArray w R') (hret : ∀ v w' a', R' (.returned v) w' → Fr n ds ((d, v) :: F) a' → wpList P ops Q rest a' w') (hpan : ∀ ch w', R' (.panicked ch) w' → Q (.panic ch) a w') (hout : ∀ w', R' .outgrown w' → LetsOut Q) :
    wpList P ops Q (⟨some d, .call ⟨.value (.func f), xs.toArray, ts⟩, ty, pos, aft, none⟩ :: rest) a w := by
  unfold wpList
  rw [if_pos (Di rfl)]
  refine .inl ?_
  unfold Oper.wp
  rw [Rm hF hP hx]
  refine c.mono fun e w' h => ?_
  cases e with
  | returned v => exact hret v w' _ h (hF.put (Nat.le_of_ble_eq_true hn) v)
  | panicked ch => exact hpan ch w' h
  | outgrown => exact hout w' h
theorem BR {K : Act → World → Prop} {id : Nat} (h : Q (.exit id) a w) : Exit.then K Q (.exit id) a w := h
theorem Bx {id : Nat} (h : Q .normal a w) : Exit.inBlock id Q (.exit id) a w := by simp only [Exit.inBlock, if_pos]; exact h
theorem Nd {id id' : Nat} (hne : Nat.beq id' id = false) (h : Q (.exit id') a w) : Exit.inBlock id Q (.exit id') a w := by
  have : id' ≠ id := by rintro rfl; simp at hne
  simp only [Exit.inBlock, if_neg this]; exact h
theorem Az {K : Act → World → Prop} (h : Q .ret a w) : Exit.then K Q .ret a w := h
theorem AH {id : Nat} (h : Q .ret a w) : Exit.inBlock id Q .ret a w := h
theorem AM {id : Nat} (h : Q .normal a w) : Exit.inBlock id Q .normal a w := h
def W8 (F : List (Nat × Value)) : List (Nat × Value) → Prop
  | [] => True
  | (k, v) :: r => lk F k = some v ∧ W8 F r
theorem Fr.re (h : Fr n ds F a) (hs : W8 F F') : Fr n ds F' a := by
  refine h.sub fun k v => ?_
  induction F' with
  | nil => intro h; simp [lk] at h
  | cons p r ih =>
    intro hk
    obtain ⟨h1, h2⟩ := hs
    by_cases hkd : p.1 = k
    · subst hkd
      rw [Hg] at hk
      simp only [Option.some.injEq] at hk
      subst hk
      exact h1
    · rw [Hc hkd] at hk
      exact ih h2 hk
end
end Go.Proofs.YtpckgggmgijiiaaGreatDoor
