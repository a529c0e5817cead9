/- The operations on memory, calls and returns. Conditions: none. -/
import Derived.Test.YtmbjfpacaenbhaaGreatO
namespace Go.Proofs.YtmbjfpacaenbhaaGreat
set_option linter.unusedVariables false
set_option linter.unusedSimpArgs false
open Go Go.RowKit
variable {rl : Option Nat}

section
variable {P : Program} {B : Bs} {M M' : List (Nat × List Value)} {Z : List It} {n : Nat} {ds : List Deferred} {F : List (Nat × Value)} {a : Act} {w : World}
variable {ops : Array Oper} {Q : Exit → Act → World → Prop} {rest : List Oper} {o : Oper}
variable {dst : Option Tmp} {ty : TypeId} {pos : String} {aft : Array Edge} {g : Option (Nat × Bool)}

/-- What is asked of a type: struct or array? how many cells? -/
structure Ty (P : Program) (t : TypeId) (agg : Bool) (sz : Nat) : Prop where
  desc : (P.underlying t).map (fun d => match d with | .struct _ => true | .array _ _ => true | _ => false) = some agg
  size : (P.info? t).map (·.size) = some sz

theorem Ty.isAgg {t : TypeId} {agg : Bool} {sz : Nat} (h : Ty P t agg sz) (w : World) : (isAgg t).run P w = .ok agg w := by
  have hd := h.desc
  unfold Go.isAgg Go.underlying
  cases hu : P.underlying t with
  | none => rw [hu] at hd; simp at hd
  | some d =>
    rw [hu] at hd
    cases d <;> simp_all
theorem Ty.sizeOf {t : TypeId} {agg : Bool} {sz : Nat} (h : Ty P t agg sz) (w : World) : (Go.sizeOf t).run P w = .ok sz w := by
  have hd := h.size
  unfold Go.sizeOf Go.typeInfo
  cases hu : P.info? t with
  | none => rw [hu] at hd; simp at hd
  | some d => rw [hu] at hd; simp_all

def rdv (agg : Bool) (sz : Nat) (cs : List Value) (off : Nat) : Option Value :=
  if agg then (if off + sz ≤ cs.length then some (.agg ((cs.drop off).take sz).toArray) else none) else cs[off]?

theorem addr_add (b o j : Nat) : (⟨b, o, none⟩ : Addr).add j = ⟨b, o + j, none⟩ := by unfold Addr.add; split <;> simp_all

theorem run_loadVar_at {t : TypeId} {agg : Bool} {sz b off : Nat} {cs : List Value} {v : Value} (T : Ty P t agg sz) (hc : ∀ j, j < cs.length → w.cell? ⟨b, j, none⟩ = cs[j]?) (hv : rdv agg sz cs off = some v) :
    (loadVar t ⟨b, off, none⟩).run P w = .ok v w := by
  unfold loadVar
  cases agg with
  | false =>
    simp only [rdv, Bool.false_eq_true, if_false] at hv
    have hlt : off < cs.length := (List.getElem?_eq_some_iff.1 hv).1
    have hcell := hc off hlt
    rw [hv] at hcell
    simp [T.isAgg, hcell]
  | true =>
    simp only [rdv, if_true] at hv
    by_cases hle : off + sz ≤ cs.length
    · rw [if_pos hle] at hv
      simp only [Option.some.injEq] at hv
      subst hv
      have := run_loadCells_list (P := P) (w := w) ⟨b, off, none⟩ ((cs.drop off).take sz) (fun j u hu => by
        rw [addr_add]
        have hj : j < sz := by
          have := (List.getElem?_eq_some_iff.1 hu).1
          simp at this; omega
        rw [hc _ (by omega)]
        rw [List.getElem?_take_of_lt hj, List.getElem?_drop] at hu
        exact hu)
      have hl : ((cs.drop off).take sz).length = sz := by simp; omega
      rw [hl] at this
      simp [T.isAgg, T.sizeOf, this]
    · rw [if_neg hle] at hv; cases hv

theorem y_load {x : Operand} {t : TypeId} {agg : Bool} {sz b off : Nat} {cs : List Value} {v : Value} (i : Nat) (hF : Fr n ds F a) (hx : opv F x = some (.pointer (some ⟨b, off, none⟩))) (hM : M[i]? = some (b, cs)) (T : Ty P t agg sz) (hv : rdv agg sz cs off = some v) :
    Yx P B M Z a ⟨dst, .load t x, ty, pos, aft, g⟩ v :=
  yl_of fun w hw => by
    simp [execOp, hF.eval hx, Instr.loadAt, Instr.sureAddr, run_loadVar_at T (fun j _ => hw.cell hM j) hv]

theorem y_fieldAddr {x : Operand} {t t' : TypeId} {i b off fo : Nat} {fs : Array Field} {f : Field} {agg : Bool} {sz : Nat} (hu : P.underlying t = some (.struct fs)) (hf : fs[i]? = some f) (hfo : f.offset = fo) (hft : f.type = t') (T : Ty P t' agg (sz + 1))
    (hF : Fr n ds F a) (hx : opv F x = some (.pointer (some ⟨b, off, none⟩))) (off' : Nat) (ho : off + fo = off') :
    Yx P B M Z a ⟨dst, .fieldAddr t x i, ty, pos, aft, g⟩ (.pointer (some ⟨b, off', none⟩)) :=
  yl_of fun w hw => by
    subst hft hfo ho
    simp [execOp, hF.eval hx, Instr.fieldAt, Go.underlying, hu, hf, Instr.sureAddr, fieldPlace, T.sizeOf, addr_add]

/-! ### A call of a function that leaves what was there -/
theorem run_callFunc_body {f : FuncId} {fn : Func} (hf : P.funcs[f]? = some fn) (hb : fn.body.isSome = true) (hname : (fn.name == "runtime.NumGoroutine") = false) (args : Array Value) (w : World) : (callFunc f args).run P w = .ok (.enter f args) w := by
  have : fn.body.isNone = false := by cases h : fn.body <;> simp_all
  simp only [callFunc, Sem.run_bind, run_program, Result.andThen_ok, hf, hname, this]
  simp

/-- What the walk asks of a callee: that it is a Go function with a body. -/
structure Has (P : Program) (f : FuncId) : Prop where
  enter : ∀ args w, (callFunc f args).run P w = .ok (.enter f args) w

def evs (F : List (Nat × Value)) : List Operand → Option (List Value)
  | [] => some []
  | x :: r => match opv F x, evs F r with | some v, some vs => some (v :: vs) | _, _ => none

theorem Fr.evals (hF : Fr n ds F a) : ∀ {xs : List Operand} {vs : List Value}, evs F xs = some vs → xs.map a.eval = vs
  | [], vs, h => by simp [evs] at h; subst h; rfl
  | x :: r, vs, h => by
    simp only [evs] at h
    split at h
    · rename_i v us hv hus
      simp only [Option.some.injEq] at h
      subst h
      simp [hF.eval hv, hF.evals hus]
    · cases h

theorem run_call (hF : Fr n ds F a) {f : FuncId} {xs : List Operand} {vs : List Value} {ts : Array TypeId} (hP : Has P f) (hx : evs F xs = some vs) (w : World) :
    (execOp a.eval ⟨dst, .call ⟨.value (.func f), xs.toArray, ts⟩, ty, pos, aft, g⟩).run P w = .ok (.enter f vs.toArray) w := by
  have h1 : (xs.toArray.map a.eval) = vs.toArray := by rw [← hF.evals hx]; simp
  have h2 : a.eval (.func f) = .func (.func f) #[] #[] := rfl
  simp [execOp, resolve, h1, h2, Deferred.ofValue, invoke, hP.enter]

theorem y_call {f : FuncId} {xs : List Operand} {vs : List Value} {ts : Array TypeId} {v : Value} (hF : Fr n ds F a) (hP : Has P f) (hx : evs F xs = some vs)
    (c : ∀ w, Stw B M Z w → Calls P f vs.toArray w fun e w' => e = .returned v ∧ Below w.heap.size w w') :
    Yq P B M Z a ⟨dst, .call ⟨.value (.func f), xs.toArray, ts⟩, ty, pos, aft, g⟩ v := fun w hw => by
  unfold Oper.quietAt
  rw [run_call hF hP hx]
  exact ⟨rfl, c w hw⟩

/-- A callee that is a value: the function, and all its arguments. -/
def evc (F : List (Nat × Value)) (fo : Operand) (xs : List Operand) : Option (FuncId × List Value) :=
  match opv F fo, evs F xs with
  | some (.func (.func f) first caps), some vs => some (f, first.toList ++ vs ++ caps.toList)
  | _, _ => none
theorem run_callV (hF : Fr n ds F a) {f : FuncId} {fo : Operand} {xs : List Operand} {ws : List Value} {ts : Array TypeId} (hP : Has P f) (hx : evc F fo xs = some (f, ws)) (w : World) :
    (execOp a.eval ⟨dst, .call ⟨.value fo, xs.toArray, ts⟩, ty, pos, aft, g⟩).run P w = .ok (.enter f ws.toArray) w := by
  unfold evc at hx
  split at hx
  · rename_i f' first caps vs hf hv
    simp only [Option.some.injEq, Prod.mk.injEq] at hx
    obtain ⟨rfl, rfl⟩ := hx
    have h1 : (xs.toArray.map a.eval) = vs.toArray := by rw [← hF.evals hv]; simp
    have h2 : a.eval fo = .func (.func f') first caps := hF.eval hf
    have h3 : (first ++ vs.toArray ++ caps) = (first.toList ++ vs ++ caps.toList).toArray := by simp
    simp [execOp, resolve, h1, h2, Deferred.ofValue, invoke, hP.enter]
  · cases hx
theorem y_callV {f : FuncId} {fo : Operand} {xs : List Operand} {ws : List Value} {ts : Array TypeId} {v : Value} (hF : Fr n ds F a) (hP : Has P f) (hx : evc F fo xs = some (f, ws))
    (c : ∀ w, Stw B M Z w → Calls P f ws.toArray w fun e w' => e = .returned v ∧ Below w.heap.size w w') :
    Yq P B M Z a ⟨dst, .call ⟨.value fo, xs.toArray, ts⟩, ty, pos, aft, g⟩ v := fun w hw => by
  unfold Oper.quietAt
  rw [run_callV hF hP hx]
  exact ⟨rfl, c w hw⟩

/-! ### Operations that turn the world -/
theorem ls_wp (hF : Fr n ds F a) {d : Nat} {op : Op} {v : Value} {w' : World} (hn : Nat.blt d n = true) (hr : (execOp a.eval ⟨some d, op, ty, pos, aft, none⟩).run P w = .ok (.value v) w')
    (k : ∀ a', Fr n ds ((d, v) :: F) a' → wpList P ops Q rest a' w') : wpList P ops Q (⟨some d, op, ty, pos, aft, none⟩ :: rest) a w := by
  unfold wpList
  rw [if_pos (wanted_none rfl)]
  refine .inl ?_
  unfold Oper.wp
  rw [hr]
  exact k _ (hF.put (Nat.le_of_ble_eq_true hn) v)

theorem l_alloc {d : Nat} {t : TypeId} {z : Value} {cs : List Value} (hF : Fr n ds F a) (hW : Stw B M Z w) (hn : Nat.blt d n = true) (hz : (P.info? t).bind (·.zero) = some z) (hc : z.cells.toList = cs)
    (k : ∀ b a' w', Fr n ds ((d, .pointer (some ⟨b, 0, none⟩)) :: F) a' → Stw B ((b, cs) :: M) Z w' → wpList P ops Q rest a' w') : wpList P ops Q (⟨some d, .alloc t, ty, pos, aft, none⟩ :: rest) a w := by
  have hz' : (zeroValue t).run P w = .ok z w := by
    unfold zeroValue typeInfo
    cases hi : P.info? t with
    | none => rw [hi] at hz; simp at hz
    | some i => rw [hi] at hz; simp at hz; simp [hi, hz]
  refine ls_wp hF hn (v := .pointer (some ⟨w.heap.size, 0, none⟩)) (w' := w.alloc (.cells cs.toArray t)) ?_ (fun a' h => k _ a' _ h (hW.alloc cs t))
  subst hc
  simp [execOp, Instr.alloc, hz', newVar, newRow]
theorem l_box {d : Nat} {t : TypeId} {x : Operand} {v : Value} {cs : List Value} (hF : Fr n ds F a) (hW : Stw B M Z w) (hn : Nat.blt d n = true) (hx : opv F x = some v) (hc : v.cells.toList = cs)
    (k : ∀ b a' w', Fr n ds ((d, .pointer (some ⟨b, 0, none⟩)) :: F) a' → Stw B ((b, cs) :: M) Z w' → wpList P ops Q rest a' w') : wpList P ops Q (⟨some d, .box t x, ty, pos, aft, none⟩ :: rest) a w := by
  refine ls_wp hF hn (v := .pointer (some ⟨w.heap.size, 0, none⟩)) (w' := w.alloc (.cells cs.toArray t)) ?_ (fun a' h => k _ a' _ h (hW.alloc cs t))
  subst hc
  simp [execOp, Instr.box, hF.eval hx, newVar, newRow]

def putL : List Value → Nat → List Value → List Value
  | cs, _, [] => cs
  | cs, o, v :: r => putL (cs.set o v) (o + 1) r

theorem run_storeCells_own {b i : Nat} : ∀ (vs : List Value) (o j : Nat) (cs : List Value) (M : List (Nat × List Value)) (w : World), Stw B M Z w → M[i]? = some (b, cs) → o + j + vs.length ≤ cs.length → (∀ v ∈ vs, v.oneCell' = true) →
    ∃ w', (storeCells ⟨b, o, none⟩ vs j).run P w = .ok () w' ∧ Stw B (M.set i (b, putL cs (o + j) vs)) Z w'
  | [], o, j, cs, M, w, hW, hM, _, _ => ⟨w, rfl, by
      have : M.set i (b, putL cs (o + j) []) = M := by
        refine List.ext_getElem? fun m => ?_
        by_cases him : i = m
        · subst him
          rw [List.getElem?_set_self (List.getElem?_eq_some_iff.1 hM).1]
          exact hM.symm
        · rw [List.getElem?_set_ne him]
      rw [this]; exact hW⟩
  | v :: r, o, j, cs, M, w, hW, hM, hl, h1 => by
    have hcell : w.cell? ⟨b, o + j, none⟩ = cs[o + j]? := hW.cell hM _
    have hlt : o + j < cs.length := by simp at hl; omega
    have hfr : w.frozen? ⟨b, o + j, none⟩ = false := hW.frozen hM _
    have hst : (store ((⟨b, o, none⟩ : Addr).add j) v).run P w = .ok () (w.setCell ⟨b, o + j, none⟩ v) := by
      rw [addr_add, run_store P w _ v .plain (h1 v (by simp)), hcell, List.getElem?_eq_getElem hlt]
      simp [hfr]
    have hi : i < M.length := (List.getElem?_eq_some_iff.1 hM).1
    obtain ⟨w', hr, hW'⟩ := run_storeCells_own r o (j + 1) (cs.set (o + j) v) (M.set i (b, cs.set (o + j) v)) _ (hW.setCell hM (o + j) v) (by rw [List.getElem?_set_self hi])
      (by simp at hl ⊢; omega) (fun v hv => h1 v (by simp [hv]))
    refine ⟨w', ?_, ?_⟩
    · simp only [storeCells, Sem.run_bind, hst, Result.andThen_ok]
      exact hr
    · rw [List.set_set] at hW'
      exact hW'

theorem l_store {t : TypeId} {x y : Operand} {agg : Bool} {sz b off : Nat} {cs vs : List Value} {v : Value} (i : Nat) (hF : Fr n ds F a) (hW : Stw B M Z w) (hx : opv F x = some (.pointer (some ⟨b, off, none⟩))) (hy : opv F y = some v) (hM : M[i]? = some (b, cs)) (T : Ty P t agg sz)
    (hv : v.cells.toList = vs) (hsz : vs.length = sz) (hl : Nat.ble (off + vs.length) cs.length = true) (h1 : vs.all (·.oneCell') = true) (hM' : M.set i (b, putL cs off vs) = M')
    (k : ∀ w', Stw B M' Z w' → wpList P ops Q rest a w') : wpList P ops Q (⟨none, .store t x y, ty, pos, aft, none⟩ :: rest) a w := by
  obtain ⟨w', hr, hW'⟩ := run_storeCells_own (P := P) vs off 0 cs M w hW hM (Nat.le_of_ble_eq_true hl) (fun v hv => List.all_eq_true.1 h1 v hv)
  unfold wpList
  rw [if_pos (wanted_none rfl)]
  refine .inl ?_
  unfold Oper.wp
  have hs : v.cells.size = sz := by rw [← hsz, ← hv]; simp
  have hrun : (execOp a.eval ⟨none, .store t x y, ty, pos, aft, none⟩).run P w = .ok .skip w' := by
    subst hv
    have hr' : (storeCells ⟨b, off, none⟩ v.cells.toList).run P w = .ok () w' := hr
    simp [execOp, hF.eval hx, hF.eval hy, Instr.storeAt, Instr.sureAddr, storeVar, T.sizeOf, hs, hr']
  rw [hrun]
  subst hM'
  exact k w' hW'

/-! ### The beginning and the end -/
theorem enter {f : FuncId} {fn : Func} {c : Code} {args : List Value} {R : Ending → World → Prop} {N : Nat} (hf : P.funcs[f]? = some fn) (hb : fn.body = some c) (hN : fn.ntmps = N) (hle : Nat.ble args.length N = true)
    (h : ∀ a, Fr N [] (args.zipIdx.map fun (v, i) => (i, v)) a → c.wr none P (bodyPost P fn R) a w) : Calls P f args.toArray w R := by
  refine calls_of_wp hf hb (h _ ⟨?_, rfl, fun k v hk => ?_⟩)
  · have := Nat.le_of_ble_eq_true hle
    simp [hN]; omega
  · have key : ∀ (l : List Value) (s : Nat), lk ((l.zipIdx s).map fun (v, i) => (i, v)) k = some v → s ≤ k ∧ l[k - s]? = some v := by
      intro l
      induction l with
      | nil => intro s h; simp [lk] at h
      | cons x l ih =>
        intro s h
        simp only [List.zipIdx_cons, List.map_cons] at h
        by_cases hk : s = k
        · subst hk
          rw [lk_cons_eq] at h
          simp at h
          subst h
          simp
        · rw [lk_cons_ne hk] at h
          obtain ⟨h1, h2⟩ := ih (s + 1) h
          refine ⟨by omega, ?_⟩
          rw [show k - s = (k - (s + 1)) + 1 by omega]
          simpa using h2
    obtain ⟨_, h2⟩ := key args 0 hk
    simp only [Nat.sub_zero] at h2
    rw [Array.getElem?_append_left (by simpa using (List.getElem?_eq_some_iff.1 h2).1)]
    simpa using h2

/-- The results: each a slot, or a cell that is read. -/
def resOf (F : List (Nat × Value)) (M : List (Nat × List Value)) : List (ResultVar × Nat × Bool × Nat) → Option (List Value)
  | [] => some []
  | (.tmp t, _) :: r => match lk F t, resOf F M r with | some v, some vs => some (v :: vs) | _, _ => none
  | (.cell p _, i, agg, sz) :: r => match lk F p, M[i]?, resOf F M r with
    | some (.pointer (some ⟨_, off, none⟩)), some (_, cs), some vs => match rdv agg sz cs off with | some v => some (v :: vs) | none => none
    | _, _, _ => none
end
end Go.Proofs.YtmbjfpacaenbhaaGreat
