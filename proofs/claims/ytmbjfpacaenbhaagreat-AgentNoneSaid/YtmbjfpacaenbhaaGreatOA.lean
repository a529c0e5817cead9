/- Arguments that are arrays; rows that know the shape of memory. Conditions: none. -/
import Derived.Test.YtmbjfpacaenbhaaGreatOT
import Derived.Handed
import Derived.Shelf.Vars
import Derived.Lib.LaidTab
namespace Go.Proofs.YtmbjfpacaenbhaaGreat
set_option linter.unusedVariables false
set_option linter.unusedSimpArgs false
open Go Go.RowKit
section
variable {P : Program} {t e : TypeId}
def OpensAs {α : Type} (P : Program) (e : TypeId) (i n : Nat) (r : Rp α) (ok : α → Prop) : Prop :=
  ∀ (H : Type) (enc : TypeId × Value → H) (W : World) (base : Nat) (sp : Nat → Bool) (m : Nat) (cs : List Value), (∀ j, i ≤ j → j < n → ∃ y, DataW.trod enc P W base sp true m e ((cs.drop (j * P.cellsOf e)).take (P.cellsOf e)) = some y) →
    cs.length = n * P.cellsOf e → ∃ a, r.rep W any (cs.drop (i * P.cellsOf e)) a ∧ ok a
theorem OpensAs.one {α : Type} {r : Rp α} {ok : α → Prop} {i : Nat} (hc : P.cellsOf e = r.sz) (h : Opens P e r ok) : OpensAs P e i (i + 1) r ok := by
  intro H enc W base sp m cs hx hl
  obtain ⟨y, hy⟩ := hx i (Nat.le_refl _) (Nat.lt_succ_self _)
  rw [List.take_of_length_le (by rw [List.length_drop, hl, Nat.succ_mul]; omega)] at hy
  exact h H enc W base sp m _ y hy
theorem OpensAs.cons {α β : Type} {r : Rp α} {s : Rp β} {ok : α → Prop} {ok' : β → Prop} {i n : Nat} (hc : P.cellsOf e = r.sz) (hi : i < n) (h : Opens P e r ok) (h' : OpensAs P e (i + 1) n s ok') : OpensAs P e i n (r.pair s) (okP ok ok') := by
  intro H enc W base sp m cs hx hl
  obtain ⟨y, hy⟩ := hx i (Nat.le_refl _) hi
  obtain ⟨a, ha, hoa⟩ := h H enc W base sp m _ y hy
  obtain ⟨b, hb, hob⟩ := h' H enc W base sp m cs (fun j h1 h2 => hx j (by omega) h2) hl
  refine ⟨(a, b), ⟨_, _, ?_, ha, hb⟩, hoa, hob⟩
  rw [Nat.succ_mul, ← List.drop_drop, List.take_append_drop]
theorem Opens.array {α : Type} {r : Rp α} {ok : α → Prop} {n : Nat} (hu : P.underlying t = some (.array n e)) (hc : P.cellsOf t = n * P.cellsOf e) (h : OpensAs P e 0 n r ok) : Opens P t r ok := by
  intro H enc W base sp fuel cs x hx
  obtain ⟨xs, m, rfl, _, hlen, hn, hel⟩ := DataW.trod_array hu hx
  obtain ⟨a, h1, h2⟩ := h H enc W base sp m cs (fun j _ hj => ⟨xs[j]'(by omega), by rw [hel j hj, List.getElem?_eq_getElem (by omega)]⟩) (by rw [hlen, hc])
  exact ⟨a, by simpa using h1, h2⟩
theorem wide_arr {n : Nat} {W : World} {r : Reach} {b : Nat} {v : Value} (hu : P.underlying t = some (.array n e)) (hval : Value.okWide P W r b t v) : ∃ cs, v = .agg cs := by
  unfold Value.okWide at hval
  rw [hu] at hval
  obtain ⟨cs, h, _⟩ := hval
  exact ⟨cs, h⟩
end
section
variable {H : Type} {enc : TypeId × Value → H}
/-- A row whose walk asks of the shape of memory, too. -/
theorem returns_shaped {a : Assume} {C : Checked} {os : Os} {f : FuncId} {fn : Func} {s : ChangeSpec} {conds : List PathCond} {apart fresh handsOn again : Bool} {X : World → Array Value → Prop}
    (hX : ∀ (w w' : World) (args : Array Value), w.heap = w'.heap → X w args → X w' args)
    (own : ownKnob C.prog.godebug = none) (started : os.Started) (noInit : C.prog.inits.idxOf? f = none) (hfn : C.prog.funcs[f]? = some fn)
    (witness : ∃ (w : World) (tape : Tape) (i : Input), w.os = os ∧ (w.forCall tape i).Shaped C.prog ∧ i.vars = [] ∧ Input.okWide C.prog (w.forCall tape i) .any w.heap.size f i ∧
      ((s.pre enc C.prog fn conds apart (w.forCall tape i).memory i.args ∧ X (w.forCall tape i).memory i.args) ∧ sizedMet enc C.prog fn (OpenSpec.ofChange s) apart (w.forCall tape i).memory i.args) ∧ a.holds C.prog (lone (Frame.enter C.prog f i.args .normal) [] (w.forCall tape i)))
    (contract : ∀ (W : World) (base : Nat) (args : Array Value) (ds gs : List (DataW H)) (before : List MemPlace),
      (∀ (j : Nat) t v, fn.params[j]? = some t → args[j]? = some v → Value.okWide C.prog W .any base t v) →
      DataW.Whole enc C.prog fn.params.toList s.vars apart W args.toList ds gs before →
      conds.all (PathCond.test C.prog ⟨fn.params.toList, ds, s.plain.varTypes C.prog, gs⟩) = true →
      (DataW.weightsEach C.prog (fn.params.toList ++ s.plain.varTypes C.prog) (ds ++ gs)).all (· ≤ reachBytes) = true → X W args → W.ShapedOpen C.prog →
      Calls C.prog f args W fun e W' => ∃ v, e = .returned v ∧ s.post enc C.prog fn apart fresh handsOn again W args v W') :
    ReturnsInHanded a C os f .any (fun w args => (s.pre enc C.prog fn conds apart w args ∧ X w args) ∧ sizedMet enc C.prog fn (OpenSpec.ofChange s) apart w args) (s.post enc C.prog fn apart fresh handsOn again) := by
  refine returnsInHanded_of_calls own started noInit witness fun w tape i _ hsh _ hok hpre _ => ?_
  obtain ⟨_, _, _, fn', hfn', _, _, _, _, hval⟩ := hok
  obtain rfl : fn' = fn := Option.some.inj (hfn'.symm.trans hfn)
  obtain ⟨⟨⟨ds, gs, before, hw, hc⟩, hx⟩, hz⟩ := hpre
  have hw' := DataW.Whole.of_heap (w' := w.forCall tape i) (by rfl) hw
  refine (contract (w.forCall tape i) w.heap.size i.args ds gs before hval hw' hc (hz.weights hw) (hX _ _ _ (by rfl) hx) hsh).mono fun e W' ⟨v, he, hp⟩ => ?_
  subst he
  exact ChangeSpec.post_blind hp
end
section
variable {P : Program} {W : World} {t e : TypeId} {g : Nat}
theorem laid_tabIs {name : String} {k : IntKind} {zs : List Int} {rest : List (String × DataW Unit)} {n : Nat} (h : ∃ ps, DataW.LaidVars P W ((name, Lib.tabData k zs) :: rest) ps)
    (hg : P.globalNamed name = some g) (hty : (P.globals[g]?).map (·.type) = some t) (ht : P.underlying t = some (.array n e)) (he : P.underlying e = some (.int k)) (hce : P.cellsOf e = 1) (hct : P.cellsOf t = n) : Lib.TabIs P W name k zs := by
  obtain ⟨ps, g', t', cs, fuel, p, q, hg', ht', hvar, hd, _, _⟩ := h
  obtain rfl := Option.some.inj (hg.symm.trans hg')
  obtain rfl := Option.some.inj (hty.symm.trans ht')
  unfold Lib.TabIs
  rw [hvar, ← Lib.cells_of_tab ht he hce hct hd]
theorem laid_iface {name nm : String} {d : DataW Unit} {rest : List (String × DataW Unit)} {ms : Array (String × TypeId)} (h : ∃ ps, DataW.LaidVars P W ((name, .iface nm d) :: rest) ps)
    (hg : P.globalNamed name = some g) (hty : (P.globals[g]?).map (·.type) = some t) (ht : P.underlying t = some (.interface ms)) : ∃ tp p, W.var? P name = some #[.iface tp p] := by
  obtain ⟨ps, g', t', cs, fuel, p, q, hg', ht', hvar, hd, _, _⟩ := h
  obtain rfl := Option.some.inj (hg.symm.trans hg')
  obtain rfl := Option.some.inj (hty.symm.trans ht')
  rw [hvar]
  obtain ⟨l⟩ := cs
  cases fuel with
  | zero => simp [DataW.trod] at hd
  | succ fuel =>
    unfold DataW.trod at hd
    rw [ht] at hd
    rcases l with _ | ⟨v, _ | ⟨v2, l⟩⟩
    · simp at hd
    · cases v with
      | iface tp p => exact ⟨tp, p, rfl⟩
      | _ => simp at hd
    · simp at hd
end
end Go.Proofs.YtmbjfpacaenbhaaGreat
