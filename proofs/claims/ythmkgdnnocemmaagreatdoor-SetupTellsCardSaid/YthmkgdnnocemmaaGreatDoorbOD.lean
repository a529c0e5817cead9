/- Deferred closures that recover; calls that panic. Conditions: none. -/
import Derived.Test.YthmkgdnnocemmaaGreatDoorbOR
import Derived.Defers
import Derived.Recover
namespace Go.Proofs.YthmkgdnnocemmaaGreatDoor
set_option linter.unusedVariables false
set_option linter.unusedSimpArgs false
open Go Go.RowKit
variable {rl : Option Nat}
section
variable {P : Program} {B : Bs} {M M' Ml : Cg} {Z Z' Z1 Zl : List It} {n : Nat} {ds : List Deferred} {F F' : List (Nat × Value)} {a : Act} {w w' : World}
variable {ops : Array Oper} {Q : Exit → Act → World → Prop} {rest : List Oper} {o : Oper}
variable {dst : Option Tmp} {ty : TypeId} {pos : String} {aft : Array Edge} {g : Option (Nat × Bool)} {v : Value}
variable {fn : Func} {R : Ending → World → Prop}
theorem Q5 {args : List Value} {k : Nat} {v : Value} (hk : lk (args.zipIdx.map fun (v, i) => (i, v)) k = some v) : args[k]? = some v := by
  have key : ∀ (l : List Value) (s : Nat), lk ((l.zipIdx s).map fun (v, i) => (i, v)) k = some v → s ≤ k ∧ l[k - s]? = some v := by
    intro l
    induction l with
    | nil => intro s h; simp [lk] at h
    | cons x l ih =>
      intro s h
      simp only [List.zipIdx_cons, List.map_cons] at h
      by_cases hk : s = k
      · subst hk
        rw [D9] at h
        simp at h
        subst h
        simp
      · rw [Es hk] at h
        obtain ⟨h1, h2⟩ := ih (s + 1) h
        refine ⟨by omega, ?_⟩
        rw [show k - s = (k - (s + 1)) + 1 by omega]
        simpa using h2
  have := (key args 0 hk).2
  simpa using this
theorem Fr.enter {args : List Value} {N : Nat} (hN : fn.ntmps = N) (hle : Nat.ble args.length N = true) : Fr N [] (args.zipIdx.map fun (v, i) => (i, v)) { tmps := args.toArray ++ Array.replicate (fn.ntmps - args.toArray.size) undef, defers := [] } := by
  refine ⟨?_, rfl, fun k v hk => ?_⟩
  · have := Nat.le_of_ble_eq_true hle
    simp [hN]; omega
  · have h2 := Q5 hk
    rw [Array.getElem?_append_left (by simpa using (List.getElem?_eq_some_iff.1 h2).1)]
    simpa using h2
theorem Q0 {f : FuncId} {c : Code} {args : List Value} {N : Nat} (hf : P.funcs[f]? = some fn) (hb : fn.body = some c) (hN : fn.ntmps = N) (hle : Nat.ble args.length N = true)
    (h : ∀ a, Fr N [] (args.zipIdx.map fun (v, i) => (i, v)) a → c.wr none P (bodyPostD P fn R) a w) : Calls P f args.toArray w R :=
  calls_of_wp_defers hf hb (h _ (Fr.enter hN hle))
theorem M3 {k : Fn} {xs ys : List Operand} {us vs : List Value} (hF : Fr n ds F a) (hx : Oj F xs = some us) (hy : Oj F ys = some vs) : Yx P B M Z a ⟨dst, .makeFunc k xs.toArray ys.toArray, ty, pos, aft, g⟩ (.func k us.toArray vs.toArray) :=
  BX fun w _ => by
    have h1 : xs.toArray.map a.eval = us.toArray := by rw [← hF.evals hx]; simp
    have h2 : ys.toArray.map a.eval = vs.toArray := by rw [← hF.evals hy]; simp
    simp [execOp, h1, h2, Instr.makeFunc]
theorem Qe {x : Operand} {k : Nat} {vs : List Value} {ts : Array TypeId} (hF : Fr n ds F a) (hx : CX F x = some (.func (.func k) #[] vs.toArray))
    (h : ∀ a', Fr n ({ target := .fn (.func k) vs.toArray, args := #[] } :: ds) F a' → wpList P ops Q rest a' w) : wpList P ops Q (⟨none, .defer ⟨.value x, #[], ts⟩, ty, pos, aft, none⟩ :: rest) a w := by
  unfold wpList
  rw [if_pos (BK rfl)]
  refine .inl ?_
  unfold Oper.wp
  have hr : (execOp a.eval ⟨none, .defer ⟨.value x, #[], ts⟩, ty, pos, aft, none⟩).run P w = .ok (.defer { target := .fn (.func k) vs.toArray, args := #[] }) w := by
    simp [execOp, resolve, hF.eval hx, Deferred.ofValue]
  rw [hr]
  refine h _ ⟨hF.size, ?_, hF.slots⟩
  simp [Act.put, hF.defers]
theorem NP {k : Nat} {vs : List Value} {tmps : Array Value} {u : FrameMode} {R' : Ending → FrameMode → World → Prop} (hP : Has P k) (hu : u ≠ .run)
    (c : CallsD P k vs.toArray u w R') (h : ∀ e u' w', R' e u' w' → match e with
      | .returned _ => Leaves P fn tmps R [] (settle u') w'
      | .panicked chain => Leaves P fn tmps R [] (raised u' chain) w'
      | .outgrown => R .outgrown w') : Leaves P fn tmps R [{ target := .fn (.func k) vs.toArray, args := #[] }] u w := by
  refine ⟨hu, .func k, vs.toArray, k, vs.toArray, rfl, ?_, c.mono fun e u' w' hR => ?_⟩
  · simp [invoke, hP.enter]
  · have := h e u' w' hR
    cases e <;> exact this
theorem Dv {β : Type} {k : Nat} {vs : List Value} {tmps : Array Value} {u u' : FrameMode} {MM : β → Cg} {ZZ : β → List It} (hW : Stw B (Ml ++ M) (Zl ++ Z) w) (hP : Has P k) (hu : u ≠ .run)
    (c : Stw ⟨Fz B (AY (Ml ++ M) (Zl ++ Z)), AY Ml Zl, w⟩ Ml Zl w → CallsD P k vs.toArray u w fun e v w' => v = u' ∧ ∃ x : β, e = .returned (.tuple #[]) ∧ Stw ⟨Fz B (AY (Ml ++ M) (Zl ++ Z)), AY Ml Zl, w⟩ (MM x) (ZZ x) w')
    (h : ∀ x w', Stw B (MM x ++ M) (ZZ x ++ Z) w' → Leaves P fn tmps R [] (settle u') w') : Leaves P fn tmps R [{ target := .fn (.func k) vs.toArray, args := #[] }] u w := by
  refine NP hP hu (c hW.lend) ?_
  rintro e v w' ⟨rfl, x, rfl, hW2⟩
  exact h x w' (hW.join hW2)
theorem JK {d1 d2 : Nat} {id : Nat} {ty1 ty2 : TypeId} {ts : Array TypeId} {p1 p2 : String} {a1 a2 : Array Edge} {QS : Exit → Act → List Frame → World → Prop} {A : Act} {cs cs' : List Frame} {x : Value} {y : Code} {F0 : List (Nat × Value)} (hF : Fr n [] F0 A) (h1 : Nat.blt d1 n = true)
    (hrec : recoverD cs = some (x, cs') ∨ (recoverD cs = none ∧ x = .nilIface ∧ cs' = cs)) (h : y.wpS P QS ((A.put (some d1) x).put (some d2) x) cs' w) :
    ((Code.region id #[⟨some d1, .call ⟨.builtin .recover, #[], ts⟩, ty1, p1, a1, none⟩, ⟨some d2, .assign (.tmp d1), ty2, p2, a2, none⟩] false).seq y).wpS P QS A cs w := by
  apply wpS_seq
  apply wpS_region
  have r1 : (execOp A.eval ⟨some d1, .call ⟨.builtin .recover, #[], ts⟩, ty1, p1, a1, none⟩).run P w = .ok .recover w := by simp [execOp, DS, invoke, builtin]
  have hF1 := hF.put (Nat.le_of_ble_eq_true h1) x
  have e1 : (A.put (some d1) x).eval (.tmp d1) = x := hF1.eval (x := .tmp d1) (D9 _ _ _)
  have r2 : (execOp (A.put (some d1) x).eval ⟨some d2, .assign (.tmp d1), ty2, p2, a2, none⟩).run P w = .ok (.value x) w := by simp [execOp, e1]
  have hr : List.range (#[(⟨some d1, .call ⟨.builtin .recover, #[], ts⟩, ty1, p1, a1, none⟩ : Oper), ⟨some d2, .assign (.tmp d1), ty2, p2, a2, none⟩] : Array Oper).size = [0, 1] := rfl
  have g0 : (#[(⟨some d1, .call ⟨.builtin .recover, #[], ts⟩, ty1, p1, a1, none⟩ : Oper), ⟨some d2, .assign (.tmp d1), ty2, p2, a2, none⟩] : Array Oper)[0]? = some ⟨some d1, .call ⟨.builtin .recover, #[], ts⟩, ty1, p1, a1, none⟩ := rfl
  have g1 : (#[(⟨some d1, .call ⟨.builtin .recover, #[], ts⟩, ty1, p1, a1, none⟩ : Oper), ⟨some d2, .assign (.tmp d1), ty2, p2, a2, none⟩] : Array Oper)[1]? = some ⟨some d2, .assign (.tmp d1), ty2, p2, a2, none⟩ := rfl
  rw [hr]
  unfold wpOpsS
  rw [g0]
  simp only [BK (a := A) (o := ⟨some d1, .call ⟨.builtin .recover, #[], ts⟩, ty1, p1, a1, none⟩) rfl, if_true, r1]
  rcases hrec with hrec | ⟨hrec, rfl, rfl⟩
  · rw [hrec]
    unfold wpOpsS
    simp only [g1, BK (a := A.put (some d1) x) (o := ⟨some d2, .assign (.tmp d1), ty2, p2, a2, none⟩) rfl, if_true, r2, Oper.upon]
    unfold wpOpsS
    exact h
  · rw [hrec]
    unfold wpOpsS
    simp only [g1, BK (a := A.put (some d1) .nilIface) (o := ⟨some d2, .assign (.tmp d1), ty2, p2, a2, none⟩) rfl, if_true, r2, Oper.upon]
    unfold wpOpsS
    exact h
theorem LP {c₀ : Frame} {cs : List Frame} {u : FrameMode} : ∀ {e : Exit} {a : Act} {w : World}, bodyPost P fn R e a w → bodyPostS P fn c₀ cs (fun e u' w' => u' = u ∧ R e w') e a ({ c₀ with mode := u } :: cs) w
  | .normal, a, w, ⟨hd, v, hr, h⟩ => ⟨hd, u, rfl, v, hr, rfl, h⟩
  | .ret, a, w, ⟨hd, v, hr, h⟩ => ⟨hd, u, rfl, v, hr, rfl, h⟩
  | .panic _, a, w, ⟨hd, h⟩ => ⟨hd, u, rfl, rfl, h⟩
  | .outgrown, a, w, h => ⟨u, rfl, h⟩
  | .exit _, _, _, h => h.elim
  | .goto _, _, _, h => h.elim
theorem Kc {f d1 d2 N : Nat} {id : Nat} {y : Code} {args : List Value} {pv : Value} {t : TypeId} {older : List PanicEntry} {ty1 ty2 : TypeId} {ts : Array TypeId} {p1 p2 : String} {a1 a2 : Array Edge}
    (hf : P.funcs[f]? = some fn) (hb : fn.body = some ((Code.region id #[⟨some d1, .call ⟨.builtin .recover, #[], ts⟩, ty1, p1, a1, none⟩, ⟨some d2, .assign (.tmp d1), ty2, p2, a2, none⟩] false).seq y)) (hN : fn.ntmps = N) (hle : Nat.ble args.length N = true) (h1 : Nat.blt d1 N = true) (h2 : Nat.blt d2 N = true)
    (h : ∀ a, Fr N [] ((d2, .iface t pv) :: (d1, .iface t pv) :: args.zipIdx.map fun (v, i) => (i, v)) a → y.wr none P (bodyPost P fn R) a w) :
    CallsD P f args.toArray (.panicking ({ v := .iface t pv, recovered := false } :: older)) w fun e u' w' => u' = .panicking ({ v := .iface t pv, recovered := true } :: older) ∧ R e w' := by
  refine callsD_of_wpS hf hb fun c₀ cs hu => ?_
  have hF0 := Fr.enter (fn := fn) (args := args) hN hle
  refine JK (x := .iface t pv) (cs' := { c₀ with mode := .panicking ({ v := .iface t pv, recovered := true } :: older) } :: cs) hF0 h1 (.inl (by simp [recoverD, hu])) ?_
  refine wpS_of_wp (wp_mono (h _ ((hF0.put (Nat.le_of_ble_eq_true h1) _).put (Nat.le_of_ble_eq_true h2) _)) fun e a' w' hp => LP hp)
theorem Km {f d1 d2 N : Nat} {id : Nat} {y : Code} {args : List Value} {ty1 ty2 : TypeId} {ts : Array TypeId} {p1 p2 : String} {a1 a2 : Array Edge}
    (hf : P.funcs[f]? = some fn) (hb : fn.body = some ((Code.region id #[⟨some d1, .call ⟨.builtin .recover, #[], ts⟩, ty1, p1, a1, none⟩, ⟨some d2, .assign (.tmp d1), ty2, p2, a2, none⟩] false).seq y)) (hN : fn.ntmps = N) (hle : Nat.ble args.length N = true) (h1 : Nat.blt d1 N = true) (h2 : Nat.blt d2 N = true)
    (h : ∀ a, Fr N [] ((d2, .nilIface) :: (d1, .nilIface) :: args.zipIdx.map fun (v, i) => (i, v)) a → y.wr none P (bodyPost P fn R) a w) :
    CallsD P f args.toArray .returning w fun e u' w' => u' = .returning ∧ R e w' := by
  refine callsD_of_wpS hf hb fun c₀ cs hu => ?_
  have hF0 := Fr.enter (fn := fn) (args := args) hN hle
  refine JK (x := .nilIface) (cs' := { c₀ with mode := .returning } :: cs) hF0 h1 (.inr ⟨by simp [recoverD, hu], rfl, by rw [← hu]⟩) ?_
  refine wpS_of_wp (wp_mono (h _ ((hF0.put (Nat.le_of_ble_eq_true h1) _).put (Nat.le_of_ble_eq_true h2) _)) fun e a' w' hp => LP hp)
theorem N6 {e : Exit} {d : List Deferred} (he : e = .ret ∨ e = .normal) (hF : Fr n d F a) (h : Leaves P fn a.tmps R d .returning w) : bodyPostD P fn R e a w := by
  rcases he with rfl | rfl <;> (show Leaves P fn a.tmps R a.defers .returning w; rw [hF.defers]; exact h)
theorem B6 {ch : List PanicEntry} {d : List Deferred} (hF : Fr n d F a) (h : Leaves P fn a.tmps R d (.panicking ch) w) : bodyPostD P fn R (.panic ch) a w := by
  show Leaves P fn a.tmps R a.defers (.panicking ch) w
  rw [hF.defers]; exact h
theorem Hm {t t' : Array Value} (h : results fn t = results fn t') : ∀ (ds : List Deferred) (u : FrameMode) (w : World), Leaves P fn t R ds u w → Leaves P fn t' R ds u w
  | [], .returning, w, H => by obtain ⟨v, h1, h2⟩ := H; exact ⟨v, by rw [← h]; exact h1, h2⟩
  | [], .panicking _, w, H => H
  | [], .run, w, H => H
  | d :: ds, u, w, H => by
    obtain ⟨h1, fv, cap, f, args, h2, h3, h4⟩ := H
    exact ⟨h1, fv, cap, f, args, h2, h3, h4.mono fun e u' w' hp => by
      cases e with
      | returned _ => exact Hm h ds _ _ hp
      | panicked _ => exact Hm h ds _ _ hp
      | outgrown => exact hp⟩
def Qm (d : Option Tmp) : ResultVar → Bool
  | .tmp t => decide (d ≠ some t)
  | .cell t _ => decide (d ≠ some t)
theorem MK {a : Act} {d : Option Tmp} {v : Value} {r : ResultVar} (h : Qm d r = true) : I8 (a.put d v).tmps r = I8 a.tmps r := by
  cases d with
  | none => rfl
  | some d =>
    have hs : ∀ t, d ≠ t → (a.put (some d) v).tmps.getD t undef = a.tmps.getD t undef := fun t hne => by
      show (a.tmps.setIfInBounds d v).getD t undef = _
      simp [Array.getD_eq_getD_getElem?, Array.getElem?_setIfInBounds, hne]
    cases r with
    | tmp t =>
      have h := of_decide_eq_true (show decide (some d ≠ some t) = true from h)
      simp only [I8, hs t (fun e => h (by rw [e]))]
    | cell t ty =>
      have h := of_decide_eq_true (show decide (some d ≠ some t) = true from h)
      simp only [I8, hs t (fun e => h (by rw [e]))]
theorem MT {l : List Oper} {r s t : ResultVar} (hr : fn.results = #[r, s, t]) (hl : (l.all fun o => Qm o.dst r && (Qm o.dst s && Qm o.dst t)) = true) {i : Nat} {o : Oper} (hi : l.toArray[i]? = some o) {ch : List PanicEntry} {a : Act} {v : Value} (h : bodyPostD P fn R (.panic ch) (a.put o.dst v) w) : bodyPostD P fn R (.panic ch) a w := by
  have hm : o ∈ l := by
    rw [List.getElem?_toArray] at hi
    exact List.mem_of_getElem? hi
  have hb := List.all_eq_true.1 hl o hm
  simp only [Bool.and_eq_true] at hb
  have hd : (a.put o.dst v).defers = a.defers := by cases o.dst <;> rfl
  have h' : Leaves P fn (a.put o.dst v).tmps R (a.put o.dst v).defers (.panicking ch) w := h
  rw [hd] at h'
  refine Hm ?_ _ _ _ h'
  rw [E0, E0, hr]
  simp [MK hb.1, MK hb.2.1, MK hb.2.2]
theorem Dw {r s t : ResultVar} {x u v : Value} (hW : Stw B M Z w) (hr : fn.results = #[r, s, t]) (h1 : Rv P B M Z a r x) (h2 : Rv P B M Z a s u) (h3 : Rv P B M Z a t v) (h : R (.returned (.tuple #[x, u, v])) w) : Leaves P fn a.tmps R [] .returning w := by
  refine ⟨_, ?_, h⟩
  rw [E0, hr]
  have e1 := h1 w hW
  have e2 := h2 w hW
  have e3 := h3 w hW
  simp [e1, e2, e3]
theorem Ln {x : Operand} {t tx : TypeId} {u : Value} (hd : (P.underlying t).map (fun d => match d with | .interface _ => true | _ => false) = some false) (hF : Fr n ds F a) (hx : CX F x = some (.iface t u)) : Yx P B M Z a ⟨dst, .typeAssert x tx t true, ty, pos, aft, g⟩ (.tuple #[u, .bool true]) :=
  BX fun w hw => by
    cases hu : P.underlying t with
    | none => rw [hu] at hd; simp at hd
    | some d =>
      rw [hu] at hd
      cases d <;> simp_all [execOp, hF.eval hx, Instr.typeAssert, Go.underlying]
theorem Iw {T : TypeId} {ms : _} (hT : P.underlying T = some (.interface ms)) (d : Nat) (t : TypeId) (u : Value) (w : World) : (Op.equalIn (d + 1) T (.iface t u) .nilIface).run P w = .ok false w := by
  simp [Op.equalIn, Go.underlying, hT]
theorem HH {T : TypeId} {ms : _} (hT : P.underlying T = some (.interface ms)) (d : Nat) (w : World) : (Op.equalIn (d + 1) T .nilIface .nilIface).run P w = .ok true w := by
  simp [Op.equalIn, Go.underlying, hT]
theorem Jh {T : TypeId} {ms : _} (hT : P.underlying T = some (.interface ms)) (t : TypeId) (u : Value) (w : World) : (Op.equal T (.iface t u) .nilIface).run P w = .ok false w := Iw hT 9999 t u w
theorem Ie {T : TypeId} {ms : _} (hT : P.underlying T = some (.interface ms)) (w : World) : (Op.equal T .nilIface .nilIface).run P w = .ok true w := HH hT 9999 w
theorem Ff {x : Operand} {t : TypeId} {u : Value} {T T' : TypeId} {ms : _} (hT : P.underlying T = some (.interface ms)) (hF : Fr n ds F a) (hx : CX F x = some (.iface t u)) : Yx P B M Z a ⟨dst, .binOp .neq T x (.const .nilIface) T', ty, pos, aft, g⟩ (.bool true) :=
  BX fun w _ => by
    have h2 : a.eval (.const .nilIface) = .nilIface := rfl
    simp [execOp, hF.eval hx, h2, eqGuard, binOp, Jh hT]
theorem FR {x : Operand} {T T' : TypeId} {ms : _} (hT : P.underlying T = some (.interface ms)) (hF : Fr n ds F a) (hx : CX F x = some .nilIface) : Yx P B M Z a ⟨dst, .binOp .neq T x (.const .nilIface) T', ty, pos, aft, g⟩ (.bool false) :=
  BX fun w _ => by
    have h2 : a.eval (.const .nilIface) = .nilIface := rfl
    simp [execOp, hF.eval hx, h2, eqGuard, binOp, Ie hT]
theorem B4 {β : Type} {f : FuncId} {xs : List Operand} {vs : List Value} {ts : Array TypeId} {pv : β → Value} {MM : β → Cg} {ZZ : β → List It} (hF : Fr n ds F a) (hW : Stw B (Ml ++ M) (Zl ++ Z) w) (hP : Has P f) (hx : Oj F xs = some vs)
    (c : Stw ⟨Fz B (AY (Ml ++ M) (Zl ++ Z)), AY Ml Zl, w⟩ Ml Zl w → Calls P f vs.toArray w fun e w' => ∃ x : β, e = .panicked [{ v := pv x, recovered := false }] ∧ Stw ⟨Fz B (AY (Ml ++ M) (Zl ++ Z)), AY Ml Zl, w⟩ (MM x) (ZZ x) w')
    (h : ∀ x w', Stw B (MM x ++ M) (ZZ x ++ Z) w' → Q (.panic [{ v := pv x, recovered := false }]) a w') :
    wpList P ops Q (⟨dst, .call ⟨.value (.func f), xs.toArray, ts⟩, ty, pos, aft, none⟩ :: rest) a w := by
  unfold wpList
  rw [if_pos (BK rfl)]
  refine .inl ?_
  unfold Oper.wp
  rw [JU hF hP hx]
  refine (c hW.lend).mono fun e w' ⟨x, he, hW2⟩ => ?_
  subst he
  exact h x w' (hW.join hW2)
theorem R4 {K : Act → World → Prop} {ch : List PanicEntry} (h : Q (.panic ch) a w) : Mk Q K (.panic ch) a w := h
end
end Go.Proofs.YthmkgdnnocemmaaGreatDoor
