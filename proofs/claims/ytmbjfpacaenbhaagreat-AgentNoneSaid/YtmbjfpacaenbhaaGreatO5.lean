/- Equality of structs. Conditions: none. -/
import Derived.Test.YtmbjfpacaenbhaaGreatO4
namespace Go.Proofs.YtmbjfpacaenbhaaGreat
set_option linter.unusedVariables false
set_option linter.unusedSimpArgs false
open Go Go.RowKit

section
variable {P : Program}
def fldEq (d : Nat) (f : Field) (xs ys : Array Value) : Sem Bool := do
  let x ← part f.type xs f.offset
  let y ← part f.type ys f.offset
  Op.equalIn d f.type x y
def EqFs (P : Program) (d : Nat) (xs ys : Array Value) : List Field → List Bool → Prop
  | [], [] => True
  | f :: fs, r :: rs => (f.name != "_") = true ∧ (∀ w, (fldEq d f xs ys).run P w = .ok r w) ∧ EqFs P d xs ys fs rs
  | _, _ => False
theorem run_eqFields {d : Nat} {xs ys : Array Value} : ∀ {fs : List Field} {rs : List Bool}, EqFs P d xs ys fs rs → ∀ w, (Op.eqFields d xs ys fs).run P w = .ok (rs.all id) w
  | [], [], _, w => by simp [Op.eqFields]
  | f :: fs, r :: rs, h, w => by
    obtain ⟨h1, h2, h3⟩ := h
    have h2 := h2 w
    have ih := run_eqFields h3 w
    have hne : f.name ≠ "_" := by simpa using h1
    unfold Op.eqFields
    rw [if_pos hne]
    unfold fldEq at h2
    simp only [Sem.run_bind] at h2 ⊢
    generalize (part f.type xs f.offset).run P w = r1 at *
    cases r1 with
    | halt x w1 => simp at h2
    | ok a w1 =>
      simp only [Result.andThen_ok] at h2 ⊢
      generalize (part f.type ys f.offset).run P w1 = r2 at *
      cases r2 with
      | halt x w1 => simp at h2
      | ok b w2 =>
        simp only [Result.andThen_ok] at h2 ⊢
        rw [h2]
        cases r
        · simp
        · simp [ih]
  | [], _ :: _, h, _ => h.elim
  | _ :: _, [], h, _ => h.elim
theorem eq_struct {d : Nat} {t : TypeId} {fs : Array Field} {xs ys : Array Value} {rs : List Bool} {b : Bool} (hu : P.underlying t = some (.struct fs)) (hp : P.stoodInHeld t = false) (H : EqFs P d xs ys fs.toList rs) (hb : rs.all id = b) (w : World) :
    (Op.equalIn (d + 1) t (.agg xs) (.agg ys)).run P w = .ok b w := by
  have hfs : P.fieldsOf t = fs := by simp [Program.fieldsOf, hu]
  rw [run_equalIn_struct w d t xs ys (by rw [hfs]; exact hu) hp, hfs, run_eqFields H, hb]
theorem fld_int {d : Nat} {f : Field} {xs ys : List Value} {t : TypeId} {o : Nat} {k k' : IntKind} {p q : Int} (ht : f.type = t) (ho : f.offset = o) (hu : P.underlying t = some (.int k')) (T : Ty P t false 1) (hx : xs[o]? = some (.int k p)) (hy : ys[o]? = some (.int k q)) (w : World) :
    (fldEq (d + 1) f xs.toArray ys.toArray).run P w = .ok (decide (p = q)) w := by
  subst ht ho
  simp [fldEq, part, T.isAgg, hx, hy, run_equalIn_int w d f.type k k' p q hu]
  by_cases h : p = q <;> simp [h]
theorem fld_bool {d : Nat} {f : Field} {xs ys : List Value} {t : TypeId} {o : Nat} {p q : Bool} (ht : f.type = t) (ho : f.offset = o) (hu : P.underlying t = some .bool) (T : Ty P t false 1) (hx : xs[o]? = some (.bool p)) (hy : ys[o]? = some (.bool q)) (w : World) :
    (fldEq (d + 1) f xs.toArray ys.toArray).run P w = .ok (decide (p = q)) w := by
  subst ht ho
  simp [fldEq, part, T.isAgg, hx, hy, run_equalIn_bool' w d f.type p q hu]
  cases p <;> cases q <;> rfl
theorem fld_agg {d : Nat} {f : Field} {xs ys xs' ys' : List Value} {t : TypeId} {o sz : Nat} {b : Bool} (ht : f.type = t) (ho : f.offset = o) (T : Ty P t true sz) (hx : rdv true sz xs o = some (.agg xs'.toArray)) (hy : rdv true sz ys o = some (.agg ys'.toArray))
    (hE : ∀ w, (Op.equalIn d t (.agg xs'.toArray) (.agg ys'.toArray)).run P w = .ok b w) (w : World) :
    (fldEq d f xs.toArray ys.toArray).run P w = .ok b w := by
  subst ht ho
  simp only [rdv, if_true] at hx hy
  split at hx
  · split at hy
    · simp only [Option.some.injEq] at hx hy
      simp only [fldEq, part, T.isAgg, T.sizeOf, Sem.run_bind, Result.andThen_ok, if_true, Sem.run_pure]
      have e1 : Value.agg (xs.toArray.extract f.offset (f.offset + sz)) = .agg xs'.toArray := by rw [← hx]; simp [List.take_drop]
      have e2 : Value.agg (ys.toArray.extract f.offset (f.offset + sz)) = .agg ys'.toArray := by rw [← hy]; simp [List.take_drop]
      rw [e1, e2, hE]
    · cases hy
  · cases hx
end
end Go.Proofs.YtmbjfpacaenbhaaGreat
