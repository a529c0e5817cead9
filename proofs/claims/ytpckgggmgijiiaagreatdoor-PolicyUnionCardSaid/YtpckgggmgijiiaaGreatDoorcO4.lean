/- Structs, interface values, congruences. Conditions: none. -/
import Derived.Test.YtpckgggmgijiiaaGreatDoorcO3
namespace Go.Proofs.YtpckgggmgijiiaaGreatDoor
set_option linter.unusedVariables false
set_option linter.unusedSimpArgs false
open Go Go.RowKit
section
variable {P : Program} {B : Bs} {M M' : List (Nat × List Value)} {Z : List It} {n : Nat} {ds : List Deferred} {F F' : List (Nat × Value)} {a : Act} {w : World}
variable {ops : Array Oper} {Q : Exit → Act → World → Prop} {rest : List Oper} {o : Oper}
variable {dst : Option Tmp} {ty : TypeId} {pos : String} {aft : Array Edge} {g : Option (Nat × Bool)}
structure Bt (P : Program) (t : TypeId) (zs : List Value) (pl : List (Nat × Nat)) : Prop where
  zero : ∃ z, (P.info? t).bind (·.zero) = some z ∧ z.cells = zs.toArray
  places : ∃ fs : Array Field, P.underlying t = some (.struct fs) ∧ ∀ w, (fs.mapM fun f => do pure (f.offset, ← sizeOf f.type) : Sem _).run P w = .ok pl.toArray w
def KC (place : Nat → Option (Nat × Nat)) (cells : List Value) : List (Nat × Value) → Option (List Value)
  | [] => some cells
  | (i, v) :: rest =>
    match place i with
    | none => none
    | some (off, size) => if v.cells.toList.length = size ∧ off + v.cells.toList.length ≤ cells.length then KC place (JD cells off v.cells.toList) rest else none
theorem PV : ∀ (vs : List Value) (s off : Nat) (cs : List Value), (vs.zipIdx s).foldl (fun (cs : Array Value) (p : Value × Nat) => cs.setIfInBounds (off + p.2) p.1) cs.toArray = (JD cs (off + s) vs).toArray
  | [], s, off, cs => by simp [JD]
  | v :: r, s, off, cs => by
    simp only [List.zipIdx_cons, List.foldl_cons, JD]
    rw [List.setIfInBounds_toArray, PV r (s + 1) off]
    rfl
theorem JU {place : Nat → Option (Nat × Nat)} : ∀ {parts : List (Nat × Value)} {cells out : List Value}, KC place cells parts = some out → Instr.fill place cells.toArray parts = some out.toArray
  | [], cells, out, h => by simp [KC] at h; subst h; rfl
  | (i, v) :: rest, cells, out, h => by
    simp only [KC] at h
    unfold Instr.fill
    split at h
    · cases h
    · rename_i off size hp
      split at h
      · rename_i hc
        simp only [hp]
        have h1 : v.cells.size = size := by simpa using hc.1
        have h2 : ¬ (off + v.cells.size > cells.toArray.size) := by have := hc.2; simp at this ⊢; omega
        simp only [h1, ne_eq, not_true_eq_false, decide_false, Bool.false_or]
        rw [h1] at h2
        simp only [h2, decide_false, Bool.false_eq_true, if_false]
        have h3 := PV v.cells.toList 0 off cells
        have h4 : (v.cells.zipIdx.foldl (fun (cs : Array Value) (x : Value × Nat) => match x with | (c, j) => cs.setIfInBounds (off + j) c) cells.toArray) = (JD cells off v.cells.toList).toArray := by
          rw [← Array.foldl_toList, Array.toList_zipIdx]
          exact h3
        rw [h4]
        exact JU h
      · cases h
def V4 (F : List (Nat × Value)) : List (Nat × Operand) → Option (List (Nat × Value))
  | [] => some []
  | (i, x) :: r => match DV F x, V4 F r with | some v, some vs => some ((i, v) :: vs) | _, _ => none
theorem Fr.evalp (hF : Fr n ds F a) : ∀ {xs : List (Nat × Operand)} {vs : List (Nat × Value)}, V4 F xs = some vs → xs.map (fun (i, x) => (i, a.eval x)) = vs
  | [], vs, h => by simp [V4] at h; subst h; rfl
  | (i, x) :: r, vs, h => by
    simp only [V4] at h
    split at h
    · rename_i v us hv hus
      simp only [Option.some.injEq] at h
      subst h
      simp [hF.eval hv, hF.evalp hus]
    · cases h
theorem OL {t : TypeId} {z : Value} (hz : (P.info? t).bind (·.zero) = some z) (w : World) : (zeroValue t).run P w = .ok z w := by
  unfold zeroValue typeInfo
  cases hi : P.info? t with
  | none => rw [hi] at hz; simp at hz
  | some i => rw [hi] at hz; simp at hz; simp [hi, hz]
theorem CM {t : TypeId} {zs cs : List Value} {pl : List (Nat × Nat)} {parts : List (Nat × Operand)} {vp : List (Nat × Value)} {v : Value} (hB : Bt P t zs pl) (hF : Fr n ds F a) (hx : V4 F parts = some vp) (hf : KC (fun i => pl[i]?) zs vp = some cs) (hv : Value.agg cs.toArray = v) :
    Yx P B M Z a ⟨dst, .build t parts.toArray, ty, pos, aft, g⟩ v :=
  Dj fun w hw => by
    subst hv
    obtain ⟨z, hz, hzc⟩ := hB.zero
    obtain ⟨fs, hu, hp⟩ := hB.places
    have hfill := JU hf
    have he : (parts.toArray.map fun (i, x) => (i, a.eval x)) = vp.toArray := by rw [← hF.evalp hx]; simp
    simp only [execOp, Instr.build, he, Sem.run_bind, OL hz, Result.andThen_ok, hzc, Go.underlying, run_program, hu, Sem.run_pure, hp]
    have hpl : (fun x : Nat => pl.toArray[x]?) = fun i => pl[i]? := by funext i; simp
    simp only [hpl, hfill, Sem.run_pure, Result.andThen_ok]
theorem UG {x : Operand} {t t' : TypeId} {i fo sz : Nat} {fs : Array Field} {f : Field} {agg : Bool} {cs : List Value} {v : Value} (hu : P.underlying t = some (.struct fs)) (hf : fs[i]? = some f) (hft : f.type = t') (hfo : f.offset = fo) (T : Ty P t' agg sz)
    (hF : Fr n ds F a) (hx : DV F x = some (.agg cs.toArray)) (hv : QJ agg sz cs fo = some v) :
    Yx P B M Z a ⟨dst, .field t x i, ty, pos, aft, g⟩ v :=
  Dj fun w hw => by
    subst hft hfo
    cases agg with
    | false =>
      simp only [QJ, Bool.false_eq_true, if_false] at hv
      simp [execOp, hF.eval hx, Instr.field, Go.underlying, hu, hf, asAgg, part, T.isAgg, hv]
    | true =>
      simp only [QJ, if_true] at hv
      by_cases hle : f.offset + sz ≤ cs.length
      · rw [if_pos hle] at hv
        simp only [Option.some.injEq] at hv
        subst hv
        simp [execOp, hF.eval hx, Instr.field, Go.underlying, hu, hf, asAgg, part, T.isAgg, T.sizeOf, List.take_drop]
      · rw [if_neg hle] at hv; cases hv
end
end Go.Proofs.YtpckgggmgijiiaaGreatDoor
