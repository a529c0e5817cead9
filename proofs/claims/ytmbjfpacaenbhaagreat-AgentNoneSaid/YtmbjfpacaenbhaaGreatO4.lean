/- Structs, interface values, congruences. Conditions: none. -/
import Derived.Test.YtmbjfpacaenbhaaGreatO3
namespace Go.Proofs.YtmbjfpacaenbhaaGreat
set_option linter.unusedVariables false
set_option linter.unusedSimpArgs false
open Go Go.RowKit

theorem tdiv_lit (p q : Int) (hq : 0 < q) : (0 ≤ p → q * p.tdiv q ≤ p ∧ p < q * p.tdiv q + q ∧ 0 ≤ p.tdiv q) ∧ (p ≤ 0 → p ≤ q * p.tdiv q ∧ q * p.tdiv q - q < p ∧ p.tdiv q ≤ 0) ∧ p.tmod q = p - q * p.tdiv q := by
  have hm := Int.mul_tdiv_add_tmod p q
  refine ⟨fun h => ?_, fun h => ?_, by omega⟩
  · have h1 := Int.tmod_nonneg q h
    have h2 := Int.tmod_lt_of_pos p hq
    have h3 := Int.tdiv_nonneg h (Int.le_of_lt hq)
    omega
  · have e : p = -(-p) := by omega
    have h1 : 0 ≤ (-p).tmod q := Int.tmod_nonneg q (by omega)
    have h2 := Int.tmod_lt_of_pos (-p) hq
    have h3 : 0 ≤ (-p).tdiv q := Int.tdiv_nonneg (by omega) (Int.le_of_lt hq)
    have h4 : (-p).tmod q = -(p.tmod q) := Int.neg_tmod p q
    have h5 : (-p).tdiv q = -(p.tdiv q) := Int.neg_tdiv p q
    omega
theorem tdiv_bd (p q : Int) (hq : 0 < q) : (0 ≤ p → 0 ≤ p.tdiv q ∧ p.tdiv q ≤ p) ∧ (p ≤ 0 → p ≤ p.tdiv q ∧ p.tdiv q ≤ 0) := by
  refine ⟨fun h => ⟨Int.tdiv_nonneg h (Int.le_of_lt hq), ?_⟩, fun h => ?_⟩
  · rw [Int.tdiv_eq_ediv_of_nonneg h]; exact Int.ediv_le_self _ h
  · have h5 : (-p).tdiv q = -(p.tdiv q) := Int.neg_tdiv p q
    have h1 : 0 ≤ (-p).tdiv q := Int.tdiv_nonneg (by omega) (Int.le_of_lt hq)
    have h2 : (-p).tdiv q ≤ -p := by rw [Int.tdiv_eq_ediv_of_nonneg (by omega)]; exact Int.ediv_le_self _ (by omega)
    omega
theorem vint {k : IntKind} {a b : Int} (h : a = b) : Value.int k a = Value.int k b := by rw [h]
theorem vbool {a b : Bool} (h : a = b) : Value.bool a = Value.bool b := by rw [h]
theorem vstr {a b : ByteArray} (h : a = b) : Value.string a = Value.string b := by rw [h]
theorem vagg {a b : List Value} (h : a = b) : Value.agg a.toArray = Value.agg b.toArray := by rw [h]
theorem vtuple {a b : List Value} (h : a = b) : Value.tuple a.toArray = Value.tuple b.toArray := by rw [h]
theorem viface {t : TypeId} {a b : Value} (h : a = b) : Value.iface t a = Value.iface t b := by rw [h]
theorem lcons {a b : Value} {l m : List Value} (h : a = b) (h' : l = m) : a :: l = b :: m := by rw [h, h']

section
variable {P : Program} {B : Bs} {M M' : List (Nat × List Value)} {Z : List It} {n : Nat} {ds : List Deferred} {F F' : List (Nat × Value)} {a : Act} {w : World}
variable {ops : Array Oper} {Q : Exit → Act → World → Prop} {rest : List Oper} {o : Oper}
variable {dst : Option Tmp} {ty : TypeId} {pos : String} {aft : Array Edge} {g : Option (Nat × Bool)}

structure Bt (P : Program) (t : TypeId) (zs : List Value) (pl : List (Nat × Nat)) : Prop where
  zero : ∃ z, (P.info? t).bind (·.zero) = some z ∧ z.cells = zs.toArray
  places : ∃ fs : Array Field, P.underlying t = some (.struct fs) ∧ ∀ w, (fs.mapM fun f => do pure (f.offset, ← sizeOf f.type) : Sem _).run P w = .ok pl.toArray w

def fillL (place : Nat → Option (Nat × Nat)) (cells : List Value) : List (Nat × Value) → Option (List Value)
  | [] => some cells
  | (i, v) :: rest =>
    match place i with
    | none => none
    | some (off, size) => if v.cells.toList.length = size ∧ off + v.cells.toList.length ≤ cells.length then fillL place (putL cells off v.cells.toList) rest else none

theorem foldl_put : ∀ (vs : List Value) (s off : Nat) (cs : List Value), (vs.zipIdx s).foldl (fun (cs : Array Value) (p : Value × Nat) => cs.setIfInBounds (off + p.2) p.1) cs.toArray = (putL cs (off + s) vs).toArray
  | [], s, off, cs => by simp [putL]
  | v :: r, s, off, cs => by
    simp only [List.zipIdx_cons, List.foldl_cons, putL]
    rw [List.setIfInBounds_toArray, foldl_put r (s + 1) off]
    rfl

theorem fill_fillL {place : Nat → Option (Nat × Nat)} : ∀ {parts : List (Nat × Value)} {cells out : List Value}, fillL place cells parts = some out → Instr.fill place cells.toArray parts = some out.toArray
  | [], cells, out, h => by simp [fillL] at h; subst h; rfl
  | (i, v) :: rest, cells, out, h => by
    simp only [fillL] at h
    unfold Instr.fill
    split at h
    · cases h
    · rename_i off size hp
      split at h
      · rename_i hc
        simp only [hp]
        have h1 : v.cells.size = size := by simpa using hc.1
        have h2 : ¬ (off + v.cells.size > cells.toArray.size) := by have := hc.2; simp at this ⊢; omega
        simp only [h1, ne_eq, not_true_eq_false, decide_false, Bool.false_or]
        rw [h1] at h2
        simp only [h2, decide_false, Bool.false_eq_true, if_false]
        have h3 := foldl_put v.cells.toList 0 off cells
        have h4 : (v.cells.zipIdx.foldl (fun (cs : Array Value) (x : Value × Nat) => match x with | (c, j) => cs.setIfInBounds (off + j) c) cells.toArray) = (putL cells off v.cells.toList).toArray := by
          rw [← Array.foldl_toList, Array.toList_zipIdx]
          exact h3
        rw [h4]
        exact fill_fillL h
      · cases h

def evp (F : List (Nat × Value)) : List (Nat × Operand) → Option (List (Nat × Value))
  | [] => some []
  | (i, x) :: r => match opv F x, evp F r with | some v, some vs => some ((i, v) :: vs) | _, _ => none
theorem Fr.evalp (hF : Fr n ds F a) : ∀ {xs : List (Nat × Operand)} {vs : List (Nat × Value)}, evp F xs = some vs → xs.map (fun (i, x) => (i, a.eval x)) = vs
  | [], vs, h => by simp [evp] at h; subst h; rfl
  | (i, x) :: r, vs, h => by
    simp only [evp] at h
    split at h
    · rename_i v us hv hus
      simp only [Option.some.injEq] at h
      subst h
      simp [hF.eval hv, hF.evalp hus]
    · cases h

theorem run_zero {t : TypeId} {z : Value} (hz : (P.info? t).bind (·.zero) = some z) (w : World) : (zeroValue t).run P w = .ok z w := by
  unfold zeroValue typeInfo
  cases hi : P.info? t with
  | none => rw [hi] at hz; simp at hz
  | some i => rw [hi] at hz; simp at hz; simp [hi, hz]

theorem y_build {t : TypeId} {zs cs : List Value} {pl : List (Nat × Nat)} {parts : List (Nat × Operand)} {vp : List (Nat × Value)} {v : Value} (hB : Bt P t zs pl) (hF : Fr n ds F a) (hx : evp F parts = some vp) (hf : fillL (fun i => pl[i]?) zs vp = some cs) (hv : Value.agg cs.toArray = v) :
    Yx P B M Z a ⟨dst, .build t parts.toArray, ty, pos, aft, g⟩ v :=
  yl_of fun w hw => by
    subst hv
    obtain ⟨z, hz, hzc⟩ := hB.zero
    obtain ⟨fs, hu, hp⟩ := hB.places
    have hfill := fill_fillL hf
    have he : (parts.toArray.map fun (i, x) => (i, a.eval x)) = vp.toArray := by rw [← hF.evalp hx]; simp
    simp only [execOp, Instr.build, he, Sem.run_bind, run_zero hz, Result.andThen_ok, hzc, Go.underlying, run_program, hu, Sem.run_pure, hp]
    have hpl : (fun x : Nat => pl.toArray[x]?) = fun i => pl[i]? := by funext i; simp
    simp only [hpl, hfill, Sem.run_pure, Result.andThen_ok]

theorem y_field {x : Operand} {t t' : TypeId} {i fo sz : Nat} {fs : Array Field} {f : Field} {agg : Bool} {cs : List Value} {v : Value} (hu : P.underlying t = some (.struct fs)) (hf : fs[i]? = some f) (hft : f.type = t') (hfo : f.offset = fo) (T : Ty P t' agg sz)
    (hF : Fr n ds F a) (hx : opv F x = some (.agg cs.toArray)) (hv : rdv agg sz cs fo = some v) :
    Yx P B M Z a ⟨dst, .field t x i, ty, pos, aft, g⟩ v :=
  yl_of fun w hw => by
    subst hft hfo
    cases agg with
    | false =>
      simp only [rdv, Bool.false_eq_true, if_false] at hv
      simp [execOp, hF.eval hx, Instr.field, Go.underlying, hu, hf, asAgg, part, T.isAgg, hv]
    | true =>
      simp only [rdv, if_true] at hv
      by_cases hle : f.offset + sz ≤ cs.length
      · rw [if_pos hle] at hv
        simp only [Option.some.injEq] at hv
        subst hv
        simp [execOp, hF.eval hx, Instr.field, Go.underlying, hu, hf, asAgg, part, T.isAgg, T.sizeOf, List.take_drop]
      · rw [if_neg hle] at hv; cases hv

theorem y_makeIface {t : TypeId} {x : Operand} {v : Value} (hd : (P.underlying t).map (fun d => match d with | .interface _ => true | _ => false) = some false) (hF : Fr n ds F a) (hx : opv F x = some v) : Yx P B M Z a ⟨dst, .makeInterface t x, ty, pos, aft, g⟩ (.iface t v) :=
  yl_of fun w hw => by
    cases hu : P.underlying t with
    | none => rw [hu] at hd; simp at hd
    | some d =>
      rw [hu] at hd
      cases d <;> simp_all [execOp, hF.eval hx, Instr.makeInterface, Go.underlying]
end
end Go.Proofs.YtmbjfpacaenbhaaGreat
