/- Floats: their comparisons, sums, bits; functions without a body. Conditions: none. -/
import Derived.Test.YtfnllhjbbcaomaaOR
import Derived.Laws.FloatArith
import Derived.Laws.Externs
namespace Go.Proofs.Ytfnllhjbbcaomaa
set_option linter.unusedVariables false
set_option linter.unusedSimpArgs false
open Go Go.RowKit

def fEq (x y : Nat) : Bool := Ieee.double.order x y == some .eq
def fLt (x y : Nat) : Bool := Ieee.double.order x y == some .lt
def fGt (x y : Nat) : Bool := Ieee.double.order x y == some .gt
/-- The bits that count. -/
def cfn (b : Nat) : Nat := if 9218868437227405312 < b % 9223372036854775808 then 9221120237041090561 else b
/-- A sum; where the bits are not fixed, those of one NaN. -/
def fadd (x y : Nat) : Nat := match Ieee.double.add x y with | some r => r | none => 9221120237041090561

theorem read_nan {b : Nat} (h : 9218868437227405312 < b % 9223372036854775808) : ∃ s f, Ieee.double.read b = .nan s f := by
  have e1 : Ieee.double.signWeight = 9223372036854775808 := by decide
  have e2 : Ieee.double.binade = 4503599627370496 := by decide
  have e3 : Ieee.double.infRung = 9218868437227405312 := by decide
  unfold Ieee.Format.read
  simp only [e1, e2, e3]
  rw [if_neg (by omega), if_neg (by omega), if_neg (by omega)]
  exact ⟨_, _, rfl⟩
theorem cfn_cases (a b : Nat) (h : cfn a = cfn b) : a = b ∨ ((∃ s f, Ieee.double.read a = .nan s f) ∧ ∃ s f, Ieee.double.read b = .nan s f) := by
  have hc : ∃ s f, Ieee.double.read 9221120237041090561 = .nan s f := read_nan (by decide)
  unfold cfn at h
  by_cases h1 : 9218868437227405312 < a % 9223372036854775808 <;> by_cases h2 : 9218868437227405312 < b % 9223372036854775808 <;> simp only [h1, h2, if_true, if_false] at h
  · exact .inr ⟨read_nan h1, read_nan h2⟩
  · subst h; exact .inr ⟨read_nan h1, hc⟩
  · subst h; exact .inr ⟨hc, read_nan h2⟩
  · exact .inl h
theorem fEq_nan {b : Nat} (h : 9218868437227405312 < b % 9223372036854775808) : fEq b b = false := by
  obtain ⟨s, f, h⟩ := read_nan h
  unfold fEq Ieee.Format.order
  rw [h]; rfl
theorem sum_nanL {x : Nat} (h : ∃ s f, Ieee.double.read x = .nan s f) (y : Nat) : Ieee.double.add x y = none := by
  obtain ⟨s, f, h⟩ := h
  unfold Ieee.Format.add
  rw [h]; rfl
theorem sum_nanR {y : Nat} (h : ∃ s f, Ieee.double.read y = .nan s f) (x : Nat) : Ieee.double.add x y = none := by
  obtain ⟨s, f, h⟩ := h
  unfold Ieee.Format.add
  rw [h]
  cases Ieee.double.read x <;> rfl
theorem add_cf {a b c d : Nat} (h1 : cfn a = cfn b) (h2 : cfn c = cfn d) : Ieee.double.add a c = Ieee.double.add b d := by
  rcases cfn_cases a b h1 with rfl | ⟨ha, hb⟩
  · rcases cfn_cases c d h2 with rfl | ⟨hc, hd⟩
    · rfl
    · rw [sum_nanR hc, sum_nanR hd]
  · rw [sum_nanL ha, sum_nanL hb]
theorem fadd_cf {a b c d g : Nat} (h1 : cfn a = cfn b) (h2 : cfn c = cfn d) (hg : cfn g = cfn (fadd a c)) : cfn g = cfn (fadd b d) := by
  rw [hg]; unfold fadd; rw [add_cf h1 h2]

/-- What does not tell NaNs apart sees only the bits that count. -/
theorem cf_of {β : Type} {f : Nat → β} (hf : ∀ a, 9218868437227405312 < a % 9223372036854775808 → f a = f 9221120237041090561) {a b : Nat} (h : cfn a = cfn b) : f a = f b := by
  unfold cfn at h
  by_cases h1 : 9218868437227405312 < a % 9223372036854775808 <;> by_cases h2 : 9218868437227405312 < b % 9223372036854775808 <;> simp only [h1, h2, if_true, if_false] at h
  · rw [hf a h1, hf b h2]
  · subst h; exact hf a h1
  · subst h; exact (hf b h2).symm
  · rw [h]

section
variable {P : Program} {B : Bs} {M M' : Blks} {Z Z' Z1 : List It} {n : Nat} {ds : List Deferred} {F F' : List (Nat × Value)} {a : Act} {w w' : World}
variable {ops : Array Oper} {Q : Exit → Act → World → Prop} {rest : List Oper} {o : Oper}
variable {dst : Option Tmp} {ty T T' : TypeId} {pos : String} {aft : Array Edge} {g : Option (Nat × Bool)} {x y : Operand} {p q : Nat}

theorem y_flss (hF : Fr n ds F a) (hx : opv F x = some (.float .f64 p)) (hy : opv F y = some (.float .f64 q)) : Yx P B M Z a ⟨dst, .binOp .lss T x y T', ty, pos, aft, g⟩ (.bool (fLt p q)) :=
  yl_of fun w _ => by simp [execOp, hF.eval hx, hF.eval hy, eqGuard, binOp, Op.floatCmp]; rfl
theorem y_fgtr (hF : Fr n ds F a) (hx : opv F x = some (.float .f64 p)) (hy : opv F y = some (.float .f64 q)) : Yx P B M Z a ⟨dst, .binOp .gtr T x y T', ty, pos, aft, g⟩ (.bool (fGt p q)) :=
  yl_of fun w _ => by simp [execOp, hF.eval hx, hF.eval hy, eqGuard, binOp, Op.floatCmp]; rfl
theorem y_fleq (hF : Fr n ds F a) (hx : opv F x = some (.float .f64 p)) (hy : opv F y = some (.float .f64 q)) : Yx P B M Z a ⟨dst, .binOp .leq T x y T', ty, pos, aft, g⟩ (.bool (fLt p q || fEq p q)) :=
  yl_of fun w _ => by simp [execOp, hF.eval hx, hF.eval hy, eqGuard, binOp, Op.floatCmp]; rfl
theorem y_fgeq (hF : Fr n ds F a) (hx : opv F x = some (.float .f64 p)) (hy : opv F y = some (.float .f64 q)) : Yx P B M Z a ⟨dst, .binOp .geq T x y T', ty, pos, aft, g⟩ (.bool (fGt p q || fEq p q)) :=
  yl_of fun w _ => by simp [execOp, hF.eval hx, hF.eval hy, eqGuard, binOp, Op.floatCmp]; rfl
theorem y_feql (hF : Fr n ds F a) (hx : opv F x = some (.float .f64 p)) (hy : opv F y = some (.float .f64 q)) : Yx P B M Z a ⟨dst, .binOp .eql T x y T', ty, pos, aft, g⟩ (.bool (fEq p q)) :=
  yl_of fun w _ => by simp [execOp, hF.eval hx, hF.eval hy, eqGuard, binOp, Op.floatCmp]; rfl
theorem y_fneq (hF : Fr n ds F a) (hx : opv F x = some (.float .f64 p)) (hy : opv F y = some (.float .f64 q)) : Yx P B M Z a ⟨dst, .binOp .neq T x y T', ty, pos, aft, g⟩ (.bool (!(fEq p q))) :=
  yl_of fun w _ => by simp [execOp, hF.eval hx, hF.eval hy, eqGuard, binOp, Op.floatCmp]; rfl

theorem y_fneg (hF : Fr n ds F a) (hx : opv F x = some (.float .f64 p)) : Yx P B M Z a ⟨dst, .unOp .neg T x, ty, pos, aft, g⟩ (.float .f64 (Op.negFloat .f64 p)) :=
  yl_of fun w _ => by simp [execOp, hF.eval hx, Op.unary]
theorem cut_nan (t : Nat) : 9218868437227405312 < ((t % 2) * 2 ^ 63 + 0x7ff0000000000000 + 1 + (t / 2) % (2 ^ 52 - 1)) % 9223372036854775808 := by
  have h1 : t % 2 < 2 := Nat.mod_lt _ (by decide)
  have h2 : (t / 2) % (2 ^ 52 - 1) < 2 ^ 52 - 1 := Nat.mod_lt _ (by decide)
  generalize t % 2 = u at *
  generalize (t / 2) % (2 ^ 52 - 1) = v at *
  omega
/-- A sum: it is what counts of fadd. -/
theorem l_fadd {d : Nat} (hF : Fr n ds F a) (hW : Stw B M Z w) (hn : Nat.blt d n = true) (hx : opv F x = some (.float .f64 p)) (hy : opv F y = some (.float .f64 q))
    (k : ∀ b a' w', cfn b = cfn (fadd p q) → Fr n ds ((d, .float .f64 b) :: F) a' → Stw B M Z w' → wpList P ops Q rest a' w') :
    wpList P ops Q (⟨some d, .binOp .add T x y T', ty, pos, aft, none⟩ :: rest) a w := by
  cases h : Ieee.double.add p q with
  | some r =>
    have hr : (binOp .add T (.float .f64 p) (.float .f64 q)).run P w = .ok (.float .f64 r) w := run_float_arith w .add T .f64 p q r h
    refine ls_wp hF hn (v := .float .f64 r) (w' := w) (by simp [execOp, hF.eval hx, hF.eval hy, eqGuard, hr]) fun a' h' => k r a' w (by unfold fadd; rw [h]) h' hW
  | none =>
    have hr : ∃ b, (binOp .add T (.float .f64 p) (.float .f64 q)).run P w = .ok (.float .f64 b) w.drew ∧ 9218868437227405312 < b % 9223372036854775808 := by
      refine ⟨_, ?_, cut_nan (w.tape w.drawn (.nanBits .f64 p q))⟩
      have h2 : FloatKind.f64.format.add p q = none := h
      simp [binOp, Op.floatArith, h2, Question.forced, Question.cut]
    obtain ⟨b, hb, hn2⟩ := hr
    refine ls_wp hF hn (v := .float .f64 b) (w' := w.drew) (by simp [execOp, hF.eval hx, hF.eval hy, eqGuard, hb]) fun a' h' => k b a' w.drew ?_ h' hW.drew
    unfold fadd
    rw [h]
    unfold cfn
    rw [if_pos hn2, if_pos (by decide)]

/-- A function without a body that the model answers itself. -/
def Ext (P : Program) (f : FuncId) (e : Array Value → Sem Value) : Prop := ∀ args w, (callFunc f args).run P w = ((e args).run P w).andThen fun v w' => .ok (.value v) w'
theorem y_ext {f : FuncId} {e : Array Value → Sem Value} {xs : List Operand} {vs : List Value} {ts : Array TypeId} {v : Value} (hF : Fr n ds F a) (hX : Ext P f e) (hx : evs F xs = some vs) (hv : ∀ w, (e vs.toArray).run P w = .ok v w) :
    Yx P B M Z a ⟨dst, .call ⟨.value (.func f), xs.toArray, ts⟩, ty, pos, aft, g⟩ v := yl_of fun w _ => by
  have h1 : (xs.toArray.map a.eval) = vs.toArray := by rw [← hF.evals hx]; simp
  have h2 : a.eval (.func f) = .func (.func f) #[] #[] := rfl
  have h3 := hX vs.toArray w
  rw [hv w] at h3
  have h4 : (vs.toArray ++ (#[] : Array Value)) = vs.toArray := by simp
  simp only [execOp, resolve, h1, h2, Deferred.ofValue, invoke, Sem.run_bind, Sem.run_pure, Result.andThen_ok, h4]
  have h5 : (#[] : Array Value) ++ vs.toArray = vs.toArray := by simp
  rw [h5, h4, h3]; rfl
end
end Go.Proofs.Ytfnllhjbbcaomaa
