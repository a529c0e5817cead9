/- Floats: their comparisons, sums, bits; functions without a body. Conditions: none. -/
import Derived.Test.YtphhiiemopkinaaOR
import Derived.Laws.FloatArith
import Derived.Laws.Externs
namespace Go.Proofs.Ytphhiiemopkinaa
set_option linter.unusedVariables false
set_option linter.unusedSimpArgs false
open Go Go.RowKit

def fEq (x y : Nat) : Bool := Ieee.double.order x y == some .eq
def fLt (x y : Nat) : Bool := Ieee.double.order x y == some .lt
def fGt (x y : Nat) : Bool := Ieee.double.order x y == some .gt
/-- The bits that count. -/
def cfn (b : Nat) : Nat := if 9218868437227405312 < b % 9223372036854775808 then 9221120237041090561 else b
/-- A sum; where the bits are not fixed, those of one NaN. -/
def fadd (x y : Nat) : Nat := match Ieee.double.add x y with | some r => r | none => 9221120237041090561
def fsub (x y : Nat) : Nat := match Ieee.double.sub x y with | some r => r | none => 9221120237041090561
def fmul (x y : Nat) : Nat := match Ieee.double.mul x y with | some r => r | none => 9221120237041090561
def fdiv (x y : Nat) : Nat := match Ieee.double.div x y with | some r => r | none => 9221120237041090561

theorem read_nan {b : Nat} (h : 9218868437227405312 < b % 9223372036854775808) : ∃ s f, Ieee.double.read b = .nan s f := by
  have e1 : Ieee.double.signWeight = 9223372036854775808 := by decide
  have e2 : Ieee.double.binade = 4503599627370496 := by decide
  have e3 : Ieee.double.infRung = 9218868437227405312 := by decide
  unfold Ieee.Format.read
  simp only [e1, e2, e3]
  rw [if_neg (by omega), if_neg (by omega), if_neg (by omega)]
  exact ⟨_, _, rfl⟩
theorem cfn_cases (a b : Nat) (h : cfn a = cfn b) : a = b ∨ ((∃ s f, Ieee.double.read a = .nan s f) ∧ ∃ s f, Ieee.double.read b = .nan s f) := by
  have hc : ∃ s f, Ieee.double.read 9221120237041090561 = .nan s f := read_nan (by decide)
  unfold cfn at h
  by_cases h1 : 9218868437227405312 < a % 9223372036854775808 <;> by_cases h2 : 9218868437227405312 < b % 9223372036854775808 <;> simp only [h1, h2, if_true, if_false] at h
  · exact .inr ⟨read_nan h1, read_nan h2⟩
  · subst h; exact .inr ⟨read_nan h1, hc⟩
  · subst h; exact .inr ⟨hc, read_nan h2⟩
  · exact .inl h
theorem fEq_nan {b : Nat} (h : 9218868437227405312 < b % 9223372036854775808) : fEq b b = false := by
  obtain ⟨s, f, h⟩ := read_nan h
  unfold fEq Ieee.Format.order
  rw [h]; rfl
theorem sum_nanL {x : Nat} (h : ∃ s f, Ieee.double.read x = .nan s f) (y : Nat) : Ieee.double.add x y = none := by
  obtain ⟨s, f, h⟩ := h
  unfold Ieee.Format.add
  rw [h]; rfl
theorem sum_nanR {y : Nat} (h : ∃ s f, Ieee.double.read y = .nan s f) (x : Nat) : Ieee.double.add x y = none := by
  obtain ⟨s, f, h⟩ := h
  unfold Ieee.Format.add
  rw [h]
  cases Ieee.double.read x <;> rfl
theorem add_cf {a b c d : Nat} (h1 : cfn a = cfn b) (h2 : cfn c = cfn d) : Ieee.double.add a c = Ieee.double.add b d := by
  rcases cfn_cases a b h1 with rfl | ⟨ha, hb⟩
  · rcases cfn_cases c d h2 with rfl | ⟨hc, hd⟩
    · rfl
    · rw [sum_nanR hc, sum_nanR hd]
  · rw [sum_nanL ha, sum_nanL hb]
theorem fadd_cf {a b c d g : Nat} (h1 : cfn a = cfn b) (h2 : cfn c = cfn d) (hg : cfn g = cfn (fadd a c)) : cfn g = cfn (fadd b d) := by
  rw [hg]; unfold fadd; rw [add_cf h1 h2]

theorem oth_nan {x : Nat} (h : ∃ s f, Ieee.double.read x = .nan s f) (y : Nat) : (Ieee.double.sub x y = none ∧ Ieee.double.mul x y = none ∧ Ieee.double.div x y = none) ∧ (Ieee.double.sub y x = none ∧ Ieee.double.mul y x = none ∧ Ieee.double.div y x = none) := by
  obtain ⟨s, f, h⟩ := h
  unfold Ieee.Format.sub Ieee.Format.mul Ieee.Format.div
  rw [h]
  refine ⟨⟨rfl, rfl, rfl⟩, ?_, ?_, ?_⟩ <;> cases Ieee.double.read y <;> rfl
theorem oth_cf {a b c d : Nat} (h1 : cfn a = cfn b) (h2 : cfn c = cfn d) : Ieee.double.sub a c = Ieee.double.sub b d ∧ Ieee.double.mul a c = Ieee.double.mul b d ∧ Ieee.double.div a c = Ieee.double.div b d := by
  rcases cfn_cases a b h1 with rfl | ⟨ha, hb⟩
  · rcases cfn_cases c d h2 with rfl | ⟨hc, hd⟩
    · exact ⟨rfl, rfl, rfl⟩
    · have e1 := (oth_nan hc a).2
      have e2 := (oth_nan hd a).2
      exact ⟨e1.1.trans e2.1.symm, e1.2.1.trans e2.2.1.symm, e1.2.2.trans e2.2.2.symm⟩
  · have e1 := (oth_nan ha c).1
    have e2 := (oth_nan hb d).1
    exact ⟨e1.1.trans e2.1.symm, e1.2.1.trans e2.2.1.symm, e1.2.2.trans e2.2.2.symm⟩
theorem fsub_cf {a b c d g : Nat} (h1 : cfn a = cfn b) (h2 : cfn c = cfn d) (hg : cfn g = cfn (fsub a c)) : cfn g = cfn (fsub b d) := by
  rw [hg]; unfold fsub; rw [(oth_cf h1 h2).1]
theorem fmul_cf {a b c d g : Nat} (h1 : cfn a = cfn b) (h2 : cfn c = cfn d) (hg : cfn g = cfn (fmul a c)) : cfn g = cfn (fmul b d) := by
  rw [hg]; unfold fmul; rw [(oth_cf h1 h2).2.1]
theorem fdiv_cf {a b c d g : Nat} (h1 : cfn a = cfn b) (h2 : cfn c = cfn d) (hg : cfn g = cfn (fdiv a c)) : cfn g = cfn (fdiv b d) := by
  rw [hg]; unfold fdiv; rw [(oth_cf h1 h2).2.2]
/-- Comparisons don't tell NaNs apart. -/
theorem order_cf {a b c d : Nat} (h1 : cfn a = cfn b) (h2 : cfn c = cfn d) : Ieee.double.order a c = Ieee.double.order b d := by
  have hl : ∀ x, (∃ s f, Ieee.double.read x = .nan s f) → ∀ y, Ieee.double.order x y = none ∧ Ieee.double.order y x = none := fun x ⟨s, f, e⟩ y => by
    unfold Ieee.Format.order
    rw [e]
    exact ⟨rfl, by cases Ieee.double.read y <;> rfl⟩
  rcases cfn_cases a b h1 with rfl | ⟨ha, hb⟩
  · rcases cfn_cases c d h2 with rfl | ⟨hc, hd⟩
    · rfl
    · rw [(hl c hc a).2, (hl d hd a).2]
  · rw [(hl a ha c).1, (hl b hb d).1]
theorem fLt_cf {a b c d : Nat} (h1 : cfn a = cfn b) (h2 : cfn c = cfn d) : fLt a c = fLt b d := by unfold fLt; rw [order_cf h1 h2]
theorem fGt_cf {a b c d : Nat} (h1 : cfn a = cfn b) (h2 : cfn c = cfn d) : fGt a c = fGt b d := by unfold fGt; rw [order_cf h1 h2]
theorem fEq_cf {a b c d : Nat} (h1 : cfn a = cfn b) (h2 : cfn c = cfn d) : fEq a c = fEq b d := by unfold fEq; rw [order_cf h1 h2]
/-- What does not tell NaNs apart sees only the bits that count. -/
theorem cf_of {β : Type} {f : Nat → β} (hf : ∀ a, 9218868437227405312 < a % 9223372036854775808 → f a = f 9221120237041090561) {a b : Nat} (h : cfn a = cfn b) : f a = f b := by
  unfold cfn at h
  by_cases h1 : 9218868437227405312 < a % 9223372036854775808 <;> by_cases h2 : 9218868437227405312 < b % 9223372036854775808 <;> simp only [h1, h2, if_true, if_false] at h
  · rw [hf a h1, hf b h2]
  · subst h; exact hf a h1
  · subst h; exact (hf b h2).symm
  · rw [h]

section
variable {P : Program} {B : Bs} {M M' : Blks} {Z Z' Z1 : List It} {n : Nat} {ds : List Deferred} {F F' : List (Nat × Value)} {a : Act} {w w' : World}
variable {ops : Array Oper} {Q : Exit → Act → World → Prop} {rest : List Oper} {o : Oper}
variable {dst : Option Tmp} {ty T T' : TypeId} {pos : String} {aft : Array Edge} {g : Option (Nat × Bool)} {x y : Operand} {p q : Nat}

theorem y_flss (hF : Fr n ds F a) (hx : opv F x = some (.float .f64 p)) (hy : opv F y = some (.float .f64 q)) : Yx P B M Z a ⟨dst, .binOp .lss T x y T', ty, pos, aft, g⟩ (.bool (fLt p q)) :=
  yl_of fun w _ => by simp [execOp, hF.eval hx, hF.eval hy, eqGuard, binOp, Op.floatCmp]; rfl
theorem y_fgtr (hF : Fr n ds F a) (hx : opv F x = some (.float .f64 p)) (hy : opv F y = some (.float .f64 q)) : Yx P B M Z a ⟨dst, .binOp .gtr T x y T', ty, pos, aft, g⟩ (.bool (fGt p q)) :=
  yl_of fun w _ => by simp [execOp, hF.eval hx, hF.eval hy, eqGuard, binOp, Op.floatCmp]; rfl
theorem y_fleq (hF : Fr n ds F a) (hx : opv F x = some (.float .f64 p)) (hy : opv F y = some (.float .f64 q)) : Yx P B M Z a ⟨dst, .binOp .leq T x y T', ty, pos, aft, g⟩ (.bool (fLt p q || fEq p q)) :=
  yl_of fun w _ => by simp [execOp, hF.eval hx, hF.eval hy, eqGuard, binOp, Op.floatCmp]; rfl
theorem y_fgeq (hF : Fr n ds F a) (hx : opv F x = some (.float .f64 p)) (hy : opv F y = some (.float .f64 q)) : Yx P B M Z a ⟨dst, .binOp .geq T x y T', ty, pos, aft, g⟩ (.bool (fGt p q || fEq p q)) :=
  yl_of fun w _ => by simp [execOp, hF.eval hx, hF.eval hy, eqGuard, binOp, Op.floatCmp]; rfl
theorem y_feql (hF : Fr n ds F a) (hx : opv F x = some (.float .f64 p)) (hy : opv F y = some (.float .f64 q)) : Yx P B M Z a ⟨dst, .binOp .eql T x y T', ty, pos, aft, g⟩ (.bool (fEq p q)) :=
  yl_of fun w _ => by simp [execOp, hF.eval hx, hF.eval hy, eqGuard, binOp, Op.floatCmp]; rfl
theorem y_fneq (hF : Fr n ds F a) (hx : opv F x = some (.float .f64 p)) (hy : opv F y = some (.float .f64 q)) : Yx P B M Z a ⟨dst, .binOp .neq T x y T', ty, pos, aft, g⟩ (.bool (!(fEq p q))) :=
  yl_of fun w _ => by simp [execOp, hF.eval hx, hF.eval hy, eqGuard, binOp, Op.floatCmp]; rfl

theorem y_fneg (hF : Fr n ds F a) (hx : opv F x = some (.float .f64 p)) : Yx P B M Z a ⟨dst, .unOp .neg T x, ty, pos, aft, g⟩ (.float .f64 (Op.negFloat .f64 p)) :=
  yl_of fun w _ => by simp [execOp, hF.eval hx, Op.unary]
theorem cut_nan (t : Nat) : 9218868437227405312 < ((t % 2) * 2 ^ 63 + 0x7ff0000000000000 + 1 + (t / 2) % (2 ^ 52 - 1)) % 9223372036854775808 := by
  have h1 : t % 2 < 2 := Nat.mod_lt _ (by decide)
  have h2 : (t / 2) % (2 ^ 52 - 1) < 2 ^ 52 - 1 := Nat.mod_lt _ (by decide)
  generalize t % 2 = u at *
  generalize (t / 2) % (2 ^ 52 - 1) = v at *
  omega
/-- Arithmetic: where the bits are not fixed the tape gives some NaN. -/
theorem l_farith {d : Nat} {op : BinOp} (hop : op = .add ∨ op = .sub ∨ op = .mul ∨ op = .quo) (hF : Fr n ds F a) (hW : Stw B M Z w) (hn : Nat.blt d n = true) (hx : opv F x = some (.float .f64 p)) (hy : opv F y = some (.float .f64 q))
    (k : ∀ b a' w', cfn b = cfn (match floatBits op .f64 p q with | some r => r | none => 9221120237041090561) → Fr n ds ((d, .float .f64 b) :: F) a' → Stw B M Z w' → wpList P ops Q rest a' w') :
    wpList P ops Q (⟨some d, .binOp op T x y T', ty, pos, aft, none⟩ :: rest) a w := by
  have hg : ∀ b w', (binOp op T (.float .f64 p) (.float .f64 q)).run P w = .ok (.float .f64 b) w' → (execOp a.eval ⟨some d, .binOp op T x y T', ty, pos, aft, none⟩).run P w = .ok (.value (.float .f64 b)) w' := by
    intro b w' hr
    rcases hop with rfl | rfl | rfl | rfl <;> simp [execOp, hF.eval hx, hF.eval hy, eqGuard, hr]
  cases h : floatBits op .f64 p q with
  | some r =>
    have hr : (binOp op T (.float .f64 p) (.float .f64 q)).run P w = .ok (.float .f64 r) w := run_float_arith w op T .f64 p q r h
    refine ls_wp hF hn (v := .float .f64 r) (w' := w) (hg _ _ hr) fun a' h' => k r a' w (by rw [h]) h' hW
  | none =>
    have hr : ∃ b, (binOp op T (.float .f64 p) (.float .f64 q)).run P w = .ok (.float .f64 b) w.drew ∧ 9218868437227405312 < b % 9223372036854775808 := by
      refine ⟨_, ?_, cut_nan (w.tape w.drawn (.nanBits .f64 p q))⟩
      unfold floatBits at h
      rcases hop with rfl | rfl | rfl | rfl <;> simp only at h <;> simp [binOp, Op.floatArith, h, Question.forced, Question.cut]
    obtain ⟨b, hb, hn2⟩ := hr
    refine ls_wp hF hn (v := .float .f64 b) (w' := w.drew) (hg _ _ hb) fun a' h' => k b a' w.drew ?_ h' hW.drew
    rw [h]
    unfold cfn
    simp only
    rw [if_pos hn2, if_pos (by decide)]
theorem l_fadd {d : Nat} (hF : Fr n ds F a) (hW : Stw B M Z w) (hn : Nat.blt d n = true) (hx : opv F x = some (.float .f64 p)) (hy : opv F y = some (.float .f64 q))
    (k : ∀ b a' w', cfn b = cfn (fadd p q) → Fr n ds ((d, .float .f64 b) :: F) a' → Stw B M Z w' → wpList P ops Q rest a' w') :
    wpList P ops Q (⟨some d, .binOp .add T x y T', ty, pos, aft, none⟩ :: rest) a w := l_farith (.inl rfl) hF hW hn hx hy k
theorem l_fsub {d : Nat} (hF : Fr n ds F a) (hW : Stw B M Z w) (hn : Nat.blt d n = true) (hx : opv F x = some (.float .f64 p)) (hy : opv F y = some (.float .f64 q))
    (k : ∀ b a' w', cfn b = cfn (fsub p q) → Fr n ds ((d, .float .f64 b) :: F) a' → Stw B M Z w' → wpList P ops Q rest a' w') :
    wpList P ops Q (⟨some d, .binOp .sub T x y T', ty, pos, aft, none⟩ :: rest) a w := l_farith (.inr (.inl rfl)) hF hW hn hx hy k
theorem l_fmul {d : Nat} (hF : Fr n ds F a) (hW : Stw B M Z w) (hn : Nat.blt d n = true) (hx : opv F x = some (.float .f64 p)) (hy : opv F y = some (.float .f64 q))
    (k : ∀ b a' w', cfn b = cfn (fmul p q) → Fr n ds ((d, .float .f64 b) :: F) a' → Stw B M Z w' → wpList P ops Q rest a' w') :
    wpList P ops Q (⟨some d, .binOp .mul T x y T', ty, pos, aft, none⟩ :: rest) a w := l_farith (.inr (.inr (.inl rfl))) hF hW hn hx hy k
theorem l_fdiv {d : Nat} (hF : Fr n ds F a) (hW : Stw B M Z w) (hn : Nat.blt d n = true) (hx : opv F x = some (.float .f64 p)) (hy : opv F y = some (.float .f64 q))
    (k : ∀ b a' w', cfn b = cfn (fdiv p q) → Fr n ds ((d, .float .f64 b) :: F) a' → Stw B M Z w' → wpList P ops Q rest a' w') :
    wpList P ops Q (⟨some d, .binOp .quo T x y T', ty, pos, aft, none⟩ :: rest) a w := l_farith (.inr (.inr (.inr rfl))) hF hW hn hx hy k
/-- Conversions: of an integer; of a number of the same kind. -/
def fInt (n : Int) : Nat := floatOfInt .f64 n
theorem y_convIF {src dst' : TypeId} {m : Int} {k : IntKind} (hs : P.underlying src = some (.int k)) (hd : P.underlying dst' = some (.float .f64)) (hF : Fr n ds F a) (hx : opv F x = some (.int k m)) : Yx P B M Z a ⟨dst, .convert src dst' x, ty, pos, aft, g⟩ (.float .f64 (fInt m)) :=
  yl_of fun w _ => by simp [execOp, hF.eval hx, convert, Go.underlying, hs, hd, fInt, floatOfInt, Conv.intToFloat]
theorem y_convFF {src dst' : TypeId} (hs : P.underlying src = some (.float .f64)) (hd : P.underlying dst' = some (.float .f64)) (hF : Fr n ds F a) (hx : opv F x = some (.float .f64 p)) : Yx P B M Z a ⟨dst, .convert src dst' x, ty, pos, aft, g⟩ (.float .f64 p) :=
  yl_of fun w _ => by simp [execOp, hF.eval hx, convert, Go.underlying, hs, hd, Conv.floatToFloat]

/-- A function without a body that the model answers itself. -/
def Ext (P : Program) (f : FuncId) (e : Array Value → Sem Value) : Prop := ∀ args w, (callFunc f args).run P w = ((e args).run P w).andThen fun v w' => .ok (.value v) w'
theorem y_ext {f : FuncId} {e : Array Value → Sem Value} {xs : List Operand} {vs : List Value} {ts : Array TypeId} {v : Value} (hF : Fr n ds F a) (hX : Ext P f e) (hx : evs F xs = some vs) (hv : ∀ w, (e vs.toArray).run P w = .ok v w) :
    Yx P B M Z a ⟨dst, .call ⟨.value (.func f), xs.toArray, ts⟩, ty, pos, aft, g⟩ v := yl_of fun w _ => by
  have h1 : (xs.toArray.map a.eval) = vs.toArray := by rw [← hF.evals hx]; simp
  have h2 : a.eval (.func f) = .func (.func f) #[] #[] := rfl
  have h3 := hX vs.toArray w
  rw [hv w] at h3
  have h4 : (vs.toArray ++ (#[] : Array Value)) = vs.toArray := by simp
  simp only [execOp, resolve, h1, h2, Deferred.ofValue, invoke, Sem.run_bind, Sem.run_pure, Result.andThen_ok, h4]
  have h5 : (#[] : Array Value) ++ vs.toArray = vs.toArray := by simp
  rw [h5, h4, h3]; rfl
end
end Go.Proofs.Ytphhiiemopkinaa
