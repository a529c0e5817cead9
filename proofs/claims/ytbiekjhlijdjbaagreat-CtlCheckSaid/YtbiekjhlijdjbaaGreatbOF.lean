/- Floats: their comparisons, sums, bits; functions without a body. Conditions: none. -/
import Derived.Test.YtbiekjhlijdjbaaGreatbOR
import Derived.Laws.FloatArith
import Derived.Laws.Externs
set_option linter.unusedVariables false
set_option linter.unusedSimpArgs false
open Go Go.RowKit
namespace Go.Proofs.YtbiekjhlijdjbaaGreat
def Ni (x y : Nat) : Bool := Ieee.double.order x y == some .eq
def RO (x y : Nat) : Bool := Ieee.double.order x y == some .lt
def SF (x y : Nat) : Bool := Ieee.double.order x y == some .gt
def Le (x y : Nat) : Option Nat := match Ieee.double.order x y with
  | none => none
  | some .lt => some x
  | some .gt => some y
  | some .eq => some (if (FloatKind.f64.decode x).neg then x else y)
def FE (b : Nat) : Nat := if 9218868437227405312 < b % 9223372036854775808 then 9221120237041090561 else b
def FS (x y : Nat) : Nat := match Ieee.double.add x y with | some r => r | none => 9221120237041090561
def fdiv (x y : Nat) : Nat := match Ieee.double.div x y with | some r => r | none => 9221120237041090561
theorem La {b : Nat} (h : 9218868437227405312 < b % 9223372036854775808) : ∃ s f,Ieee.double.read b = .nan s f := by
  have e1 : Ieee.double.signWeight = 9223372036854775808 := by decide
  have e2 : Ieee.double.binade = 4503599627370496 := by decide
  have e3 : Ieee.double.infRung = 9218868437227405312 := by decide
  unfold Ieee.Format.read
  simp only [e1,e2,e3]
  rw [if_neg (by omega),if_neg (by omega),if_neg (by omega)]
  exact ⟨_,_,rfl⟩
theorem QG {b : Nat} (h : 9218868437227405312 < b % 9223372036854775808) : Ni b b = false := by
  obtain ⟨s,f,h⟩ := La h
  unfold Ni Ieee.Format.order
  rw [h]; rfl
theorem V3 {β : Type} {f : Nat → β} (hf : ∀ a,9218868437227405312 < a % 9223372036854775808 → f a = f 9221120237041090561) {a b : Nat} (h : FE a = FE b) : f a = f b := by
  unfold FE at h
  by_cases h1 : 9218868437227405312 < a % 9223372036854775808 <;> by_cases h2 : 9218868437227405312 < b % 9223372036854775808 <;> simp only [h1,h2,if_true,if_false] at h
  · rw [hf a h1,hf b h2]
  · subst h; exact hf a h1
  · subst h; exact (hf b h2).symm
  · rw [h]
section
variable {P : Program} {B : Bs} {M M' : Bi} {Z Z' Z1 : List It} {n : Nat} {ds : List Deferred} {F F' : List (Nat × Value)} {a : Act} {w w' : World}
variable {ops : Array Oper} {Q : Exit → Act → World → Prop} {rest : List Oper} {o : Oper}
variable {dst : Option Tmp} {ty T T' : TypeId} {pos : String} {aft : Array Edge} {g : Option (Nat × Bool)} {x y : Operand} {p q : Nat}
theorem KP (hF : Fr n ds F a) (hx : Bo F x = some (.float .f64 p)) (hy : Bo F y = some (.float .f64 q)) : Yx P B M Z a ⟨dst,.binOp .lss T x y T',ty,pos,aft,g⟩ (.bool (RO p q)) :=
  AZ fun w _ => by simp [execOp,hF.eval hx,hF.eval hy,eqGuard,binOp,Op.floatCmp]; rfl
theorem Tb {ts : Array TypeId} {r : Nat} (hF : Fr n ds F a) (hx : Bo F x = some (.float .f64 p)) (hy : Bo F y = some (.float .f64 q)) (h : Le p q = some r) : Yx P B M Z a ⟨dst,.call ⟨.builtin .min, #[x,y],ts⟩,ty,pos,aft,g⟩ (.float .f64 r) :=
  AZ fun w _ => by
    unfold Le at h
    simp only [execOp,Ax,invoke,builtin,Builtin.min_,hF.eval hx,hF.eval hy]
    cases ho : Ieee.double.order p q with
    | none => rw [ho] at h; cases h
    | some o =>
      rw [ho] at h
      have ho' : FloatKind.f64.format.order p q = some o := ho
      cases o <;> simp only [Option.some.injEq] at h <;> subst h <;> simp [Builtin.min2,ho',hF.eval hx,hF.eval hy]
theorem NO (hF : Fr n ds F a) (hx : Bo F x = some (.float .f64 p)) (hy : Bo F y = some (.float .f64 q)) : Yx P B M Z a ⟨dst,.binOp .gtr T x y T',ty,pos,aft,g⟩ (.bool (SF p q)) :=
  AZ fun w _ => by simp [execOp,hF.eval hx,hF.eval hy,eqGuard,binOp,Op.floatCmp]; rfl
theorem WY (hF : Fr n ds F a) (hx : Bo F x = some (.float .f64 p)) (hy : Bo F y = some (.float .f64 q)) : Yx P B M Z a ⟨dst,.binOp .leq T x y T',ty,pos,aft,g⟩ (.bool (RO p q || Ni p q)) :=
  AZ fun w _ => by simp [execOp,hF.eval hx,hF.eval hy,eqGuard,binOp,Op.floatCmp]; rfl
theorem T6 (hF : Fr n ds F a) (hx : Bo F x = some (.float .f64 p)) (hy : Bo F y = some (.float .f64 q)) : Yx P B M Z a ⟨dst,.binOp .geq T x y T',ty,pos,aft,g⟩ (.bool (SF p q || Ni p q)) :=
  AZ fun w _ => by simp [execOp,hF.eval hx,hF.eval hy,eqGuard,binOp,Op.floatCmp]; rfl
theorem Pp (hF : Fr n ds F a) (hx : Bo F x = some (.float .f64 p)) (hy : Bo F y = some (.float .f64 q)) : Yx P B M Z a ⟨dst,.binOp .eql T x y T',ty,pos,aft,g⟩ (.bool (Ni p q)) :=
  AZ fun w _ => by simp [execOp,hF.eval hx,hF.eval hy,eqGuard,binOp,Op.floatCmp]; rfl
theorem SR (hF : Fr n ds F a) (hx : Bo F x = some (.float .f64 p)) (hy : Bo F y = some (.float .f64 q)) : Yx P B M Z a ⟨dst,.binOp .neq T x y T',ty,pos,aft,g⟩ (.bool (!(Ni p q))) :=
  AZ fun w _ => by simp [execOp,hF.eval hx,hF.eval hy,eqGuard,binOp,Op.floatCmp]; rfl
theorem SS (hF : Fr n ds F a) (hx : Bo F x = some (.float .f64 p)) : Yx P B M Z a ⟨dst,.unOp .neg T x,ty,pos,aft,g⟩ (.float .f64 (Op.negFloat .f64 p)) :=
  AZ fun w _ => by simp [execOp,hF.eval hx,Op.unary]
theorem Vt (t : Nat) : 9218868437227405312 < ((t % 2) * 2 ^ 63 + 0x7ff0000000000000 + 1 + (t / 2) % (2 ^ 52 - 1)) % 9223372036854775808 := by
  have h1 : t % 2 < 2 := Nat.mod_lt _ (by decide)
  have h2 : (t / 2) % (2 ^ 52 - 1) < 2 ^ 52 - 1 := Nat.mod_lt _ (by decide)
  generalize t % 2 = u at *
  generalize (t / 2) % (2 ^ 52 - 1) = v at *
  omega
theorem TH {d : Nat} {op : BinOp} (hop : op = .add ∨ op = .sub ∨ op = .mul ∨ op = .quo) (hF : Fr n ds F a) (hW : Stw B M Z w) (hn : Nat.blt d n = true) (hx : Bo F x = some (.float .f64 p)) (hy : Bo F y = some (.float .f64 q))
    (k : ∀ b a' w',FE b = FE (match floatBits op .f64 p q with | some r => r | none => 9221120237041090561) → Fr n ds ((d,.float .f64 b) :: F) a' → Stw B M Z w' → wpList P ops Q rest a' w') :
    wpList P ops Q (⟨some d,.binOp op T x y T',ty,pos,aft,none⟩ :: rest) a w := by
  have hg : ∀ b w',(binOp op T (.float .f64 p) (.float .f64 q)).run P w = .ok (.float .f64 b) w' → (execOp a.eval ⟨some d,.binOp op T x y T',ty,pos,aft,none⟩).run P w = .ok (.value (.float .f64 b)) w' := by
    intro b w' hr
    rcases hop with rfl | rfl | rfl | rfl <;> simp [execOp,hF.eval hx,hF.eval hy,eqGuard,hr]
  cases h : floatBits op .f64 p q with
  | some r =>
    have hr : (binOp op T (.float .f64 p) (.float .f64 q)).run P w = .ok (.float .f64 r) w := run_float_arith w op T .f64 p q r h
    refine Ja hF hn (v := .float .f64 r) (w' := w) (hg _ _ hr) fun a' h' => k r a' w (by rw [h]) h' hW
  | none =>
    have hr : ∃ b,(binOp op T (.float .f64 p) (.float .f64 q)).run P w = .ok (.float .f64 b) w.drew ∧ 9218868437227405312 < b % 9223372036854775808 := by
      refine ⟨_, ?_,Vt (w.tape w.drawn (.nanBits .f64 p q))⟩
      unfold floatBits at h
      rcases hop with rfl | rfl | rfl | rfl <;> simp only at h <;> simp [binOp,Op.floatArith,h,Question.forced,Question.cut]
    obtain ⟨b,hb,hn2⟩ := hr
    refine Ja hF hn (v := .float .f64 b) (w' := w.drew) (hg _ _ hb) fun a' h' => k b a' w.drew ?_ h' hW.drew
    rw [h]
    unfold FE
    simp only
    rw [if_pos hn2,if_pos (by decide)]
theorem S4 {d : Nat} (hF : Fr n ds F a) (hW : Stw B M Z w) (hn : Nat.blt d n = true) (hx : Bo F x = some (.float .f64 p)) (hy : Bo F y = some (.float .f64 q))
    (k : ∀ b a' w',FE b = FE (FS p q) → Fr n ds ((d,.float .f64 b) :: F) a' → Stw B M Z w' → wpList P ops Q rest a' w') :
    wpList P ops Q (⟨some d,.binOp .add T x y T',ty,pos,aft,none⟩ :: rest) a w := TH (.inl rfl) hF hW hn hx hy k
def Wg (n : Int) : Nat := floatOfInt .f64 n
theorem Up {src dst' : TypeId} {m : Int} {k : IntKind} (hs : P.underlying src = some (.int k)) (hd : P.underlying dst' = some (.float .f64)) (hF : Fr n ds F a) (hx : Bo F x = some (.int k m)) : Yx P B M Z a ⟨dst,.convert src dst' x,ty,pos,aft,g⟩ (.float .f64 (Wg m)) :=
  AZ fun w _ => by simp [execOp,hF.eval hx,convert,Go.underlying,hs,hd,Wg,floatOfInt,Conv.intToFloat]
theorem Tf {src dst' : TypeId} (hs : P.underlying src = some (.float .f64)) (hd : P.underlying dst' = some (.float .f64)) (hF : Fr n ds F a) (hx : Bo F x = some (.float .f64 p)) : Yx P B M Z a ⟨dst,.convert src dst' x,ty,pos,aft,g⟩ (.float .f64 p) :=
  AZ fun w _ => by simp [execOp,hF.eval hx,convert,Go.underlying,hs,hd,Conv.floatToFloat]
def Wx (P : Program) (f : FuncId) (e : Array Value → Sem Value) : Prop := ∀ args w,(callFunc f args).run P w = ((e args).run P w).andThen fun v w' => .ok (.value v) w'
theorem Hm {f : FuncId} {e : Array Value → Sem Value} {xs : List Operand} {vs : List Value} {ts : Array TypeId} {v : Value} (hF : Fr n ds F a) (hX : Wx P f e) (hx : Pk F xs = some vs) (hv : ∀ w,(e vs.toArray).run P w = .ok v w) :
    Yx P B M Z a ⟨dst,.call ⟨.value (.func f),xs.toArray,ts⟩,ty,pos,aft,g⟩ v := AZ fun w _ => by
  have h1 : (xs.toArray.map a.eval) = vs.toArray := by rw [← hF.evals hx]; simp
  have h2 : a.eval (.func f) = .func (.func f) #[] #[] := rfl
  have h3 := hX vs.toArray w
  rw [hv w] at h3
  have h4 : (vs.toArray ++ (#[] : Array Value)) = vs.toArray := by simp
  simp only [execOp,resolve,h1,h2,Deferred.ofValue,invoke,Sem.run_bind,Sem.run_pure,Result.andThen_ok,h4]
  have h5 : (#[] : Array Value) ++ vs.toArray = vs.toArray := by simp
  rw [h5,h4,h3]; rfl
end
end Go.Proofs.YtbiekjhlijdjbaaGreat
