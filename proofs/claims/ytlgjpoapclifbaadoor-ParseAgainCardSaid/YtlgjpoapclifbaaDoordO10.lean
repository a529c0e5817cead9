/- Strings, bytes, bits, conversions, make. Conditions: none. -/
import Derived.Test.YtlgjpoapclifbaaDoordO9
import Derived.Laws.BytesString
import Derived.Laws.MakeOwn
namespace Go.Proofs.YtlgjpoapclifbaaDoor
set_option linter.unusedVariables false
set_option linter.unusedSimpArgs false
open Go Go.RowKit
theorem Jg (l : List UInt8) : (bs l).size = l.length := by simp [ByteArray.size]
theorem PQ (l m : List UInt8) : bs l ++ bs m = bs (l ++ m) := by apply ByteArray.ext; simp
theorem M3 (l : List UInt8) : (bs l).toList = l := by simp
theorem SA (l : List UInt8) (i : Nat) : (bs l)[i]? = l[i]? := by
  by_cases h : i < l.length
  · rw [List.getElem?_eq_getElem h]
    have h' : i < (bs l).size := by rw [Jg]; exact h
    simp only [getElem?_def, h', dite_true]
    rfl
  · rw [List.getElem?_eq_none (by omega)]
    have h' : ¬ i < (bs l).size := by rw [Jg]; exact h
    simp only [getElem?_def, h', dite_false]
theorem OV (l : List UInt8) (i j : Nat) : (bs l).extract i j = bs ((l.take j).drop i) := by
  apply ByteArray.ext; simp [List.drop_take]
def SK (k : IntKind) (x y : Int) : Int := k.wrap (x * 2 ^ (min y.toNat k.bits))
def Ub (v : Int) (y : Int) : Option Int := if 0 ≤ y then some v else none
theorem Oe {v y r : Int} (h : Ub v y = some r) : 0 ≤ y ∧ v = r := by
  unfold Ub at h; split at h <;> simp_all
theorem RU (l m : List UInt8) : (l == m) = decide (l = m) := by by_cases h : l = m <;> simp [h]
section
variable {P : Program} {B : Bs} {M M' : Eo} {Z Z' Z1 : List It} {n : Nat} {ds : List Deferred} {F F' : List (Nat × Value)} {a : Act} {w w' : World}
variable {ops : Array Oper} {Q : Exit → Act → World → Prop} {rest : List Oper} {o : Oper}
variable {dst : Option Tmp} {ty : TypeId} {pos : String} {aft : Array Edge} {g : Option (Nat × Bool)} {v : Value}
variable {α : Type} {r : Rp α} {l m : List UInt8} {x y : Operand} {T T' t e by_ : Nat} {p q : Int} {k k' : IntKind}
theorem Tq (hF : Fr n ds F a) (hx : Fq F x = some (.int k p)) (hy : Fq F y = some (.int k' q)) (h0 : 0 ≤ q) : Yx P B M Z a ⟨dst, .binOp .shl T x y T', ty, pos, aft, g⟩ (.int k (SK k p q)) :=
  CS fun w _ => by
    have : ¬ q < 0 := by omega
    simp [execOp, hF.eval hx, hF.eval hy, Cs, binOp, Op.shift, this, SK]
theorem RM {src dst' : TypeId} (hs : P.underlying src = some (.int k)) (hd : P.underlying dst' = some (.int k')) (hF : Fr n ds F a) (hx : Fq F x = some (.int k p)) : Yx P B M Z a ⟨dst, .convert src dst' x, ty, pos, aft, g⟩ (.int k' (k'.wrap p)) :=
  CS fun w _ => by simp [execOp, hF.eval hx, convert, Go.underlying, hs, hd, Conv.intToInt]
theorem Tw {o : Oper} {u v : Int} (h : u = v) (y : Yx P B M Z a o (.int k u)) : Yx P B M Z a o (.int k v) := by subst h; exact y
section
variable {ad : Addr} {pt : TypeId}
end
theorem Fm {l3 : List UInt8} (hF : Fr n ds F a) (hx : Fq F x = some (.string (bs l))) (hy : Fq F y = some (.string (bs m))) (ha : D0 l m = some l3) : Yx P B M Z a ⟨dst, .binOp .add T x y T', ty, pos, aft, g⟩ (.string (bs l3)) :=
  CS fun w _ => by
    obtain ⟨h1, rfl⟩ := N9 ha
    have h2 : ¬ ((((bs l).size + (bs m).size : Nat) : Int) > IntKind.i64.max) := by rw [Jg, Jg]; have : IntKind.i64.max = 9223372036854775807 := rfl; omega
    have h3 : (Op.stringOp .add (bs l) (bs m)).run P w = .ok (.string (bs (l ++ m))) w := by
      unfold Op.stringOp
      simp only [if_neg h2]
      rw [PQ]; rfl
    simp only [execOp, hF.eval hx, hF.eval hy, Sem.run_bind, G5, binOp, h3, Result.andThen_ok]
    rfl
theorem Po {op : BinOp} {u : Bool} (h : (Op.stringOp op (bs l) (bs m)).run P w = .ok (.bool u) w) (h1 : op ≠ .shl) (h2 : op ≠ .shr) (hF : Fr n ds F a) (hx : Fq F x = some (.string (bs l))) (hy : Fq F y = some (.string (bs m))) : (execOp a.eval ⟨dst, .binOp op T x y T', ty, pos, aft, g⟩).run P w = .ok (.value (.bool u)) w := by
  simp only [execOp, hF.eval hx, hF.eval hy, Sem.run_bind, G5, Result.andThen_ok]
  have : binOp op T (.string (bs l)) (.string (bs m)) = Op.stringOp op (bs l) (bs m) := by cases op <;> rfl
  simp only [this, h, Result.andThen_ok]
  rfl
theorem KT (hF : Fr n ds F a) (hx : Fq F x = some (.string (bs l))) (hy : Fq F y = some (.string (bs m))) : Yx P B M Z a ⟨dst, .binOp .eql T x y T', ty, pos, aft, g⟩ (.bool (decide (l = m))) :=
  CS fun w _ => Po (by
    simp only [Op.stringOp, M3]
    rw [RU]; rfl) (by simp) (by simp) hF hx hy
theorem Si (hF : Fr n ds F a) (hx : Fq F x = some (.string (bs l))) (hy : Fq F y = some (.string (bs m))) : Yx P B M Z a ⟨dst, .binOp .neq T x y T', ty, pos, aft, g⟩ (.bool (decide (l ≠ m))) :=
  CS fun w _ => Po (by
    simp only [Op.stringOp, M3]
    have : (!(l == m)) = decide (l ≠ m) := by
      by_cases h : l = m <;> simp [h]
    rw [this]; rfl) (by simp) (by simp) hF hx hy
theorem Fo {ts : Array TypeId} (ht : P.underlying t = some .string) (hts : ts[0]? = some t) (hF : Fr n ds F a) (hx : Fq F x = some (.string (bs l))) :
    Yx P B M Z a ⟨dst, .call ⟨.builtin .len, #[x], ts⟩, ty, pos, aft, g⟩ (.int .i64 (l.length : Int)) :=
  CS fun w hw => by
    have hts' : ts.toList[0]? = some t := by simpa using hts
    have := Jg l
    simp [execOp, Dc, invoke, builtin, Builtin.len_, hF.eval hx, hts, Go.underlying, ht, goInt, this]
theorem HZ {i : Int} {c : UInt8} {k : IntKind} (ht : P.underlying t = some .string) (hF : Fr n ds F a) (hx : Fq F x = some (.string (bs l))) (hi : Fq F y = some (.int k i)) (h : ix l i = some c) :
    Yx P B M Z a ⟨dst, .index t x y, ty, pos, aft, g⟩ (.int .u8 (c.toNat : Int)) :=
  CS fun w hw => by
    obtain ⟨h0, hk, hc⟩ := Mf h
    have hg : (if 0 ≤ i then (bs l)[i.toNat]? else none) = some c := by rw [if_pos h0, SA]; exact hc
    simp only [execOp, Instr.indexAt, hF.eval hx, hF.eval hi, Instr.index, asIntOf, Go.underlying, Sem.run_bind, run_program, ht, Result.andThen_ok, Sem.run_pure, hg]
theorem IK {lop hop : Option Operand} {lo hi : Int} (ht : P.underlying t = some .string) (hF : Fr n ds F a) (hx : Fq F x = some (.string (bs l))) (hl : (match lop with | none => lo = 0 | some q => Fq F q = some (.int .i64 lo))) (hh : (match hop with | none => hi = l.length | some q => Fq F q = some (.int .i64 hi))) (hs : GP l lo hi = some m) :
    Yx P B M Z a ⟨dst, .slice t x lop hop none, ty, pos, aft, g⟩ (.string (bs m)) :=
  CS fun w hw => by
    obtain ⟨h1, h2, h3, rfl⟩ := Jd hs
    have hb : ∀ (y : Nat) (code : BoundsCode) (q : Int), 0 ≤ q → q ≤ y → (Instr.sliceBound (.int .i64 q) y code).run P w = .ok q.toNat w := fun y code q h0 h4 => by
      simp [Instr.sliceBound, asIntOf, h0, h4]
    have hxe := hF.eval hx
    have hsz := Jg l
    have k1 : ∀ code, (Instr.sliceBound (.int .i64 hi) l.length code).run P w = .ok hi.toNat w := fun code => hb _ code hi (by omega) (by omega)
    have k2 : ∀ code, (Instr.sliceBound (.int .i64 lo) hi.toNat code).run P w = .ok lo.toNat w := fun code => hb _ code lo h1 (by omega)
    have k3 : ∀ code, (Instr.sliceBound (.int .i64 lo) l.length code).run P w = .ok lo.toNat w := fun code => hb _ code lo h1 (by omega)
    have ex : ∀ i j, (bs l).extract i j = bs ((l.take j).drop i) := OV l
    cases lop with
    | none =>
      simp only at hl
      subst hl
      cases hop with
      | none =>
        simp only at hh
        subst hh
        simp only [execOp, Instr.sliceAt, Instr.slice, Instr.sliceBounds, Go.underlying, Sem.run_bind, run_program, ht, hxe, hsz, Result.andThen_ok, Sem.run_pure, Option.map_none, Option.isSome_none, Bool.false_eq_true, if_false, ex]
        simp
      | some q =>
        have hhe := hF.eval hh
        simp only [execOp, Instr.sliceAt, Instr.slice, Instr.sliceBounds, Go.underlying, Sem.run_bind, run_program, ht, hxe, hhe, hsz, k1, Result.andThen_ok, Sem.run_pure, Option.map_none, Option.map_some, Option.isSome_none, Bool.false_eq_true, if_false, ex]
        simp
    | some p =>
      have hle := hF.eval hl
      cases hop with
      | none =>
        simp only at hh
        subst hh
        simp only [execOp, Instr.sliceAt, Instr.slice, Instr.sliceBounds, Go.underlying, Sem.run_bind, run_program, ht, hxe, hle, hsz, k3, Result.andThen_ok, Sem.run_pure, Option.map_none, Option.map_some, Option.isSome_none, Bool.false_eq_true, if_false, ex]
        simp
      | some q =>
        have hhe := hF.eval hh
        simp only [execOp, Instr.sliceAt, Instr.slice, Instr.sliceBounds, Go.underlying, Sem.run_bind, run_program, ht, hxe, hle, hhe, hsz, k1, k2, Result.andThen_ok, Sem.run_pure, Option.map_none, Option.map_some, Option.isSome_none, Bool.false_eq_true, if_false, ex]
end
end Go.Proofs.YtlgjpoapclifbaaDoor
