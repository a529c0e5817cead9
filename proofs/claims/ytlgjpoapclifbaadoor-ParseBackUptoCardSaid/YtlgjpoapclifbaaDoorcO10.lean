/- Strings, bytes, bits, conversions, make. Conditions: none. -/
import Derived.Test.YtlgjpoapclifbaaDoorcO9
import Derived.Laws.BytesString
import Derived.Laws.MakeOwn
namespace Go.Proofs.YtlgjpoapclifbaaDoor
set_option linter.unusedVariables false
set_option linter.unusedSimpArgs false
open Go Go.RowKit
theorem Jl (l : List UInt8) : (bs l).size = l.length := by simp [ByteArray.size]
theorem Rq (l m : List UInt8) : bs l ++ bs m = bs (l ++ m) := by apply ByteArray.ext; simp
theorem ND (l : List UInt8) : (bs l).toList = l := by simp
theorem Ue (l : List UInt8) (i : Nat) : (bs l)[i]? = l[i]? := by
  by_cases h : i < l.length
  · rw [List.getElem?_eq_getElem h]
    have h' : i < (bs l).size := by rw [Jl]; exact h
    simp only [getElem?_def, h', dite_true]
    rfl
  · rw [List.getElem?_eq_none (by omega)]
    have h' : ¬ i < (bs l).size := by rw [Jl]; exact h
    simp only [getElem?_def, h', dite_false]
theorem PZ (l : List UInt8) (i j : Nat) : (bs l).extract i j = bs ((l.take j).drop i) := by
  apply ByteArray.ext; simp [List.drop_take]
theorem Th (l m : List UInt8) : (l == m) = decide (l = m) := by by_cases h : l = m <;> simp [h]
section
variable {P : Program} {B : Bs} {M M' : EO} {Z Z' Z1 : List It} {n : Nat} {ds : List Deferred} {F F' : List (Nat × Value)} {a : Act} {w w' : World}
variable {ops : Array Oper} {Q : Exit → Act → World → Prop} {rest : List Oper} {o : Oper}
variable {dst : Option Tmp} {ty : TypeId} {pos : String} {aft : Array Edge} {g : Option (Nat × Bool)} {v : Value}
variable {α : Type} {r : Rp α} {l m : List UInt8} {x y : Operand} {T T' t e by_ : Nat} {p q : Int} {k k' : IntKind}
theorem SO {src dst' : TypeId} (hs : P.underlying src = some (.int k)) (hd : P.underlying dst' = some (.int k')) (hF : Fr n ds F a) (hx : FU F x = some (.int k p)) : Yx P B M Z a ⟨dst, .convert src dst' x, ty, pos, aft, g⟩ (.int k' (k'.wrap p)) :=
  CU fun w _ => by simp [execOp, hF.eval hx, convert, Go.underlying, hs, hd, Conv.intToInt]
section
variable {ad : Addr} {pt : TypeId}
end
theorem Cw {l3 : List UInt8} (hF : Fr n ds F a) (hx : FU F x = some (.string (bs l))) (hy : FU F y = some (.string (bs m))) (ha : DQ l m = some l3) : Yx P B M Z a ⟨dst, .binOp .add T x y T', ty, pos, aft, g⟩ (.string (bs l3)) :=
  CU fun w _ => by
    obtain ⟨h1, rfl⟩ := Pq ha
    have h2 : ¬ ((((bs l).size + (bs m).size : Nat) : Int) > IntKind.i64.max) := by rw [Jl, Jl]; have : IntKind.i64.max = 9223372036854775807 := rfl; omega
    have h3 : (Op.stringOp .add (bs l) (bs m)).run P w = .ok (.string (bs (l ++ m))) w := by
      unfold Op.stringOp
      simp only [if_neg h2]
      rw [Rq]; rfl
    simp only [execOp, hF.eval hx, hF.eval hy, Sem.run_bind, Hc, binOp, h3, Result.andThen_ok]
    rfl
theorem Qn {op : BinOp} {u : Bool} (h : (Op.stringOp op (bs l) (bs m)).run P w = .ok (.bool u) w) (h1 : op ≠ .shl) (h2 : op ≠ .shr) (hF : Fr n ds F a) (hx : FU F x = some (.string (bs l))) (hy : FU F y = some (.string (bs m))) : (execOp a.eval ⟨dst, .binOp op T x y T', ty, pos, aft, g⟩).run P w = .ok (.value (.bool u)) w := by
  simp only [execOp, hF.eval hx, hF.eval hy, Sem.run_bind, Hc, Result.andThen_ok]
  have : binOp op T (.string (bs l)) (.string (bs m)) = Op.stringOp op (bs l) (bs m) := by cases op <;> rfl
  simp only [this, h, Result.andThen_ok]
  rfl
theorem Lb (hF : Fr n ds F a) (hx : FU F x = some (.string (bs l))) (hy : FU F y = some (.string (bs m))) : Yx P B M Z a ⟨dst, .binOp .eql T x y T', ty, pos, aft, g⟩ (.bool (decide (l = m))) :=
  CU fun w _ => Qn (by
    simp only [Op.stringOp, ND]
    rw [Th]; rfl) (by simp) (by simp) hF hx hy
theorem TS (hF : Fr n ds F a) (hx : FU F x = some (.string (bs l))) (hy : FU F y = some (.string (bs m))) : Yx P B M Z a ⟨dst, .binOp .neq T x y T', ty, pos, aft, g⟩ (.bool (decide (l ≠ m))) :=
  CU fun w _ => Qn (by
    simp only [Op.stringOp, ND]
    have : (!(l == m)) = decide (l ≠ m) := by
      by_cases h : l = m <;> simp [h]
    rw [this]; rfl) (by simp) (by simp) hF hx hy
theorem FA {ts : Array TypeId} (ht : P.underlying t = some .string) (hts : ts[0]? = some t) (hF : Fr n ds F a) (hx : FU F x = some (.string (bs l))) :
    Yx P B M Z a ⟨dst, .call ⟨.builtin .len, #[x], ts⟩, ty, pos, aft, g⟩ (.int .i64 (l.length : Int)) :=
  CU fun w hw => by
    have hts' : ts.toList[0]? = some t := by simpa using hts
    have := Jl l
    simp [execOp, EL, invoke, builtin, Builtin.len_, hF.eval hx, hts, Go.underlying, ht, goInt, this]
theorem HY {i : Int} {c : UInt8} {k : IntKind} (ht : P.underlying t = some .string) (hF : Fr n ds F a) (hx : FU F x = some (.string (bs l))) (hi : FU F y = some (.int k i)) (h : ix l i = some c) :
    Yx P B M Z a ⟨dst, .index t x y, ty, pos, aft, g⟩ (.int .u8 (c.toNat : Int)) :=
  CU fun w hw => by
    obtain ⟨h0, hk, hc⟩ := MB h
    have hg : (if 0 ≤ i then (bs l)[i.toNat]? else none) = some c := by rw [if_pos h0, Ue]; exact hc
    simp only [execOp, Instr.indexAt, hF.eval hx, hF.eval hi, Instr.index, asIntOf, Go.underlying, Sem.run_bind, run_program, ht, Result.andThen_ok, Sem.run_pure, hg]
theorem GN {lop hop : Option Operand} {lo hi : Int} (ht : P.underlying t = some .string) (hF : Fr n ds F a) (hx : FU F x = some (.string (bs l))) (hl : (match lop with | none => lo = 0 | some q => FU F q = some (.int .i64 lo))) (hh : (match hop with | none => hi = l.length | some q => FU F q = some (.int .i64 hi))) (hs : GR l lo hi = some m) :
    Yx P B M Z a ⟨dst, .slice t x lop hop none, ty, pos, aft, g⟩ (.string (bs m)) :=
  CU fun w hw => by
    obtain ⟨h1, h2, h3, rfl⟩ := Jg hs
    have hb : ∀ (y : Nat) (code : BoundsCode) (q : Int), 0 ≤ q → q ≤ y → (Instr.sliceBound (.int .i64 q) y code).run P w = .ok q.toNat w := fun y code q h0 h4 => by
      simp [Instr.sliceBound, asIntOf, h0, h4]
    have hxe := hF.eval hx
    have hsz := Jl l
    have k1 : ∀ code, (Instr.sliceBound (.int .i64 hi) l.length code).run P w = .ok hi.toNat w := fun code => hb _ code hi (by omega) (by omega)
    have k2 : ∀ code, (Instr.sliceBound (.int .i64 lo) hi.toNat code).run P w = .ok lo.toNat w := fun code => hb _ code lo h1 (by omega)
    have k3 : ∀ code, (Instr.sliceBound (.int .i64 lo) l.length code).run P w = .ok lo.toNat w := fun code => hb _ code lo h1 (by omega)
    have ex : ∀ i j, (bs l).extract i j = bs ((l.take j).drop i) := PZ l
    cases lop with
    | none =>
      simp only at hl
      subst hl
      cases hop with
      | none =>
        simp only at hh
        subst hh
        simp only [execOp, Instr.sliceAt, Instr.slice, Instr.sliceBounds, Go.underlying, Sem.run_bind, run_program, ht, hxe, hsz, Result.andThen_ok, Sem.run_pure, Option.map_none, Option.isSome_none, Bool.false_eq_true, if_false, ex]
        simp
      | some q =>
        have hhe := hF.eval hh
        simp only [execOp, Instr.sliceAt, Instr.slice, Instr.sliceBounds, Go.underlying, Sem.run_bind, run_program, ht, hxe, hhe, hsz, k1, Result.andThen_ok, Sem.run_pure, Option.map_none, Option.map_some, Option.isSome_none, Bool.false_eq_true, if_false, ex]
        simp
    | some p =>
      have hle := hF.eval hl
      cases hop with
      | none =>
        simp only at hh
        subst hh
        simp only [execOp, Instr.sliceAt, Instr.slice, Instr.sliceBounds, Go.underlying, Sem.run_bind, run_program, ht, hxe, hle, hsz, k3, Result.andThen_ok, Sem.run_pure, Option.map_none, Option.map_some, Option.isSome_none, Bool.false_eq_true, if_false, ex]
        simp
      | some q =>
        have hhe := hF.eval hh
        simp only [execOp, Instr.sliceAt, Instr.slice, Instr.sliceBounds, Go.underlying, Sem.run_bind, run_program, ht, hxe, hle, hhe, hsz, k1, k2, Result.andThen_ok, Sem.run_pure, Option.map_none, Option.map_some, Option.isSome_none, Bool.false_eq_true, if_false, ex]
end
end Go.Proofs.YtlgjpoapclifbaaDoor
