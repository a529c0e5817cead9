/- Strings, bytes, bits, conversions, make. Conditions: none. -/
import Derived.Test.YthmkgdnnocemmaaGreatDoorbO9
import Derived.Laws.BytesString
import Derived.Laws.MakeOwn
namespace Go.Proofs.YthmkgdnnocemmaaGreatDoor
set_option linter.unusedVariables false
set_option linter.unusedSimpArgs false
open Go Go.RowKit
theorem DV (l : List UInt8) : (bs l).size = l.length := by simp [ByteArray.size]
theorem N0 (l m : List UInt8) : bs l ++ bs m = bs (l ++ m) := by apply ByteArray.ext; simp
theorem KP (l : List UInt8) : (bs l).toList = l := by simp
theorem QW (l : List UInt8) (i : Nat) : (bs l)[i]? = l[i]? := by
  by_cases h : i < l.length
  · rw [List.getElem?_eq_getElem h]
    have h' : i < (bs l).size := by rw [DV]; exact h
    simp only [getElem?_def, h', dite_true]
    rfl
  · rw [List.getElem?_eq_none (by omega)]
    have h' : ¬ i < (bs l).size := by rw [DV]; exact h
    simp only [getElem?_def, h', dite_false]
theorem MX (l : List UInt8) (i j : Nat) : (bs l).extract i j = bs ((l.take j).drop i) := by
  apply ByteArray.ext; simp [List.drop_take]
def HQ (l : List Int) : List UInt8 := l.map fun n => UInt8.ofNat n.toNat
theorem Qk (l : List UInt8) (x : UInt8) : (bs l).push x = bs (l ++ [x]) := by apply ByteArray.ext; simp [ByteArray.push]
theorem Nm : ∀ (ns : List Int) (l : List UInt8), ns.foldl (fun r n => r.push (UInt8.ofNat n.toNat)) (bs l) = bs (l ++ HQ ns)
  | [], l => by simp [HQ]
  | n :: ns, l => by rw [List.foldl_cons, Qk, Nm ns]; simp [HQ]
def OZ (k : IntKind) (x y : Int) : Int := k.wrap (x * 2 ^ (min y.toNat k.bits))
def Og (k : IntKind) (x y : Int) : Int := x.fdiv (2 ^ (min y.toNat k.bits))
def Qw (v : Int) (y : Int) : Option Int := if 0 ≤ y then some v else none
theorem Ig {v y r : Int} (h : Qw v y = some r) : 0 ≤ y ∧ v = r := by
  unfold Qw at h; split at h <;> simp_all
def Mv (k : IntKind) (x y : Int) : Int := k.wrap (BitVec.ofInt k.bits x &&& BitVec.ofInt k.bits y).toNat
def Sj (k : IntKind) (x y : Int) : Int := k.wrap (BitVec.ofInt k.bits x ||| BitVec.ofInt k.bits y).toNat
def Q6 (k : IntKind) (x y : Int) : Int := k.wrap (BitVec.ofInt k.bits x ^^^ BitVec.ofInt k.bits y).toNat
def Lg (k : IntKind) (x y : Int) : Int := k.wrap (BitVec.ofInt k.bits x &&& ~~~ BitVec.ofInt k.bits y).toNat
theorem PY (l m : List UInt8) : (l == m) = decide (l = m) := by by_cases h : l = m <;> simp [h]
section
variable {P : Program} {B : Bs} {M M' : Cg} {Z Z' Z1 : List It} {n : Nat} {ds : List Deferred} {F F' : List (Nat × Value)} {a : Act} {w w' : World}
variable {ops : Array Oper} {Q : Exit → Act → World → Prop} {rest : List Oper} {o : Oper}
variable {dst : Option Tmp} {ty : TypeId} {pos : String} {aft : Array Edge} {g : Option (Nat × Bool)} {v : Value}
variable {α : Type} {r : Rp α} {l m : List UInt8} {x y : Operand} {T T' t e by_ : Nat} {p q : Int} {k k' : IntKind}
theorem RN (hF : Fr n ds F a) (hx : CX F x = some (.int k p)) (hy : CX F y = some (.int k' q)) (h0 : 0 ≤ q) : Yx P B M Z a ⟨dst, .binOp .shl T x y T', ty, pos, aft, g⟩ (.int k (OZ k p q)) :=
  BX fun w _ => by
    have : ¬ q < 0 := by omega
    simp [execOp, hF.eval hx, hF.eval hy, Bc, binOp, Op.shift, this, OZ]
theorem Se (hF : Fr n ds F a) (hx : CX F x = some (.int k p)) (hy : CX F y = some (.int k' q)) (h0 : 0 ≤ q) : Yx P B M Z a ⟨dst, .binOp .shr T x y T', ty, pos, aft, g⟩ (.int k (Og k p q)) :=
  BX fun w _ => by
    have : ¬ q < 0 := by omega
    simp [execOp, hF.eval hx, hF.eval hy, Bc, binOp, Op.shift, this, Og]
theorem R7 (hF : Fr n ds F a) (hx : CX F x = some (.int k p)) (hy : CX F y = some (.int k q)) : Yx P B M Z a ⟨dst, .binOp .and T x y T', ty, pos, aft, g⟩ (.int k (Mv k p q)) :=
  BX fun w _ => by simp [execOp, hF.eval hx, hF.eval hy, Bc, binOp, Op.intBits, Mv]
theorem SE (hF : Fr n ds F a) (hx : CX F x = some (.int k p)) (hy : CX F y = some (.int k q)) : Yx P B M Z a ⟨dst, .binOp .or T x y T', ty, pos, aft, g⟩ (.int k (Sj k p q)) :=
  BX fun w _ => by simp [execOp, hF.eval hx, hF.eval hy, Bc, binOp, Op.intBits, Sj]
theorem RB (hF : Fr n ds F a) (hx : CX F x = some (.int k p)) (hy : CX F y = some (.int k q)) : Yx P B M Z a ⟨dst, .binOp .xor T x y T', ty, pos, aft, g⟩ (.int k (Q6 k p q)) :=
  BX fun w _ => by simp [execOp, hF.eval hx, hF.eval hy, Bc, binOp, Op.intBits, Q6]
theorem O2 (hF : Fr n ds F a) (hx : CX F x = some (.int k p)) (hy : CX F y = some (.int k q)) : Yx P B M Z a ⟨dst, .binOp .andNot T x y T', ty, pos, aft, g⟩ (.int k (Lg k p q)) :=
  BX fun w _ => by simp [execOp, hF.eval hx, hF.eval hy, Bc, binOp, Op.intBits, Lg]
theorem DY {src dst' : TypeId} (hs : P.underlying src = some (.int k)) (hd : P.underlying dst' = some (.int k')) (hF : Fr n ds F a) (hx : CX F x = some (.int k p)) : Yx P B M Z a ⟨dst, .convert src dst' x, ty, pos, aft, g⟩ (.int k' (k'.wrap p)) :=
  BX fun w _ => by simp [execOp, hF.eval hx, convert, Go.underlying, hs, hd, Conv.intToInt]
theorem Qb {src dst' be : TypeId} {ns : List Int} (hs : P.underlying src = some (.slice be)) (hb : P.underlying be = some (.int .u8)) (hd : P.underlying dst' = some .string) (hF : Fr n ds F a) (hx : CX F x = some v) (hR : CW B M Z (Rp.int .u8) v ns) : Yx P B M Z a ⟨dst, .convert src dst' x, ty, pos, aft, g⟩ (.string (bs (HQ ns))) :=
  BX fun w hw => by
    have key : (Conv.bytesToString v).run P w = .ok (.string (bs (HQ ns))) w := by
      rcases hR w hw with ⟨ad, cap, rfl, rfl⟩ | ⟨b, off, cap, xs, rfl, _, _, _, hc, hr⟩
      · cases ad <;> simp [Conv.bytesToString, HQ, loadCells, loadCellsFrom] <;> rfl
      · have hflat : ∀ {l : List Int} {xs : List Value}, B3 (Rp.int .u8) w any xs l → xs = l.map (Value.int .u8) := by
          intro l
          induction l with
          | nil => intro xs h; exact h
          | cons x l ih => rintro xs ⟨cs, ys, rfl, h1, h2⟩; rw [ih h2, show cs = [Value.int .u8 x] from h1]; rfl
        have hx := hflat hr
        subst hx
        have hl := run_loadCells_list (P := P) (w := w) ⟨b, off, none⟩ (ns.map (Value.int .u8)) (fun j u hu => by rw [CR]; exact hc j u hu)
        rw [List.length_map] at hl
        rw [run_bytesToString w ⟨b, off, none⟩ ns.length cap ns hl]
        have := Nm ns []
        rw [List.nil_append] at this
        rw [← this]; rfl
    obtain ⟨ad, k1, c1, hv⟩ : ∃ ad k1 c1, v = .slice ad k1 c1 := by
      rcases hR w hw with ⟨ad, cap, h, _⟩ | ⟨b, off, cap, xs, h, _⟩
      · exact ⟨_, _, _, h⟩
      · exact ⟨_, _, _, h⟩
    subst hv
    simp [execOp, hF.eval hx, convert, Go.underlying, hs, hd, hb, key]
theorem Qy {o : Oper} {u v : Int} (h : u = v) (y : Yx P B M Z a o (.int k u)) : Yx P B M Z a o (.int k v) := by subst h; exact y
section
variable {ad : Addr} {pt : TypeId}
end
theorem DB {l3 : List UInt8} (hF : Fr n ds F a) (hx : CX F x = some (.string (bs l))) (hy : CX F y = some (.string (bs m))) (ha : Dg l m = some l3) : Yx P B M Z a ⟨dst, .binOp .add T x y T', ty, pos, aft, g⟩ (.string (bs l3)) :=
  BX fun w _ => by
    obtain ⟨h1, rfl⟩ := J7 ha
    have h2 : ¬ ((((bs l).size + (bs m).size : Nat) : Int) > IntKind.i64.max) := by rw [DV, DV]; have : IntKind.i64.max = 9223372036854775807 := rfl; omega
    have h3 : (Op.stringOp .add (bs l) (bs m)).run P w = .ok (.string (bs (l ++ m))) w := by
      unfold Op.stringOp
      simp only [if_neg h2]
      rw [N0]; rfl
    simp only [execOp, hF.eval hx, hF.eval hy, Sem.run_bind, F8, binOp, h3, Result.andThen_ok]
    rfl
theorem Ni {op : BinOp} {u : Bool} (h : (Op.stringOp op (bs l) (bs m)).run P w = .ok (.bool u) w) (h1 : op ≠ .shl) (h2 : op ≠ .shr) (hF : Fr n ds F a) (hx : CX F x = some (.string (bs l))) (hy : CX F y = some (.string (bs m))) : (execOp a.eval ⟨dst, .binOp op T x y T', ty, pos, aft, g⟩).run P w = .ok (.value (.bool u)) w := by
  simp only [execOp, hF.eval hx, hF.eval hy, Sem.run_bind, F8, Result.andThen_ok]
  have : binOp op T (.string (bs l)) (.string (bs m)) = Op.stringOp op (bs l) (bs m) := by cases op <;> rfl
  simp only [this, h, Result.andThen_ok]
  rfl
theorem JF (hF : Fr n ds F a) (hx : CX F x = some (.string (bs l))) (hy : CX F y = some (.string (bs m))) : Yx P B M Z a ⟨dst, .binOp .eql T x y T', ty, pos, aft, g⟩ (.bool (decide (l = m))) :=
  BX fun w _ => Ni (by
    simp only [Op.stringOp, KP]
    rw [PY]; rfl) (by simp) (by simp) hF hx hy
theorem Mq (hF : Fr n ds F a) (hx : CX F x = some (.string (bs l))) (hy : CX F y = some (.string (bs m))) : Yx P B M Z a ⟨dst, .binOp .neq T x y T', ty, pos, aft, g⟩ (.bool (decide (l ≠ m))) :=
  BX fun w _ => Ni (by
    simp only [Op.stringOp, KP]
    have : (!(l == m)) = decide (l ≠ m) := by
      by_cases h : l = m <;> simp [h]
    rw [this]; rfl) (by simp) (by simp) hF hx hy
theorem Eh {ts : Array TypeId} (ht : P.underlying t = some .string) (hts : ts[0]? = some t) (hF : Fr n ds F a) (hx : CX F x = some (.string (bs l))) :
    Yx P B M Z a ⟨dst, .call ⟨.builtin .len, #[x], ts⟩, ty, pos, aft, g⟩ (.int .i64 (l.length : Int)) :=
  BX fun w hw => by
    have hts' : ts.toList[0]? = some t := by simpa using hts
    have := DV l
    simp [execOp, DS, invoke, builtin, Builtin.len_, hF.eval hx, hts, Go.underlying, ht, goInt, this]
theorem Bn {i : Int} {c : UInt8} {k : IntKind} (ht : P.underlying t = some .string) (hF : Fr n ds F a) (hx : CX F x = some (.string (bs l))) (hi : CX F y = some (.int k i)) (h : ix l i = some c) :
    Yx P B M Z a ⟨dst, .index t x y, ty, pos, aft, g⟩ (.int .u8 (c.toNat : Int)) :=
  BX fun w hw => by
    obtain ⟨h0, hk, hc⟩ := HS h
    have hg : (if 0 ≤ i then (bs l)[i.toNat]? else none) = some c := by rw [if_pos h0, QW]; exact hc
    simp only [execOp, Instr.indexAt, hF.eval hx, hF.eval hi, Instr.index, asIntOf, Go.underlying, Sem.run_bind, run_program, ht, Result.andThen_ok, Sem.run_pure, hg]
theorem D7 {lop hop : Option Operand} {lo hi : Int} (ht : P.underlying t = some .string) (hF : Fr n ds F a) (hx : CX F x = some (.string (bs l))) (hl : (match lop with | none => lo = 0 | some q => CX F q = some (.int .i64 lo))) (hh : (match hop with | none => hi = l.length | some q => CX F q = some (.int .i64 hi))) (hs : D3 l lo hi = some m) :
    Yx P B M Z a ⟨dst, .slice t x lop hop none, ty, pos, aft, g⟩ (.string (bs m)) :=
  BX fun w hw => by
    obtain ⟨h1, h2, h3, rfl⟩ := E1 hs
    have hb : ∀ (y : Nat) (code : BoundsCode) (q : Int), 0 ≤ q → q ≤ y → (Instr.sliceBound (.int .i64 q) y code).run P w = .ok q.toNat w := fun y code q h0 h4 => by
      simp [Instr.sliceBound, asIntOf, h0, h4]
    have hxe := hF.eval hx
    have hsz := DV l
    have k1 : ∀ code, (Instr.sliceBound (.int .i64 hi) l.length code).run P w = .ok hi.toNat w := fun code => hb _ code hi (by omega) (by omega)
    have k2 : ∀ code, (Instr.sliceBound (.int .i64 lo) hi.toNat code).run P w = .ok lo.toNat w := fun code => hb _ code lo h1 (by omega)
    have k3 : ∀ code, (Instr.sliceBound (.int .i64 lo) l.length code).run P w = .ok lo.toNat w := fun code => hb _ code lo h1 (by omega)
    have ex : ∀ i j, (bs l).extract i j = bs ((l.take j).drop i) := MX l
    cases lop with
    | none =>
      simp only at hl
      subst hl
      cases hop with
      | none =>
        simp only at hh
        subst hh
        simp only [execOp, Instr.sliceAt, Instr.slice, Instr.sliceBounds, Go.underlying, Sem.run_bind, run_program, ht, hxe, hsz, Result.andThen_ok, Sem.run_pure, Option.map_none, Option.isSome_none, Bool.false_eq_true, if_false, ex]
        simp
      | some q =>
        have hhe := hF.eval hh
        simp only [execOp, Instr.sliceAt, Instr.slice, Instr.sliceBounds, Go.underlying, Sem.run_bind, run_program, ht, hxe, hhe, hsz, k1, Result.andThen_ok, Sem.run_pure, Option.map_none, Option.map_some, Option.isSome_none, Bool.false_eq_true, if_false, ex]
        simp
    | some p =>
      have hle := hF.eval hl
      cases hop with
      | none =>
        simp only at hh
        subst hh
        simp only [execOp, Instr.sliceAt, Instr.slice, Instr.sliceBounds, Go.underlying, Sem.run_bind, run_program, ht, hxe, hle, hsz, k3, Result.andThen_ok, Sem.run_pure, Option.map_none, Option.map_some, Option.isSome_none, Bool.false_eq_true, if_false, ex]
        simp
      | some q =>
        have hhe := hF.eval hh
        simp only [execOp, Instr.sliceAt, Instr.slice, Instr.sliceBounds, Go.underlying, Sem.run_bind, run_program, ht, hxe, hle, hhe, hsz, k1, k2, Result.andThen_ok, Sem.run_pure, Option.map_none, Option.map_some, Option.isSome_none, Bool.false_eq_true, if_false, ex]
end
end Go.Proofs.YthmkgdnnocemmaaGreatDoor
