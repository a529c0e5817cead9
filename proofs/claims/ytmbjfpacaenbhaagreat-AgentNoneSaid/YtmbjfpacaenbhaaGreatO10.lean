/- Strings, bytes, bits, conversions, make. Conditions: none. -/
import Derived.Test.YtmbjfpacaenbhaaGreatO9
import Derived.Laws.BytesString
import Derived.Laws.MakeOwn
namespace Go.Proofs.YtmbjfpacaenbhaaGreat
set_option linter.unusedVariables false
set_option linter.unusedSimpArgs false
open Go Go.RowKit

theorem bs_size (l : List UInt8) : (bs l).size = l.length := by simp [ByteArray.size]
theorem bs_append (l m : List UInt8) : bs l ++ bs m = bs (l ++ m) := by apply ByteArray.ext; simp
theorem bs_toList (l : List UInt8) : (bs l).toList = l := by simp
theorem bs_get (l : List UInt8) (i : Nat) : (bs l)[i]? = l[i]? := by
  by_cases h : i < l.length
  · rw [List.getElem?_eq_getElem h]
    have h' : i < (bs l).size := by rw [bs_size]; exact h
    simp only [getElem?_def, h', dite_true]
    rfl
  · rw [List.getElem?_eq_none (by omega)]
    have h' : ¬ i < (bs l).size := by rw [bs_size]; exact h
    simp only [getElem?_def, h', dite_false]
theorem bs_extract (l : List UInt8) (i j : Nat) : (bs l).extract i j = bs ((l.take j).drop i) := by
  apply ByteArray.ext; simp [List.drop_take]
theorem bs_inj {l m : List UInt8} (h : bs l = bs m) : l = m := by
  have := congrArg ByteArray.toList h
  rwa [bs_toList, bs_toList] at this
/-- The string of bytes. -/
def strOf (l : List Int) : List UInt8 := l.map fun n => UInt8.ofNat n.toNat
theorem bs_push (l : List UInt8) (x : UInt8) : (bs l).push x = bs (l ++ [x]) := by apply ByteArray.ext; simp [ByteArray.push]
theorem bs_fold : ∀ (ns : List Int) (l : List UInt8), ns.foldl (fun r n => r.push (UInt8.ofNat n.toNat)) (bs l) = bs (l ++ strOf ns)
  | [], l => by simp [strOf]
  | n :: ns, l => by rw [List.foldl_cons, bs_push, bs_fold ns]; simp [strOf]

def shlI (k : IntKind) (x y : Int) : Int := k.wrap (x * 2 ^ (min y.toNat k.bits))
def shrI (k : IntKind) (x y : Int) : Int := x.fdiv (2 ^ (min y.toNat k.bits))
def shN (v : Int) (y : Int) : Option Int := if 0 ≤ y then some v else none
theorem shN_some {v y r : Int} (h : shN v y = some r) : 0 ≤ y ∧ v = r := by
  unfold shN at h; split at h <;> simp_all
def andI (k : IntKind) (x y : Int) : Int := k.wrap (BitVec.ofInt k.bits x &&& BitVec.ofInt k.bits y).toNat
def orI (k : IntKind) (x y : Int) : Int := k.wrap (BitVec.ofInt k.bits x ||| BitVec.ofInt k.bits y).toNat
def xorI (k : IntKind) (x y : Int) : Int := k.wrap (BitVec.ofInt k.bits x ^^^ BitVec.ofInt k.bits y).toNat
def andNotI (k : IntKind) (x y : Int) : Int := k.wrap (BitVec.ofInt k.bits x &&& ~~~ BitVec.ofInt k.bits y).toNat
theorem beq_dec (l m : List UInt8) : (l == m) = decide (l = m) := by by_cases h : l = m <;> simp [h]
theorem fld_str {P : Program} {d : Nat} {f : Field} {xs ys : List Value} {t : TypeId} {o : Nat} {l m : List UInt8} (ht : f.type = t) (ho : f.offset = o) (hu : P.underlying t = some .string) (T : Ty P t false 1) (hx : xs[o]? = some (.string (bs l))) (hy : ys[o]? = some (.string (bs m))) (w : World) :
    (fldEq (d + 1) f xs.toArray ys.toArray).run P w = .ok (decide (l = m)) w := by
  subst ht ho
  simp [fldEq, part, T.isAgg, hx, hy, run_equalIn_string w d f.type (bs l) (bs m) hu, beq_dec]
abbrev ltS : List UInt8 → List UInt8 → Bool := Op.bytesLess

section
variable {P : Program} {B : Bs} {M M' : Blks} {Z Z' Z1 : List It} {n : Nat} {ds : List Deferred} {F F' : List (Nat × Value)} {a : Act} {w w' : World}
variable {ops : Array Oper} {Q : Exit → Act → World → Prop} {rest : List Oper} {o : Oper}
variable {dst : Option Tmp} {ty : TypeId} {pos : String} {aft : Array Edge} {g : Option (Nat × Bool)} {v : Value}
variable {α : Type} {r : Rp α} {l m : List UInt8} {x y : Operand} {T T' t e by_ : Nat} {p q : Int} {k k' : IntKind}

/-! ### Bits -/
theorem y_shl (hF : Fr n ds F a) (hx : opv F x = some (.int k p)) (hy : opv F y = some (.int k' q)) (h0 : 0 ≤ q) : Yx P B M Z a ⟨dst, .binOp .shl T x y T', ty, pos, aft, g⟩ (.int k (shlI k p q)) :=
  yl_of fun w _ => by
    have : ¬ q < 0 := by omega
    simp [execOp, hF.eval hx, hF.eval hy, run_eqGuard_int, binOp, Op.shift, this, shlI]
theorem y_shr (hF : Fr n ds F a) (hx : opv F x = some (.int k p)) (hy : opv F y = some (.int k' q)) (h0 : 0 ≤ q) : Yx P B M Z a ⟨dst, .binOp .shr T x y T', ty, pos, aft, g⟩ (.int k (shrI k p q)) :=
  yl_of fun w _ => by
    have : ¬ q < 0 := by omega
    simp [execOp, hF.eval hx, hF.eval hy, run_eqGuard_int, binOp, Op.shift, this, shrI]
theorem y_and (hF : Fr n ds F a) (hx : opv F x = some (.int k p)) (hy : opv F y = some (.int k q)) : Yx P B M Z a ⟨dst, .binOp .and T x y T', ty, pos, aft, g⟩ (.int k (andI k p q)) :=
  yl_of fun w _ => by simp [execOp, hF.eval hx, hF.eval hy, run_eqGuard_int, binOp, Op.intBits, andI]
theorem y_or (hF : Fr n ds F a) (hx : opv F x = some (.int k p)) (hy : opv F y = some (.int k q)) : Yx P B M Z a ⟨dst, .binOp .or T x y T', ty, pos, aft, g⟩ (.int k (orI k p q)) :=
  yl_of fun w _ => by simp [execOp, hF.eval hx, hF.eval hy, run_eqGuard_int, binOp, Op.intBits, orI]
theorem y_xor (hF : Fr n ds F a) (hx : opv F x = some (.int k p)) (hy : opv F y = some (.int k q)) : Yx P B M Z a ⟨dst, .binOp .xor T x y T', ty, pos, aft, g⟩ (.int k (xorI k p q)) :=
  yl_of fun w _ => by simp [execOp, hF.eval hx, hF.eval hy, run_eqGuard_int, binOp, Op.intBits, xorI]
theorem y_andNot (hF : Fr n ds F a) (hx : opv F x = some (.int k p)) (hy : opv F y = some (.int k q)) : Yx P B M Z a ⟨dst, .binOp .andNot T x y T', ty, pos, aft, g⟩ (.int k (andNotI k p q)) :=
  yl_of fun w _ => by simp [execOp, hF.eval hx, hF.eval hy, run_eqGuard_int, binOp, Op.intBits, andNotI]

/-! ### Conversions -/
theorem y_convI {src dst' : TypeId} (hs : P.underlying src = some (.int k)) (hd : P.underlying dst' = some (.int k')) (hF : Fr n ds F a) (hx : opv F x = some (.int k p)) : Yx P B M Z a ⟨dst, .convert src dst' x, ty, pos, aft, g⟩ (.int k' (k'.wrap p)) :=
  yl_of fun w _ => by simp [execOp, hF.eval hx, convert, Go.underlying, hs, hd, Conv.intToInt]
theorem y_convB {src dst' be : TypeId} {ns : List Int} (hs : P.underlying src = some (.slice be)) (hb : P.underlying be = some (.int .u8)) (hd : P.underlying dst' = some .string) (hF : Fr n ds F a) (hx : opv F x = some v) (hR : Rdc B M Z (Rp.int .u8) v ns) : Yx P B M Z a ⟨dst, .convert src dst' x, ty, pos, aft, g⟩ (.string (bs (strOf ns))) :=
  yl_of fun w hw => by
    have key : (Conv.bytesToString v).run P w = .ok (.string (bs (strOf ns))) w := by
      rcases hR w hw with ⟨ad, cap, rfl, rfl⟩ | ⟨b, off, cap, xs, rfl, _, _, _, hc, hr⟩
      · cases ad <;> simp [Conv.bytesToString, strOf, loadCells, loadCellsFrom] <;> rfl
      · have hflat : ∀ {l : List Int} {xs : List Value}, RepL (Rp.int .u8) w any xs l → xs = l.map (Value.int .u8) := by
          intro l
          induction l with
          | nil => intro xs h; exact h
          | cons x l ih => rintro xs ⟨cs, ys, rfl, h1, h2⟩; rw [ih h2, show cs = [Value.int .u8 x] from h1]; rfl
        have hx := hflat hr
        subst hx
        have hl := run_loadCells_list (P := P) (w := w) ⟨b, off, none⟩ (ns.map (Value.int .u8)) (fun j u hu => by rw [addr_add]; exact hc j u hu)
        rw [List.length_map] at hl
        rw [run_bytesToString w ⟨b, off, none⟩ ns.length cap ns hl]
        have := bs_fold ns []
        rw [List.nil_append] at this
        rw [← this]; rfl
    obtain ⟨ad, k1, c1, hv⟩ : ∃ ad k1 c1, v = .slice ad k1 c1 := by
      rcases hR w hw with ⟨ad, cap, h, _⟩ | ⟨b, off, cap, xs, h, _⟩
      · exact ⟨_, _, _, h⟩
      · exact ⟨_, _, _, h⟩
    subst hv
    simp [execOp, hF.eval hx, convert, Go.underlying, hs, hd, hb, key]

theorem y_convI' {src dst' : TypeId} {r : Int} (hs : P.underlying src = some (.int k)) (hd : P.underlying dst' = some (.int k')) (hF : Fr n ds F a) (hx : opv F x = some (.int k p)) (hr : k'.wrap p = r) : Yx P B M Z a ⟨dst, .convert src dst' x, ty, pos, aft, g⟩ (.int k' r) := by
  subst hr; exact y_convI hs hd hF hx
theorem y_shc {o : Oper} {u v : Int} (h : u = v) (y : Yx P B M Z a o (.int k u)) : Yx P B M Z a o (.int k v) := by subst h; exact y

/-! ### Pointers -/
section
variable {ad : Addr} {pt : TypeId}
theorem run_peq {s t : Option Addr} {u : Bool} (hT : P.underlying T = some (.pointer pt)) (hF : Fr n ds F a) (hx : opv F x = some (.pointer s)) (hy : opv F y = some (.pointer t)) (hu : ∀ w, (Op.equal T (.pointer s) (.pointer t)).run P w = .ok u w) :
    Yx P B M Z a ⟨dst, .binOp .eql T x y T', ty, pos, aft, g⟩ (.bool u) ∧ Yx P B M Z a ⟨dst, .binOp .neq T x y T', ty, pos, aft, g⟩ (.bool (!u)) := by
  constructor <;> exact yl_of fun w _ => by simp [execOp, hF.eval hx, hF.eval hy, eqGuard, binOp, hu]
theorem eqp_nil_in (hT : P.underlying T = some (.pointer pt)) (d : Nat) (w : World) : (Op.equalIn (d + 1) T (.pointer none) (.pointer none)).run P w = .ok true w := by
  simp [Op.equalIn, Go.underlying, hT]
theorem eqp_nil (hT : P.underlying T = some (.pointer pt)) (w : World) : (Op.equal T (.pointer none) (.pointer none)).run P w = .ok true w := eqp_nil_in hT 9999 w
theorem eqp_some_nil_in (hT : P.underlying T = some (.pointer pt)) (d : Nat) (w : World) : (Op.equalIn (d + 1) T (.pointer (some ad)) (.pointer none)).run P w = .ok false w := by
  simp [Op.equalIn, Go.underlying, hT]
theorem eqp_some_nil (hT : P.underlying T = some (.pointer pt)) (w : World) : (Op.equal T (.pointer (some ad)) (.pointer none)).run P w = .ok false w := eqp_some_nil_in hT 9999 w
theorem eqp_nil_some_in (hT : P.underlying T = some (.pointer pt)) (d : Nat) (w : World) : (Op.equalIn (d + 1) T (.pointer none) (.pointer (some ad))).run P w = .ok false w := by
  simp [Op.equalIn, Go.underlying, hT]
theorem eqp_nil_some (hT : P.underlying T = some (.pointer pt)) (w : World) : (Op.equal T (.pointer none) (.pointer (some ad))).run P w = .ok false w := eqp_nil_some_in hT 9999 w
theorem y_peq_nil_nil (hT : P.underlying T = some (.pointer pt)) (hF : Fr n ds F a) (hx : opv F x = some (.pointer none)) (hy : opv F y = some (.pointer none)) : Yx P B M Z a ⟨dst, .binOp .eql T x y T', ty, pos, aft, g⟩ (.bool true) := (run_peq hT hF hx hy (eqp_nil hT)).1
theorem y_pne_nil_nil (hT : P.underlying T = some (.pointer pt)) (hF : Fr n ds F a) (hx : opv F x = some (.pointer none)) (hy : opv F y = some (.pointer none)) : Yx P B M Z a ⟨dst, .binOp .neq T x y T', ty, pos, aft, g⟩ (.bool false) := (run_peq hT hF hx hy (eqp_nil hT)).2
theorem y_peq_some_nil (hT : P.underlying T = some (.pointer pt)) (hF : Fr n ds F a) (hx : opv F x = some (.pointer (some ad))) (hy : opv F y = some (.pointer none)) : Yx P B M Z a ⟨dst, .binOp .eql T x y T', ty, pos, aft, g⟩ (.bool false) := (run_peq hT hF hx hy (eqp_some_nil hT)).1
theorem y_pne_some_nil (hT : P.underlying T = some (.pointer pt)) (hF : Fr n ds F a) (hx : opv F x = some (.pointer (some ad))) (hy : opv F y = some (.pointer none)) : Yx P B M Z a ⟨dst, .binOp .neq T x y T', ty, pos, aft, g⟩ (.bool true) := (run_peq hT hF hx hy (eqp_some_nil hT)).2
end

/-! ### Strings -/
theorem y_sadd {l3 : List UInt8} (hF : Fr n ds F a) (hx : opv F x = some (.string (bs l))) (hy : opv F y = some (.string (bs m))) (ha : app l m = some l3) : Yx P B M Z a ⟨dst, .binOp .add T x y T', ty, pos, aft, g⟩ (.string (bs l3)) :=
  yl_of fun w _ => by
    obtain ⟨h1, rfl⟩ := app_some ha
    have h2 : ¬ ((((bs l).size + (bs m).size : Nat) : Int) > IntKind.i64.max) := by rw [bs_size, bs_size]; have : IntKind.i64.max = 9223372036854775807 := rfl; omega
    have h3 : (Op.stringOp .add (bs l) (bs m)).run P w = .ok (.string (bs (l ++ m))) w := by
      unfold Op.stringOp
      simp only [if_neg h2]
      rw [bs_append]; rfl
    simp only [execOp, hF.eval hx, hF.eval hy, Sem.run_bind, run_eqGuard_string, binOp, h3, Result.andThen_ok]
    rfl
theorem run_str {op : BinOp} {u : Bool} (h : (Op.stringOp op (bs l) (bs m)).run P w = .ok (.bool u) w) (h1 : op ≠ .shl) (h2 : op ≠ .shr) (hF : Fr n ds F a) (hx : opv F x = some (.string (bs l))) (hy : opv F y = some (.string (bs m))) : (execOp a.eval ⟨dst, .binOp op T x y T', ty, pos, aft, g⟩).run P w = .ok (.value (.bool u)) w := by
  simp only [execOp, hF.eval hx, hF.eval hy, Sem.run_bind, run_eqGuard_string, Result.andThen_ok]
  have : binOp op T (.string (bs l)) (.string (bs m)) = Op.stringOp op (bs l) (bs m) := by cases op <;> rfl
  simp only [this, h, Result.andThen_ok]
  rfl
theorem y_seq (hF : Fr n ds F a) (hx : opv F x = some (.string (bs l))) (hy : opv F y = some (.string (bs m))) : Yx P B M Z a ⟨dst, .binOp .eql T x y T', ty, pos, aft, g⟩ (.bool (decide (l = m))) :=
  yl_of fun w _ => run_str (by
    simp only [Op.stringOp, bs_toList]
    rw [beq_dec]; rfl) (by simp) (by simp) hF hx hy
theorem y_sne (hF : Fr n ds F a) (hx : opv F x = some (.string (bs l))) (hy : opv F y = some (.string (bs m))) : Yx P B M Z a ⟨dst, .binOp .neq T x y T', ty, pos, aft, g⟩ (.bool (decide (l ≠ m))) :=
  yl_of fun w _ => run_str (by
    simp only [Op.stringOp, bs_toList]
    have : (!(l == m)) = decide (l ≠ m) := by
      by_cases h : l = m <;> simp [h]
    rw [this]; rfl) (by simp) (by simp) hF hx hy
theorem y_slt (hF : Fr n ds F a) (hx : opv F x = some (.string (bs l))) (hy : opv F y = some (.string (bs m))) : Yx P B M Z a ⟨dst, .binOp .lss T x y T', ty, pos, aft, g⟩ (.bool (ltS l m)) :=
  yl_of fun w _ => run_str (by simp only [Op.stringOp, bs_toList]; rfl) (by simp) (by simp) hF hx hy
theorem y_sle (hF : Fr n ds F a) (hx : opv F x = some (.string (bs l))) (hy : opv F y = some (.string (bs m))) : Yx P B M Z a ⟨dst, .binOp .leq T x y T', ty, pos, aft, g⟩ (.bool (ltS l m || decide (l = m))) :=
  yl_of fun w _ => run_str (by simp only [Op.stringOp, bs_toList, beq_dec]; rfl) (by simp) (by simp) hF hx hy
theorem y_sgt (hF : Fr n ds F a) (hx : opv F x = some (.string (bs l))) (hy : opv F y = some (.string (bs m))) : Yx P B M Z a ⟨dst, .binOp .gtr T x y T', ty, pos, aft, g⟩ (.bool (!(ltS l m || decide (l = m)))) :=
  yl_of fun w _ => run_str (by simp only [Op.stringOp, bs_toList, beq_dec]; rfl) (by simp) (by simp) hF hx hy
theorem y_sge (hF : Fr n ds F a) (hx : opv F x = some (.string (bs l))) (hy : opv F y = some (.string (bs m))) : Yx P B M Z a ⟨dst, .binOp .geq T x y T', ty, pos, aft, g⟩ (.bool (!(ltS l m))) :=
  yl_of fun w _ => run_str (by simp only [Op.stringOp, bs_toList]; rfl) (by simp) (by simp) hF hx hy
theorem y_slen {ts : Array TypeId} (ht : P.underlying t = some .string) (hts : ts[0]? = some t) (hF : Fr n ds F a) (hx : opv F x = some (.string (bs l))) :
    Yx P B M Z a ⟨dst, .call ⟨.builtin .len, #[x], ts⟩, ty, pos, aft, g⟩ (.int .i64 (l.length : Int)) :=
  yl_of fun w hw => by
    have hts' : ts.toList[0]? = some t := by simpa using hts
    have := bs_size l
    simp [execOp, resolve_builtin, invoke, builtin, Builtin.len_, hF.eval hx, hts, Go.underlying, ht, goInt, this]
theorem y_sindex {i : Int} {c : UInt8} {k : IntKind} (ht : P.underlying t = some .string) (hF : Fr n ds F a) (hx : opv F x = some (.string (bs l))) (hi : opv F y = some (.int k i)) (h : ix l i = some c) :
    Yx P B M Z a ⟨dst, .index t x y, ty, pos, aft, g⟩ (.int .u8 (c.toNat : Int)) :=
  yl_of fun w hw => by
    obtain ⟨h0, hk, hc⟩ := ix_lt h
    have hg : (if 0 ≤ i then (bs l)[i.toNat]? else none) = some c := by rw [if_pos h0, bs_get]; exact hc
    simp only [execOp, Instr.indexAt, hF.eval hx, hF.eval hi, Instr.index, asIntOf, Go.underlying, Sem.run_bind, run_program, ht, Result.andThen_ok, Sem.run_pure, hg]
theorem y_sslice {lop hop : Option Operand} {lo hi : Int} (ht : P.underlying t = some .string) (hF : Fr n ds F a) (hx : opv F x = some (.string (bs l))) (hl : (match lop with | none => lo = 0 | some q => opv F q = some (.int .i64 lo))) (hh : (match hop with | none => hi = l.length | some q => opv F q = some (.int .i64 hi))) (hs : subl l lo hi = some m) :
    Yx P B M Z a ⟨dst, .slice t x lop hop none, ty, pos, aft, g⟩ (.string (bs m)) :=
  yl_of fun w hw => by
    obtain ⟨h1, h2, h3, rfl⟩ := subl_some hs
    have hb : ∀ (y : Nat) (code : BoundsCode) (q : Int), 0 ≤ q → q ≤ y → (Instr.sliceBound (.int .i64 q) y code).run P w = .ok q.toNat w := fun y code q h0 h4 => by
      simp [Instr.sliceBound, asIntOf, h0, h4]
    have hxe := hF.eval hx
    have hsz := bs_size l
    have k1 : ∀ code, (Instr.sliceBound (.int .i64 hi) l.length code).run P w = .ok hi.toNat w := fun code => hb _ code hi (by omega) (by omega)
    have k2 : ∀ code, (Instr.sliceBound (.int .i64 lo) hi.toNat code).run P w = .ok lo.toNat w := fun code => hb _ code lo h1 (by omega)
    have k3 : ∀ code, (Instr.sliceBound (.int .i64 lo) l.length code).run P w = .ok lo.toNat w := fun code => hb _ code lo h1 (by omega)
    have ex : ∀ i j, (bs l).extract i j = bs ((l.take j).drop i) := bs_extract l
    cases lop with
    | none =>
      simp only at hl
      subst hl
      cases hop with
      | none =>
        simp only at hh
        subst hh
        simp only [execOp, Instr.sliceAt, Instr.slice, Instr.sliceBounds, Go.underlying, Sem.run_bind, run_program, ht, hxe, hsz, Result.andThen_ok, Sem.run_pure, Option.map_none, Option.isSome_none, Bool.false_eq_true, if_false, ex]
        simp
      | some q =>
        have hhe := hF.eval hh
        simp only [execOp, Instr.sliceAt, Instr.slice, Instr.sliceBounds, Go.underlying, Sem.run_bind, run_program, ht, hxe, hhe, hsz, k1, Result.andThen_ok, Sem.run_pure, Option.map_none, Option.map_some, Option.isSome_none, Bool.false_eq_true, if_false, ex]
        simp
    | some p =>
      have hle := hF.eval hl
      cases hop with
      | none =>
        simp only at hh
        subst hh
        simp only [execOp, Instr.sliceAt, Instr.slice, Instr.sliceBounds, Go.underlying, Sem.run_bind, run_program, ht, hxe, hle, hsz, k3, Result.andThen_ok, Sem.run_pure, Option.map_none, Option.map_some, Option.isSome_none, Bool.false_eq_true, if_false, ex]
        simp
      | some q =>
        have hhe := hF.eval hh
        simp only [execOp, Instr.sliceAt, Instr.slice, Instr.sliceBounds, Go.underlying, Sem.run_bind, run_program, ht, hxe, hle, hhe, hsz, k1, k2, Result.andThen_ok, Sem.run_pure, Option.map_none, Option.map_some, Option.isSome_none, Bool.false_eq_true, if_false, ex]

/-! ### make -/
theorem made_eq (cs : List Value) (hc : 0 < cs.length) (k : Nat) : (madeCells cs.toArray (k * cs.length)).toList = (List.replicate k cs).flatten := by
  have hl : ((List.replicate k cs).flatten).length = k * cs.length := by simp
  refine List.ext_getElem? fun j => ?_
  by_cases hj : j < k * cs.length
  · have h1 : ((List.replicate k cs).flatten)[j]? = cs[j % cs.length]? := by
      clear hl
      induction k generalizing j with
      | zero => simp at hj
      | succ k ih =>
        rw [List.replicate_succ, List.flatten_cons]
        by_cases hjc : j < cs.length
        · rw [List.getElem?_append_left hjc, Nat.mod_eq_of_lt hjc]
        · rw [List.getElem?_append_right (by omega), ih (j - cs.length) (by rw [Nat.succ_mul] at hj; omega)]
          congr 1
          rw [Nat.mod_eq_sub_mod (a := j) (by omega)]
    rw [h1]
    have hm : j % cs.length < cs.length := Nat.mod_lt _ hc
    simp [madeCells, hj, hm]
  · rw [List.getElem?_eq_none (by simp [madeCells]; omega), List.getElem?_eq_none (by omega)]
/-- A slice as make makes it. -/
def Made (v : Value) (N : Nat) : Prop := ∃ b, v = .slice (some b) N N
theorem l_makeX {d : Nat} {z : Value} {lo co : Operand} {nn : Int} {k1 k2 : IntKind} {ls : List α} (z0 : α) (hF : Fr n ds F a) (hW : Stw B M Z w) (hn : Nat.blt d n = true) (E : Et P t e r.sz by_) (hz : (P.info? e).bind (·.zero) = some z) (hl : opv F lo = some (.int k1 nn)) (hc : opv F co = some (.int k2 nn))
    (hr : ∀ w A, r.rep w A z.cells.toList z0) (hm : mk nn z0 = some ls) (hby : Nat.ble by_ 100000 = true)
    (k : ∀ v, Made v nn.toNat → ∀ a' w', Fr n ds ((d, v) :: F) a' → Stw B M (row v e r ls :: Z) w' → wpList P ops Q rest a' w') :
    wpList P ops Q (⟨some d, .makeSlice t lo co, ty, pos, aft, none⟩ :: rest) a w := by
  obtain ⟨h0, h1, rfl⟩ := mk_some hm
  obtain ⟨i, z', hi, hz', his, hib, hzs⟩ := E.info
  have hzz : z' = z := by rw [hi] at hz; simp only [Option.bind_some] at hz; rw [hz'] at hz; exact Option.some.inj hz
  subst hzz
  have hby' := Nat.le_of_ble_eq_true hby
  have hbytes : (i.bytes : Int) * nn ≤ 281474976710656 := by
    rw [hib]
    have h2 : (by_ : Int) * nn ≤ 100000 * 1000000000 := Int.mul_le_mul (by omega) h1 h0 (by omega)
    omega
  have hrun := run_make (P := P) w t e i z' E.desc hi hz' k1 k2 nn nn h0 (Int.le_refl _) hbytes (by omega)
  have hlen : z'.cells.toList.length = r.sz := by simpa using hzs
  have hcells : (madeCells z'.cells (nn.toNat * i.size)).toList = (List.replicate nn.toNat z'.cells.toList).flatten := by
    have := made_eq z'.cells.toList (by rw [hlen]; exact E.pos) nn.toNat
    rw [hlen] at this
    rw [his]; simpa using this
  refine ls_wp hF hn (v := .slice (some ⟨w.heap.size, 0, none⟩) nn.toNat nn.toNat) (w' := w.alloc (.cells (madeCells z'.cells (nn.toNat * i.size)) e)) ?_ (fun a' h => k _ ⟨_, rfl⟩ a' _ h ?_)
  · simp [execOp, hF.eval hl, hF.eval hc, hrun]
  · have hrep : RepL r w (Fz B (blks M Z)) (List.replicate nn.toNat z'.cells.toList).flatten (List.replicate nn.toNat z0) := RepL.rep (hr w _) _
    have hll := hrep.len
    have := hW.allocRow ((List.replicate nn.toNat z'.cells.toList).flatten) e (m := nn.toNat) (l := List.replicate nn.toNat z0) (r := r) (by unfold maxLen; omega) (by rw [hll]; simp) (by simp) (by rw [← hll, List.take_length]; exact hrep)
    rw [← hcells] at this
    simpa using this
theorem l_make {d : Nat} {z : Value} {lo co : Operand} {nn : Int} {k1 k2 : IntKind} {ls : List α} (z0 : α) (hF : Fr n ds F a) (hW : Stw B M Z w) (hn : Nat.blt d n = true) (E : Et P t e r.sz by_) (hz : (P.info? e).bind (·.zero) = some z) (hl : opv F lo = some (.int k1 nn)) (hc : opv F co = some (.int k2 nn))
    (hr : ∀ w A, r.rep w A z.cells.toList z0) (hm : mk nn z0 = some ls) (hby : Nat.ble by_ 100000 = true)
    (k : ∀ v a' w', Fr n ds ((d, v) :: F) a' → Stw B M (row v e r ls :: Z) w' → wpList P ops Q rest a' w') :
    wpList P ops Q (⟨some d, .makeSlice t lo co, ty, pos, aft, none⟩ :: rest) a w :=
  l_makeX z0 hF hW hn E hz hl hc hr hm hby fun v _ => k v
end
end Go.Proofs.YtmbjfpacaenbhaaGreat
