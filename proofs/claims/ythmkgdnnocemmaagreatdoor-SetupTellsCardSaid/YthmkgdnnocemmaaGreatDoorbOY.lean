/- The bytes of a string as a row; an array of the call's own as a row. Conditions: none. -/
import Derived.Test.YthmkgdnnocemmaaGreatDoorbOC
import Derived.Test.YthmkgdnnocemmaaGreatDoorbOT
import Derived.Lib.ConvBytes
import Derived.Lib.UnsafeStr
namespace Go.Proofs.YthmkgdnnocemmaaGreatDoor
set_option linter.unusedVariables false
set_option linter.unusedSimpArgs false
set_option linter.unusedSectionVars false
open Go Go.RowKit
section
variable {P : Program} {B : Bs} {M M' : Cg} {Z Z' Z1 : List It} {n : Nat} {ds : List Deferred} {F F' : List (Nat × Value)} {a : Act} {w w' : World}
variable {ops : Array Oper} {Q : Exit → Act → World → Prop} {rest : List Oper} {o : Oper}
variable {ty : TypeId} {pos : String} {aft : Array Edge}
theorem Np {w : World} {A : Nat → Prop} : ∀ l : List UInt8, B3 (Rp.int .u8) w A (l.map fun b => Value.int .u8 (b.toNat : Int)) (l.map fun b => (b.toNat : Int))
  | [] => rfl
  | b :: l => ⟨[.int .u8 (b.toNat : Int)], l.map fun b => Value.int .u8 (b.toNat : Int), rfl, rfl, Np l⟩
theorem PO {d : Nat} {src dst e : TypeId} {x : Operand} {l : List UInt8} (hs : P.underlying src = some .string) (hd : P.underlying dst = some (.slice e)) (he : P.underlying e = some (.int .u8)) (hF : Fr n ds F a) (hW : Stw B M Z w) (hn : Nat.blt d n = true) (hx : CX F x = some (.string (bs l)))
    (k : ∀ v a' w', Fr n ds ((d, v) :: F) a' → Stw B M (KY v (Rp.int .u8) (l.map fun b => (b.toNat : Int)) :: Z) w' → wpList P ops Q rest a' w') : wpList P ops Q (⟨some d, .convert src dst x, ty, pos, aft, none⟩ :: rest) a w := by
  have hsz : (bs l).size = l.length := by simp [ByteArray.size]
  refine J6 hF hn (v := .slice (some ⟨w.heap.size, 0, none⟩) (bs l).size (grownCap w (bs l).size 0 e)) (w' := Lib.bytesWorld w e (bs l)) ?_ (fun a' h => k _ a' _ h ?_)
  · simp [execOp, hF.eval hx, Lib.run_convert_string_bytes w src dst e (bs l) hs hd he]
  · have hb : Below w.heap.size w (Lib.bytesWorld w e (bs l)) := by
      unfold Lib.bytesWorld
      exact Lib.below_freeze (((Below.refl _ _).drew).alloc (Nat.le_refl _) _) (Nat.le_refl _) _
    refine (hW.below hb).note (.inr ⟨w.heap.size, 0, grownCap w (bs l).size 0 e, l.map fun b => Value.int .u8 (b.toNat : Int), ?_, ?_, ⟨.inr (.inr hW.frm.size), fun hm => Nat.lt_irrefl _ (hW.lt_all hm)⟩, ?_, fun j u hu => ?_, Np l⟩)
    · rw [List.length_map, hsz]
    · rw [List.length_map, ← hsz]; exact grownCap_ge w (bs l).size 0 e
    · rw [Lib.bytesWorld_size]; omega
    · rw [List.getElem?_map] at hu
      cases hj : l[j]? with
      | none => rw [hj] at hu; cases hu
      | some b =>
        rw [hj] at hu
        have hjl : j < l.length := (List.getElem?_eq_some_iff.1 hj).1
        rw [← Option.some.inj hu, Nat.zero_add, Lib.bytesWorld_cell w e (bs l) j (by omega)]
        simp [List.getD, hj]
theorem KV {w : World} {A : Nat → Prop} (k : IntKind) : ∀ n : Nat, B3 (Rp.int k) w A (List.replicate n (Value.int k 0)) (List.replicate n (0 : Int))
  | 0 => rfl
  | n + 1 => ⟨[.int k 0], List.replicate n (Value.int k 0), rfl, rfl, KV k n⟩
theorem Pj {α : Type} {r : Rp α} {d : Nat} {t : TypeId} {z : Value} {cs : List Value} {l : List α} (hF : Fr n ds F a) (hW : Stw B M Z w) (hn : Nat.blt d n = true) (hz : (P.info? t).bind (·.zero) = some z) (hc : z.cells.toList = cs) (hr : ∀ w A, B3 r w A cs l) (hm : Nat.ble l.length 1000 = true)
    (k : ∀ b a' w', Fr n ds ((d, .pointer (some ⟨b, 0, none⟩)) :: F) a' → Stw B M (row (.slice (some ⟨b, 0, none⟩) l.length l.length) t r l :: Z) w' → wpList P ops Q rest a' w') : wpList P ops Q (⟨some d, .alloc t, ty, pos, aft, none⟩ :: rest) a w := by
  have hz' : (zeroValue t).run P w = .ok z w := by
    unfold zeroValue typeInfo
    cases hi : P.info? t with
    | none => rw [hi] at hz; simp at hz
    | some i => rw [hi] at hz; simp at hz; simp [hi, hz]
  have hlen := (hr w (Fz B (AY M Z))).len
  have hm := Nat.le_of_ble_eq_true hm
  refine J6 hF hn (v := .pointer (some ⟨w.heap.size, 0, none⟩)) (w' := w.alloc (.cells cs.toArray t)) ?_ (fun a' h => k _ a' _ h (hW.allocRow cs t (by unfold maxLen; omega) (by omega) (Nat.le_refl _) (by rw [← hlen, List.take_length]; exact hr w _)))
  subst hc
  simp [execOp, Instr.alloc, hz', newVar, newRow]
def MB {α : Type} (m : Nat) (l : List α) (i : Int) : Option α := if l.length = m then ix l i else none
theorem C8 {α : Type} {m : Nat} {l : List α} {i : Int} {x : α} (h : MB m l i = some x) : l.length = m ∧ ix l i = some x := by
  unfold MB at h
  split at h
  · exact ⟨by assumption, h⟩
  · cases h
def Oe {α : Type} (m : Nat) (l : List α) (lo : Int) : Option (List α) := if l.length = m then D3 l lo (m : Int) else none
theorem IU {α : Type} {m : Nat} {l l2 : List α} {lo : Int} (h : Oe m l lo = some l2) : l.length = m ∧ D3 l lo (m : Int) = some l2 := by
  unfold Oe at h
  split at h
  · rename_i e
    exact ⟨e, h⟩
  · cases h
theorem N7 {dst : Option Tmp} {g : Option (Nat × Bool)} {t e : TypeId} {s q : Operand} {m b sz : Nat} {lo : Int} (E : Ar P t m e sz) (hF : Fr n ds F a) (hx : CX F s = some (.pointer (some ⟨b, 0, none⟩))) (hl : CX F q = some (.int .i64 lo)) (h0 : 0 ≤ lo) (h1 : lo ≤ (m : Int)) :
    Yx P B M Z a ⟨dst, .slice t s (some q) none none, ty, pos, aft, g⟩ (DW (.slice (some ⟨b, 0, none⟩) m m) lo m sz) :=
  BX fun w hw => by
    have hsz := E.sizeOf (P := P) w
    have hb : ∀ (y : Nat) (code : BoundsCode) (q : Int), 0 ≤ q → q ≤ y → (Instr.sliceBound (.int .i64 q) y code).run P w = .ok q.toNat w := fun y code q h0 h4 => by
      simp [Instr.sliceBound, asIntOf, h0, h4]
    have k2 : ∀ code, (Instr.sliceBound (.int .i64 lo) m code).run P w = .ok lo.toNat w := fun code => hb m code lo h0 h1
    have hle := hF.eval hl
    simp [execOp, Instr.sliceAt, Instr.slice, Instr.sliceBounds, Go.underlying, E.desc, hF.eval hx, hle, hsz, k2, DW, Instr.sureAddr]
    split <;> rfl
end
end Go.Proofs.YthmkgdnnocemmaaGreatDoor
