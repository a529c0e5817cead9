/- Zeros behind a slice that is nil. Conditions: none. -/
import Derived.Test.YthhoflfhegfmcaaGreatcXC
namespace Go.Proofs.YthhoflfhegfmcaaGreat
set_option linter.unusedVariables false
set_option linter.unusedSimpArgs false
set_option linter.unusedSectionVars false
open Go Go.RowKit
section
variable {α : Type} {r : Rp α} {l l2 l3 : List α} {v u : Value} {t e by_ N : Nat}
variable {P : Program} {B : Bs} {M M' : Dg} {Z Z' Z1 : List It} {n : Nat} {ds : List Deferred} {F F' : List (Nat × Value)} {a : Act} {w w' : World}
variable {ops : Array Oper} {Q : Exit → Act → World → Prop} {rest : List Oper} {o : Oper}
variable {dst : Option Tmp} {ty : TypeId} {pos : String} {aft : Array Edge} {g : Option (Nat × Bool)}
theorem T7 {x : Operand} {ts : Array TypeId} (ht : P.underlying t = some (.slice e)) (hts : ts[0]? = some t) (hF : Fr n ds F a) (hx : D4 F x = some (.slice none 0 0)) :
    Yx P B M Z a ⟨dst, .call ⟨.builtin .cap, #[x], ts⟩, ty, pos, aft, g⟩ (.int .i64 0) :=
  Dt fun w hw => by
    have hts' : ts.toList[0]? = some t := by simpa using hts
    simp [execOp, DY, invoke, builtin, Builtin.cap_, hF.eval hx, hts, Go.underlying, ht, goInt]
theorem Mn {T : TypeId} (t ty e : TypeId) (i : TypeInfo) (z : Value) (ht : P.underlying t = some (.slice e)) (hT : P.underlying T = some (.int .i64)) (hi : P.info? e = some i) (hz : i.zero = some z)
    (n : Nat) (hp : 0 < n * i.size) (h63 : n ≤ 1000000000) (hby : i.bytes ≤ 100000) (hfit : Builtin.nextslicecap n 0 * i.bytes ≤ 281474976710656) :
    (Builtin.append_ #[t, T] ty #[.slice none 0 0, .int .i64 (n : Int)]).run P w =
      .ok (.slice (some ⟨w.heap.size, 0, none⟩) n (grownCap w n 0 e))
        (w.drew.alloc (.cells (Builtin.zeroCells z.cells n ++ Builtin.zeroCells z.cells (grownCap w n 0 e - n)) e)) := by
  have hn0 : 0 < n := by
    rcases Nat.eq_zero_or_pos n with h | h
    · rw [h] at hp; simp at hp
    · exact h
  have hn : ¬ (n ≤ 0) := by omega
  have hn' : ¬ (n = 0) := by omega
  have h63' : ¬ (9223372036854775807 < (n : Int)) := by omega
  have h48' : ¬ (281474976710656 < Builtin.nextslicecap n 0 * i.bytes) := by omega
  have hw : IntKind.i64.wrap (n : Int) = (n : Int) := IntWalk.i64_in _ ⟨by omega, by omega⟩
  have h0 : ¬ ((n : Int) < 0) := by omega
  have h1 : ¬ (281474976710656 < (n : Int) * (i.bytes : Int)) := by
    have : (n : Int) * (i.bytes : Int) ≤ 1000000000 * 100000 := Int.mul_le_mul (by omega) (by omega) (by omega) (by omega)
    omega
  have h2 : ¬ (n * i.size = 0) := by omega
  have hfo : (Builtin.firstCells i.size 0 (.slice none 0 0)).run P w.drew = .ok #[] w.drew := by simp [Builtin.firstCells]
  simp [Builtin.append_, run_underlying ht, run_underlying hT, sizeOf, typeInfo, zeroValue, asInt, asIntOf, hi, hz, hw, h0, h1, h2, hn, hn', h63', h48', Question.forced, hfo, newRow, grownCap]
theorem RH {T : TypeId} {z : Value} {s q : Operand} {d : Nat} {nn : Int} (z0 : α) (hF : Fr n ds F a) (hW : Stw B M Z w) (hn : Nat.blt d n = true) (E : Et P t e r.sz by_) (hz : (P.info? e).bind (·.zero) = some z) (hT : P.underlying T = some (.int .i64)) (hs : D4 F s = some (.slice none 0 0)) (hx : D4 F q = some (.int .i64 nn))
    (hp : 0 < nn.toNat) (hr : ∀ w A, r.rep w A z.cells.toList z0) (hm : mk nn z0 = some l2) (hby : Nat.ble by_ 100000 = true)
    (k : ∀ v' a' w', Fr n ds ((d, v') :: F) a' → Stw B M (row v' e r l2 :: Z) w' → wpList P ops Q rest a' w') :
    wpList P ops Q (⟨some d, .call ⟨.builtin .append, #[s, q], #[t, T]⟩, ty, pos, aft, none⟩ :: rest) a w := by
  obtain ⟨hm0, hm1, rfl⟩ := Po hm
  obtain ⟨i, z', hi, hz', his, hib, hzs⟩ := E.info
  have hzz : z' = z := by rw [hi] at hz; simp only [Option.bind_some] at hz; rw [hz'] at hz; exact Option.some.inj hz
  subst hzz
  have hby' := Nat.le_of_ble_eq_true hby
  have hbyb : nn.toNat * by_ ≤ 140737488355328 := Nat.le_trans (Nat.mul_le_mul (show nn.toNat ≤ 1000000000 by omega) hby') (by decide)
  subst hib
  have hnn : nn = ((nn.toNat : Nat) : Int) := by omega
  have hps : 0 < nn.toNat * i.size := by rw [his]; exact Nat.mul_pos hp E.pos
  have hrun := Mn (P := P) (w := w) (T := T) t ty e i z' E.desc hT hi hz' nn.toNat hps (by omega) hby' (growslice_fits (by omega) hbyb)
  rw [← hnn] at hrun
  have hg1 := grownCap_ge w nn.toNat 0 e
  have hlen : z'.cells.toList.length = r.sz := by simpa using hzs
  have hzc : ∀ m : Nat, (Builtin.zeroCells z'.cells m).toList = (List.replicate m z'.cells.toList).flatten := fun m => by
    have := PH z'.cells.toList (by rw [hlen]; exact E.pos) m
    rw [hlen] at this
    rw [← this]
    unfold Builtin.zeroCells madeCells
    rw [hzs]
  have hcl : ∀ m : Nat, ((Builtin.zeroCells z'.cells m).toList).length = m * r.sz := fun m => by
    show (Builtin.zeroCells z'.cells m).size = _
    rw [size_zeroCells, hzs]
  have hrep : Cg r w (Fz B (Bn M Z)) (List.replicate nn.toNat z'.cells.toList).flatten (List.replicate nn.toNat z0) := Cg.rep (hr w _) _
  have hA := hW.drew.allocRow ((Builtin.zeroCells z'.cells nn.toNat).toList ++ (Builtin.zeroCells z'.cells (grownCap w nn.toNat 0 e - nn.toNat)).toList) e (m := grownCap w nn.toNat 0 e) (l := List.replicate nn.toNat z0) (r := r)
    (grownCap_le_maxLen _ _ _ _ (by unfold maxLen; omega)) (by
      rw [List.length_append, hcl, hcl, ← Nat.add_mul]
      exact Nat.le_of_eq (by congr 1; omega)) (by rw [List.length_replicate]; exact hg1) (by
      have e1 : (List.replicate nn.toNat z0).length * r.sz = ((Builtin.zeroCells z'.cells nn.toNat).toList).length := by rw [hcl, List.length_replicate]
      rw [e1, List.take_left, hzc]
      exact Cg.stab (w := w) (w' := { w with drawn := w.drawn + 1 }) (fun b hb _ => ⟨hb, rfl⟩) hrep)
  refine N4 hF hn (v := .slice (some ⟨w.heap.size, 0, none⟩) nn.toNat (grownCap w nn.toNat 0 e)) (w' := w.drew.alloc (.cells (Builtin.zeroCells z'.cells nn.toNat ++ Builtin.zeroCells z'.cells (grownCap w nn.toNat 0 e - nn.toNat)) e)) ?_ (fun a' h => k _ a' _ h ?_)
  · simp [execOp, DY, invoke, builtin, hF.eval hs, hF.eval hx, hrun]
  · have e2 : ((Builtin.zeroCells z'.cells nn.toNat).toList ++ (Builtin.zeroCells z'.cells (grownCap w nn.toNat 0 e - nn.toNat)).toList).toArray = Builtin.zeroCells z'.cells nn.toNat ++ Builtin.zeroCells z'.cells (grownCap w nn.toNat 0 e - nn.toNat) := by simp
    rw [e2] at hA
    rw [List.length_replicate] at hA
    exact hA
end
end Go.Proofs.YthhoflfhegfmcaaGreat
