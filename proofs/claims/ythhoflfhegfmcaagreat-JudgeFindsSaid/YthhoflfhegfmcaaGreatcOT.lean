/- Tables of package level: what a row says of them, and reading them. Conditions: none. -/
import Derived.Test.YthhoflfhegfmcaaGreatcOR
import Derived.LaidMore
import Derived.MakeChecks
import Derived.OpenShut
import Derived.ChangeKeysEq
namespace Go.Proofs.YthhoflfhegfmcaaGreat
set_option linter.unusedVariables false
set_option linter.unusedSimpArgs false
open Go Go.RowKit
open Classical in
noncomputable def Sy {α : Type} (g : Nat → Option α) : Option α := if h : ∃ n r, g n = some r then some h.choose_spec.choose else none
theorem Sz {α : Type} {g : Nat → Option α} {r : α} (h : Sy g = some r) : ∃ n, g n = some r := by
  unfold Sy at h
  split at h
  · rename_i hh
    exact ⟨hh.choose, by rw [hh.choose_spec.choose_spec]; exact h⟩
  · cases h
theorem Vv {α : Type} {g : Nat → Option α} {e : α} (n : Nat) (hn : g n = some e) (h : ∀ n r, g n = some r → r = e) : Sy g = some e := by
  unfold Sy
  have hh : ∃ n r, g n = some r := ⟨n, e, hn⟩
  rw [dif_pos hh]
  congr 1
  exact h _ _ hh.choose_spec.choose_spec
def Mg {α : Type} (P : Program) (t : TypeId) (r : Rp α) (a : α) (d : DataW Unit) : Prop :=
  ∀ (W : World) (fuel : Nat) (cs : List Value) (p : List MemPlace), DataW.trod (fun _ => ()) P W 0 (fun _ => true) false fuel t cs = some (d, p) → r.rep W any cs a
section
variable {P : Program} {t e : TypeId} {α : Type} {r : Rp α}
theorem Mg.int {k : IntKind} {n : Int} (ht : P.underlying t = some (.int k)) : Mg P t (Rp.int k) n (.lit (.int k n)) := by
  intro W fuel cs p h
  obtain ⟨m, rfl, hx, _⟩ := DataW.trod_int ht h
  simp only [Prod.mk.injEq, DataW.lit.injEq, Lit.int.injEq] at hx
  obtain ⟨⟨_, rfl⟩, _⟩ := hx
  rfl
theorem Sa {W : World} : ∀ {l : List α} {xs : List (List Value)}, xs.length = l.length → (∀ (i : Nat) (c : List Value) (a : α), xs[i]? = some c → l[i]? = some a → r.rep W any c a) → Cg r W any xs.flatten l
  | [], [], _, _ => rfl
  | a :: l, c :: xs, hl, h => ⟨c, xs.flatten, rfl, h 0 c a rfl rfl, Sa (by simpa using hl) (fun i c a h1 h2 => h (i + 1) c a h1 h2)⟩
  | [], _ :: _, hl, _ => by simp at hl
  | _ :: _, [], hl, _ => by simp at hl
theorem TI {β : Type} (k : Nat) : ∀ (n : Nat) (cs : List β), cs.length = n * k → ((List.range n).map fun i => (cs.drop (i * k)).take k).flatten = cs
  | 0, cs, h => by have : cs = [] := List.eq_nil_of_length_eq_zero (by simpa using h); simp [this]
  | n + 1, cs, h => by
    have h2 : (cs.drop k).length = n * k := by rw [List.length_drop, h, Nat.succ_mul]; omega
    have ih := TI k n (cs.drop k) h2
    rw [List.range_succ_eq_map, List.map_cons, List.flatten_cons, List.map_map]
    have e : ((fun i => (cs.drop (i * k)).take k) ∘ Nat.succ) = fun i => ((cs.drop k).drop (i * k)).take k := by
      funext i; simp [Function.comp, List.drop_drop, Nat.succ_mul, Nat.add_comm]
    rw [e, ih]; simp
theorem Mg.arr {n : Nat} {l : List α} {ds : List (DataW Unit)} (ht : P.underlying t = some (.array n e)) (hc : P.cellsOf t = n * P.cellsOf e) (hln : l.length = n) (hd : ds.length = n)
    (h : ∀ (i : Nat) (a : α) (d : DataW Unit), l[i]? = some a → ds[i]? = some d → Mg P e r a d) : Mg P t (Rp.arr n r) l (.agg ds) := by
  intro W fuel cs p hh
  obtain ⟨xs, m, rfl, hx, hlen, hn, hel⟩ := DataW.trod_array ht hh
  simp only [Prod.mk.injEq, DataW.agg.injEq] at hx
  refine ⟨hln, ?_⟩
  have hk := TI (P.cellsOf e) n cs (by rw [hlen, hc])
  rw [← hk]
  refine Sa (by simp [hln]) fun i c a h1 h2 => ?_
  have hi : i < n := by obtain ⟨q, _⟩ := List.getElem?_eq_some_iff.1 h2; omega
  have h1' : (cs.drop (i * P.cellsOf e)).take (P.cellsOf e) = c := by
    simpa [List.getElem?_map, List.getElem?_range hi] using h1
  subst h1'
  have hxi : i < xs.length := by omega
  have h3 := hel i hi
  rw [List.getElem?_eq_getElem hxi] at h3
  refine h i a (xs[i]).1 h2 (by rw [hx.1, List.getElem?_map, List.getElem?_eq_getElem hxi]; rfl) W m _ (xs[i]).2 h3
theorem Mg.ints {n : Nat} {k : IntKind} {l : List Int} (ht : P.underlying t = some (.array n e)) (he : P.underlying e = some (.int k)) (hc : P.cellsOf t = n * P.cellsOf e) (hln : l.length = n) : Mg P t (Rp.arr n (Rp.int k)) l (.agg (l.map fun x => .lit (.int k x))) :=
  Mg.arr ht hc hln (by simp [hln]) fun i a d h1 h2 => by
    rw [List.getElem?_map, h1] at h2
    obtain rfl := Option.some.inj h2
    exact Mg.int he
end
structure Ar (P : Program) (t n e : Nat) (sz : Nat) : Prop where
  desc : P.underlying t = some (.array n e)
  size : (P.info? e).map (·.size) = some sz
theorem Ar.sizeOf {P : Program} {t n e sz : Nat} (E : Ar P t n e sz) (w : World) : (Go.sizeOf e).run P w = .ok sz w := by
  have h := E.size
  cases hi : P.info? e with
  | none => rw [hi] at h; simp at h
  | some i => rw [hi] at h; simp at h; simp [Go.sizeOf, typeInfo, hi, h]
section
variable {P : Program} {α : Type} {r : Rp α} {l : List α} {v : Value} {x : α} {i : Int} {t e : Nat} {n : Nat} {ds : List Deferred} {F : List (Nat × Value)} {a : Act} {B : Bs} {M : Dg} {Z : List It} {dst : Option Tmp} {ty : TypeId} {pos : String} {aft : Array Edge} {g : Option (Nat × Bool)}
theorem IK {enc : α → Value} {cs : List Value} {base m : Nat} (hcs : (cs.drop base).take m = l.map enc) (hik : ix l i = some x) : P9 false 1 cs (base + i.toNat * 1) = some (enc x) := by
  obtain ⟨h0, hk, hx⟩ := HO hik
  have h1 : ((cs.drop base).take m)[i.toNat]? = some (enc x) := by rw [hcs, List.getElem?_map, hx]; rfl
  have hm : i.toNat < m := by have := (List.getElem?_eq_some_iff.1 h1).1; simp at this; omega
  rw [List.getElem?_take_of_lt hm, List.getElem?_drop] at h1
  show cs[base + i.toNat * 1]? = _
  rw [Nat.mul_one]; exact h1
theorem E9 {s iop : Operand} {m b off sz : Nat} {k : IntKind} (off' : Nat) (E : Ar P t m e sz) (hF : Fr n ds F a) (hx : D4 F s = some (.pointer (some ⟨b, off, none⟩))) (hi : D4 F iop = some (.int k i)) (hln : l.length = m) (hik : ix l i = some x) (ho : off + i.toNat * sz = off') :
    Yx P B M Z a ⟨dst, .indexAddr t s iop, ty, pos, aft, g⟩ (.pointer (some ⟨b, off', none⟩)) :=
  Dt fun w hw => by
    obtain ⟨h0, hk, _⟩ := HO hik
    have hsz := E.sizeOf (P := P) w
    subst ho
    have h1 : i < (m : Int) := by omega
    simp [execOp, Instr.indexAt, hF.eval hx, hF.eval hi, asIntOf, Go.underlying, E.desc, h0, h1, hsz, Ef, Instr.sureAddr]
theorem Ib {Q : Exit → Act → World → Prop} {rest : List Oper} {ops : Array Oper} {w : World} {x' y : Operand} {b o m : Nat} {cs cs' : List Value} {v : Value} (q : Nat) (hF : Fr n ds F a) (hW : Stw B M Z w) (hx : D4 F x' = some (.pointer (some ⟨b, o + i.toNat * 1, none⟩))) (hy : D4 F y = some v) (hM : M[q]? = some (b, cs)) (T : Ty P t false 1)
    (hv : v.cells.toList = [v]) (h1 : v.oneCell' = true) (hl : Nat.ble (o + m) cs.length = true) (hln : l.length = m) (hik : ix l i = some x) (hcs : ∀ k : Nat, i = (k : Int) → k < m → Ij cs (o + k * 1) [v] = cs')
    (k : ∀ w', Stw B (M.set q (b, cs')) Z w' → wpList P ops Q rest a w') : wpList P ops Q (⟨none, .store t x' y, ty, pos, aft, none⟩ :: rest) a w := by
  obtain ⟨h0, hk, _⟩ := HO hik
  have hle := Nat.le_of_ble_eq_true hl
  refine Pt (vs := [v]) (M' := M.set q (b, cs')) q hF hW hx hy hM T hv rfl (Nat.ble_eq_true_of_le (by simp; omega)) (by simp [h1]) ?_ k
  rw [hcs i.toNat (by omega) (by omega)]
end
end Go.Proofs.YthhoflfhegfmcaaGreat
