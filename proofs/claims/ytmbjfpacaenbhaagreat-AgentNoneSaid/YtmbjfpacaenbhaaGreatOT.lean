/- Tables of package level: what a row says of them, and reading them. Conditions: none. -/
import Derived.Test.YtmbjfpacaenbhaaGreatOR
import Derived.LaidMore
import Derived.MakeChecks
import Derived.OpenShut
import Derived.ChangeKeysEq
namespace Go.Proofs.YtmbjfpacaenbhaaGreat
set_option linter.unusedVariables false
set_option linter.unusedSimpArgs false
open Go Go.RowKit

open Classical in
/-- What a recursion answers. -/
noncomputable def limF {α : Type} (g : Nat → Option α) : Option α := if h : ∃ n r, g n = some r then some h.choose_spec.choose else none
theorem limF_some {α : Type} {g : Nat → Option α} {r : α} (h : limF g = some r) : ∃ n, g n = some r := by
  unfold limF at h
  split at h
  · rename_i hh
    exact ⟨hh.choose, by rw [hh.choose_spec.choose_spec]; exact h⟩
  · cases h
theorem limF_is {α : Type} {g : Nat → Option α} {e : α} (n : Nat) (hn : g n = some e) (h : ∀ n r, g n = some r → r = e) : limF g = some e := by
  unfold limF
  have hh : ∃ n r, g n = some r := ⟨n, e, hn⟩
  rw [dif_pos hh]
  congr 1
  exact h _ _ hh.choose_spec.choose_spec

/-- A datum of the row tells the plain value. -/
def Tells {α : Type} (P : Program) (t : TypeId) (r : Rp α) (a : α) (d : DataW Unit) : Prop :=
  ∀ (W : World) (fuel : Nat) (cs : List Value) (p : List MemPlace), DataW.trod (fun _ => ()) P W 0 (fun _ => true) false fuel t cs = some (d, p) → r.rep W any cs a

section
variable {P : Program} {t e : TypeId} {α : Type} {r : Rp α}
theorem Tells.int {k : IntKind} {n : Int} (ht : P.underlying t = some (.int k)) : Tells P t (Rp.int k) n (.lit (.int k n)) := by
  intro W fuel cs p h
  obtain ⟨m, rfl, hx, _⟩ := DataW.trod_int ht h
  simp only [Prod.mk.injEq, DataW.lit.injEq, Lit.int.injEq] at hx
  obtain ⟨⟨_, rfl⟩, _⟩ := hx
  rfl
theorem Tells.str {l : List UInt8} (ht : P.underlying t = some .string) : Tells P t Rp.str l (.lit (.string l)) := by
  intro W fuel cs p h
  obtain ⟨s, rfl, hx, _⟩ := DataW.trod_string ht h
  simp only [Prod.mk.injEq, DataW.lit.injEq, Lit.string.injEq] at hx
  obtain ⟨rfl, _⟩ := hx
  show [Value.string s] = [.string (bs s.data.toList)]
  simp [bs]
theorem repL_of {W : World} : ∀ {l : List α} {xs : List (List Value)}, xs.length = l.length → (∀ (i : Nat) (c : List Value) (a : α), xs[i]? = some c → l[i]? = some a → r.rep W any c a) → RepL r W any xs.flatten l
  | [], [], _, _ => rfl
  | a :: l, c :: xs, hl, h => ⟨c, xs.flatten, rfl, h 0 c a rfl rfl, repL_of (by simpa using hl) (fun i c a h1 h2 => h (i + 1) c a h1 h2)⟩
  | [], _ :: _, hl, _ => by simp at hl
  | _ :: _, [], hl, _ => by simp at hl
theorem chunks {β : Type} (k : Nat) : ∀ (n : Nat) (cs : List β), cs.length = n * k → ((List.range n).map fun i => (cs.drop (i * k)).take k).flatten = cs
  | 0, cs, h => by have : cs = [] := List.eq_nil_of_length_eq_zero (by simpa using h); simp [this]
  | n + 1, cs, h => by
    have h2 : (cs.drop k).length = n * k := by rw [List.length_drop, h, Nat.succ_mul]; omega
    have ih := chunks k n (cs.drop k) h2
    rw [List.range_succ_eq_map, List.map_cons, List.flatten_cons, List.map_map]
    have e : ((fun i => (cs.drop (i * k)).take k) ∘ Nat.succ) = fun i => ((cs.drop k).drop (i * k)).take k := by
      funext i; simp [Function.comp, List.drop_drop, Nat.succ_mul, Nat.add_comm]
    rw [e, ih]; simp
theorem Tells.arr {n : Nat} {l : List α} {ds : List (DataW Unit)} (ht : P.underlying t = some (.array n e)) (hc : P.cellsOf t = n * P.cellsOf e) (hln : l.length = n) (hd : ds.length = n)
    (h : ∀ (i : Nat) (a : α) (d : DataW Unit), l[i]? = some a → ds[i]? = some d → Tells P e r a d) : Tells P t (Rp.arr n r) l (.agg ds) := by
  intro W fuel cs p hh
  obtain ⟨xs, m, rfl, hx, hlen, hn, hel⟩ := DataW.trod_array ht hh
  simp only [Prod.mk.injEq, DataW.agg.injEq] at hx
  refine ⟨hln, ?_⟩
  have hk := chunks (P.cellsOf e) n cs (by rw [hlen, hc])
  rw [← hk]
  refine repL_of (by simp [hln]) fun i c a h1 h2 => ?_
  have hi : i < n := by obtain ⟨q, _⟩ := List.getElem?_eq_some_iff.1 h2; omega
  have h1' : (cs.drop (i * P.cellsOf e)).take (P.cellsOf e) = c := by
    simpa [List.getElem?_map, List.getElem?_range hi] using h1
  subst h1'
  have hxi : i < xs.length := by omega
  have h3 := hel i hi
  rw [List.getElem?_eq_getElem hxi] at h3
  refine h i a (xs[i]).1 h2 (by rw [hx.1, List.getElem?_map, List.getElem?_eq_getElem hxi]; rfl) W m _ (xs[i]).2 h3
theorem Tells.ints {n : Nat} {k : IntKind} {l : List Int} (ht : P.underlying t = some (.array n e)) (he : P.underlying e = some (.int k)) (hc : P.cellsOf t = n * P.cellsOf e) (hln : l.length = n) : Tells P t (Rp.arr n (Rp.int k)) l (.agg (l.map fun x => .lit (.int k x))) :=
  Tells.arr ht hc hln (by simp [hln]) fun i a d h1 h2 => by
    rw [List.getElem?_map, h1] at h2
    obtain rfl := Option.some.inj h2
    exact Tells.int he

theorem laid_met {P : Program} {l : List (String × DataW Unit)} {W : World} (h : laidMetH P l W) (hp : (l.all fun x => x.2.handleName?.isNone) = true) : ∃ ps, DataW.LaidVars P W l ps := by
  rw [MakeChecks.laidMetH_plain _ _ _ hp] at h
  obtain ⟨ps, h, _⟩ := h
  exact ⟨ps, h⟩
theorem laid_tail {n : String} {d : DataW Unit} {l : List (String × DataW Unit)} {W : World} (h : ∃ ps, DataW.LaidVars P W ((n, d) :: l) ps) : ∃ ps, DataW.LaidVars P W l ps := by
  obtain ⟨_, g, t, cs, f, p, q, _, _, _, _, h, _⟩ := h
  exact ⟨q, h⟩
/-- The table of a row, read as a slice. -/
theorem laid_tab {n : String} {d : DataW Unit} {l : List (String × DataW Unit)} {W : World} {g k : Nat} {tab : List α} (h : ∃ ps, DataW.LaidVars P W ((n, d) :: l) ps) (hg : P.globalNamed n = some g) (ht : (P.globals[g]?).map (·.type) = some t)
    (T : Tells P t (Rp.arr k r) tab d) : Sl W any r (.slice (some ⟨g, 0, none⟩) k k) tab := by
  obtain ⟨_, g', t', cs, f, p, q, hg', ht', hv, hd, _, _⟩ := h
  obtain rfl := Option.some.inj (hg.symm.trans hg')
  obtain rfl := Option.some.inj (ht.symm.trans ht')
  obtain ⟨h1, h2⟩ := T W f _ p hd
  have hb : g < W.heap.size := by
    simp only [World.var?, hg, Option.bind_some] at hv
    rcases Nat.lt_or_ge g W.heap.size with h | h
    · exact h
    · rw [Array.getElem?_eq_none h] at hv; simp at hv
  subst h1
  refine .inr ⟨g, 0, tab.length, cs.toList, rfl, Nat.le_refl _, trivial, hb, fun j u hj => ?_, h2⟩
  rw [Nat.zero_add, World.var?_cell hg hv j]
  simpa using hj
end

structure Ar (P : Program) (t n e : Nat) (sz : Nat) : Prop where
  desc : P.underlying t = some (.array n e)
  size : (P.info? e).map (·.size) = some sz
theorem Ar.sizeOf {P : Program} {t n e sz : Nat} (E : Ar P t n e sz) (w : World) : (Go.sizeOf e).run P w = .ok sz w := by
  have h := E.size
  cases hi : P.info? e with
  | none => rw [hi] at h; simp at h
  | some i => rw [hi] at h; simp at h; simp [Go.sizeOf, typeInfo, hi, h]

section
variable {P : Program} {α : Type} {r : Rp α} {l : List α} {v : Value} {x : α} {i : Int} {t e : Nat} {n : Nat} {ds : List Deferred} {F : List (Nat × Value)} {a : Act} {B : Bs} {M : Blks} {Z : List It} {dst : Option Tmp} {ty : TypeId} {pos : String} {aft : Array Edge} {g : Option (Nat × Bool)}
theorem y_indexG {s iop : Operand} {m q : Nat} {k : IntKind} (E : Ar P t m e r.sz) (hF : Fr n ds F a) (hx : opv F s = some (.pointer (some ⟨q, 0, none⟩))) (hi : opv F iop = some (.int k i)) (hv : v = .slice (some ⟨q, 0, none⟩) m m) (hln : l.length = m) (hik : ix l i = some x) :
    Yx P B M Z a ⟨dst, .indexAddr t s iop, ty, pos, aft, g⟩ (.pointer (some ⟨vblk v, voff v + i.toNat * r.sz, none⟩)) :=
  yl_of fun w hw => by
    obtain ⟨h0, hk, _⟩ := ix_lt hik
    have hsz := E.sizeOf (P := P) w
    subst hv
    have h1 : i < (m : Int) := by omega
    simp [execOp, Instr.indexAt, hF.eval hx, hF.eval hi, asIntOf, Go.underlying, E.desc, h0, h1, hsz, addr_add, vblk, voff, Instr.sureAddr]

/-! ### Arrays whose elements take one cell -/
theorem run_items {d e : Nat} {k k' : IntKind} (he : P.underlying e = some (.int k')) (T : Ty P e false 1) (ps qs : List Int) (w : World) : ∀ (js : List Nat), (∀ j ∈ js, j < ps.length ∧ j < qs.length) →
    (Op.eqItems (d + 1) e 1 (ps.map (Value.int k)).toArray (qs.map (Value.int k)).toArray js).run P w = .ok (js.all fun j => decide (ps[j]? = qs[j]?)) w
  | [], _ => by simp [Op.eqItems]
  | j :: js, h => by
    obtain ⟨h1, h2⟩ := h j (by simp)
    have ih := run_items (d := d) (k := k) he T ps qs w js fun q hq => h q (by simp [hq])
    have e1 : ps[j]? = some ps[j] := List.getElem?_eq_getElem h1
    have e2 : qs[j]? = some qs[j] := List.getElem?_eq_getElem h2
    have p1 : (part e (ps.map (Value.int k)).toArray (j * 1)).run P w = .ok (.int k ps[j]) w := by simp [part, T.isAgg, e1]
    have p2 : (part e (qs.map (Value.int k)).toArray (j * 1)).run P w = .ok (.int k qs[j]) w := by simp [part, T.isAgg, e2]
    simp only [Op.eqItems, Sem.run_bind, p1, p2, Result.andThen_ok, run_equalIn_int w d e k k' _ _ he, List.all_cons, e1, e2]
    by_cases hq : ps[j] = qs[j]
    · simp [hq, ih]
    · simp [hq]
theorem eq_arr {d t e m : Nat} {k k' : IntKind} (E : Ar P t m e 1) (he : P.underlying e = some (.int k')) (T : Ty P e false 1) (ps qs : List Int) (hp : ps.length = m) (hq : qs.length = m) (w : World) :
    (Op.equalIn (d + 2) t (.agg (ps.map (Value.int k)).toArray) (.agg (qs.map (Value.int k)).toArray)).run P w = .ok (decide (ps = qs)) w := by
  obtain ⟨i, hi, hs⟩ : ∃ i, P.info? e = some i ∧ i.size = 1 := by
    have h := E.size
    cases hi : P.info? e with
    | none => rw [hi] at h; simp at h
    | some i => rw [hi] at h; exact ⟨i, rfl, by simpa using h⟩
  have hc : P.cellsOf e = 1 := by simp [Program.cellsOf, hi, hs]
  rw [run_equalIn_array w (d + 1) _ _ E.desc hi, hc, run_items he T ps qs w (List.range m) (fun j hj => by have := List.mem_range.1 hj; omega)]
  congr 1
  by_cases h : ps = qs
  · subst h; simp
  · rw [decide_eq_false h]
    rw [Bool.eq_false_iff]
    intro hall
    apply h
    refine List.ext_getElem? fun j => ?_
    by_cases hj : j < m
    · exact of_decide_eq_true (List.all_eq_true.1 hall j (List.mem_range.2 hj))
    · rw [List.getElem?_eq_none (by omega), List.getElem?_eq_none (by omega)]
theorem rdv_dyn {enc : α → Value} {cs : List Value} {base m : Nat} (hcs : (cs.drop base).take m = l.map enc) (hik : ix l i = some x) : rdv false 1 cs (base + i.toNat * 1) = some (enc x) := by
  obtain ⟨h0, hk, hx⟩ := ix_lt hik
  have h1 : ((cs.drop base).take m)[i.toNat]? = some (enc x) := by rw [hcs, List.getElem?_map, hx]; rfl
  have hm : i.toNat < m := by have := (List.getElem?_eq_some_iff.1 h1).1; simp at this; omega
  rw [List.getElem?_take_of_lt hm, List.getElem?_drop] at h1
  show cs[base + i.toNat * 1]? = _
  rw [Nat.mul_one]; exact h1
theorem y_indexP {s iop : Operand} {m b off sz : Nat} {k : IntKind} (off' : Nat) (E : Ar P t m e sz) (hF : Fr n ds F a) (hx : opv F s = some (.pointer (some ⟨b, off, none⟩))) (hi : opv F iop = some (.int k i)) (hln : l.length = m) (hik : ix l i = some x) (ho : off + i.toNat * sz = off') :
    Yx P B M Z a ⟨dst, .indexAddr t s iop, ty, pos, aft, g⟩ (.pointer (some ⟨b, off', none⟩)) :=
  yl_of fun w hw => by
    obtain ⟨h0, hk, _⟩ := ix_lt hik
    have hsz := E.sizeOf (P := P) w
    subst ho
    have h1 : i < (m : Int) := by omega
    simp [execOp, Instr.indexAt, hF.eval hx, hF.eval hi, asIntOf, Go.underlying, E.desc, h0, h1, hsz, addr_add, Instr.sureAddr]
theorem y_indexA {enc : α → Value} {s iop : Operand} {m : Nat} {k : IntKind} {cs : List Value} (E : Ar P t m e 1) (T : Ty P e false 1) (hF : Fr n ds F a) (hx : opv F s = some (.agg cs.toArray)) (hi : opv F iop = some (.int k i)) (hln : l.length = m) (hcs : cs = l.map enc) (hik : ix l i = some x) :
    Yx P B M Z a ⟨dst, .index t s iop, ty, pos, aft, g⟩ (enc x) :=
  yl_of fun w hw => by
    obtain ⟨h0, hk, hxx⟩ := ix_lt hik
    have hsz := E.sizeOf (P := P) w
    have h1 : i < (m : Int) := by omega
    have h2 : cs[i.toNat]? = some (enc x) := by rw [hcs, List.getElem?_map, hxx]; rfl
    simp [execOp, Instr.index, hF.eval hx, hF.eval hi, asIntOf, Go.underlying, E.desc, h0, h1, hsz, part, T.isAgg, h2]
theorem l_store_dyn {Q : Exit → Act → World → Prop} {rest : List Oper} {ops : Array Oper} {w : World} {x' y : Operand} {b o m : Nat} {cs cs' : List Value} {v : Value} (q : Nat) (hF : Fr n ds F a) (hW : Stw B M Z w) (hx : opv F x' = some (.pointer (some ⟨b, o + i.toNat * 1, none⟩))) (hy : opv F y = some v) (hM : M[q]? = some (b, cs)) (T : Ty P t false 1)
    (hv : v.cells.toList = [v]) (h1 : v.oneCell' = true) (hl : Nat.ble (o + m) cs.length = true) (hln : l.length = m) (hik : ix l i = some x) (hcs : ∀ k : Nat, i = (k : Int) → k < m → putL cs (o + k * 1) [v] = cs')
    (k : ∀ w', Stw B (M.set q (b, cs')) Z w' → wpList P ops Q rest a w') : wpList P ops Q (⟨none, .store t x' y, ty, pos, aft, none⟩ :: rest) a w := by
  obtain ⟨h0, hk, _⟩ := ix_lt hik
  have hle := Nat.le_of_ble_eq_true hl
  refine l_store (vs := [v]) (M' := M.set q (b, cs')) q hF hW hx hy hM T hv rfl (Nat.ble_eq_true_of_le (by simp; omega)) (by simp [h1]) ?_ k
  rw [hcs i.toNat (by omega) (by omega)]
theorem y_buildA {t m e sz : Nat} {zs cs : List Value} {parts : List (Nat × Operand)} {vp : List (Nat × Value)} {v : Value} (E : Ar P t m e sz) (hz : ∃ z, (P.info? t).bind (·.zero) = some z ∧ z.cells = zs.toArray) (hF : Fr n ds F a) (hx : evp F parts = some vp) (hf : fillL (fun i => some (i * sz, sz)) zs vp = some cs) (hv : Value.agg cs.toArray = v) :
    Yx P B M Z a ⟨dst, .build t parts.toArray, ty, pos, aft, g⟩ v :=
  yl_of fun w hw => by
    subst hv
    obtain ⟨z, hz, hzc⟩ := hz
    have hfill := fill_fillL hf
    have hsz := E.sizeOf (P := P) w
    have he : (parts.toArray.map fun (i, x) => (i, a.eval x)) = vp.toArray := by rw [← hF.evalp hx]; simp
    simp only [execOp, Instr.build, he, Sem.run_bind, run_zero hz, Result.andThen_ok, hzc, Go.underlying, run_program, E.desc, Sem.run_pure, hsz]
    simp only [hfill, Sem.run_pure, Result.andThen_ok]
end
end Go.Proofs.YtmbjfpacaenbhaaGreat
