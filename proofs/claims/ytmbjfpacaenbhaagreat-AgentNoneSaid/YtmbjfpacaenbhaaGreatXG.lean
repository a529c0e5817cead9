/- A run that is computed: operations on memory, but for maps. Conditions: none. -/
import Derived.Test.YtmbjfpacaenbhaaGreatXF
namespace Go.Proofs.YtmbjfpacaenbhaaGreat
set_option linter.unusedVariables false
set_option linter.unusedSimpArgs false
open Go Go.RowKit

abbrev Res := Option AW × SW
def Out (P : Program) (B : Bs) (op : Op) (a : Act) (e : En) (w : World) (x : Res) : Prop := ∃ e' w', Xt e e' ∧ RelS B e' x.2 w' ∧ match x.1 with
  | some v => ∃ u, v.dn e' = some u ∧ ∀ dst ty pos aft g, (execOp a.eval ⟨dst, op, ty, pos, aft, g⟩).run P w = .ok (.value u) w'
  | none => ∀ dst ty pos aft g, (execOp a.eval ⟨dst, op, ty, pos, aft, g⟩).run P w = .ok .skip w'
/-- The elements that a slice is of. -/
def srcW (S : SW) (sz : Nat) : AW → Option (Nat × List CW)
  | .one .nils => some (0, [])
  | .one (.tl _ _ _ _) => some (0, [])
  | .one (.sl n o z len _) => match getM S.M n with
    | some (_, _, cs) => match Nat.ble (o + len * sz) cs.length with | true => some (len, (cs.drop o).take (len * sz)) | false => none
    | none => none
  | _ => none
def zroW (zs : List CW) (m : Nat) : List CW := (List.replicate m zs).flatten
def zrpW (zs : List CW) (sz m : Nat) : List CW := (List.range (m * sz)).map fun i => zs.getD (i % sz) .nils
def evApp (S : SW) (sz by_ : Nat) (x : AW) (m : Nat) (news : List CW) : Option (AW × SW) := match x with
  | .one .nils => match m with
    | 0 => some (.one .nils, S)
    | m + 1 => match Nat.ble ((m + 1) * by_) 140737488355328 && Nat.ble (m + 1) 140737488355328 with
      | true => (newB S (some sz) news).map fun r => (.one (.sl r.1 0 sz (m + 1) none), r.2)
      | false => none
  | .one (.sl n o z len c) => match getM S.M n, Nat.beq z sz && (Nat.ble ((len + m) * by_) 140737488355328 && Nat.ble (len + m) 140737488355328) with
    | some (_, q, cs), true => match c with
      | some cap => match Nat.ble (len + m) cap with
        | true => match Nat.ble (o + len * sz + m * sz) cs.length with
          | true => some (.one (.sl n o sz (len + m) (some cap)), ⟨modM n q (puW cs (o + len * sz) news) S.M, S.Z, S.us, S.nx⟩)
          | false => none
        | false => match Nat.ble (o + len * sz) cs.length && Nat.blt 0 m with
          | true => (newB S (some sz) ((cs.drop o).take (len * sz) ++ news)).map fun r => (.one (.sl r.1 0 sz (len + m) none), r.2)
          | false => none
      | none => match q, Nat.beq o 0 with
        | some z', true => match Nat.beq z' sz, Nat.ble ((len + m) * sz) cs.length, Nat.ble (len * sz) cs.length with
          | true, true, _ => some (.one (.sl n 0 sz (len + m) none), ⟨modM n q (puW cs (len * sz) news) S.M, S.Z, S.us, S.nx⟩)
          | true, false, true => (newB ⟨dropM n S.M, S.Z, S.us, S.nx⟩ (some sz) (cs.take (len * sz) ++ news)).map fun r => (.one (.sl r.1 0 sz (len + m) none), r.2)
          | _, _, _ => none
        | _, _ => none
    | _, _ => none
  | _ => none
noncomputable def evM (P : Program) (tb : TB) (F : FW) (S : SW) : Op → Option Res
  | .store t x y => match opW F x, (opW F y).bind AW.cs, ti tb t with
    | some (.one (.ptr n o)), some new, some y => match getM S.M n with
      | some (_, q, cs) => match Nat.beq new.length y.sz && Nat.ble (o + new.length) cs.length with
        | true => some (none, ⟨modM n q (puW cs o new) S.M, S.Z, S.us, S.nx⟩)
        | false => none
      | none => none
    | _, _, _ => none
  | .alloc t => match ti tb t with
    | some y => (newB S none y.zs).map fun r => (some (.one (.ptr r.1 0)), r.2)
    | none => none
  | .box _ x => match (opW F x).bind AW.cs with
    | some cs => (newB S none cs).map fun r => (some (.one (.ptr r.1 0)), r.2)
    | none => none
  | .buildSlice t m ps => match ti tb t, prW F ps.toList with
    | some ⟨_, _, _, .slice el⟩, some pr => match ti tb el with
      | some y => match Nat.ble (m * y.sz) 16777216 && Nat.blt 0 y.sz with
        | true => match fillW (fun i => some (i * y.sz, y.sz)) (zrpW y.zs y.sz m) pr with
          | some cs => (newB S none cs).map fun r => (some (.one (.sl r.1 0 y.sz m (some m))), r.2)
          | none => none
        | false => none
      | none => none
    | _, _ => none
  | .makeSlice t l c => match ti tb t, opW F l, opW F c with
    | some ⟨_, _, _, .slice el⟩, some (.one (.int _ l)), some (.one (.int _ c)) => match ti tb el with
      | some y => match decide (0 ≤ l ∧ l ≤ c ∧ (y.by_ : Int) * c ≤ 281474976710656 ∧ c ≤ 9223372036854775807 ∧ 0 < y.sz) with
        | true => (newB S none (zroW y.zs c.toNat)).map fun r => (some (.one (.sl r.1 0 y.sz l.toNat (some c.toNat))), r.2)
        | false => none
      | none => none
    | _, _, _ => none
  | .call ⟨.builtin .append, ⟨[x, y]⟩, ⟨[t, t']⟩⟩ => match ti tb t, opW F x, opW F y, Nat.beq t t' with
    | some ⟨_, _, _, .slice el⟩, some x, some y, true => match ti tb el with
      | some z => match Nat.blt 0 z.sz, srcW S z.sz y with
        | true, some (m, news) => (evApp S z.sz z.by_ x m news).map fun r => (some r.1, r.2)
        | _, _ => none
      | none => none
    | _, _, _, _ => none
  | .call ⟨.builtin .copy, ⟨[x, y]⟩, ⟨[t, _]⟩⟩ => match ti tb t, opW F x, opW F y with
    | some ⟨_, _, _, .slice el⟩, some (.one (.sl n o _ len _)), some y => match ti tb el with
      | some z => match srcW S z.sz y, getM S.M n with
        | some (m, news), some (_, q, cs) => match Nat.ble (o + Nat.min m len * z.sz) cs.length with
          | true => some (some (.one (.int .i64 ((Nat.min m len : Nat) : Int))), ⟨modM n q (puW cs o (news.take (Nat.min m len * z.sz))) S.M, S.Z, S.us, S.nx⟩)
          | false => none
        | _, _ => none
      | none => none
    | _, _, _ => none
  | .call ⟨.builtin .clear, ⟨[x]⟩, ⟨[t]⟩⟩ => match ti tb t, opW F x with
    | some ⟨_, _, _, .slice el⟩, some (.one (.sl n o _ len _)) => match ti tb el, getM S.M n with
      | some z, some (_, q, cs) => match Nat.ble (o + len * z.sz) cs.length && Nat.blt 0 z.sz with
        | true => some (some (.tup []), ⟨modM n q (puW cs o (zroW z.zs len)) S.M, S.Z, S.us, S.nx⟩)
        | false => none
      | _, _ => none
    | some ⟨_, _, _, .slice _⟩, some (.one .nils) => some (some (.tup []), S)
    | _, _ => none
  | _ => none
theorem zroW_ok {e : En} {zs : List CW} {zv : List Value} (h : dnL e zs = some zv) : ∀ m, dnL e (zroW zs m) = some (List.replicate m zv).flatten
  | 0 => rfl
  | m + 1 => by
    unfold zroW
    rw [List.replicate_succ, List.replicate_succ, List.flatten_cons, List.flatten_cons]
    exact dnL_app h (zroW_ok h m)
theorem dnL_map {e : En} {f : Nat → CW} {g : Nat → Value} : ∀ l : List Nat, (∀ i ∈ l, (f i).dn e = some (g i)) → dnL e (l.map f) = some (l.map g)
  | [], _ => rfl
  | i :: l, h => dnL_mk (h i (List.mem_cons_self ..)) (dnL_map l fun j hj => h j (List.mem_cons_of_mem _ hj))
theorem zrpW_ok {e : En} {zs : List CW} {zv : List Value} {sz : Nat} (h : dnL e zs = some zv) (hl : zs.length = sz) (hp : 0 < sz) (m : Nat) : dnL e (zrpW zs sz m) = some ((List.range (m * sz)).map fun i => zv[i % sz]!) :=
  dnL_map _ fun i _ => by
    have hi : i % sz < zs.length := by rw [hl]; exact Nat.mod_lt _ hp
    obtain ⟨v, h1, h2⟩ := dnL_get h (List.getElem?_eq_getElem hi)
    rw [List.getD_eq_getElem?_getD, List.getElem?_eq_getElem hi, Option.getD_some, h2]
    rw [List.getElem!_eq_getElem?_getD, h1]; rfl
section
variable {P : Program} {tb : TB} {B : Bs} {e : En} {n : Nat} {ds : List Deferred} {F : FW} {S : SW} {a : Act} {w : World} {op : Op} {x : Res}
theorem srcW_ok (hS : RelS B e S w) {y : AW} {v : Value} {sz m : Nat} {news : List CW} (h : srcW S sz y = some (m, news)) (hv : y.dn e = some v) : news.length = m * sz ∧ ∃ us, dnL e news = some us ∧
    ((v = .slice none 0 0 ∧ m = 0 ∧ news = []) ∨ ∃ b o c, v = .slice (some ⟨b, o, none⟩) m c ∧ ∀ j u, us[j]? = some u → w.cell? ((⟨b, o, none⟩ : Addr).add j) = some u) := by
  unfold srcW at h
  split at h
  · cases h; cases hv
    exact ⟨by simp, [], rfl, .inl ⟨rfl, rfl, rfl⟩⟩
  · cases h
    obtain ⟨b, p, c, rfl⟩ := tl_dn hv
    exact ⟨by simp, [], rfl, .inr ⟨b, p, c, rfl, fun j u hj => by simp at hj⟩⟩
  · rename_i k o z len c
    split at h
    · rename_i i q cs hg
      split at h
      · rename_i hl
        cases h
        have hl := Nat.le_of_ble_eq_true hl
        obtain ⟨b, hb, rfl, _⟩ := sl_dn hv
        obtain ⟨M, Z, h1, h2, _⟩ := hS
        obtain ⟨b', us, tl, g1, g2, g3, g4⟩ := h2.get hg
        rw [hb] at g2; cases g2
        have l1 := dnL_len g3
        refine ⟨by rw [List.length_take, List.length_drop]; omega, _, dnL_take _ (dnL_drop o g3), .inr ⟨b, o, _, rfl, fun j u hu => ?_⟩⟩
        rw [addr_add, h1.cell g1]
        rw [List.getElem?_take] at hu
        split at hu
        · rw [List.getElem?_drop] at hu
          rw [List.getElem?_append_left (List.getElem?_eq_some_iff.1 hu).1]; exact hu
        · cases hu
      · cases h
    · cases h
  · cases h
/-- Storing from a place on. -/
theorem RelS.put (hS : RelS B e S w) {k i o : Nat} {q : Option Nat} {cs new : List CW} (hg : getM S.M k = some (i, q, cs)) {b : Nat} (hb : e.b k = some b) {vs : List Value} (hv : dnL e new = some vs) (hl : o + new.length ≤ cs.length) :
    ∃ w', (storeCells ⟨b, o, none⟩ vs).run P w = .ok () w' ∧ RelS B e ⟨modM k q (puW cs o new) S.M, S.Z, S.us, S.nx⟩ w' := hS.store hg hb hv hl
theorem evApp_ok (hS : RelS B e S w) {t el ty : Nat} {y : TI} (ht : P.underlying t = some (.slice el)) (hy : TIo P el y) (hp : 0 < y.sz) {x : AW} {v sv : Value} (hv : x.dn e = some v) {m : Nat} {news : List CW} {r : AW × SW} (h : evApp S y.sz y.by_ x m news = some r)
    {us : List Value} (hn : news.length = m * y.sz) (hu : dnL e news = some us) (hsrc : (sv = .slice none 0 0 ∧ m = 0 ∧ news = []) ∨ ∃ b o c, sv = .slice (some ⟨b, o, none⟩) m c ∧ ∀ j u, us[j]? = some u → w.cell? ((⟨b, o, none⟩ : Addr).add j) = some u) :
    ∃ e' w' u, Xt e e' ∧ RelS B e' r.2 w' ∧ r.1.dn e' = some u ∧ (Builtin.append_ #[t, t] ty #[v, sv]).run P w = .ok u w' := by
  obtain ⟨inf, z, hi, his, hib, hz, hzz, hzl, _⟩ := hy.info
  have hul := dnL_len hu
  have hzs : z.cells.size = y.sz := by have := dnL_len (hzz e); rw [hzl] at this; simpa using this
  have hdraw : ∀ {S : SW} , RelS B e S w → RelS B e S w.drew := fun h => h.below ⟨rfl, rfl, rfl, Nat.le_refl _, fun _ _ => rfl⟩
  -- a new row
  have hnew : ∀ {S0 : SW} {olds : List CW} {os : List Value} {len old : Nat} {r0 : Nat × SW}, RelS B e S0 w → newB S0 (some y.sz) (olds ++ news) = some r0 → dnL e olds = some os → olds.length = len * y.sz → len + m ≤ 140737488355328 →
      ∃ e' u, Xt e e' ∧ RelS B e' r0.2 (w.drew.alloc (.cells (os.toArray ++ us.toArray ++ Builtin.zeroCells z.cells (grownCap w (len + m) old el - (len + m))) el)) ∧ (AW.one (.sl r0.1 0 y.sz (len + m) none)).dn e' = some u ∧ u = .slice (some ⟨w.heap.size, 0, none⟩) (len + m) (grownCap w (len + m) old el) := by
    intro S0 olds os len old r0 h0 hnb ho hol hb
    obtain ⟨rn, rS⟩ := r0
    have hge := grownCap_ge w (len + m) old el
    have hos := dnL_len ho
    obtain ⟨g1, g2, g3⟩ := (hdraw h0).alloc (k := grownCap w (len + m) old el) hnb (us := os ++ us) (tl := (Builtin.zeroCells z.cells (grownCap w (len + m) old el - (len + m))).toList) (dnL_app ho hu) (by
      refine ⟨?_, hp⟩
      simp only [List.length_append, Array.length_toList, size_zeroCells, hzs, hos, hol, hul, hn, ← Nat.add_mul]
      congr 1; omega) el
    refine ⟨_, _, g1, ?_, ?_, rfl⟩
    · have e1 : (os ++ us ++ (Builtin.zeroCells z.cells (grownCap w (len + m) old el - (len + m))).toList).toArray = os.toArray ++ us.toArray ++ Builtin.zeroCells z.cells (grownCap w (len + m) old el - (len + m)) := by
        simp
      rw [e1] at g2; exact g2
    · have hk : (e.new rn w.drew.heap.size (grownCap w (len + m) old el)).κ rn - 0 / y.sz = grownCap w (len + m) old el := by rw [En.new_k, Nat.zero_div, Nat.sub_zero]
      show CW.dn (e.new rn w.drew.heap.size (grownCap w (len + m) old el)) (.sl rn 0 y.sz (len + m) none) = _
      rw [sl_mk g3 (fun _ => by rw [hk]; exact hge), hk]; rfl
  unfold evApp at h
  split at h
  · cases hv
    split at h
    · cases h
      rcases hsrc with ⟨rfl, _, _⟩ | ⟨b, o, c, rfl, _⟩
      · exact ⟨e, w, _, Xt.rfl', hS, rfl, by simp [Builtin.append_, run_underlying ht, sizeOf, typeInfo, hi, Builtin.lenOf, Builtin.firstCells, storeCells]⟩
      · exact ⟨e, w, _, Xt.rfl', hS, rfl, by simp [Builtin.append_, run_underlying ht, sizeOf, typeInfo, hi, Builtin.lenOf, Builtin.firstCells, storeCells, loadCells, loadCellsFrom]⟩
    · rename_i m
      split at h
      · rename_i hbd
        rw [Bool.and_eq_true] at hbd
        have b1 := Nat.le_of_ble_eq_true hbd.1
        have b2 := Nat.le_of_ble_eq_true hbd.2
        obtain ⟨r0, h1, rfl⟩ := map_some h
        rcases hsrc with ⟨_, h0, _⟩ | ⟨b, o, c, rfl, hcell⟩
        · omega
        · obtain ⟨e', u, k1, k2, k3, k4⟩ := hnew (olds := []) (os := []) (len := 0) (old := 0) hS (by simpa using h1) rfl (by simp) (by omega)
          have hr := run_append_nil (P := P) w t ty el inf z ht hi hz ⟨b, o, none⟩ (m + 1) c us (by rw [hul, hn, his]) (fun j u hj => hcell j u hj) (by omega) (by omega) (by rw [hib]; omega)
          refine ⟨e', _, u, k1, k2, by simpa using k3, ?_⟩
          rw [hr, k4]
          simp
      · cases h
  · rename_i k o z' len c
    split at h
    · rename_i i q cs hg hbd
      simp only [Bool.and_eq_true] at hbd
      have hz' := Nat.eq_of_beq_eq_true hbd.1
      have b1 := Nat.le_of_ble_eq_true hbd.2.1
      have b2 := Nat.le_of_ble_eq_true hbd.2.2
      subst hz'
      obtain ⟨b, hb, hve, hcn⟩ := sl_dn hv
      subst hve
      obtain ⟨M, Z, s1, s2, s3, s4⟩ := hS
      obtain ⟨b', os, tl, g1, g2, g3, g4⟩ := s2.get hg
      rw [hb] at g2; cases g2
      have hol := dnL_len g3
      have hS : RelS B e S w := ⟨M, Z, s1, s2, s3, s4⟩
      -- the old elements
      have hold : ∀ j u, ((os.drop o).take (len * y.sz))[j]? = some u → w.cell? ((⟨b, o, none⟩ : Addr).add j) = some u := fun j u hj => by
        rw [addr_add, s1.cell g1]
        rw [List.getElem?_take] at hj
        split at hj
        · rw [List.getElem?_drop] at hj
          rw [List.getElem?_append_left (List.getElem?_eq_some_iff.1 hj).1]; exact hj
        · cases hj
      -- what stands in place
      have hplace : ∀ cap, len + m ≤ cap → o + len * y.sz + m * y.sz ≤ cs.length → ∃ w', RelS B e ⟨modM k q (puW cs (o + len * y.sz) news) S.M, S.Z, S.us, S.nx⟩ w' ∧ (Builtin.append_ #[t, t] ty #[.slice (some ⟨b, o, none⟩) len cap, sv]).run P w = .ok (.slice (some ⟨b, o, none⟩) (len + m) cap) w' := fun cap hc hl => by
        obtain ⟨w', st, hS'⟩ := hS.put (P := P) hg hb hu (o := o + len * y.sz) (by rw [hn]; exact hl)
        refine ⟨w', hS', ?_⟩
        rcases hsrc with ⟨rfl, h0, h1⟩ | ⟨b2, o2, c2, rfl, hcell⟩
        · subst h0 h1
          cases hu
          cases st
          simp [Builtin.append_, run_underlying ht, sizeOf, typeInfo, hi, his, Builtin.lenOf, Builtin.firstCells, storeCells, show len ≤ cap by omega]
        · have hf := run_firstCells_some (P := P) w y.sz m ⟨b2, o2, none⟩ m c2 us (by rw [hul, hn]) hcell
          simp [Builtin.append_, run_underlying ht, sizeOf, typeInfo, hi, his, Builtin.lenOf, hc, hf, addr_add, st]
      -- what grows
      have hgrow : ∀ {S0 : SW} {r0 : Nat × SW} (cap : Nat), RelS B e S0 w → cap < len + m → 0 < m → o + len * y.sz ≤ cs.length → newB S0 (some y.sz) ((cs.drop o).take (len * y.sz) ++ news) = some r0 →
          ∃ e' w' u, Xt e e' ∧ RelS B e' r0.2 w' ∧ (AW.one (.sl r0.1 0 y.sz (len + m) none)).dn e' = some u ∧ (Builtin.append_ #[t, t] ty #[.slice (some ⟨b, o, none⟩) len cap, sv]).run P w = .ok u w' := fun {S0 r0} cap h0 hc hm hl hnb => by
        obtain ⟨e', u, k1, k2, k3, k4⟩ := hnew (len := len) (old := cap) h0 hnb (dnL_take _ (dnL_drop o g3)) (by rw [List.length_take, List.length_drop]; omega) (by omega)
        refine ⟨e', _, u, k1, k2, k3, ?_⟩
        rcases hsrc with ⟨rfl, h0, h1⟩ | ⟨b2, o2, c2, rfl, hcell⟩
        · omega
        · have hr := run_append_grow (P := P) w t ty el inf z ht hi hz ⟨b, o, none⟩ len cap ((os.drop o).take (len * y.sz)) (by rw [List.length_take, List.length_drop, his]; omega) hold ⟨b2, o2, none⟩ m c2 us (by rw [hul, hn, his]) hcell hc (by omega) (growslice_fits hc (by rw [hib]; exact b1))
          rw [hr, k4]
      cases c with
      | some cap =>
        simp only at h
        split at h
        · rename_i hc
          have hc := Nat.le_of_ble_eq_true hc
          split at h
          · rename_i hl
            cases h
            obtain ⟨w', k1, k2⟩ := hplace cap hc (Nat.le_of_ble_eq_true hl)
            exact ⟨e, w', .slice (some ⟨b, o, none⟩) (len + m) cap, Xt.rfl', k1, (show CW.dn e (.sl k o y.sz (len + m) (some cap)) = _ from sl_mk (c := some cap) hb (fun h => by cases h)), k2⟩
          · cases h
        · rename_i hc
          have hc : ¬ (len + m ≤ cap) := fun hh => by rw [Nat.ble_eq_true_of_le hh] at hc; cases hc
          split at h
          · rename_i hl
            rw [Bool.and_eq_true] at hl
            obtain ⟨r0, h1, rfl⟩ := map_some h
            exact hgrow cap hS (by omega) (Nat.le_of_ble_eq_true hl.2) (Nat.le_of_ble_eq_true hl.1) h1
          · cases h
      | none =>
        simp only at h
        split at h
        · rename_i z2 ho
          have ho := Nat.eq_of_beq_eq_true ho
          subst ho
          have hcn := hcn rfl
          simp only [Nat.zero_div, Nat.sub_zero, Nat.zero_add] at hcn hplace hgrow ⊢
          split at h
          · rename_i _ hz2 hl
            have hz2 := Nat.eq_of_beq_eq_true hz2
            subst hz2
            have hl := Nat.le_of_ble_eq_true hl
            cases h
            have hk : len + m ≤ e.κ k := by
              have := g4.1
              rw [List.length_append, hol] at this
              exact Nat.le_of_mul_le_mul_right (show (len + m) * y.sz ≤ e.κ k * y.sz by omega) hp
            obtain ⟨w', k1, k2⟩ := hplace (e.κ k) hk (by rw [← Nat.add_mul]; exact hl)
            have hk0 : e.κ k - 0 / y.sz = e.κ k := by rw [Nat.zero_div, Nat.sub_zero]
            exact ⟨e, w', .slice (some ⟨b, 0, none⟩) (len + m) (e.κ k), Xt.rfl', k1, (show CW.dn e (.sl k 0 y.sz (len + m) none) = _ by rw [sl_mk (c := none) hb (fun _ => by rw [hk0]; exact hk), hk0]; rfl), k2⟩
          · rename_i hz2 hl hl2
            have hz2 := Nat.eq_of_beq_eq_true hz2
            subst hz2
            have hl : ¬ ((len + m) * y.sz ≤ cs.length) := fun hh => by rw [Nat.ble_eq_true_of_le hh] at hl; cases hl
            have hl2 := Nat.le_of_ble_eq_true hl2
            have hm : 0 < m := by
              rcases Nat.eq_zero_or_pos m with h0 | h0
              · rw [h0, Nat.add_zero] at hl; exact absurd hl2 hl
              · exact h0
            obtain ⟨r0, h1, rfl⟩ := map_some h
            by_cases hc : len + m ≤ e.κ k
            · have hlen := g4.1
              rw [List.length_append] at hlen
              have hmul : len * y.sz + m * y.sz ≤ e.κ k * y.sz := by rw [← Nat.add_mul]; exact Nat.mul_le_mul_right _ hc
              obtain ⟨w', k1, k2⟩ := run_storeCells_own (P := P) us (len * y.sz) 0 (os ++ tl) M w s1 g1 (by rw [List.length_append, hul, hn]; omega) (fun v hm => List.all_eq_true.1 (dnL_one hu) v hm)
              rw [Nat.add_zero] at k2
              have hpl := putL_eq us (os ++ tl) (len * y.sz) (by rw [List.length_append, hul, hn]; omega)
              rw [List.take_append_of_le_length (by omega)] at hpl
              obtain ⟨rn, rS⟩ := r0
              unfold newB at h1
              split at h1
              · rename_i hf
                cases h1
                have hx := En.new_xt (k := e.κ k) (b := b) s4 hf
                have hnl : (os.take (len * y.sz) ++ us ++ (os ++ tl).drop (len * y.sz + us.length)).length = e.κ k * y.sz := by
                  simp only [List.length_append, List.length_take, List.length_drop, hul, hn]; omega
                obtain ⟨M', q1, q2⟩ := MR.ins (e := e.new S.nx b (e.κ k)) (x := (S.nx, some y.sz, cs.take (len * y.sz) ++ news)) (y := (b, putL (os ++ tl) (len * y.sz) us)) ⟨En.new_b, os.take (len * y.sz) ++ us, (os ++ tl).drop (len * y.sz + us.length), dnL_mono hx (dnL_app (dnL_take _ g3) hu), hpl, by
                  refine ⟨?_, hp⟩
                  show _ = (e.new S.nx b (e.κ k)).κ S.nx * y.sz
                  rw [En.new_k]; exact hnl⟩ ((s2.drop hg).mono hx)
                have hi' := (List.getElem?_eq_some_iff.1 g1).1
                have hperm : (M.set i (b, putL (os ++ tl) (len * y.sz) us)).Perm M' := (perm_get (i := i) (r := (b, putL (os ++ tl) (len * y.sz) us)) (l1 := M.eraseIdx i) (by rw [List.getElem?_set_self hi']) (by rw [List.eraseIdx_set_eq])).trans q2
                refine ⟨e.new S.nx b (e.κ k), w', .slice (some ⟨b, 0, none⟩) (len + m) (e.κ k), hx, ⟨M', Z, k2.perm hperm, q1, s3.mono hx, En.new_us s4⟩, ?_, ?_⟩
                · have hk : (e.new S.nx b (e.κ k)).κ S.nx - 0 / y.sz = e.κ k := by rw [En.new_k, Nat.zero_div, Nat.sub_zero]
                  show CW.dn (e.new S.nx b (e.κ k)) (.sl S.nx 0 y.sz (len + m) none) = _
                  rw [sl_mk En.new_b (fun _ => by rw [hk]; exact hc), hk]; rfl
                · rcases hsrc with ⟨rfl, h0, _⟩ | ⟨b2, o2, c2, rfl, hcell⟩
                  · omega
                  · have hf := run_firstCells_some (P := P) w y.sz m ⟨b2, o2, none⟩ m c2 us (by rw [hul, hn]) hcell
                    simp [Builtin.append_, run_underlying ht, sizeOf, typeInfo, hi, his, Builtin.lenOf, hc, hf, addr_add, k1]
              · cases h1
            · exact hgrow (S0 := ⟨dropM k S.M, S.Z, S.us, S.nx⟩) (r0 := r0) (e.κ k) ⟨M.eraseIdx i, Z, s1.sub (List.eraseIdx_sublist ..) (.refl _), s2.drop hg, s3, s4⟩ (by omega) hm hl2 (by rw [List.drop_zero]; exact h1)
          · cases h
        · cases h
    · cases h
  · cases h
end
end Go.Proofs.YtmbjfpacaenbhaaGreat
