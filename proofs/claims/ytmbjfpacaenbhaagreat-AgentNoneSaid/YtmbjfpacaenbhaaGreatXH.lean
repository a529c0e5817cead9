/- A run that is computed: operations on memory answer what was computed. Conditions: none. -/
import Derived.Test.YtmbjfpacaenbhaaGreatXG
namespace Go.Proofs.YtmbjfpacaenbhaaGreat
set_option linter.unusedVariables false
set_option linter.unusedSimpArgs false
open Go Go.RowKit
section
variable {P : Program} {tb : TB} {B : Bs} {e : En} {n : Nat} {ds : List Deferred} {F : FW} {S : SW} {a : Act} {w : World} {op : Op} {x : Res}
theorem out_new (hS : RelS B e S w) {cs : List CW} {us : List Value} {r : Nat × SW} (hr : newB S none cs = some r) (hu : dnL e cs = some us) {v : AW} {t : Nat} (hv : ∀ e', e'.b r.1 = some w.heap.size → ∃ u, v.dn e' = some u ∧ ∀ dst ty pos aft g, (execOp a.eval ⟨dst, op, ty, pos, aft, g⟩).run P w = .ok (.value u) (w.alloc (.cells us.toArray t))) : Out P B op a e w (some v, r.2) := by
  obtain ⟨n, S'⟩ := r
  obtain ⟨h1, h2, h3⟩ := hS.alloc (k := 0) hr (tl := []) hu rfl t
  rw [List.append_nil] at h2
  exact ⟨_, _, h1, h2, hv _ h3⟩
theorem evM_ok (hb : tbB P tb = true) (hF : FrW e n ds F a) (hS : RelS B e S w) (h : evM P tb F S op = some x) : Out P B op a e w x := by
  have hR := hF.2
  cases op with
  | store t y z =>
    simp only [evM] at h
    split at h
    · rename_i k o new q hy hz ht
      obtain ⟨_, dx, ox, ax⟩ := hF.op hy
      obtain ⟨b, hb', rfl⟩ := map_some dx
      obtain ⟨v, hv, hc⟩ := bind_some' hz
      obtain ⟨u, du, ou, au⟩ := hF.op hv
      have hcs := cs_dn hc du
      split at h
      · rename_i i q' cs hg
        split at h
        · rename_i hl
          cases h
          rw [Bool.and_eq_true] at hl
          have l1 := Nat.eq_of_beq_eq_true hl.1
          obtain ⟨w', s1, s2⟩ := hS.store (P := P) hg hb' hcs (Nat.le_of_ble_eq_true hl.2)
          have hsz : u.cells.size = q.sz := by rw [← l1, ← dnL_len hcs]; simp
          exact ⟨e, w', Xt.rfl', s2, fun _ _ _ _ _ => by simp [execOp, ax, au, Instr.storeAt, Instr.sureAddr, storeVar, (ti_ok hb ht).sizeOf, hsz, s1]⟩
        · cases h
      · cases h
    · cases h
  | alloc t =>
    simp only [evM] at h
    split at h
    · rename_i y ht
      obtain ⟨r, h1, rfl⟩ := map_some h
      obtain ⟨z, z1, z2, _⟩ := (ti_ok hb ht).zero
      refine out_new hS h1 (z2 e) (t := t) fun e' he => ⟨.pointer (some ⟨w.heap.size, 0, none⟩), by show (e'.b r.1).map _ = _; rw [he]; rfl, fun _ _ _ _ _ => ?_⟩
      simp [execOp, Instr.alloc, z1, newVar, newRow]
    · cases h
  | box t y =>
    simp only [evM] at h
    split at h
    · rename_i cs hc
      obtain ⟨r, h1, rfl⟩ := map_some h
      obtain ⟨v, hv, hc⟩ := bind_some' hc
      obtain ⟨u, du, ou, au⟩ := hF.op hv
      refine out_new hS h1 (cs_dn hc du) (t := t) fun e' he => ⟨.pointer (some ⟨w.heap.size, 0, none⟩), by show (e'.b r.1).map _ = _; rw [he]; rfl, fun _ _ _ _ _ => ?_⟩
      simp [execOp, Instr.box, au, newVar, newRow]
    · cases h
  | buildSlice t m ps =>
    simp only [evM] at h
    split at h
    · rename_i _ _ _ el pr ht hp
      split at h
      · rename_i y hy
        split at h
        · rename_i hl
          rw [Bool.and_eq_true] at hl
          have l1 := Nat.le_of_ble_eq_true hl.1
          have l2 := Nat.le_of_ble_eq_true hl.2
          split at h
          · rename_i cs hf
            obtain ⟨r, h1, rfl⟩ := map_some h
            have hT := (ti_ok hb ht).slice rfl
            have hY := ti_ok hb hy
            obtain ⟨inf, z', hi, his, hib, hz', hzz', hzl, _⟩ := hY.info
            obtain ⟨vp, p1, p2⟩ := prW_ok hF hp
            obtain ⟨z, z1, z2, z3⟩ := hY.zero
            have hzs : z.cells.toList.length = y.sz := by rw [dnL_len (z2 e), hzl]
            obtain ⟨ws, w1, w2⟩ := fillW_ok hf p2 (zrpW_ok (z2 e) hzl l2 m)
            refine out_new hS h1 w1 (t := el) fun e' he => ⟨.slice (some ⟨w.heap.size, 0, none⟩) m m, by show (AW.one (.sl r.1 0 y.sz m (some m))).dn e' = _; show (e'.b r.1).map _ = _; rw [he]; rfl, fun _ _ _ _ _ => ?_⟩
            have hfill := fill_fillL w2
            have he' : (ps.map fun (i, x) => (i, a.eval x)) = vp.toArray := by
              have := hR.evalp p1
              apply Array.toList_inj.1
              rw [Array.toList_map]; exact this
            have hle : ¬ (m * y.sz > 2 ^ 24) := by omega
            by_cases h0 : m * y.sz = 0
            · have harr : ((Array.range (m * y.sz)).map fun x => (#[] : Array Value)[x % (#[] : Array Value).size]!) = ((List.range (m * y.sz)).map fun i => (z.cells.toList)[i % y.sz]!).toArray := by
                rw [h0]; simp
              simp only [execOp, Instr.buildSlice, he', Sem.run_bind, run_underlying hT, Result.andThen_ok, hY.sizeOf, if_neg hle, if_pos h0, Sem.run_pure, Sem.run_ite]
              simp only [harr, hfill, Sem.run_bind, newRow, run_newObj, Result.andThen_ok, Sem.run_pure]
              rfl
            · have harr : ((Array.range (m * y.sz)).map fun x => z.cells[x % z.cells.size]!) = ((List.range (m * y.sz)).map fun i => (z.cells.toList)[i % y.sz]!).toArray := by
                rw [show z.cells.size = y.sz by simpa using hzs, ← Array.toList_inj]
                simp only [Array.toList_map, Array.toList_range]
                refine List.map_congr_left fun i _ => ?_
                exact arr_bang _ _
              simp only [execOp, Instr.buildSlice, he', Sem.run_bind, run_underlying hT, Result.andThen_ok, hY.sizeOf, if_neg hle, if_neg h0, Sem.run_pure, Sem.run_ite, z1]
              simp only [harr, hfill, Sem.run_bind, newRow, run_newObj, Result.andThen_ok, Sem.run_pure]
              rfl
          · cases h
        · cases h
      · cases h
    · cases h
  | makeSlice t lo co =>
    simp only [evM] at h
    split at h
    · rename_i _ _ _ el kl l kc c ht hl hc
      obtain ⟨_, dl, ol, al⟩ := hF.op hl
      obtain ⟨_, dc, oc, ac⟩ := hF.op hc
      cases dl; cases dc
      split at h
      · rename_i y hy
        split at h
        · rename_i hd
          obtain ⟨d1, d2, d3, d4, d5⟩ := of_decide_eq_true hd
          obtain ⟨r, h1, rfl⟩ := map_some h
          have hT := (ti_ok hb ht).slice rfl
          have hY := ti_ok hb hy
          obtain ⟨inf, z, hi, his, hib, hz, hzz, hzl, _⟩ := hY.info
          have hzs : z.cells.toList.length = y.sz := by rw [dnL_len (hzz e), hzl]
          have hrun := run_make (P := P) w t el inf z hT hi hz kl kc l c d1 d2 (by rw [hib]; exact d3) d4
          have hcells : (madeCells z.cells (c.toNat * inf.size)) = (List.replicate c.toNat z.cells.toList).flatten.toArray := by
            have := made_eq z.cells.toList (by rw [hzs]; exact d5) c.toNat
            rw [hzs] at this
            apply Array.toList_inj.1
            rw [his]; simpa using this
          rw [hcells] at hrun
          refine out_new hS h1 (zroW_ok (hzz e) c.toNat) (t := el) fun e' he => ⟨.slice (some ⟨w.heap.size, 0, none⟩) l.toNat c.toNat, by show (e'.b r.1).map _ = _; rw [he]; rfl, fun _ _ _ _ _ => ?_⟩
          simp [execOp, al, ac, hrun]
        · cases h
      · cases h
    · cases h
  | call c =>
    obtain ⟨callee, args, ts⟩ := c
    cases callee <;> first | (cases h; done) | skip
    rename_i bi
    obtain ⟨args⟩ := args
    obtain ⟨ts⟩ := ts
    cases bi <;> first | (cases h; done) | skip
    · match args, ts, h with
      | [x', y'], [t, t'], h =>
        simp only [evM] at h
        split at h
        · rename_i _ _ _ el xv yv ht hx hy htt
          have htt := Nat.eq_of_beq_eq_true htt
          subst htt
          split at h
          · rename_i z hz
            split at h
            · rename_i m news hp hs
              obtain ⟨r, h1, rfl⟩ := map_some h
              obtain ⟨u, dx, ox, ax⟩ := hF.op hx
              obtain ⟨v, dy, oy, ay⟩ := hF.op hy
              obtain ⟨hn, us, hu, hsrc⟩ := srcW_ok hS hs dy
              obtain ⟨e', w', u', k1, k2, k3, k4⟩ := evApp_ok (P := P) (ty := 0) hS ((ti_ok hb ht).slice rfl) (ti_ok hb hz) (Nat.le_of_ble_eq_true hp) dx h1 hn hu hsrc
              refine ⟨e', w', k1, k2, u', k3, fun _ ty _ _ _ => ?_⟩
              have : ∀ ty, Builtin.append_ #[t, t] ty #[u, v] = Builtin.append_ #[t, t] 0 #[u, v] := fun _ => rfl
              simp [execOp, resolve_builtin, invoke, builtin, ax, ay, this ty, k4]
            · cases h
          · cases h
        · cases h
    · match args, ts, h with
      | [x'], [t], h =>
        simp only [evM] at h
        split at h
        · rename_i _ _ _ el k o z len c ht hx
          split at h
          · rename_i y i q cs hy hg
            split at h
            · rename_i hl
              cases h
              rw [Bool.and_eq_true] at hl
              have l1 := Nat.le_of_ble_eq_true hl.1
              have l2 := Nat.le_of_ble_eq_true hl.2
              obtain ⟨u, dx, ox, ax⟩ := hF.op hx
              obtain ⟨b, hb', rfl, _⟩ := sl_dn dx
              have hT := (ti_ok hb ht).slice rfl
              have hY := ti_ok hb hy
              obtain ⟨inf, zv, hi, his, hib, hz, hzz, hzl, _⟩ := hY.info
              have hzs : zv.cells.toList.length = y.sz := by rw [dnL_len (hzz e), hzl]
              have hzlen : (zroW y.zs len).length = len * y.sz := by unfold zroW; simp [hzl]
              obtain ⟨w', s1, s2⟩ := hS.store (P := P) hg hb' (zroW_ok (hzz e) len) (o := o) (by rw [hzlen]; exact l1)
              refine ⟨e, w', Xt.rfl', s2, .tuple #[], rfl, fun _ _ _ _ _ => ?_⟩
              have hcz : (Builtin.zeroCells zv.cells len).toList = (List.replicate len zv.cells.toList).flatten := by
                have := made_eq zv.cells.toList (by rw [hzs]; exact l2) len
                rw [← this]
                simp [Builtin.zeroCells, madeCells]
              obtain ⟨z', z1, _, z3⟩ := hY.zero
              have hzz' : z' = zv := by rw [hi] at z3; simp only [Option.bind_some] at z3; rw [hz] at z3; exact (Option.some.inj z3).symm
              subst hzz'
              cases len with
              | zero =>
                cases s1
                simp [execOp, resolve_builtin, invoke, builtin, ax, Builtin.clear_, run_underlying hT]
              | succ len => simp [execOp, resolve_builtin, invoke, builtin, ax, Builtin.clear_, run_underlying hT, z1, hcz, s1]
            · cases h
          · cases h
        · rename_i _ _ _ el ht hx
          cases h
          obtain ⟨u, dx, ox, ax⟩ := hF.op hx
          cases dx
          have hT := (ti_ok hb ht).slice rfl
          exact ⟨e, w, Xt.rfl', hS, .tuple #[], rfl, fun _ _ _ _ _ => by simp [execOp, resolve_builtin, invoke, builtin, ax, Builtin.clear_, run_underlying hT]⟩
        · cases h
    · match args, ts, h with
      | [x', y'], [t, t'], h =>
        simp only [evM] at h
        split at h
        · rename_i _ _ _ el k o z len c yv ht hx hy
          split at h
          · rename_i q hq
            split at h
            · rename_i m news i q' cs hs hg
              split at h
              · rename_i hl
                cases h
                have hl := Nat.le_of_ble_eq_true hl
                obtain ⟨u, dx, ox, ax⟩ := hF.op hx
                obtain ⟨v, dy, oy, ay⟩ := hF.op hy
                obtain ⟨b, hb', rfl, _⟩ := sl_dn dx
                obtain ⟨hn, us, hu, hsrc⟩ := srcW_ok hS hs dy
                have hT := (ti_ok hb ht).slice rfl
                have hY := ti_ok hb hq
                have hmin : Nat.min m len ≤ m := Nat.min_le_left ..
                have hmul := Nat.mul_le_mul_right q.sz hmin
                have hlt : (news.take (Nat.min m len * q.sz)).length = Nat.min m len * q.sz := by rw [List.length_take, hn]; omega
                obtain ⟨w', s1, s2⟩ := hS.store (P := P) hg hb' (dnL_take (Nat.min m len * q.sz) hu) (o := o) (by rw [hlt]; exact hl)
                refine ⟨e, w', Xt.rfl', s2, _, rfl, fun _ _ _ _ _ => ?_⟩
                rcases hsrc with ⟨rfl, h0, h1⟩ | ⟨b2, o2, c2, rfl, hcell⟩
                · subst h0 h1
                  cases hu
                  simp only [List.take_nil] at s1
                  cases s1
                  simp [execOp, resolve_builtin, invoke, builtin, ax, ay, Builtin.copy_, run_underlying hT, Builtin.lenOf, Builtin.firstCells, hY.sizeOf, storeCells, goInt]
                · have hul := dnL_len hu
                  have hf := run_firstCells_some (P := P) w q.sz (Nat.min m len) ⟨b2, o2, none⟩ m c2 (us.take (Nat.min m len * q.sz)) (by rw [List.length_take, hul, hn]; omega) (fun j u hj => by
                    rw [List.getElem?_take] at hj
                    split at hj
                    · exact hcell j u hj
                    · cases hj)
                  simp [execOp, resolve_builtin, invoke, builtin, ax, ay, Builtin.copy_, run_underlying hT, Builtin.lenOf, hY.sizeOf, hf, s1, goInt]
              · cases h
            · cases h
          · cases h
        · cases h
  | _ => cases h
end
end Go.Proofs.YtmbjfpacaenbhaaGreat
