/- Rows that the call owns: append, length, elements. Conditions: none. -/
import Derived.Test.YtcnhmbjkippnnaaO5
namespace Go.Proofs.Ytcnhmbjkippnnaa
open Go Go.RowKit

section
variable {P : Program} {X : List Nat} {w0 : World} {M M' : List (Nat × List Value)} {Z Z' Z1 : List RowE} {n : Nat} {ds : List Deferred} {F F' : List (Nat × Value)} {a : Act} {w w' : World}
variable {ops : Array Oper} {Q : Exit → Act → World → Prop} {rest : List Oper} {o : Oper}
variable {dst : Option Tmp} {ty : TypeId} {pos : String} {aft : Array Edge} {g : Option (Nat × Bool)}

theorem Stw.permZ (h : Stw X w0 M Z w) (hp : Z.Perm Z') : Stw X w0 M Z' w := by
  have hb : (blks M Z).Perm (blks M Z') := List.Perm.append_left _ (hp.flatMap_right _)
  exact ⟨h.frm, ⟨fun g hg => h.mem.own g (hb.mem_iff.2 hg), h.mem.at_, fun r hr => h.mem.rows r (hp.mem_iff.2 hr), hb.nodup_iff.1 h.mem.nodup⟩⟩

theorem perm_get : ∀ {l l1 : List RowE} {i : Nat} {r : RowE}, l[i]? = some r → l.eraseIdx i = l1 → l.Perm (r :: l1)
  | [], _, _, _, h, _ => by simp at h
  | x :: l, _, 0, r, h, he => by simp at h he; subst h he; exact List.Perm.refl _
  | x :: l, _, i + 1, r, h, he => by
    simp at h he
    subst he
    exact ((perm_get h rfl).cons x).trans (List.Perm.swap r x _)

theorem Stw.row (h : Stw X w0 M Z w) {i : Nat} {r : RowE} (hZ : Z[i]? = some r) : w.ownsRow 0 r.e r.sz r.v r.n r.xs := h.mem.rows r (List.mem_of_getElem? hZ)

/-- One row has been written, or has moved into a new block. -/
theorem Stw.rowTurn {r r' : RowE} (h : Stw X w0 M (r :: Z) w) (hg : w.grownBy w' r.v.ownBlock) (ho : w'.ownsRow 0 r'.e r'.sz r'.v r'.n r'.xs) (hb : ∀ g, r'.v.ownBlock = some g → r.v.ownBlock = some g ∨ w.heap.size ≤ g) : Stw X w0 M (r' :: Z) w' := by
  have hnd := List.nodup_append.1 h.mem.nodup
  have hflat : ((r :: Z).flatMap RowE.blk) = r.blk ++ Z.flatMap RowE.blk := by simp
  rw [hflat] at hnd
  have hnd2 := List.nodup_append.1 hnd.2.1
  have hin : ∀ g, r.v.ownBlock = some g → g ∈ blks M (r :: Z) := fun g hg => List.mem_append_right _ (List.mem_flatMap.2 ⟨r, by simp, blk_mem.2 hg⟩)
  have hM : ∀ g ∈ M.map (·.1), some g ≠ r.v.ownBlock := fun g hm e => hnd.2.2 g hm g (List.mem_append_left _ (blk_mem.2 e.symm)) rfl
  have hZ : ∀ g ∈ Z.flatMap RowE.blk, some g ≠ r.v.ownBlock := fun g hm e => hnd2.2.2 g (blk_mem.2 e.symm) g hm rfl
  have hlt : ∀ g ∈ blks M Z, g < w.heap.size := fun g hg => h.mem.lt_all (by
    rcases List.mem_append.1 hg with hg | hg
    · exact List.mem_append_left _ hg
    · exact List.mem_append_right _ (by rw [hflat]; exact List.mem_append_right _ hg))
  have hkeep : ∀ g ∈ blks M Z, w'.heap[g]? = w.heap[g]? := fun g hgm => by
    refine hg.block g (hlt g hgm) ?_
    rcases List.mem_append.1 hgm with hm | hm
    · exact hM g hm
    · exact hZ g hm
  refine ⟨⟨hg.os.trans h.frm.os, hg.tape.trans h.frm.tape, hg.output.trans h.frm.output, Nat.le_trans h.frm.size hg.size, fun k hk hx => ?_⟩, ⟨fun g hgm => ?_, fun p hp => ?_, fun q hq => ?_, ?_⟩⟩
  · rw [hg.block k (Nat.lt_of_lt_of_le hk h.frm.size) ?_]
    · exact h.frm.block k hk hx
    · intro e
      rcases h.mem.own k (hin k e.symm) with h1 | h1
      · exact hx h1
      · omega
  · rcases List.mem_append.1 hgm with hm | hm
    · exact h.mem.own g (List.mem_append_left _ hm)
    · obtain ⟨q, hq, hqb⟩ := List.mem_flatMap.1 hm
      rcases List.mem_cons.1 hq with rfl | hq
      · rcases hb g (blk_mem.1 hqb) with h1 | h1
        · exact h.mem.own g (hin g h1)
        · exact .inr (Nat.le_trans h.frm.size h1)
      · exact h.mem.own g (List.mem_append_right _ (List.mem_flatMap.2 ⟨q, by simp [hq], hqb⟩))
  · obtain ⟨t, ht⟩ := h.mem.at_ p hp
    exact ⟨t, by rw [hkeep p.1 (List.mem_append_left _ (List.mem_map.2 ⟨p, hp, rfl⟩))]; exact ht⟩
  · rcases List.mem_cons.1 hq with rfl | hq
    · exact ho
    · exact owns_keep (h.mem.rows q (by simp [hq])) fun g hg' => hkeep g (List.mem_append_right _ (List.mem_flatMap.2 ⟨q, hq, blk_mem.2 hg'⟩))
  · have hflat' : ((r' :: Z).flatMap RowE.blk) = r'.blk ++ Z.flatMap RowE.blk := by simp
    unfold blks
    rw [hflat', List.nodup_append]
    refine ⟨hnd.1, List.nodup_append.2 ⟨?_, hnd2.2.1, ?_⟩, ?_⟩
    · unfold RowE.blk; cases r'.v.ownBlock <;> simp
    · intro x hx y hy e
      subst e
      rcases hb x (blk_mem.1 hx) with h1 | h1
      · exact hnd2.2.2 x (blk_mem.2 h1) x hy rfl
      · have := hlt x (List.mem_append_right _ hy); omega
    · intro x hx y hy e
      subst e
      rcases List.mem_append.1 hy with hy | hy
      · rcases hb x (blk_mem.1 hy) with h1 | h1
        · exact hM x hx h1.symm
        · have := hlt x (List.mem_append_left _ hx); omega
      · exact hnd.2.2 x hx x (List.mem_append_right _ hy) rfl

/-- What is asked of a slice type: its element, the element's cells and bytes. -/
structure Et (P : Program) (t e : TypeId) (sz by_ : Nat) : Prop where
  desc : P.underlying t = some (.slice e)
  info : ∃ i z, P.info? e = some i ∧ i.zero = some z ∧ i.size = sz ∧ i.bytes = by_ ∧ z.cells.size = sz
  pos : 0 < sz

theorem Et.of {t e : TypeId} {sz by_ : Nat} (hd : P.underlying t = some (.slice e)) (hs : (P.info? e).map (·.size) = some sz) (hb : (P.info? e).map (·.bytes) = some by_) (hz : ((P.info? e).bind (·.zero)).map (·.cells.size) = some sz) (hp : 0 < sz) : Et P t e sz by_ := by
  refine ⟨hd, ?_, hp⟩
  cases hi : P.info? e with
  | none => rw [hi] at hs; simp at hs
  | some i =>
    rw [hi] at hs hb hz
    simp at hs hb hz
    obtain ⟨z, h1, h2⟩ := hz
    exact ⟨i, z, rfl, h1, hs, hb, h2⟩

theorem run_append_mine {t e ty : TypeId} {sz by_ k m c : Nat} {v : Value} {xs news : List Value} {ad : Addr} (E : Et P t e sz by_) (hown : w.ownsRow 0 e sz v k xs)
    (hl : news.length = m * sz) (hnews : ∀ j u, news[j]? = some u → w.cell? (ad.add j) = some u) (h1 : ∀ u ∈ news, u.oneCell' = true) (hmax : k + m ≤ maxLen) (hby : (k + m) * by_ ≤ 140737488355328) :
    ∃ v' w', (Builtin.append_ #[t, t] ty #[v, .slice (some ad) m c]).run P w = .ok v' w' ∧ w'.ownsRow 0 e sz v' (k + m) (xs ++ news) ∧ w.grownBy w' v.ownBlock ∧ (∀ g, v'.ownBlock = some g → v.ownBlock = some g ∨ w.heap.size ≤ g) := by
  obtain ⟨i, z, hi, hz, rfl, rfl, hzs⟩ := E.info
  have hmax' : k + m ≤ 9223372036854775807 := by simp only [maxLen] at hmax; omega
  obtain ⟨hxl, hv⟩ := hown
  have hlen : (xs ++ news).length = (k + m) * i.size := by rw [List.length_append, hxl, hl, Nat.add_mul]
  have fresh : ∀ old, (w.drew.alloc (.cells (xs.toArray ++ news.toArray ++ Builtin.zeroCells z.cells (grownCap w (k + m) old e - (k + m))) e)).ownsRow 0 e i.size (.slice (some ⟨w.heap.size, 0, none⟩) (k + m) (grownCap w (k + m) old e)) (k + m) (xs ++ news) := by
    intro old
    refine ⟨hlen, .inr ⟨w.heap.size, _, _, rfl, Nat.zero_le _, heap_alloc_new w.drew _, grownCap_ge _ _ _ _, grownCap_le_maxLen _ _ _ _ hmax, ?_, ?_⟩⟩
    · have h2 := grownCap_ge w (k + m) old e
      simp only [Array.size_append, List.size_toArray, size_zeroCells, hzs, hxl, hl, ← Nat.add_mul]
      congr 1; omega
    · simp only [Array.toList_append, List.append_assoc]
      rw [← List.append_assoc, ← hlen]
      exact List.take_left
  have grown : ∀ cs row, w.grownBy (w.drew.alloc (.cells cs e)) row := fun cs row => ⟨rfl, rfl, rfl, by simp, fun j hj _ => Below.heap_alloc w.drew _ j hj⟩
  rcases hv with ⟨rfl, rfl⟩ | ⟨g, cap, cur, rfl, _, hg, hkc, hcm, hcs, htake⟩
  · have hx : xs = [] := List.eq_nil_of_length_eq_zero (by simpa using hxl)
    subst hx
    rcases Nat.eq_zero_or_pos m with rfl | hm
    · have hn : news = [] := List.eq_nil_of_length_eq_zero (by simpa using hl)
      subst hn
      refine ⟨.slice none 0 0, w, ?_, World.ownsRow_nil _ _ _ _, ⟨rfl, rfl, rfl, Nat.le_refl _, fun _ _ _ => rfl⟩, by simp [Value.ownBlock]⟩
      simp [Builtin.append_, run_underlying E.desc, sizeOf, typeInfo, hi, Builtin.lenOf, Builtin.firstCells, loadCells, loadCellsFrom]
    · have hr := run_append_nil (P := P) w t ty e i z E.desc hi hz ad m c news hl hnews hm (by omega) (by have := hby; simp only [Nat.zero_add] at this; omega)
      have hf := fresh 0
      have hgr := grown (news.toArray ++ Builtin.zeroCells z.cells (grownCap w m 0 e - m)) (Value.ownBlock (.slice none 0 0))
      simp only [Nat.zero_add, List.nil_append, Array.empty_append] at hf ⊢
      exact ⟨_, _, hr, hf, hgr, fun g hg => .inr (by simp [Value.ownBlock] at hg; omega)⟩
  · by_cases hroom : k + m ≤ cap
    · have hfit : k * i.size + news.length ≤ cur.size := by rw [hl, hcs, ← Nat.add_mul]; exact Nat.mul_le_mul_right _ hroom
      have hr := run_append_room (P := P) w t ty e i E.desc hi g k cap cur hg ad m c news hl hnews h1 hroom hfit
      refine ⟨_, _, hr, ⟨hlen, .inr ⟨g, cap, _, rfl, Nat.zero_le _, setRow_heap w g cur _ e _ hg, hroom, hcm, ?_, ?_⟩⟩, ⟨rfl, rfl, rfl, by simp, fun j _ hj => setRow_other w g j _ (fun e => hj (by simp [Value.ownBlock, e]))⟩, fun g' hg' => .inl hg'⟩
      · simp only [List.size_toArray, List.length_append, List.length_take, List.length_drop, Array.length_toList]
        omega
      · rw [htake, ← hlen]
        exact List.take_left
    · have holds : ∀ j u, xs[j]? = some u → w.cell? ((⟨g, 0, none⟩ : Addr).add j) = some u :=
        World.ownsRow.cells (show w.ownsRow 0 e i.size (.slice (some ⟨g, 0, none⟩) k cap) k xs from ⟨hxl, .inr ⟨g, cap, cur, rfl, Nat.zero_le _, hg, hkc, hcm, hcs, htake⟩⟩) (g := g) rfl
      have hr := run_append_grow (P := P) w t ty e i z E.desc hi hz ⟨g, 0, none⟩ k cap xs hxl holds ad m c news hl hnews (by omega) (by omega) (growslice_fits (by omega) hby)
      exact ⟨_, _, hr, fresh cap, grown _ _, fun g' hg' => .inr (by simp [Value.ownBlock] at hg'; omega)⟩

/-- append of a literal's elements to a row of one's own. -/
theorem l_append {s x : Operand} {t e : TypeId} {sz by_ m b d i j : Nat} {r : RowE} {cs : List Value} (hF : Fr n ds F a) (hW : Stw X w0 M Z w) (hn : Nat.blt d n = true) (E : Et P t e sz by_) (hs : opv F s = some r.v) (hx : opv F x = some (.slice (some ⟨b, 0, none⟩) m m))
    (hZ : Z[i]? = some r) (hre : r.e = e) (hrs : r.sz = sz) (hZ1 : Z.eraseIdx i = Z1) (hM : M[j]? = some (b, cs)) (hl : cs.length = m * sz) (h1 : cs.all (·.oneCell') = true) (hmax : r.n + m ≤ 1000000000) (hby : by_ ≤ 100000)
    (k : ∀ v' a' w', Fr n ds ((d, v') :: F) a' → Stw X w0 M (⟨v', e, sz, r.n + m, r.xs ++ cs⟩ :: Z1) w' → wpList P ops Q rest a' w') :
    wpList P ops Q (⟨some d, .call ⟨.builtin .append, #[s, x], #[t, t]⟩, ty, pos, aft, none⟩ :: rest) a w := by
  subst hre hrs
  have hbyb : (r.n + m) * by_ ≤ 140737488355328 := Nat.le_trans (Nat.mul_le_mul hmax hby) (by decide)
  obtain ⟨v', w', hr, hown, hgr, hblk⟩ := run_append_mine (P := P) (w := w) (ty := ty) (c := m) E (hW.row hZ) hl (ad := ⟨b, 0, none⟩) (fun q u hu => by rw [addr_add, Nat.zero_add, hW.mem.cell hM]; exact hu) (fun u hu => List.all_eq_true.1 h1 u hu) (by unfold maxLen; omega) hbyb
  refine ls_wp hF hn (v := v') (w' := w') ?_ (fun a' h => k v' a' w' h ?_)
  · simp [execOp, resolve_builtin, invoke, builtin, hF.eval hs, hF.eval hx, hr]
  · exact (hW.permZ (perm_get hZ hZ1)).rowTurn hgr hown hblk

theorem arr_bang (A : Array Value) (i : Nat) : A[i]! = A.toList[i]! := by
  cases A; simp

theorem l_buildSlice {d m sz : Nat} {t e : TypeId} {by_ : Nat} {z : Value} {cs : List Value} {parts : List (Nat × Operand)} {vp : List (Nat × Value)} (hF : Fr n ds F a) (hW : Stw X w0 M Z w) (hn : Nat.blt d n = true) (E : Et P t e sz by_) (hz : (P.info? e).bind (·.zero) = some z)
    (hm : Nat.ble (m * sz) 16777216 = true) (hx : evp F parts = some vp) (hzc : z.cells.toList.length = sz) (hf : fillL (fun i => some (i * sz, sz)) ((List.range (m * sz)).map fun i => (z.cells.toList)[i % sz]!) vp = some cs)
    (k : ∀ b a' w', Fr n ds ((d, .slice (some ⟨b, 0, none⟩) m m) :: F) a' → Stw X w0 ((b, cs) :: M) Z w' → wpList P ops Q rest a' w') :
    wpList P ops Q (⟨some d, .buildSlice t m parts.toArray, ty, pos, aft, none⟩ :: rest) a w := by
  refine ls_wp hF hn (v := .slice (some ⟨w.heap.size, 0, none⟩) m m) (w' := w.alloc (.cells cs.toArray e)) ?_ (fun a' h => k _ a' _ h (hW.alloc cs e))
  have hfill := fill_fillL hf
  have he : (parts.toArray.map fun (i, x) => (i, a.eval x)) = vp.toArray := by rw [← hF.evalp hx]; simp
  obtain ⟨i, z', hi, hz', his, hib, hzs⟩ := E.info
  have hsz : (sizeOf e).run P w = .ok sz w := by simp [sizeOf, typeInfo, hi, his]
  have hle : ¬ (m * sz > 2 ^ 24) := by have := Nat.le_of_ble_eq_true hm; omega
  have hzz : z' = z := by rw [hi] at hz; simp only [Option.bind_some] at hz; rw [hz'] at hz; exact Option.some.inj hz
  subst hzz
  by_cases h0 : m * sz = 0
  · have harr : ((Array.range (m * sz)).map fun x => (#[] : Array Value)[x % (#[] : Array Value).size]!) = ((List.range (m * sz)).map fun i => (z'.cells.toList)[i % sz]!).toArray := by
      rw [h0]; simp
    simp only [execOp, Instr.buildSlice, he, Sem.run_bind, run_underlying E.desc, Result.andThen_ok, hsz, if_neg hle, if_pos h0, Sem.run_pure, Sem.run_ite]
    simp only [harr, hfill, Sem.run_bind, newRow, run_newObj, Result.andThen_ok, Sem.run_pure]
    rfl
  · have harr : ((Array.range (m * sz)).map fun x => z'.cells[x % z'.cells.size]!) = ((List.range (m * sz)).map fun i => (z'.cells.toList)[i % sz]!).toArray := by
      rw [hzs, ← Array.toList_inj]
      simp only [Array.toList_map, Array.toList_range]
      refine List.map_congr_left fun i _ => ?_
      exact arr_bang _ _
    simp only [execOp, Instr.buildSlice, he, Sem.run_bind, run_underlying E.desc, Result.andThen_ok, hsz, if_neg hle, if_neg h0, Sem.run_pure, Sem.run_ite, run_zero hz]
    simp only [harr, hfill, Sem.run_bind, newRow, run_newObj, Result.andThen_ok, Sem.run_pure]
    rfl
end
end Go.Proofs.Ytcnhmbjkippnnaa
