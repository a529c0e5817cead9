/- Rows of one's own: literals, make, append, stores; calls. Conditions: none. -/
import Derived.Test.YtmbjfpacaenbhaaGreatO6
namespace Go.Proofs.YtmbjfpacaenbhaaGreat
set_option linter.unusedVariables false
set_option linter.unusedSimpArgs false
open Go Go.RowKit

section
variable {P : Program} {B : Bs} {M M' : Blks} {Z Z' Z1 : List It} {n : Nat} {ds : List Deferred} {F F' : List (Nat × Value)} {a : Act} {w w' : World}
variable {ops : Array Oper} {Q : Exit → Act → World → Prop} {rest : List Oper} {o : Oper}
variable {dst : Option Tmp} {ty : TypeId} {pos : String} {aft : Array Edge} {g : Option (Nat × Bool)}
variable {α : Type} {r : Rp α} {l l2 l3 : List α} {v u : Value} {x : α} {i : Int} {t e by_ : Nat}

/-- A source of elements: its cells can be read; what they refer to rests. -/
def Src (w : World) (A : Nat → Prop) (r : Rp α) (u : Value) (l : List α) : Prop :=
  (∃ ad cap, u = .slice ad 0 cap ∧ l = []) ∨ ∃ b off cap xs, u = .slice (some ⟨b, off, none⟩) l.length cap ∧ l.length ≤ cap ∧ (∀ j y, xs[j]? = some y → w.cell? ⟨b, off + j, none⟩ = some y) ∧ RepL r w A xs l
theorem Sl.src {A : Nat → Prop} (h : Sl w A r u l) : Src w A r u l := by
  rcases h with h | ⟨b, off, cap, xs, h1, hc, _, _, h2, h3⟩
  · exact .inl h
  · exact .inr ⟨b, off, cap, xs, h1, hc, h2, h3⟩
theorem Own.src {A : Nat → Prop} (h : Own w A e r v l) : Src w A r v l := by
  rcases h with ⟨ad, h⟩ | ⟨b, off, cap, cur, xs, rfl, hp, hb, h1, h2, h3, h4, h5⟩
  · exact .inl ⟨ad, 0, h.1, h.2⟩
  · refine .inr ⟨b, off, cap, xs, rfl, h1, fun j u hu => ?_, h5⟩
    rw [cell_of_row w b (off + j) cur e (0, 0) hb]
    rw [← h4, List.getElem?_take] at hu
    split at hu
    · simpa [List.getElem?_drop] using hu
    · cases hu
theorem src_frz (h : Stw B M Z w) (k : Nat) (hZ : Z[k]? = some (frz v r l)) : Src w (Fz B (blks M Z)) r v l := Sl.src (h.item hZ)
theorem src_row (h : Stw B M Z w) (k : Nat) (hZ : Z[k]? = some (row v e r l)) : Src w (Fz B (blks M Z)) r v l := Own.src (e := e) (h.item hZ)
theorem src_old (h : Stw B M Z w) (hs : Sl B.w0 B.Y r v l) : Src w (Fz B (blks M Z)) r v l := (h.old hs).src
theorem src_nil {A : Nat → Prop} : Src w A r (.slice none 0 0) ([] : List α) := .inl ⟨none, 0, rfl, rfl⟩
theorem Src.sub {A : Nat → Prop} {lo hi : Int} (h : Src w A r v l) (hs : subl l lo hi = some l2) : Src w A r (slSub v lo hi r.sz) l2 := by
  obtain ⟨h1, h2, h3, rfl⟩ := subl_some hs
  rcases h with ⟨ad, cap, rfl, rfl⟩ | ⟨b, off, cap, xs, rfl, hc, hx, hr⟩
  · have : lo = 0 ∧ hi = 0 := by simp at h3; omega
    obtain ⟨rfl, rfl⟩ := this
    exact .inl ⟨_, _, rfl, by simp⟩
  · have hlen : ((l.take hi.toNat).drop lo.toNat).length = hi.toNat - lo.toNat := by simp; omega
    by_cases hq : cap = lo.toNat
    · have hz : ((l.take hi.toNat).drop lo.toNat) = [] := List.eq_nil_of_length_eq_zero (by omega)
      refine .inr ⟨b, off, cap - lo.toNat, [], ?_, by omega, fun j u hu => by simp at hu, by rw [hz]; rfl⟩
      simp [slSub, hq, hlen, -List.length_drop, -List.length_take]
    · refine .inr ⟨b, off + lo.toNat * r.sz, cap - lo.toNat, _, ?_, by omega, fun j u hu => ?_, (hr.take hi.toNat).drop lo.toNat⟩
      · simp only [slSub, if_neg hq, Option.map_some, hlen]
        unfold Addr.add
        split <;> simp_all
      · rw [List.getElem?_drop, List.getElem?_take] at hu
        split at hu
        · have := hx _ _ hu
          rw [Nat.add_assoc]; exact this
        · cases hu

/-! ### New rows -/
theorem Stw.emptyRow (h : Stw B M Z w) (ad : Option Addr) (e : TypeId) (r : Rp α) : Stw B M (row (.slice ad 0 0) e r ([] : List α) :: Z) w := by
  have hbl : blks M (row (.slice ad 0 0) e r ([] : List α) :: Z) = blks M Z := by unfold blks; simp [row, ownE_zero]
  refine ⟨h.frm, by rw [hbl]; exact h.own, h.at_, fun z hz => ?_, by rw [hbl]; exact h.nodup, h.disj⟩
  rw [hbl]
  rcases List.mem_cons.1 hz with rfl | hz
  · exact .inl ⟨ad, rfl, rfl⟩
  · exact h.items z hz
theorem Stw.nilRow (h : Stw B M Z w) (e : TypeId) (r : Rp α) : Stw B M (row (.slice none 0 0) e r ([] : List α) :: Z) w := h.emptyRow none e r
/-- A new block that is a row. -/
theorem Stw.allocRow (h : Stw B M Z w) (cs : List Value) (e : TypeId) {m : Nat} (hm : m ≤ maxLen) (hc : m * r.sz ≤ cs.length) (hl : l.length ≤ m) (hr : RepL r w (Fz B (blks M Z)) (cs.take (l.length * r.sz)) l) :
    Stw B M (row (.slice (some ⟨w.heap.size, 0, none⟩) l.length m) e r l :: Z) (w.alloc (.cells cs.toArray e)) := by
  have hb : Below w.heap.size w (w.alloc (.cells cs.toArray e)) := (Below.refl _ _).alloc (Nat.le_refl _) _
  have h' := h.below hb
  by_cases hm0 : m = 0
  · subst hm0
    obtain rfl : l = [] := List.eq_nil_of_length_eq_zero (by omega)
    exact h'.emptyRow _ e r
  have hm1 : 0 < m := by omega
  have hbl : ∀ g, g ∈ blks M (row (.slice (some ⟨w.heap.size, 0, none⟩) l.length m) e r l :: Z) ↔ g = w.heap.size ∨ g ∈ blks M Z := by
    intro g; unfold blks; simp [row, ownE_pos hm1]
    constructor
    · rintro (h | rfl | h) <;> simp_all
    · rintro (rfl | h | h) <;> simp_all
  have hk : Keeps w (w.alloc (.cells cs.toArray e)) (Fz B (blks M Z)) (Fz B (blks M (row (.slice (some ⟨w.heap.size, 0, none⟩) l.length m) e r l :: Z))) := fun b hA hlt =>
    ⟨⟨hA.1, fun hm => by
      rcases (hbl b).1 hm with rfl | hm
      · exact Nat.lt_irrefl _ hlt
      · exact hA.2 hm⟩, hb.block b hlt⟩
  refine ⟨h'.frm, fun g hg => ?_, h'.at_, fun z hz => ?_, ?_, h.disj⟩
  · rcases (hbl g).1 hg with rfl | hg
    · exact .inr h.frm.size
    · exact h.own g hg
  · rcases List.mem_cons.1 hz with rfl | hz
    · exact .inr ⟨w.heap.size, 0, m, cs.toArray, _, rfl, hm1, by show (w.heap.push _)[w.heap.size]? = _; simp, hl, hm, by simpa using hc, by simp, hr.stab hk⟩
    · exact z.stab (h.items z hz) hk fun g hg => hb.block g (h.lt_all (mem_blks_Z hz hg))
  · have hp : (blks M (row (.slice (some ⟨w.heap.size, 0, none⟩) l.length m) e r l :: Z)).Perm (w.heap.size :: blks M Z) := by
      unfold blks
      rw [List.flatMap_cons, show (row (.slice (some ⟨w.heap.size, 0, none⟩) l.length m) e r l).bl = [w.heap.size] from ownE_pos hm1]
      exact List.perm_middle
    rw [hp.nodup_iff, List.nodup_cons]
    exact ⟨fun hm => Nat.lt_irrefl _ (h.lt_all hm), h.nodup⟩

theorem arr_bang (A : Array Value) (i : Nat) : A[i]! = A.toList[i]! := by
  cases A; simp
/-- A slice literal. -/
theorem l_lit {d m sz : Nat} {z : Value} {cs : List Value} {parts : List (Nat × Operand)} {vp : List (Nat × Value)} (r : Rp α) (l : List α) (hF : Fr n ds F a) (hW : Stw B M Z w) (hn : Nat.blt d n = true) (E : Et P t e sz by_) (hz : (P.info? e).bind (·.zero) = some z)
    (hm : Nat.ble (m * sz) 16777216 = true) (hx : evp F parts = some vp) (hzc : z.cells.toList.length = sz) (hf : fillL (fun i => some (i * sz, sz)) ((List.range (m * sz)).map fun i => (z.cells.toList)[i % sz]!) vp = some cs)
    (hsz : r.sz = sz) (hlen : l.length = m) (hr : RepL r w (Fz B (blks M Z)) cs l)
    (k : ∀ v a' w', Fr n ds ((d, v) :: F) a' → Stw B M (row v e r l :: Z) w' → wpList P ops Q rest a' w') :
    wpList P ops Q (⟨some d, .buildSlice t m parts.toArray, ty, pos, aft, none⟩ :: rest) a w := by
  subst hsz
  have hcl : cs.length = l.length * r.sz := hr.len
  have hmm : m ≤ 16777216 := by
    have h1 := Nat.le_of_ble_eq_true hm
    have h2 := E.pos
    exact Nat.le_trans (Nat.le_mul_of_pos_right m h2) h1
  refine ls_wp hF hn (v := .slice (some ⟨w.heap.size, 0, none⟩) m m) (w' := w.alloc (.cells cs.toArray e)) ?_ (fun a' h => k _ a' _ h (by
    have := hW.allocRow cs e (m := m) (l := l) (r := r) (by unfold maxLen; omega) (by rw [hcl, hlen]; exact Nat.le_refl _) (by omega) (by rw [← hcl, List.take_length]; exact hr)
    rw [hlen] at this; exact this))
  have hfill := fill_fillL hf
  have he : (parts.toArray.map fun (i, x) => (i, a.eval x)) = vp.toArray := by rw [← hF.evalp hx]; simp
  obtain ⟨i, z', hi, hz', his, hib, hzs⟩ := E.info
  have hsz : (sizeOf e).run P w = .ok r.sz w := by simp [sizeOf, typeInfo, hi, his]
  have hle : ¬ (m * r.sz > 2 ^ 24) := by have := Nat.le_of_ble_eq_true hm; omega
  have hzz : z' = z := by rw [hi] at hz; simp only [Option.bind_some] at hz; rw [hz'] at hz; exact Option.some.inj hz
  subst hzz
  by_cases h0 : m * r.sz = 0
  · have harr : ((Array.range (m * r.sz)).map fun x => (#[] : Array Value)[x % (#[] : Array Value).size]!) = ((List.range (m * r.sz)).map fun i => (z'.cells.toList)[i % r.sz]!).toArray := by
      rw [h0]; simp
    simp only [execOp, Instr.buildSlice, he, Sem.run_bind, run_underlying E.desc, Result.andThen_ok, hsz, if_neg hle, if_pos h0, Sem.run_pure, Sem.run_ite]
    simp only [harr, hfill, Sem.run_bind, newRow, run_newObj, Result.andThen_ok, Sem.run_pure]
    rfl
  · have harr : ((Array.range (m * r.sz)).map fun x => z'.cells[x % z'.cells.size]!) = ((List.range (m * r.sz)).map fun i => (z'.cells.toList)[i % r.sz]!).toArray := by
      rw [hzs, ← Array.toList_inj]
      simp only [Array.toList_map, Array.toList_range]
      refine List.map_congr_left fun i _ => ?_
      exact arr_bang _ _
    simp only [execOp, Instr.buildSlice, he, Sem.run_bind, run_underlying E.desc, Result.andThen_ok, hsz, if_neg hle, if_neg h0, Sem.run_pure, Sem.run_ite, run_zero hz]
    simp only [harr, hfill, Sem.run_bind, newRow, run_newObj, Result.andThen_ok, Sem.run_pure]
    rfl

theorem RepL.rep {A : Nat → Prop} {x : α} {cs : List Value} (h : r.rep w A cs x) : ∀ k : Nat, RepL r w A ((List.replicate k cs).flatten) (List.replicate k x)
  | 0 => by simp [RepL]
  | k + 1 => by
    rw [List.replicate_succ, List.replicate_succ, List.flatten_cons]
    exact ⟨cs, _, rfl, h, RepL.rep h k⟩
/-! ### append -/
theorem run_append_own3 {t e ty : TypeId} {by_ : Nat} {A : Nat → Prop} (E : Et P t e r.sz by_) (hown : Own w A e r v l) (hsrc : Src w A r u l2) (hmax : l.length + l2.length ≤ 140737488355328) (hbyb : (l.length + l2.length) * by_ ≤ 140737488355328) :
    ∃ v' w', (Builtin.append_ #[t, t] ty #[v, u]).run P w = .ok v' w' ∧ w.grownBy w' (ownB v) ∧ (∀ g, ownB v' = some g → ownB v = some g ∨ w.heap.size ≤ g) ∧
      (∀ A', Keeps w w' A A' → Own w' A' e r v' (l ++ l2)) := by
  obtain ⟨i, z, hi, hz, his, hib, hzs⟩ := E.info
  subst hib
  have hgrow : ∀ (xs news : List Value) (old : Nat), xs.length = l.length * r.sz → news.length = l2.length * r.sz → RepL r w A xs l → RepL r w A news l2 → ∀ A',
      Keeps w (w.drew.alloc (.cells (xs.toArray ++ news.toArray ++ Builtin.zeroCells z.cells (grownCap w (l.length + l2.length) old e - (l.length + l2.length))) e)) A A' →
      Own (w.drew.alloc (.cells (xs.toArray ++ news.toArray ++ Builtin.zeroCells z.cells (grownCap w (l.length + l2.length) old e - (l.length + l2.length))) e)) A' e r (.slice (some ⟨w.heap.size, 0, none⟩) (l.length + l2.length) (grownCap w (l.length + l2.length) old e)) (l ++ l2) := by
    intro xs news old hx hn hr1 hr2 A' hk
    have h2 := grownCap_ge w (l.length + l2.length) old e
    have hxn : (xs ++ news).length = (l ++ l2).length * r.sz := by rw [List.length_append, hx, hn, List.length_append, Nat.add_mul]
    by_cases hz0 : grownCap w (l.length + l2.length) old e = 0
    · have e1 : l = [] := List.eq_nil_of_length_eq_zero (by omega)
      have e2 : l2 = [] := List.eq_nil_of_length_eq_zero (by omega)
      subst e1 e2
      rw [hz0]
      exact .inl ⟨_, rfl, rfl⟩
    refine .inr ⟨w.heap.size, 0, _, _, xs ++ news, by rw [List.length_append], by omega, heap_alloc_new w.drew _, by rw [List.length_append]; exact h2, grownCap_le_maxLen _ _ _ _ (by unfold maxLen; omega), ?_, ?_, (hr1.append hr2).stab hk⟩
    · simp only [Array.size_append, List.size_toArray, size_zeroCells, hzs, hx, hn, ← Nat.add_mul, Nat.zero_add]
      exact Nat.le_of_eq (by congr 1; omega)
    · simp only [Array.toList_append, List.append_assoc, List.drop_zero]
      rw [← List.append_assoc, ← hxn]
      exact List.take_left
  have hgb : ∀ cs row, w.grownBy (w.drew.alloc (.cells cs e)) row := fun cs row => ⟨rfl, rfl, rfl, by simp, fun j hj _ => Below.heap_alloc w.drew _ j hj⟩
  have hsame : w.grownBy w (ownB v) := ⟨rfl, rfl, rfl, Nat.le_refl _, fun _ _ _ => rfl⟩
  rcases hown with ⟨ad, rfl, rfl⟩ | ⟨g, off, cap, cur, xs, rfl, hcp, hg, hlc, hcm, hcs, htake, hr1⟩
  · rcases hsrc with ⟨ad2, c2, rfl, rfl⟩ | ⟨b, o2, c2, news, rfl, hc2, hcell, hr2⟩
    · refine ⟨.slice ad 0 0, w, ?_, hsame, by simp [ownB_zero], fun A' _ => .inl ⟨ad, rfl, rfl⟩⟩
      cases ad <;> cases ad2 <;> simp [Builtin.append_, run_underlying E.desc, sizeOf, typeInfo, hi, Builtin.lenOf, Builtin.firstCells, loadCells, loadCellsFrom, storeCells]
    · rcases Nat.eq_zero_or_pos l2.length with h0 | hm
      · have hl2 : l2 = [] := List.eq_nil_of_length_eq_zero h0
        subst hl2
        refine ⟨.slice ad 0 0, w, ?_, hsame, by simp [ownB_zero], fun A' _ => .inl ⟨ad, rfl, rfl⟩⟩
        cases ad <;> simp [Builtin.append_, run_underlying E.desc, sizeOf, typeInfo, hi, Builtin.lenOf, Builtin.firstCells, loadCells, loadCellsFrom, storeCells]
      · have hnl := hr2.len
        cases ad with
        | some ad =>
          have hf := hgrow [] news 0 (by simp) hnl rfl hr2
          have hr := run_append_grow (P := P) w t ty e i z E.desc hi hz ad 0 0 [] (by simp) (by simp) ⟨b, o2, none⟩ l2.length c2 news (by rw [his]; exact hnl) (fun j u hu => by rw [addr_add]; exact hcell j u hu) (by omega) (by simp at hmax; omega) (growslice_fits (by simp at hmax; omega) (by have := hbyb; simp only [List.length_nil] at this; exact this))
          simp only [List.length_nil, Nat.zero_add, List.nil_append] at hf hr ⊢
          exact ⟨_, _, hr, hgb _ _, fun g hg => .inr (by
            by_cases hc : grownCap w l2.length 0 e = 0
            · rw [hc, ownB_zero] at hg; cases hg
            · rw [ownB_pos (by omega)] at hg; cases hg; exact Nat.le_refl _), hf⟩
        | none =>
        have hr := run_append_nil (P := P) w t ty e i z E.desc hi hz ⟨b, o2, none⟩ l2.length c2 news (by rw [his]; exact hnl) (fun j u hu => by rw [addr_add]; exact hcell j u hu) hm (by simp at hmax; omega) (by have := hbyb; simp only [List.length_nil, Nat.zero_add] at this; omega)
        have hf := hgrow [] news 0 (by simp) hnl rfl hr2
        simp only [List.length_nil, Nat.zero_add, List.nil_append, Array.empty_append] at hf ⊢
        exact ⟨_, _, hr, hgb _ _, fun g hg => .inr (by
          by_cases hc : grownCap w l2.length 0 e = 0
          · rw [hc, ownB_zero] at hg; cases hg
          · rw [ownB_pos (by omega)] at hg; cases hg; exact Nat.le_refl _), hf⟩
  · have hxl := hr1.len
    have hcells : ∀ j u, xs[j]? = some u → w.cell? ((⟨g, off, none⟩ : Addr).add j) = some u := fun j u hu => by
      rw [addr_add, cell_of_row w g (off + j) cur e (0, 0) hg]
      rw [← htake, List.getElem?_take] at hu
      split at hu
      · simpa [List.getElem?_drop] using hu
      · cases hu
    rcases hsrc with ⟨ad2, c2, rfl, rfl⟩ | ⟨b, o2, c2, news, rfl, hc2, hcell, hr2⟩
    · refine ⟨.slice (some ⟨g, off, none⟩) l.length cap, w, ?_, hsame, fun g' h => .inl h, fun A' hk => ?_⟩
      · cases ad2 <;> simp [Builtin.append_, run_underlying E.desc, sizeOf, typeInfo, hi, Builtin.lenOf, Builtin.firstCells, hlc, storeCells, loadCells, loadCellsFrom]
      · rw [List.append_nil]; exact .inr ⟨g, off, cap, cur, xs, rfl, hcp, hg, hlc, hcm, hcs, htake, hr1.stab hk⟩
    · have hnl := hr2.len
      have hn1 : ∀ u ∈ news, u.oneCell' = true := fun u hu => List.all_eq_true.1 hr2.one u hu
      by_cases hroom : l.length + l2.length ≤ cap
      · have hle : l.length * r.sz + l2.length * r.sz ≤ cap * r.sz := by rw [← Nat.add_mul]; exact Nat.mul_le_mul_right _ hroom
        have hfit : off + l.length * r.sz + news.length ≤ cur.size := by omega
        have hf := run_firstCells_some (P := P) w r.sz l2.length ⟨b, o2, none⟩ l2.length c2 news hnl (fun j u hu => by rw [addr_add]; exact hcell j u hu)
        have hst := run_storeCells_at P g (off + l.length * r.sz) e news 0 cur w hg (by simpa using hfit) hn1
        simp only [Nat.add_zero] at hst
        refine ⟨.slice (some ⟨g, off, none⟩) (l.length + l2.length) cap, w.setRow g (cur.toList.take (off + l.length * r.sz) ++ news ++ cur.toList.drop (off + l.length * r.sz + news.length)).toArray, ?_, ⟨rfl, rfl, rfl, by simp [World.setRow], fun j _ hj => setRow_other w g j _ (fun e => hj (by rw [ownB_pos hcp, e]))⟩, fun g' hg' => .inl (by rw [ownB_pos hcp] at hg' ⊢; exact hg'), fun A' hk => ?_⟩
        · simp [Builtin.append_, run_underlying E.desc, sizeOf, typeInfo, hi, his, Builtin.lenOf, hroom, hf, addr_add, hst]
        · refine .inr ⟨g, off, cap, _, xs ++ news, by rw [List.length_append], hcp, setRow_heap w g cur _ e _ hg, by rw [List.length_append]; exact hroom, hcm, ?_, ?_, (hr1.append hr2).stab hk⟩
          · simp only [List.size_toArray, List.length_append, List.length_take, List.length_drop, Array.length_toList]
            omega
          · have e1 : (xs ++ news).length = (l ++ l2).length * r.sz := by rw [List.length_append, hxl, hnl, List.length_append, Nat.add_mul]
            have e2 : cur.toList.take (off + l.length * r.sz) = cur.toList.take off ++ xs := by
              rw [← htake, List.take_add]
            have e3 : (cur.toList.take off).length = off := by rw [List.length_take, Array.length_toList]; omega
            show (((cur.toList.take (off + l.length * r.sz) ++ news ++ cur.toList.drop (off + l.length * r.sz + news.length)).drop off).take ((l ++ l2).length * r.sz)) = xs ++ news
            rw [e2, List.append_assoc, List.append_assoc, List.drop_left' e3, ← List.append_assoc, ← e1]
            exact List.take_left
      · have hr := run_append_grow (P := P) w t ty e i z E.desc hi hz ⟨g, off, none⟩ l.length cap xs (by rw [his]; exact hxl) hcells ⟨b, o2, none⟩ l2.length c2 news (by rw [his]; exact hnl) (fun j u hu => by rw [addr_add]; exact hcell j u hu) (by omega) (by omega) (growslice_fits (by omega) hbyb)
        exact ⟨_, _, hr, hgb _ _, fun g' hg' => .inr (by
          by_cases hc : grownCap w (l.length + l2.length) cap e = 0
          · rw [hc, ownB_zero] at hg'; cases hg'
          · rw [ownB_pos (by omega)] at hg'; cases hg'; exact Nat.le_refl _), hgrow xs news cap hxl hnl hr1 hr2⟩

theorem run_append_own2 {t e ty : TypeId} {by_ : Nat} {A : Nat → Prop} (E : Et P t e r.sz by_) (hown : Own w A e r v l) (hsrc : Src w A r u l2) (hmax : l.length + l2.length ≤ 1000000000) (hby : by_ ≤ 100000) :
    ∃ v' w', (Builtin.append_ #[t, t] ty #[v, u]).run P w = .ok v' w' ∧ w.grownBy w' (ownB v) ∧ (∀ g, ownB v' = some g → ownB v = some g ∨ w.heap.size ≤ g) ∧
      (∀ A', Keeps w w' A A' → Own w' A' e r v' (l ++ l2)) :=
  run_append_own3 E hown hsrc (by omega) (Nat.le_trans (Nat.mul_le_mul hmax hby) (by decide))
/-- append. -/
theorem l_append {s q : Operand} {d i : Nat} (hF : Fr n ds F a) (hW : Stw B M Z w) (hn : Nat.blt d n = true) (E : Et P t e r.sz by_) (hs : opv F s = some v) (hx : opv F q = some u)
    (hZ : Z[i]? = some (row v e r l)) (hZ1 : Z.eraseIdx i = Z1) (hsrc : Src w (Fz B (blks M Z)) r u l2) (hap : app l l2 = some l3) (hby : Nat.ble by_ 100000 = true)
    (k : ∀ v' a' w', Fr n ds ((d, v') :: F) a' → Stw B M (row v' e r l3 :: Z1) w' → wpList P ops Q rest a' w') :
    wpList P ops Q (⟨some d, .call ⟨.builtin .append, #[s, q], #[t, t]⟩, ty, pos, aft, none⟩ :: rest) a w := by
  obtain ⟨hmax, rfl⟩ := app_some hap
  have hW1 := hW.permZ (perm_get hZ hZ1)
  have hbl : ∀ b, Fz B (blks M Z) b → Fz B (blks M (row v e r l :: Z1)) b := fun b hb => hb.mono fun g hg => (List.Perm.append_left _ ((perm_get hZ hZ1).flatMap_right _)).mem_iff.2 hg
  have hsrc1 : Src w (Fz B (blks M (row v e r l :: Z1))) r u l2 := by
    rcases hsrc with h | ⟨b, o2, c2, news, h1, h2, h3, h4⟩
    · exact .inl h
    · exact .inr ⟨b, o2, c2, news, h1, h2, h3, h4.stab fun b hb _ => ⟨hbl b hb, rfl⟩⟩
  obtain ⟨v', w', hr, hgr, hblk, hown⟩ := run_append_own2 (P := P) (w := w) (ty := ty) E (hW1.items _ (List.mem_cons_self ..) : Own w _ e r v l) hsrc1 hmax (Nat.le_of_ble_eq_true hby)
  refine ls_wp hF hn (v := v') (w' := w') ?_ (fun a' h => k v' a' w' h ?_)
  · simp [execOp, resolve_builtin, invoke, builtin, hF.eval hs, hF.eval hx, hr]
  · exact hW1.rowTurn hgr (fun A _ hk => hown A hk) hblk
end
end Go.Proofs.YtmbjfpacaenbhaaGreat
