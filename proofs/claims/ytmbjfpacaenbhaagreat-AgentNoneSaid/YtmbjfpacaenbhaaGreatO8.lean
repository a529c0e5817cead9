/- Stores into rows, rows that go on as parts, calls. Conditions: none. -/
import Derived.Test.YtmbjfpacaenbhaaGreatO7
namespace Go.Proofs.YtmbjfpacaenbhaaGreat
set_option linter.unusedVariables false
set_option linter.unusedSimpArgs false
open Go Go.RowKit

section
variable {P : Program} {B : Bs} {M M' M2 Ml : Blks} {Z Z' Z1 Z2 Zl : List It} {n : Nat} {ds : List Deferred} {F F' : List (Nat × Value)} {a : Act} {w w' : World}
variable {ops : Array Oper} {Q : Exit → Act → World → Prop} {rest : List Oper} {o : Oper}
variable {dst : Option Tmp} {ty : TypeId} {pos : String} {aft : Array Edge} {g : Option (Nat × Bool)}
variable {α : Type} {r : Rp α} {l l2 l3 : List α} {v u : Value} {x x' : α} {i : Int} {t e by_ : Nat}

theorem slSub_blk (v : Value) (lo hi : Int) (sz : Nat) {g : Nat} (h : ownB (slSub v lo hi sz) = some g) : ownB v = some g := by
  cases v with
  | slice a _ c =>
    cases a with
    | none => simp only [slSub, Option.map_none] at h; split at h <;> cases h
    | some a =>
      simp only [slSub, Option.map_some] at h
      split at h
      · rename_i hc; rw [hc, Nat.sub_self, ownB_zero] at h; cases h
      · by_cases h0 : c - lo.toNat = 0
        · rw [h0, ownB_zero] at h; cases h
        · rw [ownB_pos (by omega)] at h
          rw [ownB_pos (by omega), ← h]
          congr 1
          unfold Addr.add; split <;> rfl
  | _ => exact h
theorem Own.sub {A : Nat → Prop} {lo hi : Int} (h : Own w A e r v l) (hs : subl l lo hi = some l2) : Own w A e r (slSub v lo hi r.sz) l2 := by
  obtain ⟨h1, h2, h3, rfl⟩ := subl_some hs
  rcases h with ⟨ad, rfl, rfl⟩ | ⟨b, off, cap, cur, xs, rfl, hcp, hb, hc, hcm, hcs, ht, hr⟩
  · have : lo = 0 ∧ hi = 0 := by simp at h3; omega
    obtain ⟨rfl, rfl⟩ := this
    exact .inl ⟨ad, by simp [slSub], by simp⟩
  · have hlen : ((l.take hi.toNat).drop lo.toNat).length = hi.toNat - lo.toNat := by simp; omega
    by_cases hq : cap = lo.toNat
    · have hz : ((l.take hi.toNat).drop lo.toNat) = [] := List.eq_nil_of_length_eq_zero (by omega)
      have h0 : hi.toNat - lo.toNat = 0 := by omega
      refine .inl ⟨some ⟨b, off, none⟩, ?_, hz⟩
      simp [slSub, hq, hlen, h0, -List.length_drop, -List.length_take]
    · have hle : lo.toNat * r.sz + (cap - lo.toNat) * r.sz = cap * r.sz := by rw [← Nat.add_mul]; congr 1; omega
      refine .inr ⟨b, off + lo.toNat * r.sz, cap - lo.toNat, cur, _, ?_, by omega, hb, by omega, by omega, by omega, rfl, ?_⟩
      · simp only [slSub, if_neg hq, Option.map_some, hlen]
        unfold Addr.add
        split <;> simp_all
      · have h4 := (hr.take hi.toNat).drop lo.toNat
        have e1 : ((cur.toList.drop (off + lo.toNat * r.sz)).take (((l.take hi.toNat).drop lo.toNat).length * r.sz)) = (xs.take (hi.toNat * r.sz)).drop (lo.toNat * r.sz) := by
          rw [hlen, ← ht, List.take_take, Nat.min_eq_left (Nat.mul_le_mul_right _ (by omega)), List.drop_take, List.drop_drop, Nat.sub_mul]
        rw [e1]; exact h4
/-- The row goes on as a part of it. -/
theorem Stw.subRow {k : Nat} {lo hi : Int} (h : Stw B M Z w) (hZ : Z[k]? = some (row v e r l)) (hZ1 : Z.eraseIdx k = Z1) (hs : subl l lo hi = some l2) : Stw B M (row (slSub v lo hi r.sz) e r l2 :: Z1) w :=
  (h.permZ (perm_get hZ hZ1)).rowTurn ⟨rfl, rfl, rfl, Nat.le_refl _, fun _ _ _ => rfl⟩ (fun A ho hk => (ho.stab hk fun _ _ => rfl).sub hs) (fun g hg => .inl (slSub_blk _ _ _ _ hg))

theorem Stw.one (h : Stw B M Z w) {k : Nat} (hZ : Z[k]? = some (row v e r l)) : v.oneCell' = true := Own.one (A := Fz B (blks M Z)) (e := e) (r := r) (l := l) (h.item hZ)
theorem Stw.oneF (h : Stw B M Z w) {k : Nat} (hZ : Z[k]? = some (frz v r l)) : v.oneCell' = true := Sl.one (A := Fz B (blks M Z)) (r := r) (l := l) (h.item hZ)

theorem y_nilCheck {s : Operand} {ad : Addr} (hF : Fr n ds F a) (hx : opv F s = some (.pointer (some ad))) : Yx P B M Z a ⟨dst, .nilCheck s, ty, pos, aft, g⟩ (.pointer (some ad)) :=
  yl_of fun w _ => by simp [execOp, hF.eval hx]
theorem cells_one (h : v.oneCell' = true) : v.cells.toList = [v] := by
  cases v <;> first | rfl | (simp [Value.oneCell'] at h)
/-- A store of one cell whose value is a variable. -/
theorem l_store1 {t : TypeId} {s q : Operand} {b off : Nat} {cs : List Value} (i : Nat) (hF : Fr n ds F a) (hW : Stw B M Z w) (hx : opv F s = some (.pointer (some ⟨b, off, none⟩))) (hy : opv F q = some v) (hM : M[i]? = some (b, cs)) (T : Ty P t false 1)
    (h1 : v.oneCell' = true) (hl : Nat.blt off cs.length = true) (hM' : M.set i (b, cs.set off v) = M')
    (k : ∀ w', Stw B M' Z w' → wpList P ops Q rest a w') : wpList P ops Q (⟨none, .store t s q, ty, pos, aft, none⟩ :: rest) a w :=
  l_store (vs := [v]) i hF hW hx hy hM T (cells_one h1) rfl hl (by simp [h1]) hM' k

/-! ### A store into an element of a row -/
theorem putL_len : ∀ (vs : List Value) (cs : List Value) (o : Nat), (putL cs o vs).length = cs.length
  | [], cs, o => rfl
  | v :: r, cs, o => by simp only [putL]; rw [putL_len]; simp
theorem putL_eq : ∀ (vs cs : List Value) (o : Nat), o + vs.length ≤ cs.length → putL cs o vs = cs.take o ++ vs ++ cs.drop (o + vs.length)
  | [], cs, o, _ => by simp [putL]
  | v :: r, cs, o, h => by
    simp only [List.length_cons] at h
    simp only [putL]
    rw [putL_eq r (cs.set o v) (o + 1) (by simp; omega)]
    have e1 : (cs.set o v).take (o + 1) = cs.take o ++ [v] := by
      rw [List.take_add_one, List.take_set_of_le (Nat.le_refl o)]
      simp [show o < cs.length by omega]
    rw [e1, List.drop_set_of_lt (by omega)]
    rw [List.length_cons, show o + (r.length + 1) = o + 1 + r.length by omega]
    simp only [List.append_assoc, List.cons_append, List.nil_append]
theorem Own.store {A : Nat → Prop} {j : Nat} {vs : List Value} (h : Own w A e r v l) (hik : ix l i = some x) (hle : j + vs.length ≤ r.sz) (h1 : vs.all (·.oneCell') = true)
    (hA : ∀ b, A b → ownB v ≠ some b) (hrep : ∀ cs, r.rep w A cs x → r.rep w A (putL cs j vs) x') :
    ∃ w', (storeCells ⟨vblk v, voff v + i.toNat * r.sz + j, none⟩ vs).run P w = .ok () w' ∧ w.grownBy w' (ownB v) ∧ ∀ A', Keeps w w' A A' → Own w' A' e r v (setAt l i x') := by
  obtain ⟨h0, hk, hx⟩ := ix_lt hik
  rcases h with ⟨ad, rfl, rfl⟩ | ⟨b, off, cap, cur, xs, rfl, hcp, hb, hc, hcm, hcs, ht, hr⟩
  · simp at hk
  · have hcap : l.length * r.sz ≤ cap * r.sz := Nat.mul_le_mul_right _ hc
    have hin : i.toNat * r.sz + r.sz ≤ l.length * r.sz := by rw [← Nat.succ_mul]; exact Nat.mul_le_mul_right _ hk
    have hxl := hr.len
    obtain ⟨cs, hcs1, hcs2⟩ := hr.get hx
    have hcl := r.len hcs1
    have hst := run_storeCells_at P b (off + i.toNat * r.sz + j) e vs 0 cur w hb (by omega) (fun v hv => List.all_eq_true.1 h1 v hv)
    simp only [Nat.add_zero] at hst
    refine ⟨_, hst, ⟨rfl, rfl, rfl, by simp [World.setRow], fun k _ hk => setRow_other w b k _ (fun e => hk (by rw [ownB_pos hcp, e]))⟩, fun A' hkp => ?_⟩
    have hset := (hr.stab hkp).set hk ((r.stab (hrep cs hcs1) hkp))
    refine .inr ⟨b, off, cap, _, _, by simp [setAt], hcp, setRow_heap w b cur _ e _ hb, by simpa [setAt] using hc, hcm, ?_, rfl, ?_⟩
    · simp only [List.size_toArray, List.length_append, List.length_take, List.length_drop, Array.length_toList]
      omega
    · have hxs : cs = (xs.drop (i.toNat * r.sz)).take r.sz := by
        refine List.ext_getElem? fun q => ?_
        by_cases hq : q < r.sz
        · rw [List.getElem?_take_of_lt hq, List.getElem?_drop]
          have hq' : q < cs.length := by omega
          rw [hcs2 q cs[q] (List.getElem?_eq_getElem hq')]
          exact List.getElem?_eq_getElem hq'
        · rw [List.getElem?_eq_none (by omega), List.getElem?_eq_none (by simp; omega)]
      have e1 : (setAt l i x').length = l.length := by simp [setAt]
      have key : ((cur.toList.take (off + i.toNat * r.sz + j) ++ vs ++ cur.toList.drop (off + i.toNat * r.sz + j + vs.length)).drop off).take (l.length * r.sz) = xs.take (i.toNat * r.sz) ++ putL cs j vs ++ xs.drop (i.toNat * r.sz + r.sz) := by
        rw [putL_eq vs cs j (by omega)]
        have hcur : cur.toList = cur.toList.take off ++ (xs ++ (cur.toList.drop off).drop (l.length * r.sz)) := by
          rw [← ht, List.take_append_drop, List.take_append_drop]
        have hol : (cur.toList.take off).length = off := by rw [List.length_take, Array.length_toList]; omega
        have f1 : (cur.toList.take (off + i.toNat * r.sz + j)) = cur.toList.take off ++ xs.take (i.toNat * r.sz + j) := by
          conv => lhs; rw [hcur]
          rw [List.take_append, hol, List.take_of_length_le (by omega), List.take_append_of_le_length (by omega)]
          congr 2; omega
        have f2 : (cur.toList.drop (off + i.toNat * r.sz + j + vs.length)) = xs.drop (i.toNat * r.sz + j + vs.length) ++ (cur.toList.drop off).drop (l.length * r.sz) := by
          conv => lhs; rw [hcur]
          rw [List.drop_append, hol, List.drop_eq_nil_of_le (by omega), List.nil_append, List.drop_append_of_le_length (by omega)]
          congr 2; omega
        rw [f1, f2, List.append_assoc, List.append_assoc, List.drop_left' hol]
        have g1 : xs.take (i.toNat * r.sz + j) = xs.take (i.toNat * r.sz) ++ cs.take j := by
          rw [List.take_add, hxs, List.take_take, Nat.min_eq_left (by omega)]
        have g2 : xs.drop (i.toNat * r.sz + j + vs.length) = cs.drop (j + vs.length) ++ xs.drop (i.toNat * r.sz + r.sz) := by
          have hd : xs.drop (i.toNat * r.sz) = cs ++ xs.drop (i.toNat * r.sz + r.sz) := by
            rw [hxs, ← List.drop_drop, List.take_append_drop]
          rw [Nat.add_assoc, ← List.drop_drop, hd, List.drop_append_of_le_length (by omega)]
        rw [g1, g2]
        have hlen : (xs.take (i.toNat * r.sz) ++ cs.take j ++ (vs ++ (cs.drop (j + vs.length) ++ xs.drop (i.toNat * r.sz + r.sz)))).length = l.length * r.sz := by
          simp only [List.length_append, List.length_take, List.length_drop]
          omega
        have h9 := List.take_left (l₁ := xs.take (i.toNat * r.sz) ++ cs.take j ++ (vs ++ (cs.drop (j + vs.length) ++ xs.drop (i.toNat * r.sz + r.sz)))) (l₂ := (cur.toList.drop off).drop (l.length * r.sz))
        rw [hlen] at h9
        simp only [List.append_assoc] at h9 ⊢
        exact h9
      rw [e1, key]
      exact hset

theorem l_store_el {t : TypeId} {s q : Operand} {agg : Bool} {sz off j k : Nat} {vs : List Value} {y : Value} (hF : Fr n ds F a) (hW : Stw B M Z w) (hx : opv F s = some (.pointer (some ⟨vblk v, off, none⟩))) (hy : opv F q = some y)
    (ho : off = voff v + i.toNat * r.sz + j) (hZ : Z[k]? = some (row v e r l)) (hZ1 : Z.eraseIdx k = Z1) (hik : ix l i = some x) (T : Ty P t agg sz) (hv : y.cells.toList = vs) (hsz : vs.length = sz) (hle : Nat.ble (j + vs.length) r.sz = true) (h1 : vs.all (·.oneCell') = true)
    (hrep : ∀ A cs, (∀ b, Fz B (blks M Z) b → A b) → r.rep w A cs x → r.rep w A (putL cs j vs) x')
    (kk : ∀ w', Stw B M (row v e r (setAt l i x') :: Z1) w' → wpList P ops Q rest a w') : wpList P ops Q (⟨none, .store t s q, ty, pos, aft, none⟩ :: rest) a w := by
  subst ho
  have hW1 := hW.permZ (perm_get hZ hZ1)
  have hbl : ∀ b, Fz B (blks M Z) b → Fz B (blks M (row v e r l :: Z1)) b := fun b hb => hb.mono fun g hg => (List.Perm.append_left _ ((perm_get hZ hZ1).flatMap_right _)).mem_iff.2 hg
  obtain ⟨w', hr, hgr, hown⟩ := Own.store (P := P) (w := w) (hW1.items _ (List.mem_cons_self ..) : Own w _ e r v l) hik (Nat.le_of_ble_eq_true hle) h1 (fun b hb he => hb.2 (mem_blks_Z (z := row v e r l) (List.mem_cons_self ..) (mem_ownE.2 he))) (fun cs => hrep _ cs hbl)
  unfold wpList
  rw [if_pos (wanted_none rfl)]
  refine .inl ?_
  unfold Oper.wp
  have hs : y.cells.size = sz := by rw [← hsz, ← hv]; simp
  have hrun : (execOp a.eval ⟨none, .store t s q, ty, pos, aft, none⟩).run P w = .ok .skip w' := by
    subst hv
    simp [execOp, hF.eval hx, hF.eval hy, Instr.storeAt, Instr.sureAddr, storeVar, T.sizeOf, hs, hr]
  rw [hrun]
  exact kk w' (hW1.rowTurn hgr (fun A _ hk => hown A hk) (fun g hg => .inl hg))

/-! ### Calls -/
theorem Frm.join {X Xl : List Nat} {w0 : World} (h : Frm X w0 w) (h2 : Frm Xl w w') (hx : ∀ b ∈ Xl, b ∈ X ∨ w0.heap.size ≤ b) : Frm X w0 w' :=
  ⟨h2.os.trans h.os, h2.tape.trans h.tape, h2.output.trans h.output, Nat.le_trans h.size h2.size, fun k hk hX => (h2.block k (Nat.lt_of_lt_of_le hk h.size) fun hm => (hx k hm).elim hX fun h => by omega).trans (h.block k hk hX)⟩

/-- What is lent: a base of its own. -/
theorem Stw.lend (h : Stw B (Ml ++ M) (Zl ++ Z) w) : Stw ⟨Fz B (blks (Ml ++ M) (Zl ++ Z)), blks Ml Zl, w⟩ Ml Zl w := by
  have hs : ∀ g ∈ blks Ml Zl, g ∈ blks (Ml ++ M) (Zl ++ Z) := fun g hg => (List.Sublist.append ((List.sublist_append_left _ _).map _) (sub_flatMap (List.sublist_append_left _ _))).subset hg
  have h1 := h.sub (List.sublist_append_left Ml M) (List.sublist_append_left Zl Z)
  exact ⟨Frm.refl _ _, fun g hg => .inl hg, h1.at_, fun z hz => z.stab (h.items z (List.mem_append_left _ hz)) (fun b hA _ => ⟨⟨.inl hA, fun hm => hA.2 (hs b hm)⟩, rfl⟩) fun _ _ => rfl, h1.nodup, fun b hb hY => hY.2 (hs b hb)⟩

theorem Stw.join (h : Stw B (Ml ++ M) (Zl ++ Z) w) (h2 : Stw ⟨Fz B (blks (Ml ++ M) (Zl ++ Z)), blks Ml Zl, w⟩ M2 Z2 w') : Stw B (M2 ++ M) (Z2 ++ Z) w' := by
  have hp : ∀ {A C : Blks} {D E : List It}, (blks (A ++ C) (D ++ E)).Perm (blks A D ++ blks C E) := by
    intro A C D E
    unfold blks
    rw [List.map_append, List.flatMap_append]
    simp only [List.append_assoc]
    refine List.Perm.append_left _ ?_
    rw [← List.append_assoc, ← List.append_assoc]
    exact List.Perm.append_right _ List.perm_append_comm
  have hnd := List.nodup_append.1 (hp.nodup_iff.1 h.nodup)
  have hl : ∀ g ∈ blks Ml Zl, g ∈ blks (Ml ++ M) (Zl ++ Z) := fun g hg => hp.mem_iff.2 (List.mem_append_left _ hg)
  have hr : ∀ g ∈ blks M Z, g ∈ blks (Ml ++ M) (Zl ++ Z) := fun g hg => hp.mem_iff.2 (List.mem_append_right _ hg)
  have hlt : ∀ g ∈ blks M Z, g < w.heap.size := fun g hg => h.lt_all (hr g hg)
  have hne : ∀ g ∈ blks M Z, g ∉ blks Ml Zl := fun g hg hm => hnd.2.2 g hm g hg rfl
  have hsame : ∀ g, g < w.heap.size → g ∉ blks Ml Zl → w'.heap[g]? = w.heap[g]? := h2.frm.block
  have hown2 : ∀ g ∈ blks M2 Z2, g ∈ blks Ml Zl ∨ w.heap.size ≤ g := h2.own
  have hd2 : ∀ g ∈ blks M2 Z2, g ∉ blks M Z := fun g hg hm => by
    rcases hown2 g hg with h1 | h1
    · exact hne g hm h1
    · have := hlt g hm; omega
  refine ⟨h.frm.join h2.frm fun b hb => h.own b (hl b hb), fun g hg => ?_, fun p hpm => ?_, fun z hz => ?_, hp.nodup_iff.2 (List.nodup_append.2 ⟨h2.nodup, hnd.2.1, fun a ha b hb e => hd2 a ha (e ▸ hb)⟩), h.disj⟩
  · rcases List.mem_append.1 (hp.mem_iff.1 hg) with hg | hg
    · rcases hown2 g hg with h1 | h1
      · exact h.own g (hl g h1)
      · exact .inr (Nat.le_trans h.frm.size h1)
    · exact h.own g (hr g hg)
  · rcases List.mem_append.1 hpm with hpm | hpm
    · exact h2.at_ p hpm
    · obtain ⟨t, ht⟩ := h.at_ p (List.mem_append_right _ hpm)
      exact ⟨t, by rw [hsame _ (hlt _ (mem_blks_M hpm)) (hne _ (mem_blks_M hpm))]; exact ht⟩
  · rcases List.mem_append.1 hz with hz | hz
    · refine z.stab (h2.items z hz) (fun b hA _ => ⟨?_, rfl⟩) fun _ _ => rfl
      obtain ⟨h1, h3⟩ := hA
      have h4 : (B.Y b ∨ b ∈ B.X ∨ B.w0.heap.size ≤ b) ∧ b ∉ blks M Z := by
        rcases h1 with h1 | h1 | h1
        · exact ⟨h1.1, fun hm => h1.2 (hr b hm)⟩
        · exact ⟨.inr (h.own b (hl b h1)), fun hm => hne b hm h1⟩
        · exact ⟨.inr (.inr (Nat.le_trans h.frm.size h1)), fun hm => by have := hlt b hm; have : w.heap.size ≤ b := h1; omega⟩
      exact ⟨h4.1, fun hm => (List.mem_append.1 (hp.mem_iff.1 hm)).elim h3 h4.2⟩
    · refine z.stab (h.items z (List.mem_append_right _ hz)) (fun b hA hb => ⟨⟨hA.1, fun hm => ?_⟩, hsame b hb fun hm => hA.2 (hl b hm)⟩) fun g hg => hsame g (hlt g (mem_blks_Z hz hg)) (hne g (mem_blks_Z hz hg))
      rcases List.mem_append.1 (hp.mem_iff.1 hm) with hm | hm
      · rcases hown2 b hm with h1 | h1
        · exact hA.2 (hl b h1)
        · omega
      · exact hA.2 (hr b hm)

/-- A call, by a contract over what is lent to it. -/
theorem l_callG {β : Type} {f : FuncId} {xs : List Operand} {vs : List Value} {ts : Array TypeId} {d : Nat} {rv : β → Value} {MM : β → Blks} {ZZ : β → List It} (hF : Fr n ds F a) (hW : Stw B (Ml ++ M) (Zl ++ Z) w) (hP : Has P f) (hx : evs F xs = some vs) (hn : Nat.blt d n = true)
    (c : Stw ⟨Fz B (blks (Ml ++ M) (Zl ++ Z)), blks Ml Zl, w⟩ Ml Zl w → Calls P f vs.toArray w fun e w' => ∃ x : β, e = .returned (rv x) ∧ Stw ⟨Fz B (blks (Ml ++ M) (Zl ++ Z)), blks Ml Zl, w⟩ (MM x) (ZZ x) w')
    (k : ∀ x a' w', Fr n ds ((d, rv x) :: F) a' → Stw B (MM x ++ M) (ZZ x ++ Z) w' → wpList P ops Q rest a' w') :
    wpList P ops Q (⟨some d, .call ⟨.value (.func f), xs.toArray, ts⟩, ty, pos, aft, none⟩ :: rest) a w :=
  l_call hF hP hx hn (c hW.lend) (fun v w' a' ⟨x, he, hW2⟩ hF => by cases he; exact k x a' w' hF (hW.join hW2)) (fun ch w' ⟨x, he, _⟩ => by cases he) (fun w' ⟨x, he, _⟩ => by cases he)
theorem l_callG0 {β : Type} {f : FuncId} {xs : List Operand} {vs : List Value} {ts : Array TypeId} {rv : β → Value} {MM : β → Blks} {ZZ : β → List It} (hF : Fr n ds F a) (hW : Stw B (Ml ++ M) (Zl ++ Z) w) (hP : Has P f) (hx : evs F xs = some vs)
    (c : Stw ⟨Fz B (blks (Ml ++ M) (Zl ++ Z)), blks Ml Zl, w⟩ Ml Zl w → Calls P f vs.toArray w fun e w' => ∃ x : β, e = .returned (rv x) ∧ Stw ⟨Fz B (blks (Ml ++ M) (Zl ++ Z)), blks Ml Zl, w⟩ (MM x) (ZZ x) w')
    (k : ∀ x w', Stw B (MM x ++ M) (ZZ x ++ Z) w' → wpList P ops Q rest a w') :
    wpList P ops Q (⟨none, .call ⟨.value (.func f), xs.toArray, ts⟩, ty, pos, aft, none⟩ :: rest) a w :=
  l_call0 hF hP hx (c hW.lend) (fun v w' ⟨x, he, hW2⟩ => k x w' (hW.join hW2)) (fun ch w' ⟨x, he, _⟩ => by cases he) (fun w' ⟨x, he, _⟩ => by cases he)
theorem l_callGV {β : Type} {f : FuncId} {fo : Operand} {xs : List Operand} {ws : List Value} {ts : Array TypeId} {d : Nat} {rv : β → Value} {MM : β → Blks} {ZZ : β → List It} (hF : Fr n ds F a) (hW : Stw B (Ml ++ M) (Zl ++ Z) w) (hP : Has P f) (hx : evc F fo xs = some (f, ws)) (hn : Nat.blt d n = true)
    (c : Stw ⟨Fz B (blks (Ml ++ M) (Zl ++ Z)), blks Ml Zl, w⟩ Ml Zl w → Calls P f ws.toArray w fun e w' => ∃ x : β, e = .returned (rv x) ∧ Stw ⟨Fz B (blks (Ml ++ M) (Zl ++ Z)), blks Ml Zl, w⟩ (MM x) (ZZ x) w')
    (k : ∀ x a' w', Fr n ds ((d, rv x) :: F) a' → Stw B (MM x ++ M) (ZZ x ++ Z) w' → wpList P ops Q rest a' w') :
    wpList P ops Q (⟨some d, .call ⟨.value fo, xs.toArray, ts⟩, ty, pos, aft, none⟩ :: rest) a w :=
  l_callV hF hP hx hn (c hW.lend) (fun v w' a' ⟨x, he, hW2⟩ hF => by cases he; exact k x a' w' hF (hW.join hW2)) (fun ch w' ⟨x, he, _⟩ => by cases he) (fun w' ⟨x, he, _⟩ => by cases he)
theorem l_callG0V {β : Type} {f : FuncId} {fo : Operand} {xs : List Operand} {ws : List Value} {ts : Array TypeId} {rv : β → Value} {MM : β → Blks} {ZZ : β → List It} (hF : Fr n ds F a) (hW : Stw B (Ml ++ M) (Zl ++ Z) w) (hP : Has P f) (hx : evc F fo xs = some (f, ws))
    (c : Stw ⟨Fz B (blks (Ml ++ M) (Zl ++ Z)), blks Ml Zl, w⟩ Ml Zl w → Calls P f ws.toArray w fun e w' => ∃ x : β, e = .returned (rv x) ∧ Stw ⟨Fz B (blks (Ml ++ M) (Zl ++ Z)), blks Ml Zl, w⟩ (MM x) (ZZ x) w')
    (k : ∀ x w', Stw B (MM x ++ M) (ZZ x ++ Z) w' → wpList P ops Q rest a w') :
    wpList P ops Q (⟨none, .call ⟨.value fo, xs.toArray, ts⟩, ty, pos, aft, none⟩ :: rest) a w :=
  l_call0V hF hP hx (c hW.lend) (fun v w' ⟨x, he, hW2⟩ => k x w' (hW.join hW2)) (fun ch w' ⟨x, he, _⟩ => by cases he) (fun w' ⟨x, he, _⟩ => by cases he)
end
end Go.Proofs.YtmbjfpacaenbhaaGreat
