/- Objects of one integer and an array of elements with slices, each in a block of its own. Conditions: none. -/
import Derived.Test.YtfnmlmglmegamaacOX
import Derived.Test.YtfnmlmglmegamaacOT
import Derived.Test.YtfnmlmglmegamaacOY
namespace Go.Proofs.Ytfnmlmglmegamaa
set_option linter.unusedVariables false
set_option linter.unusedSimpArgs false
set_option linter.unusedSectionVars false
open Go Go.RowKit
abbrev PL (b m : Nat) : Value := .slice (some ⟨b, 1, none⟩) m m
def Be {α : Type} (b : Nat) (r : Rp α) (m : Nat) (p : Int × List α) : It :=
  ⟨[b], fun w A => ∃ t xs, w.heap[b]? = some (.cells ((Value.int .i64 p.1 :: xs).toArray) t (0, 0)) ∧ p.2.length = m ∧ Bh r w A xs p.2,
   fun ⟨t, xs, h1, h2, h3⟩ hk hg => ⟨t, xs, (hg b (List.mem_singleton.2 rfl)).trans h1, h2, h3.stab hk⟩,
   fun ⟨t, xs, h1, _⟩ g hg => by rw [List.mem_singleton.1 hg]; exact (Array.getElem?_eq_some_iff.1 h1).1,
   fun _ => List.nodup_cons.2 ⟨List.not_mem_nil, List.nodup_nil⟩⟩
section
variable {α α' β : Type} {r : Rp α} {r' : Rp α'} {s : Rp β} {er : α' → α} {b m : Nat} {p : Int × List α}
variable {B : Bs} {M Ml : Cp} {Z Z1 Zl : List It} {w : World}
theorem O3 {A A' : Nat → Prop} (h : (Be b r m p).ok w A) (hA : ∀ x, A x → A' x) (hb : A' b) : Sl w A' r (PL b m) p.2 := by
  obtain ⟨t, xs, h1, h2, h3⟩ := h
  refine .inr ⟨b, 1, m, xs, by rw [h2], by omega, hb, (Array.getElem?_eq_some_iff.1 h1).1, fun j u hu => ?_, h3.stab fun b hb _ => ⟨hA b hb, rfl⟩⟩
  rw [cell_of_row w b (1 + j) _ t (0, 0) h1]
  simp [Nat.add_comm 1 j, hu]
theorem Iv (k : Nat) (hZ : Z[k]? = some (Be b r m p)) : JQ B M Z r (PL b m) p.2 := fun _ hw => O3 (A := Fz B (AD M Z)) (hw.item hZ) (fun _ _ => trivial) trivial
theorem O8 {A : Nat → Prop} (k : Ex r r' er) (h : (Be b r m p).ok w A) : ∃ lx : List α', lx.map er = p.2 ∧ (Be b r' m (p.1, lx)).ok w A := by
  obtain ⟨t, xs, h1, h2, h3⟩ := h
  obtain ⟨lx, e, h4⟩ := Bh.ex k h3
  exact ⟨lx, e, t, xs, h1, by rw [← h2, ← e, List.length_map], h4⟩
theorem Nd {A : Nat → Prop} {s : Int} {lx : List α'} {l : List α} (k : Ex r r' er) (he : lx.map er = l) (h : (Be b r' m (s, lx)).ok w A) : (Be b r m (s, l)).ok w A := by
  obtain ⟨t, xs, h1, h2, h3⟩ := h
  subst he
  exact ⟨t, xs, h1, by rw [← h2]; simp, Bh.hide k h3⟩
theorem Stw.exP {s : Int} {l : List α} (h : Stw B M (Be b r m (s, l) :: Z) w) (k : Ex r r' er) : ∃ lx : List α', lx.map er = l ∧ Stw B M (Be b r' m (s, lx) :: Z) w := by
  obtain ⟨lx, e1, h1⟩ := O8 k (h.items _ (List.mem_cons_self ..))
  refine ⟨lx, e1, ?_⟩
  have hbl : AD M (Be b r' m (s, lx) :: Z) = AD M (Be b r m (s, l) :: Z) := rfl
  refine ⟨h.frm, by rw [hbl]; exact h.own, h.at_, fun z hz => ?_, by rw [hbl]; exact h.nodup, h.disj⟩
  rw [hbl]
  rcases List.mem_cons.1 hz with rfl | hz
  · exact h1
  · exact h.items z (List.mem_cons_of_mem _ hz)
theorem Stw.hideP {s : Int} {lx : List α'} {l : List α} (h : Stw B M (Be b r' m (s, lx) :: Z) w) (k : Ex r r' er) (he : lx.map er = l) : Stw B M (Be b r m (s, l) :: Z) w :=
  h.itemSame (z := Be b r' m (s, lx)) (z' := Be b r m (s, l)) rfl fun A hA => Nd k he hA
theorem Stw.pAt (h : Stw B M Z w) {k : Nat} {i : Int} {x : α} {f : α → Value × List β} (hZ : Z[k]? = some (Be b r m p)) (hx : ix p.2 i = some x) (q : Ay r s f) {lb : List β} (hl : (f x).2 = lb) : Sl w (Fz B (AD M Z)) s (f x).1 lb := by
  subst hl
  obtain ⟨t, xs, h1, h2, h3⟩ := h.item hZ
  obtain ⟨cs, h4⟩ := h3.at_ hx
  exact q h4
theorem Stw.toP {s : Int} {cs xs : List Value} {l : List α} (h : Stw B ((b, cs) :: M) Z w) (hc : cs = .int .i64 s :: xs) (hm : l.length = m) (hr : ∀ w A, Bh r w A xs l) : Stw B M (Be b r m (s, l) :: Z) w := by
  subst hc
  have hp : (AD ((b, .int .i64 s :: xs) :: M) Z).Perm (AD M (Be b r m (s, l) :: Z)) := by
    show (b :: (M.map (·.1) ++ Z.flatMap It.bl)).Perm (M.map (·.1) ++ (b :: Z.flatMap It.bl))
    exact List.perm_middle.symm
  refine ⟨h.frm, fun g hg => h.own g (hp.mem_iff.2 hg), fun q hq => h.at_ q (List.mem_cons_of_mem _ hq), fun z hz => ?_, hp.nodup_iff.1 h.nodup, h.disj⟩
  rcases List.mem_cons.1 hz with rfl | hz
  · obtain ⟨t, ht⟩ := h.at_ _ (List.mem_cons_self ..)
    exact ⟨t, xs, ht, hm, hr _ _⟩
  · exact z.stab (h.items z hz) (fun c hA _ => ⟨hA.mono fun g hg => hp.mem_iff.2 hg, rfl⟩) fun _ _ => rfl
end
section
variable {P : Program} {B : Bs} {M : Cp} {Z Z1 : List It} {n : Nat} {ds : List Deferred} {F : List (Nat × Value)} {a : Act} {w : World}
variable {ops : Array Oper} {Q : Exit → Act → World → Prop} {rest : List Oper}
variable {dst : Option Tmp} {ty : TypeId} {pos : String} {aft : Array Edge} {g : Option (Nat × Bool)}
variable {α α' : Type} {r : Rp α} {r' : Rp α'} {er : α' → α} {b m : Nat} {p : Int × List α} {x x' : α} {i : Int}
theorem NE {B : Bs} {M : Cp} {Z : List It} (h : Stw B M Z w) {k : Nat} (hZ : Z[k]? = some (Be b r m p)) : w.cell? ⟨b, 0, none⟩ = some (.int .i64 p.1) := by
  obtain ⟨t, xs, h1, _⟩ := h.item hZ
  rw [cell_of_row w b 0 _ t (0, 0) h1]; rfl
theorem LY {q : Operand} {t : TypeId} (k : Nat) (hF : Fr n ds F a) (hx : B9 F q = some (.pointer (some ⟨b, 0, none⟩))) (hZ : Z[k]? = some (Be b r m p)) (T : Ty P t false 1) :
    Yx P B M Z a ⟨dst, .load t q, ty, pos, aft, g⟩ (.int .i64 p.1) :=
  BO fun w hw => by
    have h := NE hw hZ
    have key : (loadVar t ⟨b, 0, none⟩).run P w = .ok (.int .i64 p.1) w := by
      unfold loadVar
      simp [T.isAgg, h]
    simp [execOp, hF.eval hx, Instr.loadAt, Instr.sureAddr, key]
theorem Nj {t e : TypeId} {s q : Operand} {m b off sz : Nat} {lo : Int} (E : Ar P t m e sz) (hF : Fr n ds F a) (hx : B9 F s = some (.pointer (some ⟨b, off, none⟩))) (hl : B9 F q = some (.int .i64 lo)) (h0 : 0 ≤ lo) (h1 : lo ≤ (m : Int)) :
    Yx P B M Z a ⟨dst, .slice t s (some q) none none, ty, pos, aft, g⟩ (B6 (.slice (some ⟨b, off, none⟩) m m) lo m sz) :=
  BO fun w hw => by
    have hsz := E.sizeOf (P := P) w
    have hb : ∀ (y : Nat) (code : BoundsCode) (q : Int), 0 ≤ q → q ≤ y → (Instr.sliceBound (.int .i64 q) y code).run P w = .ok q.toNat w := fun y code q h0 h4 => by
      simp [Instr.sliceBound, asIntOf, h0, h4]
    have k2 : ∀ code, (Instr.sliceBound (.int .i64 lo) m code).run P w = .ok lo.toNat w := fun code => hb m code lo h0 h1
    have hle := hF.eval hl
    simp [execOp, Instr.sliceAt, Instr.slice, Instr.sliceBounds, Go.underlying, E.desc, hF.eval hx, hle, hsz, k2, B6, Instr.sureAddr, Addr.add]
    split <;> rfl
theorem LT {t e : TypeId} {s q : Operand} {m b off sz : Nat} {hi : Int} (E : Ar P t m e sz) (hF : Fr n ds F a) (hx : B9 F s = some (.pointer (some ⟨b, off, none⟩))) (hl : B9 F q = some (.int .i64 hi)) (h0 : 0 ≤ hi) (h1 : hi ≤ (m : Int)) :
    Yx P B M Z a ⟨dst, .slice t s none (some q) none, ty, pos, aft, g⟩ (B6 (.slice (some ⟨b, off, none⟩) m m) 0 hi sz) :=
  BO fun w hw => by
    have hsz := E.sizeOf (P := P) w
    have hb : ∀ (y : Nat) (code : BoundsCode) (q : Int), 0 ≤ q → q ≤ y → (Instr.sliceBound (.int .i64 q) y code).run P w = .ok q.toNat w := fun y code q h0 h4 => by
      simp [Instr.sliceBound, asIntOf, h0, h4]
    have k2 : ∀ code, (Instr.sliceBound (.int .i64 hi) m code).run P w = .ok hi.toNat w := fun code => hb m code hi h0 h1
    have hle := hF.eval hl
    simp [execOp, Instr.sliceAt, Instr.slice, Instr.sliceBounds, Go.underlying, E.desc, hF.eval hx, hle, hsz, k2, B6, Instr.sureAddr, Addr.add]
theorem LA {w : World} {A : Nat → Prop} {enc : α → List Value} (hf : DT r enc) : ∀ {l : List α} {xs : List Value}, Bh r w A xs l → xs = FS enc l
  | [], xs, h => by rw [show xs = [] from h]; rfl
  | x :: l, xs, ⟨cs, ys, he, h1, h2⟩ => by subst he; rw [hf h1, LA hf h2]; rfl
theorem Mb {enc : α → List Value} {q : Operand} {t : TypeId} {sz : Nat} (k : Nat) (hF : Fr n ds F a) (hx : B9 F q = some (.pointer (some ⟨b, 1, none⟩))) (hZ : Z[k]? = some (Be b r m p)) (hf : DT r enc) (T : Ty P t true sz) (hs : m * r.sz = sz) :
    Yx P B M Z a ⟨dst, .load t q, ty, pos, aft, g⟩ (.agg (FS enc p.2).toArray) :=
  BO fun w hw => by
    obtain ⟨t', xs, h1, h2, h3⟩ := hw.item hZ
    have hl := h3.len
    have e := LA hf h3
    subst e
    have hc : ∀ j, j < (Value.int .i64 p.1 :: FS enc p.2).length → w.cell? ⟨b, j, none⟩ = (Value.int .i64 p.1 :: FS enc p.2)[j]? := fun j _ => by
      rw [cell_of_row w b j _ t' (0, 0) h1]; simp
    have key := EW (P := P) (w := w) (b := b) (off := 1) (v := .agg (FS enc p.2).toArray) T hc (by
      unfold IL
      rw [if_pos rfl, if_pos (by rw [List.length_cons, hl, h2]; omega)]
      show some (Value.agg (List.take sz (FS enc p.2)).toArray) = _
      rw [List.take_of_length_le (by rw [hl, h2]; omega)])
    simp [execOp, hF.eval hx, Instr.loadAt, Instr.sureAddr, key]
theorem Kr {enc : α → List Value} {sz : Nat} (he : ∀ x, (enc x).length = sz) : ∀ {l : List α} {k : Nat} {x : α}, l[k]? = some x → ((FS enc l).drop (k * sz)).take sz = enc x
  | [], k, x, h => by simp at h
  | y :: l, 0, x, h => by
    simp at h; subst h
    show List.take sz (List.drop (0 * sz) (enc y ++ FS enc l)) = _
    rw [Nat.zero_mul, List.drop_zero, List.take_append_of_le_length (by rw [he]; exact Nat.le_refl _), List.take_of_length_le (by rw [he]; exact Nat.le_refl _)]
  | y :: l, k + 1, x, h => by
    have ih := Kr he (l := l) (k := k) (x := x) (by simpa using h)
    show List.take sz (List.drop ((k + 1) * sz) (enc y ++ FS enc l)) = _
    rw [List.drop_append, he, List.drop_eq_nil_of_le (by rw [he, Nat.add_mul]; omega), List.nil_append, show (k + 1) * sz - sz = k * sz by rw [Nat.add_mul]; omega]
    exact ih
theorem Mh {enc : α → List Value} {l : List α} {s iop : Operand} {t e sz : Nat} {k : IntKind} {y : Value} (E : Ar P t m e sz) (T : Ty P e true sz) (hF : Fr n ds F a) (hx : B9 F s = some (.agg (FS enc l).toArray)) (hi : B9 F iop = some (.int k i)) (hln : l.length = m) (he : ∀ x, (enc x).length = sz) (hik : ix l i = some x) (hy : .agg (enc x).toArray = y) :
    Yx P B M Z a ⟨dst, .index t s iop, ty, pos, aft, g⟩ y :=
  BO fun w hw => by
    subst hy
    obtain ⟨h0, hk, hxx⟩ := E7 hik
    have hsz := E.sizeOf (P := P) w
    have h1 : i < (m : Int) := by omega
    have h2 := Kr he hxx
    have h3 : ((FS enc l).toArray.extract (i.toNat * sz) (i.toNat * sz + sz)) = (enc x).toArray := by
      apply Array.ext'
      simp only [Array.toList_extract, List.extract_eq_take_drop, Nat.add_sub_cancel_left]
      exact h2
    simp [execOp, Instr.index, hF.eval hx, hF.eval hi, asIntOf, Go.underlying, E.desc, h0, h1, hsz, part, T.isAgg, T.sizeOf, h3]
    exact h2
theorem NS {xs cs vs : List Value} {a j sz : Nat} (hcs : (xs.drop a).take sz = cs) (hcl : cs.length = sz) (hle : j + vs.length ≤ sz) :
    xs.take (a + j) ++ vs ++ xs.drop (a + j + vs.length) = xs.take a ++ E3 cs j vs ++ xs.drop (a + sz) := by
  rw [JF vs cs j (by omega)]
  have g1 : xs.take (a + j) = xs.take a ++ cs.take j := by
    rw [List.take_add, ← hcs, List.take_take, Nat.min_eq_left (by omega)]
  have g2 : xs.drop (a + j + vs.length) = cs.drop (j + vs.length) ++ xs.drop (a + sz) := by
    have hd : xs.drop a = cs ++ xs.drop (a + sz) := by rw [← hcs, ← List.drop_drop, List.take_append_drop]
    rw [Nat.add_assoc, ← List.drop_drop, hd, List.drop_append_of_le_length (by omega)]
  rw [g1, g2]; simp only [List.append_assoc]
theorem OB {w : World} {A : Nat → Prop} {l : List α} {xs : List Value} {k : Nat} {x : α} (h : Bh r w A xs l) (hx : l[k]? = some x) : ∃ cs, r.rep w A cs x ∧ (xs.drop (k * r.sz)).take r.sz = cs ∧ cs.length = r.sz := by
  obtain ⟨cs, h1, h2⟩ := h.get hx
  have hcl := r.len h1
  refine ⟨cs, h1, ?_, hcl⟩
  refine List.ext_getElem? fun q => ?_
  by_cases hq : q < r.sz
  · rw [List.getElem?_take_of_lt hq, List.getElem?_drop]
    have hq' : q < cs.length := by omega
    rw [List.getElem?_eq_getElem hq']
    exact h2 q cs[q] (List.getElem?_eq_getElem hq')
  · rw [List.getElem?_eq_none (by rw [List.length_take]; omega), List.getElem?_eq_none (by omega)]
theorem Mm {A : Nat → Prop} {j : Nat} {vs : List Value} (h : (Be b r m p).ok w A) (hik : ix p.2 i = some x) (hle : j + vs.length ≤ r.sz) (h1 : vs.all (·.oneCell') = true) (hA : ∀ c, A c → c ≠ b)
    (hrep : ∀ cs, r.rep w A cs x → r.rep w A (E3 cs j vs) x') :
    ∃ w', (storeCells ⟨b, 1 + i.toNat * r.sz + j, none⟩ vs).run P w = .ok () w' ∧ Turns [b] w w' ∧ ∀ A', D5 w w' A A' → (Be b r m (p.1, C9 p.2 i x')).ok w' A' := by
  obtain ⟨h0, hk, hx⟩ := E7 hik
  obtain ⟨t, xs, hb, h2, h3⟩ := h
  obtain ⟨cs, hc1, hc2, hc3⟩ := OB h3 hx
  have hin : i.toNat * r.sz + r.sz ≤ p.2.length * r.sz := by rw [← Nat.succ_mul]; exact Nat.mul_le_mul_right _ hk
  have hxl := h3.len
  have hst := run_storeCells_at P b (1 + i.toNat * r.sz + j) t vs 0 _ w hb (by simp only [List.size_toArray, List.length_cons]; omega) (fun v hv => List.all_eq_true.1 h1 v hv)
  simp only [Nat.add_zero] at hst
  have hcells : (List.take (1 + i.toNat * r.sz + j) (Value.int .i64 p.1 :: xs) ++ vs ++ List.drop (1 + i.toNat * r.sz + j + vs.length) (Value.int .i64 p.1 :: xs)) = Value.int .i64 p.1 :: (xs.take (i.toNat * r.sz) ++ E3 cs j vs ++ xs.drop (i.toNat * r.sz + r.sz)) := by
    rw [← NS hc2 hc3 hle, show 1 + i.toNat * r.sz + j + vs.length = (i.toNat * r.sz + j + vs.length) + 1 by omega, show 1 + i.toNat * r.sz + j = (i.toNat * r.sz + j) + 1 by omega, List.take_succ_cons, List.drop_succ_cons]
    simp only [List.cons_append, List.append_assoc]
  refine ⟨_, hst, ⟨rfl, rfl, rfl, by simp [World.setRow], fun k _ hk => setRow_other w b k _ (fun e => hk (List.mem_singleton.2 e))⟩, fun A' hkp => ?_⟩
  refine ⟨t, _, (setRow_heap w b _ _ t _ hb).trans (by rw [hcells]), by simpa [C9] using h2, ?_⟩
  exact (h3.stab hkp).set hk (r.stab (hrep cs hc1) hkp)
theorem Mi {t : TypeId} {s q : Operand} {agg : Bool} {sz off j k : Nat} {vs : List Value} {y : Value} (hF : Fr n ds F a) (hW : Stw B M Z w) (hx : B9 F s = some (.pointer (some ⟨b, off, none⟩))) (hy : B9 F q = some y)
    (ho : off = 1 + i.toNat * r.sz + j) (hZ : Z[k]? = some (Be b r m p)) (hZ1 : Z.eraseIdx k = Z1) (hik : ix p.2 i = some x) (T : Ty P t agg sz) (hv : y.cells.toList = vs) (hsz : vs.length = sz) (hle : Nat.ble (j + vs.length) r.sz = true) (h1 : vs.all (·.oneCell') = true)
    (hrep : ∀ A cs, (∀ b, Fz B (AD M Z) b → A b) → r.rep w A cs x → r.rep w A (E3 cs j vs) x')
    (kk : ∀ w', Stw B M (Be b r m (p.1, C9 p.2 i x') :: Z1) w' → wpList P ops Q rest a w') : wpList P ops Q (⟨none, .store t s q, ty, pos, aft, none⟩ :: rest) a w := by
  subst ho
  have hW1 := hW.permZ (CF hZ hZ1)
  have hbl : ∀ c, Fz B (AD M Z) c → Fz B (AD M (Be b r m p :: Z1)) c := fun c hb => hb.mono fun g hg => (List.Perm.append_left _ ((CF hZ hZ1).flatMap_right _)).mem_iff.2 hg
  obtain ⟨w', hr, hgr, hown⟩ := Mm (P := P) (w := w) (hW1.items _ (List.mem_cons_self ..)) hik (Nat.le_of_ble_eq_true hle) h1 (fun c hc he => hc.2 (Cc (z := Be b r m p) (List.mem_cons_self ..) (List.mem_singleton.2 he))) (fun cs => hrep _ cs hbl)
  unfold wpList
  rw [if_pos (BT rfl)]
  refine .inl ?_
  unfold Oper.wp
  have hs : y.cells.size = sz := by rw [← hsz, ← hv]; simp
  have hrun : (execOp a.eval ⟨none, .store t s q, ty, pos, aft, none⟩).run P w = .ok .skip w' := by
    subst hv
    simp [execOp, hF.eval hx, hF.eval hy, Instr.storeAt, Instr.sureAddr, storeVar, T.sizeOf, hs, hr]
  rw [hrun]
  exact kk w' (hW1.itemTurn hgr (fun A _ hk => hown A hk) (fun g hg => .inl hg))
theorem IC {t : TypeId} {s q : Operand} {agg : Bool} {sz k : Nat} {vs : List Value} {y : Value} (p' : Int × List α) (hF : Fr n ds F a) (hW : Stw B M Z w) (hx : B9 F s = some (.pointer (some ⟨b, 0, none⟩))) (hy : B9 F q = some y)
    (hZ : Z[k]? = some (Be b r m p)) (hZ1 : Z.eraseIdx k = Z1) (T : Ty P t agg sz) (hv : y.cells.toList = vs) (hsz : vs.length = sz) (hle : Nat.ble vs.length (1 + m * r.sz) = true) (h1 : vs.all (·.oneCell') = true) (hm : p.2.length = m → p'.2.length = m)
    (hrep : ∀ w A xs, Bh r w A xs p.2 → p.2.length = m → ∃ ys, vs ++ (Value.int .i64 p.1 :: xs).drop vs.length = .int .i64 p'.1 :: ys ∧ Bh r w A ys p'.2)
    (kk : ∀ w', Stw B M (Be b r m p' :: Z1) w' → wpList P ops Q rest a w') : wpList P ops Q (⟨none, .store t s q, ty, pos, aft, none⟩ :: rest) a w := by
  have hW1 := hW.permZ (CF hZ hZ1)
  obtain ⟨t', xs, hb, h2, h3⟩ := hW1.items (Be b r m p) (List.mem_cons_self ..)
  have hxl := h3.len
  have hst := run_storeCells_at P b 0 t' vs 0 _ w hb (by have := Nat.le_of_ble_eq_true hle; simp only [List.size_toArray, List.length_cons, hxl, h2]; omega) (fun v hv => List.all_eq_true.1 h1 v hv)
  simp only [Nat.add_zero, Nat.zero_add, List.take_zero, List.nil_append] at hst
  unfold wpList
  rw [if_pos (BT rfl)]
  refine .inl ?_
  unfold Oper.wp
  have hs : y.cells.size = sz := by rw [← hsz, ← hv]; simp
  have hrun : (execOp a.eval ⟨none, .store t s q, ty, pos, aft, none⟩).run P w = .ok .skip (w.setRow b (vs ++ (Value.int .i64 p.1 :: xs).drop vs.length).toArray) := by
    subst hv
    simp [execOp, hF.eval hx, hF.eval hy, Instr.storeAt, Instr.sureAddr, storeVar, T.sizeOf, hs, hst]
  rw [hrun]
  refine kk _ (hW1.itemTurn (z' := Be b r m p') ⟨rfl, rfl, rfl, by simp [World.setRow], fun k _ hk => setRow_other w b k _ (fun e => hk (List.mem_singleton.2 e))⟩ (fun A hok hk => ?_) (fun g hg => .inl hg))
  obtain ⟨ys, e1, e2⟩ := hrep _ _ xs (h3.stab hk) h2
  refine ⟨t', ys, (setRow_heap w b _ _ t' _ hb).trans (by rw [← e1]), hm h2, e2⟩
theorem KG {t : TypeId} {s q : Operand} {k : Nat} {x : Int} (hF : Fr n ds F a) (hW : Stw B M Z w) (hx : B9 F s = some (.pointer (some ⟨b, 0, none⟩))) (hy : B9 F q = some (.int .i64 x))
    (hZ : Z[k]? = some (Be b r m p)) (hZ1 : Z.eraseIdx k = Z1) (T : Ty P t false 1)
    (kk : ∀ w', Stw B M (Be b r m (x, p.2) :: Z1) w' → wpList P ops Q rest a w') : wpList P ops Q (⟨none, .store t s q, ty, pos, aft, none⟩ :: rest) a w :=
  IC (vs := [.int .i64 x]) (x, p.2) hF hW hx hy hZ hZ1 T rfl rfl (Nat.ble_eq_true_of_le (by simp)) rfl (fun h => h) (fun w A xs h _ => ⟨xs, rfl, h⟩) kk
theorem KO {t : TypeId} {s q : Operand} {sz k : Nat} {x : Int} {xs : List Value} {l : List α} {y : Value} (hF : Fr n ds F a) (hW : Stw B M Z w) (hx : B9 F s = some (.pointer (some ⟨b, 0, none⟩))) (hy : B9 F q = some y)
    (hZ : Z[k]? = some (Be b r m p)) (hZ1 : Z.eraseIdx k = Z1) (T : Ty P t true sz) (hv : y.cells.toList = .int .i64 x :: xs) (hsz : xs.length + 1 = sz) (hm : l.length = m) (hs : 1 + m * r.sz = sz) (hr : ∀ w A, Bh r w A xs l)
    (kk : ∀ w', Stw B M (Be b r m (x, l) :: Z1) w' → wpList P ops Q rest a w') : wpList P ops Q (⟨none, .store t s q, ty, pos, aft, none⟩ :: rest) a w := by
  refine IC (vs := .int .i64 x :: xs) (x, l) hF hW hx hy hZ hZ1 T hv hsz (Nat.ble_eq_true_of_le (by simp; omega)) (by simp [(hr w any).one]; rfl) (fun _ => hm) (fun w A ys h h2 => ⟨xs, ?_, hr w A⟩) kk
  have := h.len
  rw [List.drop_eq_nil_of_le (by simp [this, h2]; omega), List.append_nil]
end
section
variable {α β : Type}
def F1 (m : Nat) (l : List α) (lo hi : Int) : Option (List α) := if l.length = m then DP l lo hi else none
theorem DI {m : Nat} {l l2 : List α} {lo hi : Int} (h : F1 m l lo hi = some l2) : l.length = m ∧ DP l lo hi = some l2 := by
  unfold F1 at h
  split at h
  · rename_i e; exact ⟨e, h⟩
  · cases h
theorem J5 {m : Nat} {l l2 : List α} {lo : Int} (h : F1 m l lo (m : Int) = some l2) : 0 ≤ lo ∧ lo ≤ (m : Int) := by
  obtain ⟨h1, h2, h3, _⟩ := Da (DI h).2
  omega
theorem Kn {m : Nat} {l l2 : List α} {hi : Int} (h : F1 m l 0 hi = some l2) : 0 ≤ hi ∧ hi ≤ (m : Int) := by
  obtain ⟨h1, h2, h3, _⟩ := Da (DI h).2
  have := (DI h).1
  omega
theorem Pg {er : α → β} {lx : List α} {l : List β} {m : Nat} (he : lx.map er = l) (h : l.length = m) : lx.length = m := by rw [← h, ← he, List.length_map]
end
section
variable {α : Type} {r : Rp α} {b m : Nat} {p : Int × List α} {B : Bs} {M : Cp} {Z : List It} {w : World}
theorem Bh.one_at {w : World} {A : Nat → Prop} {enc : α → List Value} (hf : DT r enc) {l : List α} {xs : List Value} (h : Bh r w A xs l) {i : Int} {x : α} (hx : ix l i = some x) : (enc x).all (·.oneCell') = true := by
  obtain ⟨h0, hk, hx⟩ := E7 hx
  obtain ⟨cs, h1, _⟩ := h.get hx
  rw [← hf h1]; exact r.one h1
theorem Ob {enc : α → List Value} (h : Stw B M Z w) {k : Nat} (hZ : Z[k]? = some (Be b r m p)) (hf : DT r enc) : ∀ (i : Int) (x : α), ix p.2 i = some x → (enc x).all (·.oneCell') = true := fun i x hx => by
  obtain ⟨t, xs, h1, h2, h3⟩ := h.item hZ
  exact h3.one_at hf hx
theorem Na {cs : List Value} {v : Value} {q : Nat} (h : cs.all (·.oneCell') = true) (hq : cs[q]? = some v) : v.oneCell' = true := List.all_eq_true.1 h v (List.mem_of_getElem? hq)
end
theorem Of {α : Type} {l l2 : List α} {lo hi i : Int} {x : α} (hs : DP l lo hi = some l2) (h : ix l2 i = some x) : ix l (lo + i) = some x := by
  obtain ⟨h1, h2, h3, rfl⟩ := Da hs
  obtain ⟨h0, hk, hx⟩ := E7 h
  unfold ix
  rw [if_pos (by omega)]
  rw [List.getElem?_drop, List.getElem?_take] at hx
  split at hx
  · rw [show (lo + i).toNat = lo.toNat + i.toNat by omega]; exact hx
  · cases hx
theorem Pz {α : Type} {r : Rp α} {b m : Nat} {p : Int × List α} {B : Bs} {M : Cp} {Z : List It} (h : Be b r m p ∈ Z) : JQ B M Z r (PL b m) p.2 := by
  obtain ⟨k, hk⟩ := List.mem_iff_getElem?.1 h
  exact Iv k hk
end Go.Proofs.Ytfnmlmglmegamaa
