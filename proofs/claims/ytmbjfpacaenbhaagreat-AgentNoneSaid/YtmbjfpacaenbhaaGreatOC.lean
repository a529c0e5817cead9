/- Rows: elements put over others (append in place, clear, copy), slices with a capacity. Conditions: none. -/
import Derived.Test.YtmbjfpacaenbhaaGreatOE
namespace Go.Proofs.YtmbjfpacaenbhaaGreat
set_option linter.unusedVariables false
set_option linter.unusedSimpArgs false
open Go Go.RowKit

/-- l2 in the place of what stands from p on. -/
def spl {α : Type} (l : List α) (p : Int) (l2 : List α) : Option (List α) := if 0 ≤ p ∧ p + l2.length ≤ l.length then some (l.take p.toNat ++ l2 ++ l.drop (p.toNat + l2.length)) else none
theorem spl_some {α : Type} {l l2 l3 : List α} {p : Int} (h : spl l p l2 = some l3) : 0 ≤ p ∧ p + l2.length ≤ l.length ∧ l3 = l.take p.toNat ++ l2 ++ l.drop (p.toNat + l2.length) := by
  unfold spl at h
  split at h
  · rename_i hc; cases h; exact ⟨hc.1, hc.2, rfl⟩
  · cases h
theorem spl_len {α : Type} {l l2 l3 : List α} {p : Int} (h : spl l p l2 = some l3) : l3.length = l.length := by
  obtain ⟨h1, h2, rfl⟩ := spl_some h
  simp; omega
theorem sub0_len {α : Type} {l x : List α} {m : Int} (h : subl l 0 m = some x) : (x.length : Int) = m := by
  obtain ⟨h3, h4, h5, rfl⟩ := subl_some h
  simp; omega
/-- What stands ahead stays. -/
theorem spl_pre {α : Type} {l l2 l3 x : List α} {p m : Int} (h : spl l p l2 = some l3) (hm : m ≤ p) (hs : subl l 0 m = some x) : subl l3 0 m = some x := by
  have hl := spl_len h
  obtain ⟨h1, h2, rfl⟩ := spl_some h
  obtain ⟨h3, h4, h5, rfl⟩ := subl_some hs
  unfold subl
  rw [if_pos ⟨h3, h4, by rw [hl]; exact h5⟩]
  congr 2
  rw [List.append_assoc, List.take_append_of_le_length (by rw [List.length_take]; omega), List.take_take, Nat.min_eq_left (by omega)]

section
variable {P : Program} {B : Bs} {M M' : Blks} {Z Z' Z1 : List It} {n : Nat} {ds : List Deferred} {F F' : List (Nat × Value)} {a : Act} {w w' : World}
variable {ops : Array Oper} {Q : Exit → Act → World → Prop} {rest : List Oper} {o : Oper}
variable {dst : Option Tmp} {ty : TypeId} {pos : String} {aft : Array Edge} {g : Option (Nat × Bool)}
variable {α : Type} {r : Rp α} {l l1 l2 l3 : List α} {v u : Value} {x : α} {i : Int} {t e by_ : Nat}

theorem RepL.splice {A : Nat → Prop} {xs ys : List Value} {p : Nat} (h : RepL r w A xs l) (h2 : RepL r w A ys l2) (hp : p + l2.length ≤ l.length) : RepL r w A (xs.take (p * r.sz) ++ ys ++ xs.drop (p * r.sz + ys.length)) (l.take p ++ l2 ++ l.drop (p + l2.length)) := by
  have e : p * r.sz + ys.length = (p + l2.length) * r.sz := by rw [h2.len, Nat.add_mul]
  rw [e]
  exact ((h.take p).append h2).append (h.drop (p + l2.length))
theorem Own.storeR {A : Nat → Prop} {p : Nat} {ys : List Value} (h : Own w A e r v l) (hp : p + l2.length ≤ l.length) (h0 : 0 < l2.length) (hys : RepL r w A ys l2) (hA : ∀ b, A b → ownB v ≠ some b) :
    ∃ w', (storeCells ⟨vblk v, voff v + p * r.sz, none⟩ ys).run P w = .ok () w' ∧ w.grownBy w' (ownB v) ∧ ∀ A', Keeps w w' A A' → Own w' A' e r v (l.take p ++ l2 ++ l.drop (p + l2.length)) := by
  rcases h with ⟨ad, rfl, rfl⟩ | ⟨b, off, cap, cur, xs, rfl, hcp, hb, hc, hcm, hcs, ht, hr⟩
  · simp only [List.length_nil] at hp; omega
  · have hyl := hys.len
    have hxl := hr.len
    have hcap : l.length * r.sz ≤ cap * r.sz := Nat.mul_le_mul_right _ hc
    have hin : p * r.sz + ys.length ≤ l.length * r.sz := by rw [hyl, ← Nat.add_mul]; exact Nat.mul_le_mul_right _ hp
    have hst := run_storeCells_at P b (off + p * r.sz) e ys 0 cur w hb (by omega) (fun v hv => List.all_eq_true.1 hys.one v hv)
    simp only [Nat.add_zero] at hst
    refine ⟨_, hst, ⟨rfl, rfl, rfl, by simp [World.setRow], fun k _ hk => setRow_other w b k _ (fun e => hk (by rw [ownB_pos hcp, e]))⟩, fun A' hkp => ?_⟩
    have hset := (hr.stab hkp).splice (hys.stab hkp) hp
    have e1 : (l.take p ++ l2 ++ l.drop (p + l2.length)).length = l.length := by simp; omega
    refine .inr ⟨b, off, cap, _, _, by rw [e1], hcp, setRow_heap w b cur _ e _ hb, by rw [e1]; exact hc, hcm, ?_, rfl, ?_⟩
    · simp only [List.size_toArray, List.length_append, List.length_take, List.length_drop, Array.length_toList]
      omega
    · have hcur : cur.toList = cur.toList.take off ++ (xs ++ (cur.toList.drop off).drop (l.length * r.sz)) := by
        rw [← ht, List.take_append_drop, List.take_append_drop]
      have hol : (cur.toList.take off).length = off := by rw [List.length_take, Array.length_toList]; omega
      have f1 : (cur.toList.take (off + p * r.sz)) = cur.toList.take off ++ xs.take (p * r.sz) := by
        conv => lhs; rw [hcur]
        rw [List.take_append, hol, List.take_of_length_le (by omega), List.take_append_of_le_length (by omega)]
        congr 2; omega
      have f2 : (cur.toList.drop (off + p * r.sz + ys.length)) = xs.drop (p * r.sz + ys.length) ++ (cur.toList.drop off).drop (l.length * r.sz) := by
        conv => lhs; rw [hcur]
        rw [List.drop_append, hol, List.drop_eq_nil_of_le (by omega), List.nil_append, List.drop_append_of_le_length (by omega)]
        congr 2; omega
      have key : ((cur.toList.take (off + p * r.sz) ++ ys ++ cur.toList.drop (off + p * r.sz + ys.length)).drop off).take (l.length * r.sz) = xs.take (p * r.sz) ++ ys ++ xs.drop (p * r.sz + ys.length) := by
        rw [f1, f2, List.append_assoc, List.append_assoc, List.drop_left' hol]
        have hlen : (xs.take (p * r.sz) ++ (ys ++ xs.drop (p * r.sz + ys.length))).length = l.length * r.sz := by
          simp only [List.length_append, List.length_take, List.length_drop]
          omega
        have h9 := List.take_left (l₁ := xs.take (p * r.sz) ++ (ys ++ xs.drop (p * r.sz + ys.length))) (l₂ := (cur.toList.drop off).drop (l.length * r.sz))
        rw [hlen] at h9
        simp only [List.append_assoc] at h9 ⊢
        exact h9
      rw [e1]
      show RepL r _ A' (((cur.toList.take (off + p * r.sz) ++ ys ++ cur.toList.drop (off + p * r.sz + ys.length)).drop off).take (l.length * r.sz)) _
      rw [key]; exact hset
theorem slSub_of {b off cap m : Nat} (lo hi : Int) (sz : Nat) : slSub (.slice (some ⟨b, off, none⟩) m cap) lo hi sz = .slice (some ⟨b, if cap = lo.toNat then off else off + lo.toNat * sz, none⟩) (hi.toNat - lo.toNat) (cap - lo.toNat) := by
  simp only [slSub, Option.map_some]
  split
  · rfl
  · rw [addr_add]

/-- append where there is room for sure. -/
theorem run_append_in {A : Nat → Prop} {i : Int} (E : Et P t e r.sz by_) (hown : Own w A e r v l) (hs1 : subl l 0 i = some l1) (hsrc : Src w A r u l2) (hsp : spl l (l1.length : Int) l2 = some l3) (hA : ∀ b, A b → ownB v ≠ some b) :
    ∃ w', (Builtin.append_ #[t, t] ty #[slSub v 0 i r.sz, u]).run P w = .ok (slSub v 0 ((l1.length : Int) + (l2.length : Int)) r.sz) w' ∧ w.grownBy w' (ownB v) ∧ ∀ A', Keeps w w' A A' → Own w' A' e r v l3 := by
  obtain ⟨inf, z, hi, hz, his, hib, hzs⟩ := E.info
  obtain ⟨h1, h2, rfl⟩ := spl_some hsp
  obtain ⟨h3, h4, h5, e1⟩ := subl_some hs1
  have hl1 : l1.length = i.toNat := by rw [e1]; simp; omega
  have hsame : w.grownBy w (ownB v) := ⟨rfl, rfl, rfl, Nat.le_refl _, fun _ _ _ => rfl⟩
  have hv : (∃ ad, v = .slice ad 0 0 ∧ l = []) ∨ ∃ b off cap, v = .slice (some ⟨b, off, none⟩) l.length cap ∧ 0 < cap ∧ l.length ≤ cap := by
    rcases hown with h | ⟨b, off, cap, cur, xs, hv, hcp, hb, hc, _⟩
    · exact .inl h
    · exact .inr ⟨b, off, cap, hv, hcp, hc⟩
  rcases hv with ⟨ad, rfl, rfl⟩ | ⟨b, off, cap, hv, hcp, hcl⟩
  · have e2 : l2 = [] := List.eq_nil_of_length_eq_zero (by simp at h2; omega)
    have e3 : l1 = [] := by rw [e1]; simp
    subst e2 e3
    have hi0 : i.toNat = 0 := by simpa using hl1.symm
    refine ⟨w, ?_, hsame, fun A' _ => .inl ⟨ad, rfl, by simp⟩⟩
    have hsl : ∀ q : Int, q.toNat = 0 → slSub (.slice ad 0 0) 0 q r.sz = .slice ad 0 0 := fun q hq => by simp [slSub, hq]
    rw [hsl i hi0, hsl _ (by simp)]
    rcases hsrc with ⟨ad2, c2, rfl, _⟩ | ⟨b, o2, c2, news, rfl, _⟩
    · cases ad <;> cases ad2 <;> simp [Builtin.append_, run_underlying E.desc, sizeOf, typeInfo, hi, Builtin.lenOf, Builtin.firstCells, loadCells, loadCellsFrom, storeCells]
    · cases ad <;> simp [Builtin.append_, run_underlying E.desc, sizeOf, typeInfo, hi, Builtin.lenOf, Builtin.firstCells, loadCells, loadCellsFrom, storeCells]
  · have hsl : ∀ q : Int, slSub v 0 q r.sz = .slice (some ⟨b, off, none⟩) q.toNat cap := fun q => by rw [hv, slSub_of]; simp
    rw [hsl i, hsl, show ((l1.length : Int) + (l2.length : Int)).toNat = l1.length + l2.length by omega, ← hl1]
    have hroom : l1.length + l2.length ≤ cap := by omega
    by_cases h0 : l2.length = 0
    · have e2 : l2 = [] := List.eq_nil_of_length_eq_zero h0
      subst e2
      refine ⟨w, ?_, hsame, fun A' hk => ?_⟩
      · have hl1c : l1.length ≤ cap := by omega
        rcases hsrc with ⟨ad2, c2, rfl, _⟩ | ⟨b, o2, c2, news, rfl, _⟩
        · cases ad2 <;> simp [Builtin.append_, run_underlying E.desc, sizeOf, typeInfo, hi, Builtin.lenOf, Builtin.firstCells, hl1c, storeCells, loadCells, loadCellsFrom]
        · simp [Builtin.append_, run_underlying E.desc, sizeOf, typeInfo, hi, Builtin.lenOf, Builtin.firstCells, hl1c, storeCells, loadCells, loadCellsFrom]
      · simp only [List.append_nil, List.length_nil, Nat.add_zero, List.take_append_drop]
        exact hown.stab hk fun _ _ => rfl
    · rcases hsrc with ⟨ad2, c2, rfl, rfl⟩ | ⟨b2, o2, c2, news, rfl, hc2, hcell, hr2⟩
      · simp at h0
      · have hnl := hr2.len
        obtain ⟨w', hst, hg, ho⟩ := Own.storeR (P := P) (p := l1.length) hown (by omega) (by omega) hr2 hA
        refine ⟨w', ?_, hg, fun A' hk => ?_⟩
        · have hf := run_firstCells_some (P := P) w r.sz l2.length ⟨b2, o2, none⟩ l2.length c2 news hnl (fun j u hu => by rw [addr_add]; exact hcell j u hu)
          rw [hv] at hst
          simp only [vblk, voff] at hst
          simp [Builtin.append_, run_underlying E.desc, sizeOf, typeInfo, hi, his, Builtin.lenOf, hroom, hf, addr_add, hst]
        · rw [Int.toNat_natCast]; exact ho A' hk
theorem l_append_in {s q : Operand} {d k : Nat} {i : Int} (hF : Fr n ds F a) (hW : Stw B M Z w) (hn : Nat.blt d n = true) (E : Et P t e r.sz by_) (hs : opv F s = some (slSub v 0 i r.sz)) (hx : opv F q = some u)
    (hZ : Z[k]? = some (row v e r l)) (hZ1 : Z.eraseIdx k = Z1) (hs1 : subl l 0 i = some l1) (hsrc : Src w (Fz B (blks M Z)) r u l2) (hsp : spl l (l1.length : Int) l2 = some l3)
    (kk : ∀ a' w', Fr n ds ((d, slSub v 0 ((l1.length : Int) + (l2.length : Int)) r.sz) :: F) a' → Stw B M (row v e r l3 :: Z1) w' → wpList P ops Q rest a' w') :
    wpList P ops Q (⟨some d, .call ⟨.builtin .append, #[s, q], #[t, t]⟩, ty, pos, aft, none⟩ :: rest) a w := by
  have hW1 := hW.permZ (perm_get hZ hZ1)
  have hbl : ∀ b, Fz B (blks M Z) b → Fz B (blks M (row v e r l :: Z1)) b := fun b hb => hb.mono fun g hg => (List.Perm.append_left _ ((perm_get hZ hZ1).flatMap_right _)).mem_iff.2 hg
  have hsrc1 : Src w (Fz B (blks M (row v e r l :: Z1))) r u l2 := by
    rcases hsrc with h | ⟨b, o2, c2, news, h1, h2, h3, h4⟩
    · exact .inl h
    · exact .inr ⟨b, o2, c2, news, h1, h2, h3, h4.stab fun b hb _ => ⟨hbl b hb, rfl⟩⟩
  obtain ⟨w', hr, hgr, hown⟩ := run_append_in (P := P) (w := w) (ty := ty) E (hW1.items _ (List.mem_cons_self ..) : Own w _ e r v l) hs1 hsrc1 hsp (fun b hb he => hb.2 (mem_blks_Z (z := row v e r l) (List.mem_cons_self ..) (mem_ownE.2 he)))
  refine ls_wp hF hn (v := slSub v 0 ((l1.length : Int) + (l2.length : Int)) r.sz) (w' := w') ?_ (fun a' h => kk a' w' h ?_)
  · simp [execOp, resolve_builtin, invoke, builtin, hF.eval hs, hF.eval hx, hr]
  · exact hW1.rowTurn hgr (fun A _ hk => hown A hk) (fun g hg => .inl hg)

/-- A part of a part, beyond the part's end. -/
theorem y_slice_ext {s p q : Operand} {m lo hi : Int} (E : Et P t e r.sz by_) (hF : Fr n ds F a) (hx : opv F s = some (slSub v 0 m r.sz)) (hl : opv F p = some (.int .i64 lo)) (hh : opv F q = some (.int .i64 hi)) (hR : Rdc B M Z r v l) (hs : subl l lo hi = some l2) :
    Yx P B M Z a ⟨dst, .slice t s (some p) (some q) none, ty, pos, aft, g⟩ (slSub v lo hi r.sz) :=
  yl_of fun w hw => by
    obtain ⟨h1, h2, h3, _⟩ := subl_some hs
    have hsz := E.sizeOf (P := P) w
    have hxe := hF.eval hx
    have hle := hF.eval hl
    have hhe := hF.eval hh
    rcases hR w hw with ⟨ad, cap, rfl, rfl⟩ | ⟨b, off, cap, xs, rfl, hc, _⟩
    · have : lo = 0 ∧ hi = 0 := by simp at h3; omega
      obtain ⟨rfl, rfl⟩ := this
      cases ad with
      | none =>
        simp [slSub] at hxe
        simp [execOp, Instr.sliceAt, Instr.slice, Instr.sliceBounds, Instr.sliceBound, asIntOf, Go.underlying, E.desc, hxe, hsz, slSub, hle, hhe]
      | some ad =>
        simp only [slSub] at hxe
        by_cases c0 : cap = 0
        · subst c0
          simp at hxe
          simp [execOp, Instr.sliceAt, Instr.slice, Instr.sliceBounds, Instr.sliceBound, asIntOf, Go.underlying, E.desc, hxe, hsz, slSub, hle, hhe]
        · have c1 : ¬ 0 = cap := fun h => c0 h.symm
          have hadd : ∀ z : Addr, (z.add 0).add 0 = z.add 0 := fun z => by unfold Addr.add; split <;> simp_all
          simp [c0, c1] at hxe
          simp [execOp, Instr.sliceAt, Instr.slice, Instr.sliceBounds, Instr.sliceBound, asIntOf, Go.underlying, E.desc, hxe, hsz, slSub, hle, hhe, c0, c1, hadd]
    · have hb : ∀ (y : Nat) (code : BoundsCode) (q : Int), 0 ≤ q → q ≤ y → (Instr.sliceBound (.int .i64 q) y code).run P w = .ok q.toNat w := fun y code q h0 h4 => by
        simp [Instr.sliceBound, asIntOf, h0, h4]
      rw [slSub_of] at hxe
      have hxe' : a.eval s = .slice (some ⟨b, off, none⟩) m.toNat cap := by rw [hxe]; simp
      have k1 : ∀ code, (Instr.sliceBound (.int .i64 hi) cap code).run P w = .ok hi.toNat w := fun code => hb cap code hi (by omega) (by omega)
      have k2 : ∀ code, (Instr.sliceBound (.int .i64 lo) hi.toNat code).run P w = .ok lo.toNat w := fun code => hb _ code lo h1 (by omega)
      simp [execOp, Instr.sliceAt, Instr.slice, Instr.sliceBounds, Go.underlying, E.desc, hxe', hle, hhe, hsz, slSub, k1, k2]
/-- v[lo:hi:len(v)] -/
def slSub3 (v : Value) (lo hi mx : Int) (sz : Nat) : Value := match v with | .slice a _ _ => .slice (if mx.toNat = lo.toNat then a else a.map (·.add (lo.toNat * sz))) (hi.toNat - lo.toNat) (mx.toNat - lo.toNat) | v => v
theorem y_slice3 {s p q q3 : Operand} {lo hi mx : Int} (E : Et P t e r.sz by_) (hF : Fr n ds F a) (hx : opv F s = some v) (hl : opv F p = some (.int .i64 lo)) (hh : opv F q = some (.int .i64 hi)) (hm : opv F q3 = some (.int .i64 mx)) (hmx : mx = l.length) (hR : Rdc B M Z r v l) (hs : subl l lo hi = some l2) :
    Yx P B M Z a ⟨dst, .slice t s (some p) (some q) (some q3), ty, pos, aft, g⟩ (slSub3 v lo hi mx r.sz) :=
  yl_of fun w hw => by
    obtain ⟨h1, h2, h3, _⟩ := subl_some hs
    have hsz := E.sizeOf (P := P) w
    have hxe := hF.eval hx
    have hle := hF.eval hl
    have hhe := hF.eval hh
    have hme := hF.eval hm
    have hb : ∀ (y : Nat) (code : BoundsCode) (q : Int), 0 ≤ q → q ≤ y → (Instr.sliceBound (.int .i64 q) y code).run P w = .ok q.toNat w := fun y code q h0 h4 => by
      simp [Instr.sliceBound, asIntOf, h0, h4]
    obtain ⟨ad, m, cap, rfl, hc⟩ : ∃ ad m cap, v = .slice ad m cap ∧ l.length ≤ cap := by
      rcases hR w hw with ⟨ad, cap, rfl, rfl⟩ | ⟨b, off, cap, xs, rfl, hc, _⟩
      · exact ⟨_, _, _, rfl, Nat.zero_le _⟩
      · exact ⟨_, _, _, rfl, hc⟩
    have k0 : ∀ code, (Instr.sliceBound (.int .i64 mx) cap code).run P w = .ok mx.toNat w := fun code => hb cap code mx (by omega) (by omega)
    have k1 : ∀ code, (Instr.sliceBound (.int .i64 hi) mx.toNat code).run P w = .ok hi.toNat w := fun code => hb _ code hi (by omega) (by omega)
    have k2 : ∀ code, (Instr.sliceBound (.int .i64 lo) hi.toNat code).run P w = .ok lo.toNat w := fun code => hb _ code lo h1 (by omega)
    simp [execOp, Instr.sliceAt, Instr.slice, Instr.sliceBounds, Go.underlying, E.desc, hxe, hle, hhe, hme, hsz, slSub3, k0, k1, k2]
/-- v[:0:0] -/
def slNil (v : Value) : Value := match v with | .slice a _ _ => .slice a 0 0 | v => v
theorem y_slice0 {s q q3 : Operand} (E : Et P t e r.sz by_) (hF : Fr n ds F a) (hx : opv F s = some v) (hh : opv F q = some (.int .i64 0)) (hm : opv F q3 = some (.int .i64 0)) (hR : Rdc B M Z r v l) :
    Yx P B M Z a ⟨dst, .slice t s none (some q) (some q3), ty, pos, aft, g⟩ (slNil v) :=
  yl_of fun w hw => by
    have hsz := E.sizeOf (P := P) w
    have hxe := hF.eval hx
    have hhe := hF.eval hh
    have hme := hF.eval hm
    have hb : ∀ (y : Nat) (code : BoundsCode), (Instr.sliceBound (.int .i64 0) y code).run P w = .ok 0 w := fun y code => by
      simp [Instr.sliceBound, asIntOf]
    obtain ⟨ad, m, cap, rfl⟩ : ∃ ad m cap, v = .slice ad m cap := by
      rcases hR w hw with ⟨ad, cap, rfl, rfl⟩ | ⟨b, off, cap, xs, rfl, hc, _⟩
      · exact ⟨_, _, _, rfl⟩
      · exact ⟨_, _, _, rfl⟩
    simp [execOp, Instr.sliceAt, Instr.slice, Instr.sliceBounds, Go.underlying, E.desc, hxe, hhe, hme, hsz, slNil, hb]
theorem Stw.slNilRow {s : Rp α} (h : Stw B M Z w) (hR : Rdc B M Z r v l) (e : TypeId) (r' : Rp α) : Stw B M (row (slNil v) e r' ([] : List α) :: Z) w := by
  obtain ⟨ad, m, cap, rfl⟩ : ∃ ad m cap, v = .slice ad m cap := by
    rcases hR w h with ⟨ad, cap, rfl, rfl⟩ | ⟨b, off, cap, xs, rfl, hc, _⟩
    · exact ⟨_, _, _, rfl⟩
    · exact ⟨_, _, _, rfl⟩
  exact h.emptyRow ad e r'
/-- clear of a part of a row. -/
theorem l_clear {s : Operand} {k : Nat} {lo hi : Int} {z : Value} (z0 : α) (hF : Fr n ds F a) (hW : Stw B M Z w) (E : Et P t e r.sz by_) (hz : (P.info? e).bind (·.zero) = some z) (hs : opv F s = some (slSub v lo hi r.sz))
    (hZ : Z[k]? = some (row v e r l)) (hZ1 : Z.eraseIdx k = Z1) (hs1 : subl l lo hi = some l1) (hr : ∀ w A, r.rep w A z.cells.toList z0) (hsp : spl l lo (List.replicate l1.length z0) = some l3)
    (kk : ∀ w', Stw B M (row v e r l3 :: Z1) w' → wpList P ops Q rest a w') :
    wpList P ops Q (⟨none, .call ⟨.builtin .clear, #[s], #[t]⟩, ty, pos, aft, none⟩ :: rest) a w := by
  have hW1 := hW.permZ (perm_get hZ hZ1)
  obtain ⟨h1, h2, e3⟩ := spl_some hsp
  obtain ⟨g1, g2, g3, e1⟩ := subl_some hs1
  have hl1 : l1.length = hi.toNat - lo.toNat := by rw [e1]; simp; omega
  obtain ⟨inf, z', hi', hz', his, hib, hzs⟩ := E.info
  have hzz : z' = z := by rw [hi'] at hz; simp only [Option.bind_some] at hz; rw [hz'] at hz; exact Option.some.inj hz
  subst hzz
  have hown : Own w (Fz B (blks M (row v e r l :: Z1))) e r v l := hW1.items _ (List.mem_cons_self ..)
  have hA : ∀ b, Fz B (blks M (row v e r l :: Z1)) b → ownB v ≠ some b := fun b hb he => hb.2 (mem_blks_Z (z := row v e r l) (List.mem_cons_self ..) (mem_ownE.2 he))
  have hxe := hF.eval hs
  have hv : (∃ ad, v = .slice ad 0 0 ∧ l = []) ∨ ∃ b off cap, v = .slice (some ⟨b, off, none⟩) l.length cap ∧ 0 < cap ∧ l.length ≤ cap := by
    rcases hown with h | ⟨b, off, cap, cur, xs, hv, hcp, hb, hc, _⟩
    · exact .inl h
    · exact .inr ⟨b, off, cap, hv, hcp, hc⟩
  have hgo : ∃ w', (Builtin.clear_ #[t] ty #[slSub v lo hi r.sz]).run P w = .ok (.tuple #[]) w' ∧ w.grownBy w' (ownB v) ∧ ∀ A', Keeps w w' (Fz B (blks M (row v e r l :: Z1))) A' → Own w' A' e r v l3 := by
    by_cases h0 : l1.length = 0
    · refine ⟨w, ?_, ⟨rfl, rfl, rfl, Nat.le_refl _, fun _ _ _ => rfl⟩, fun A' hk => ?_⟩
      · obtain ⟨ad, cc, hsl⟩ : ∃ ad cc, slSub v lo hi r.sz = .slice ad 0 cc := by
          rcases hv with ⟨ad, rfl, rfl⟩ | ⟨b, off, cap, hv, _⟩
          · simp only [List.length_nil] at g3
            obtain ⟨rfl, rfl⟩ : lo = 0 ∧ hi = 0 := by omega
            exact ⟨ad, 0, by simp [slSub]⟩
          · rw [hv, slSub_of, show hi.toNat - lo.toNat = 0 by omega]; exact ⟨_, _, rfl⟩
        rw [hsl]
        cases ad <;> simp [Builtin.clear_, run_underlying E.desc]
      · have : l3 = l := by rw [e3, h0]; simp
        rw [this]; exact hown.stab hk fun _ _ => rfl
    · rcases hv with ⟨ad, rfl, rfl⟩ | ⟨b, off, cap, hv, hcp, hcl⟩
      · simp at g3; omega
      · have hzc : z'.cells.toList.length = r.sz := by simpa using hzs
        have hrep : RepL r w (Fz B (blks M (row v e r l :: Z1))) (List.replicate l1.length z'.cells.toList).flatten (List.replicate l1.length z0) := RepL.rep (hr w _) _
        obtain ⟨w', hst, hg, ho⟩ := Own.storeR (P := P) (p := lo.toNat) hown (by simp; omega) (by simp; omega) hrep hA
        have hcz : (Builtin.zeroCells z'.cells l1.length).toList = (List.replicate l1.length z'.cells.toList).flatten := by
          have := made_eq z'.cells.toList (by rw [hzc]; exact E.pos) l1.length
          rw [← this]
          simp [Builtin.zeroCells, madeCells]
        have hne : ¬ cap = lo.toNat := by omega
        refine ⟨w', ?_, hg, fun A' hk => ?_⟩
        · rw [hv] at hst
          simp only [vblk, voff] at hst
          obtain ⟨m, hm⟩ : ∃ m, hi.toNat - lo.toNat = m + 1 := ⟨hi.toNat - lo.toNat - 1, by omega⟩
          rw [hv, slSub_of, if_neg hne, hm]
          have hcz' : (Builtin.zeroCells z'.cells (m + 1)).toList = (List.replicate l1.length z'.cells.toList).flatten := by rw [← hcz, hl1, hm]
          have hzv : (zeroValue e).run P w = .ok z' w := run_zero hz _
          simp [Builtin.clear_, run_underlying E.desc, hzv, hcz', hst]
        · rw [e3]; exact ho A' hk
  obtain ⟨w', hr', hgr, hown'⟩ := hgo
  unfold wpList
  rw [if_pos (wanted_none rfl)]
  refine .inl ?_
  unfold Oper.wp
  have hrun : (execOp a.eval ⟨none, .call ⟨.builtin .clear, #[s], #[t]⟩, ty, pos, aft, none⟩).run P w = .ok (.value (.tuple #[])) w' := by
    simp [execOp, resolve_builtin, invoke, builtin, hxe, hr']
  rw [hrun]
  exact kk w' (hW1.rowTurn hgr (fun A _ hk => hown' A hk) (fun g hg => .inl hg))
/-! ### A slice and nil -/
def nilB (v : Value) : Bool := match v with | .slice a _ _ => a.isNone | _ => false
theorem eqsl_in {T : TypeId} (hT : P.underlying T = some (.slice e)) (ad : Option Addr) (m c d : Nat) (w : World) : (Op.equalIn (d + 1) T (.slice ad m c) (.slice none 0 0)).run P w = .ok ad.isNone w := by
  cases ad <;> simp [Op.equalIn, Go.underlying, hT]
theorem eqsl {T : TypeId} (hT : P.underlying T = some (.slice e)) (ad : Option Addr) (m c : Nat) (w : World) : (Op.equal T (.slice ad m c) (.slice none 0 0)).run P w = .ok ad.isNone w := eqsl_in hT ad m c 9999 w
theorem y_eqlnil {x : Operand} {T T' : TypeId} (hT : P.underlying T = some (.slice e)) (hF : Fr n ds F a) (hx : opv F x = some v) (hR : Rdc B M Z r v l) : Yx P B M Z a ⟨dst, .binOp .eql T x (.const (.slice none 0 0)) T', ty, pos, aft, g⟩ (.bool (nilB v)) :=
  yl_of fun w hw => by
    obtain ⟨ad, m, cap, rfl⟩ : ∃ ad m cap, v = .slice ad m cap := by
      rcases hR w hw with ⟨ad, cap, rfl, rfl⟩ | ⟨b, off, cap, xs, rfl, hc, _⟩
      · exact ⟨_, _, _, rfl⟩
      · exact ⟨_, _, _, rfl⟩
    have h2 : a.eval (.const (.slice none 0 0)) = .slice none 0 0 := rfl
    simp [execOp, hF.eval hx, h2, eqGuard, binOp, eqsl hT, nilB]
/-- What is not nil has elements. -/
abbrev NN {α : Type} (v : Value) (l : List α) : Prop := nilB v = false → l ≠ []
def nnl {α : Type} (l : List α) : Option Unit := match l with | [] => none | _ :: _ => some ()
theorem nnl_ne {α : Type} {l : List α} {u : Unit} (h : nnl l = some u) : l ≠ [] := by
  intro e; subst e; cases h
theorem nil_cases (hR : Rdc B M Z r v l) (hW : Stw B M Z w) : (nilB v = true ∧ l = []) ∨ nilB v = false := by
  rcases hR w hW with ⟨ad, cap, rfl, rfl⟩ | ⟨b, off, cap, xs, rfl, hc, _⟩
  · cases ad with
    | none => exact .inl ⟨rfl, rfl⟩
    | some ad => exact .inr rfl
  · exact .inr rfl
/-! ### What is read while something is lent -/
theorem at_MX {Y : Nat → Prop} {Ml : Blks} {Zl : List It} {b : Nat} {cs : List Value} (h : Stw B (Ml ++ M) (Zl ++ Z) w) (i : Nat) (hM : M[i]? = some (b, cs)) : At ⟨Y, blks Ml Zl, w⟩ b 0 cs := by
  have hM2 : (Ml ++ M)[Ml.length + i]? = some (b, cs) := by rw [List.getElem?_append_right (by omega), Nat.add_sub_cancel_left]; exact hM
  have hp : (blks (Ml ++ M) (Zl ++ Z)).Perm (blks Ml Zl ++ blks M Z) := by
    unfold blks
    rw [List.map_append, List.flatMap_append]
    simp only [List.append_assoc]
    refine List.Perm.append_left _ ?_
    rw [← List.append_assoc, ← List.append_assoc]
    exact List.Perm.append_right _ List.perm_append_comm
  have hnd := List.nodup_append.1 (hp.nodup_iff.1 h.nodup)
  exact ⟨fun hm => hnd.2.2 b hm b (mem_blks_M (mem_of_get hM)) rfl, h.lt_all (mem_blks_M (mem_of_get hM2)), fun j u hu => by rw [h.cell hM2, Nat.zero_add]; exact hu⟩
theorem lent_in {Ml M : Blks} {Zl Z : List It} {g : Nat} (h : g ∈ blks Ml Zl) : g ∈ blks (Ml ++ M) (Zl ++ Z) :=
  (List.Sublist.append ((List.sublist_append_left _ _).map _) (sub_flatMap (List.sublist_append_left _ _))).subset h
theorem Stw.roX {X' : List Nat} (h : Stw B M Z w) (hs : Sl B.w0 (NX B.X) r v l) (hsub : ∀ g ∈ X', g ∈ blks M Z) : Sl w (NX X') r v l :=
  hs.stab fun b hb hlt => ⟨fun hm => by
    rcases h.own b (hsub b hm) with h1 | h1
    · exact hb h1
    · omega, h.frm.block b hlt hb⟩
theorem rowX {Ml : Blks} {Zl : List It} {e : TypeId} (h : Stw B (Ml ++ M) (Zl ++ Z) w) (i : Nat) (hZ : Z[i]? = some (row v e r l)) : Sl w (NX (blks Ml Zl)) r v l := by
  have hZ2 : (Zl ++ Z)[Zl.length + i]? = some (row v e r l) := by rw [List.getElem?_append_right (by omega), Nat.add_sub_cancel_left]; exact hZ
  have hp : (blks (Ml ++ M) (Zl ++ Z)).Perm (blks Ml Zl ++ blks M Z) := by
    unfold blks
    rw [List.map_append, List.flatMap_append]
    simp only [List.append_assoc]
    refine List.Perm.append_left _ ?_
    rw [← List.append_assoc, ← List.append_assoc]
    exact List.Perm.append_right _ List.perm_append_comm
  have hnd := List.nodup_append.1 (hp.nodup_iff.1 h.nodup)
  refine Own.sl (A := Fz B (blks (Ml ++ M) (Zl ++ Z))) (e := e) (h.item hZ2) (fun b hb hm => hb.2 (hp.mem_iff.2 (List.mem_append_left _ hm))) fun g hg hm => ?_
  exact hnd.2.2 g hm g (mem_blks_Z (mem_of_get hZ) (show g ∈ (row v e r l).bl from mem_ownE.2 hg)) rfl
theorem At.reX {Y : Nat → Prop} {Ml : Blks} {Zl : List It} {b off : Nat} {cs : List Value} (ha : At B b off cs) (h : Stw B (Ml ++ M) (Zl ++ Z) w) : At ⟨Y, blks Ml Zl, w⟩ b off cs := by
  refine ⟨fun hm => ?_, Nat.lt_of_lt_of_le ha.lt h.frm.size, fun j u hu => ha.now h hu⟩
  have hs : b ∈ blks (Ml ++ M) (Zl ++ Z) := (List.Sublist.append ((List.sublist_append_left _ _).map _) (sub_flatMap (List.sublist_append_left _ _))).subset hm
  rcases h.own b hs with h1 | h1
  · exact ha.nx h1
  · have := ha.lt; omega
/-! ### Steps that are passed over -/
theorem lsn {d i gd : Nat} {u u' : Bool} {l : List Oper} {o : Oper} (hF : Fr n ds F a) (hl : ops = l.toArray) (hg : o.guard = some (i, u)) (hgd : (l[i]?).bind (·.dst) = some gd) (hk : lk F gd = some (.bool u')) (hne : (u' == u) = false) (hd : o.dst = some d) (hn : Nat.blt d n = true)
    (k : ∀ a', Fr n ds ((d, undef) :: F) a' → wpList P ops Q rest a' w) : wpList P ops Q (o :: rest) a w := ls_skip hF (wanted_n hF hl hg hgd hk hne) hd hn k
theorem lsu {d i gd : Nat} {u : Bool} {l : List Oper} {o : Oper} (hF : Fr n ds F a) (hl : ops = l.toArray) (hg : o.guard = some (i, u)) (hgd : (l[i]?).bind (·.dst) = some gd) (hk : lk F gd = some undef) (hd : o.dst = some d) (hn : Nat.blt d n = true)
    (k : ∀ a', Fr n ds ((d, undef) :: F) a' → wpList P ops Q rest a' w) : wpList P ops Q (o :: rest) a w := ls_skip hF (wanted_undef hF hl hg hgd hk) hd hn k
end
/-- Two ways to say a test. -/
theorem cgb {a b : Bool} (h : a = b) : some (Value.bool a) = some (Value.bool b) := by rw [h]
theorem bss : (!true) = false ∧ (!false) = true ∧ (∀ b, (true && b) = b) ∧ (∀ b, (false && b) = false) ∧ (∀ b, (true || b) = true) ∧ (∀ b, (false || b) = b) ∧ (∀ b, (b && true) = b) ∧ (∀ b, (b || false) = b) ∧ (∀ x y : Bool, (bif true then x else y) = x) ∧ (∀ x y : Bool, (bif false then x else y) = y) := by simp
end Go.Proofs.YtmbjfpacaenbhaaGreat
