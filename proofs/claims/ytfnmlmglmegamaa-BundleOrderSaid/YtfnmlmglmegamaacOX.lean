/- copy into a row of one's own, or a part of it. Conditions: none. -/
import Derived.Test.YtfnmlmglmegamaacOC
namespace Go.Proofs.Ytfnmlmglmegamaa
set_option linter.unusedVariables false
set_option linter.unusedSimpArgs false
set_option linter.unusedSectionVars false
open Go Go.RowKit
def HT {α : Type} (l : List α) (p : Int) (k : Nat) (l2 : List α) : List α := l.take p.toNat ++ l2.take k ++ l.drop (p.toNat + k)
section
variable {P : Program} {B : Bs} {M M' : Cp} {Z Z' Z1 : List It} {n : Nat} {ds : List Deferred} {F F' : List (Nat × Value)} {a : Act} {w w' : World}
variable {ops : Array Oper} {Q : Exit → Act → World → Prop} {rest : List Oper} {o : Oper}
variable {ty : TypeId} {pos : String} {aft : Array Edge}
variable {α : Type} {r : Rp α} {l l1 l2 : List α} {v u dv : Value} {t t2 e by_ : Nat}
theorem JI {A : Nat → Prop} {p m : Nat} (E : Et P t e r.sz by_) (hown : D3 w A e r v l) (hdst : (∃ ad c, dv = .slice ad 0 c ∧ m = 0) ∨ ∃ c, dv = .slice (some ⟨Hk v, F5 v + p * r.sz, none⟩) m c) (hm : p + m ≤ l.length)
    (hsrc : GP w A r u l2) (hA : ∀ b, A b → DM v ≠ some b) :
    ∃ w', (Builtin.copy_ #[t, t2] ty #[dv, u]).run P w = .ok (.int .i64 ((min l2.length m : Nat) : Int)) w' ∧ w.grownBy w' (DM v) ∧ ∀ A', D5 w w' A A' → D3 w' A' e r v (HT l (p : Int) (min l2.length m) l2) := by
  obtain ⟨inf, z, hi, hz, his, hib, hzs⟩ := E.info
  have hsame : w.grownBy w (DM v) := ⟨rfl, rfl, rfl, Nat.le_refl _, fun _ _ _ => rfl⟩
  by_cases h0 : min l2.length m = 0
  · refine ⟨w, ?_, hsame, fun A' hk => ?_⟩
    · have hn : ∀ ad2 n2 c2, n2 = l2.length → (Builtin.copy_ #[t, t2] ty #[dv, .slice ad2 n2 c2]).run P w = .ok (.int .i64 ((min l2.length m : Nat) : Int)) w := fun ad2 n2 c2 hn2 => by
        subst hn2
        have hl : ∀ (x : Addr), (loadCells x 0).run P w = .ok #[] w := fun x => by simp [loadCells, loadCellsFrom]
        have h0' : Nat.min l2.length m = 0 := h0
        have h00 : min l2.length m = 0 := h0
        rcases hdst with ⟨ad, c, rfl, rfl⟩ | ⟨c, rfl⟩
        · cases ad <;> cases ad2 <;> simp [Builtin.copy_, run_underlying E.desc, Builtin.lenOf, Builtin.firstCells, sizeOf, typeInfo, hi, storeCells, hl, goInt]
        · cases ad2 <;> simp [Builtin.copy_, run_underlying E.desc, Builtin.lenOf, Builtin.firstCells, sizeOf, typeInfo, hi, storeCells, hl, goInt, h0', h00]
      rcases hsrc with ⟨ad2, c2, rfl, rfl⟩ | ⟨b2, o2, c2, news, rfl, _⟩
      · exact hn _ _ _ rfl
      · exact hn _ _ _ rfl
    · have : HT l (p : Int) (min l2.length m) l2 = l := by rw [h0]; unfold HT; simp
      rw [this]; exact hown.stab hk fun _ _ => rfl
  · rcases hdst with ⟨ad, c, rfl, rfl⟩ | ⟨c, rfl⟩
    · simp at h0
    rcases hsrc with ⟨ad2, c2, rfl, rfl⟩ | ⟨b2, o2, c2, news, rfl, hc2, hcell, hr2⟩
    · simp at h0
    · have hnl := hr2.len
      have hr3 := hr2.take (min l2.length m)
      have htl : (l2.take (min l2.length m)).length = min l2.length m := by rw [List.length_take]; omega
      obtain ⟨w', hst, hg, ho⟩ := D3.storeR (P := P) (p := p) hown (l2 := l2.take (min l2.length m)) (by rw [htl]; omega) (by rw [htl]; omega) hr3 hA
      refine ⟨w', ?_, hg, fun A' hk => ?_⟩
      · have h3l := hr3.len
        rw [htl] at h3l
        have hf := run_firstCells_some (P := P) w r.sz (min l2.length m) ⟨b2, o2, none⟩ l2.length c2 (news.take (min l2.length m * r.sz)) h3l (fun j u hu => by
          rw [BZ]
          rw [List.getElem?_take] at hu
          split at hu
          · exact hcell j u hu
          · cases hu)
        have hf' : (Builtin.firstCells r.sz (Nat.min l2.length m) (.slice (some ⟨b2, o2, none⟩) l2.length c2)).run P w = _ := hf
        simp [Builtin.copy_, run_underlying E.desc, sizeOf, typeInfo, hi, his, Builtin.lenOf, hf', hst, goInt]
      · have := ho A' hk
        rw [htl] at this
        unfold HT
        rw [Int.toNat_natCast]; exact this
theorem LF {s q : Operand} {d k : Nat} {p m : Nat} (hF : Fr n ds F a) (hW : Stw B M Z w) (hn : Nat.blt d n = true) (E : Et P t e r.sz by_) (hs : B9 F s = some dv) (hx : B9 F q = some u)
    (hZ : Z[k]? = some (row v e r l)) (hZ1 : Z.eraseIdx k = Z1) (hdst : ∀ A : Nat → Prop, D3 w A e r v l → (∃ ad c, dv = .slice ad 0 c ∧ m = 0) ∨ ∃ c, dv = .slice (some ⟨Hk v, F5 v + p * r.sz, none⟩) m c) (hm : p + m ≤ l.length) (hsrc : GP w (Fz B (AD M Z)) r u l2)
    (kk : ∀ a' w', Fr n ds ((d, .int .i64 ((min l2.length m : Nat) : Int)) :: F) a' → Stw B M (row v e r (HT l (p : Int) (min l2.length m) l2) :: Z1) w' → wpList P ops Q rest a' w') :
    wpList P ops Q (⟨some d, .call ⟨.builtin .copy, #[s, q], #[t, t2]⟩, ty, pos, aft, none⟩ :: rest) a w := by
  have hW1 := hW.permZ (CF hZ hZ1)
  have hbl : ∀ b, Fz B (AD M Z) b → Fz B (AD M (row v e r l :: Z1)) b := fun b hb => hb.mono fun g hg => (List.Perm.append_left _ ((CF hZ hZ1).flatMap_right _)).mem_iff.2 hg
  have hsrc1 : GP w (Fz B (AD M (row v e r l :: Z1))) r u l2 := by
    rcases hsrc with h | ⟨b, o2, c2, news, h1, h2, h3, h4⟩
    · exact .inl h
    · exact .inr ⟨b, o2, c2, news, h1, h2, h3, h4.stab fun b hb _ => ⟨hbl b hb, rfl⟩⟩
  have ho : D3 w (Fz B (AD M (row v e r l :: Z1))) e r v l := hW1.items _ (List.mem_cons_self ..)
  obtain ⟨w', hr, hgr, hown⟩ := JI (P := P) (w := w) (ty := ty) (t2 := t2) E ho (hdst _ ho) hm hsrc1 (fun b hb he => hb.2 (Cc (z := row v e r l) (List.mem_cons_self ..) (DQ.2 he)))
  refine HK hF hn (v := .int .i64 ((min l2.length m : Nat) : Int)) (w' := w') ?_ (fun a' h => kk a' w' h ?_)
  · simp [execOp, Ca, invoke, builtin, hF.eval hs, hF.eval hx, hr]
  · exact hW1.rowTurn hgr (fun A _ hk => hown A hk) (fun g hg => .inl hg)
theorem Py {s q : Operand} {d k : Nat} (hF : Fr n ds F a) (hW : Stw B M Z w) (hn : Nat.blt d n = true) (E : Et P t e r.sz by_) (hs : B9 F s = some v) (hx : B9 F q = some u)
    (hZ : Z[k]? = some (row v e r l)) (hZ1 : Z.eraseIdx k = Z1) (hsrc : GP w (Fz B (AD M Z)) r u l2)
    (kk : ∀ a' w', Fr n ds ((d, .int .i64 ((min l2.length l.length : Nat) : Int)) :: F) a' → Stw B M (row v e r (HT l 0 (min l2.length l.length) l2) :: Z1) w' → wpList P ops Q rest a' w') :
    wpList P ops Q (⟨some d, .call ⟨.builtin .copy, #[s, q], #[t, t2]⟩, ty, pos, aft, none⟩ :: rest) a w :=
  LF (p := 0) (m := l.length) hF hW hn E hs hx hZ hZ1 (fun A ho => by
    rcases ho with ⟨ad, rfl, rfl⟩ | ⟨b, off, cap, cur, xs, rfl, _⟩
    · exact .inl ⟨ad, 0, rfl, rfl⟩
    · exact .inr ⟨cap, by simp [Hk, F5]⟩) (by omega) hsrc kk
theorem Ll {s q : Operand} {d k : Nat} {lo hi : Int} (hF : Fr n ds F a) (hW : Stw B M Z w) (hn : Nat.blt d n = true) (E : Et P t e r.sz by_) (hs : B9 F s = some (B6 v lo hi r.sz)) (hx : B9 F q = some u)
    (hZ : Z[k]? = some (row v e r l)) (hZ1 : Z.eraseIdx k = Z1) (hs1 : DP l lo hi = some l1) (hsrc : GP w (Fz B (AD M Z)) r u l2)
    (kk : ∀ a' w', Fr n ds ((d, .int .i64 ((min l2.length l1.length : Nat) : Int)) :: F) a' → Stw B M (row v e r (HT l lo (min l2.length l1.length) l2) :: Z1) w' → wpList P ops Q rest a' w') :
    wpList P ops Q (⟨some d, .call ⟨.builtin .copy, #[s, q], #[t, t2]⟩, ty, pos, aft, none⟩ :: rest) a w := by
  obtain ⟨g1, g2, g3, e1⟩ := Da hs1
  have hl1 : l1.length = hi.toNat - lo.toNat := by rw [e1]; simp; omega
  refine LF (p := lo.toNat) (m := l1.length) hF hW hn E hs hx hZ hZ1 (fun A ho => ?_) (by omega) hsrc (by rw [Int.toNat_of_nonneg g1]; exact kk)
  rcases ho with ⟨ad, rfl, rfl⟩ | ⟨b, off, cap, cur, xs, rfl, hcp, hb, hc, _⟩
  · simp only [List.length_nil] at g3
    obtain ⟨rfl, rfl⟩ : lo = 0 ∧ hi = 0 := by omega
    exact .inl ⟨ad, 0, by simp [B6], by omega⟩
  · rw [IH]
    by_cases hz : l1.length = 0
    · exact .inl ⟨_, _, by rw [show hi.toNat - lo.toNat = 0 by omega], hz⟩
    · rw [if_neg (by omega)]
      exact .inr ⟨_, by rw [hl1]; rfl⟩
variable {M1 : Cp} {g : Option (Nat × Bool)} {dst : Option Tmp} {x : α} {i : Int}
end
end Go.Proofs.Ytfnmlmglmegamaa
