/- copy into a row of one's own, or a part of it. Conditions: none. -/
import Derived.Test.YtfnmlmglmegamaabOC
namespace Go.Proofs.Ytfnmlmglmegamaa
set_option linter.unusedVariables false
set_option linter.unusedSimpArgs false
set_option linter.unusedSectionVars false
open Go Go.RowKit
def IE {α : Type} (l : List α) (p : Int) (k : Nat) (l2 : List α) : List α := l.take p.toNat ++ l2.take k ++ l.drop (p.toNat + k)
section
variable {P : Program} {B : Bs} {M M' : B8} {Z Z' Z1 : List It} {n : Nat} {ds : List Deferred} {F F' : List (Nat × Value)} {a : Act} {w w' : World}
variable {ops : Array Oper} {Q : Exit → Act → World → Prop} {rest : List Oper} {o : Oper}
variable {ty : TypeId} {pos : String} {aft : Array Edge}
variable {α : Type} {r : Rp α} {l l1 l2 : List α} {v u dv : Value} {t t2 e by_ : Nat}
theorem Kk {A : Nat → Prop} {p m : Nat} (E : Et P t e r.sz by_) (hown : EO w A e r v l) (hdst : (∃ ad c, dv = .slice ad 0 c ∧ m = 0) ∨ ∃ c, dv = .slice (some ⟨HF v, Ei v + p * r.sz, none⟩) m c) (hm : p + m ≤ l.length)
    (hsrc : Hw w A r u l2) (hA : ∀ b, A b → Ek v ≠ some b) :
    ∃ w', (Builtin.copy_ #[t, t2] ty #[dv, u]).run P w = .ok (.int .i64 ((min l2.length m : Nat) : Int)) w' ∧ w.grownBy w' (Ek v) ∧ ∀ A', EN w w' A A' → EO w' A' e r v (IE l (p : Int) (min l2.length m) l2) := by
  obtain ⟨inf, z, hi, hz, his, hib, hzs⟩ := E.info
  have hsame : w.grownBy w (Ek v) := ⟨rfl, rfl, rfl, Nat.le_refl _, fun _ _ _ => rfl⟩
  by_cases h0 : min l2.length m = 0
  · refine ⟨w, ?_, hsame, fun A' hk => ?_⟩
    · have hn : ∀ ad2 n2 c2, n2 = l2.length → (Builtin.copy_ #[t, t2] ty #[dv, .slice ad2 n2 c2]).run P w = .ok (.int .i64 ((min l2.length m : Nat) : Int)) w := fun ad2 n2 c2 hn2 => by
        subst hn2
        have hl : ∀ (x : Addr), (loadCells x 0).run P w = .ok #[] w := fun x => by simp [loadCells, loadCellsFrom]
        have h0' : Nat.min l2.length m = 0 := h0
        have h00 : min l2.length m = 0 := h0
        rcases hdst with ⟨ad, c, rfl, rfl⟩ | ⟨c, rfl⟩
        · cases ad <;> cases ad2 <;> simp [Builtin.copy_, run_underlying E.desc, Builtin.lenOf, Builtin.firstCells, sizeOf, typeInfo, hi, storeCells, hl, goInt]
        · cases ad2 <;> simp [Builtin.copy_, run_underlying E.desc, Builtin.lenOf, Builtin.firstCells, sizeOf, typeInfo, hi, storeCells, hl, goInt, h0', h00]
      rcases hsrc with ⟨ad2, c2, rfl, rfl⟩ | ⟨b2, o2, c2, news, rfl, _⟩
      · exact hn _ _ _ rfl
      · exact hn _ _ _ rfl
    · have : IE l (p : Int) (min l2.length m) l2 = l := by rw [h0]; unfold IE; simp
      rw [this]; exact hown.stab hk fun _ _ => rfl
  · rcases hdst with ⟨ad, c, rfl, rfl⟩ | ⟨c, rfl⟩
    · simp at h0
    rcases hsrc with ⟨ad2, c2, rfl, rfl⟩ | ⟨b2, o2, c2, news, rfl, hc2, hcell, hr2⟩
    · simp at h0
    · have hnl := hr2.len
      have hr3 := hr2.take (min l2.length m)
      have htl : (l2.take (min l2.length m)).length = min l2.length m := by rw [List.length_take]; omega
      obtain ⟨w', hst, hg, ho⟩ := EO.storeR (P := P) (p := p) hown (l2 := l2.take (min l2.length m)) (by rw [htl]; omega) (by rw [htl]; omega) hr3 hA
      refine ⟨w', ?_, hg, fun A' hk => ?_⟩
      · have h3l := hr3.len
        rw [htl] at h3l
        have hf := run_firstCells_some (P := P) w r.sz (min l2.length m) ⟨b2, o2, none⟩ l2.length c2 (news.take (min l2.length m * r.sz)) h3l (fun j u hu => by
          rw [Ch]
          rw [List.getElem?_take] at hu
          split at hu
          · exact hcell j u hu
          · cases hu)
        have hf' : (Builtin.firstCells r.sz (Nat.min l2.length m) (.slice (some ⟨b2, o2, none⟩) l2.length c2)).run P w = _ := hf
        simp [Builtin.copy_, run_underlying E.desc, sizeOf, typeInfo, hi, his, Builtin.lenOf, hf', hst, goInt]
      · have := ho A' hk
        rw [htl] at this
        unfold IE
        rw [Int.toNat_natCast]; exact this
theorem MK {s q : Operand} {d k : Nat} {p m : Nat} (hF : Fr n ds F a) (hW : Stw B M Z w) (hn : Nat.blt d n = true) (E : Et P t e r.sz by_) (hs : Cw F s = some dv) (hx : Cw F q = some u)
    (hZ : Z[k]? = some (row v e r l)) (hZ1 : Z.eraseIdx k = Z1) (hdst : ∀ A : Nat → Prop, EO w A e r v l → (∃ ad c, dv = .slice ad 0 c ∧ m = 0) ∨ ∃ c, dv = .slice (some ⟨HF v, Ei v + p * r.sz, none⟩) m c) (hm : p + m ≤ l.length) (hsrc : Hw w (Fz B (AL M Z)) r u l2)
    (kk : ∀ a' w', Fr n ds ((d, .int .i64 ((min l2.length m : Nat) : Int)) :: F) a' → Stw B M (row v e r (IE l (p : Int) (min l2.length m) l2) :: Z1) w' → wpList P ops Q rest a' w') :
    wpList P ops Q (⟨some d, .call ⟨.builtin .copy, #[s, q], #[t, t2]⟩, ty, pos, aft, none⟩ :: rest) a w := by
  have hW1 := hW.permZ (CZ hZ hZ1)
  have hbl : ∀ b, Fz B (AL M Z) b → Fz B (AL M (row v e r l :: Z1)) b := fun b hb => hb.mono fun g hg => (List.Perm.append_left _ ((CZ hZ hZ1).flatMap_right _)).mem_iff.2 hg
  have hsrc1 : Hw w (Fz B (AL M (row v e r l :: Z1))) r u l2 := by
    rcases hsrc with h | ⟨b, o2, c2, news, h1, h2, h3, h4⟩
    · exact .inl h
    · exact .inr ⟨b, o2, c2, news, h1, h2, h3, h4.stab fun b hb _ => ⟨hbl b hb, rfl⟩⟩
  have ho : EO w (Fz B (AL M (row v e r l :: Z1))) e r v l := hW1.items _ (List.mem_cons_self ..)
  obtain ⟨w', hr, hgr, hown⟩ := Kk (P := P) (w := w) (ty := ty) (t2 := t2) E ho (hdst _ ho) hm hsrc1 (fun b hb he => hb.2 (CD (z := row v e r l) (List.mem_cons_self ..) (En.2 he)))
  refine Iy hF hn (v := .int .i64 ((min l2.length m : Nat) : Int)) (w' := w') ?_ (fun a' h => kk a' w' h ?_)
  · simp [execOp, Cx, invoke, builtin, hF.eval hs, hF.eval hx, hr]
  · exact hW1.rowTurn hgr (fun A _ hk => hown A hk) (fun g hg => .inl hg)
theorem QD {s q : Operand} {d k : Nat} (hF : Fr n ds F a) (hW : Stw B M Z w) (hn : Nat.blt d n = true) (E : Et P t e r.sz by_) (hs : Cw F s = some v) (hx : Cw F q = some u)
    (hZ : Z[k]? = some (row v e r l)) (hZ1 : Z.eraseIdx k = Z1) (hsrc : Hw w (Fz B (AL M Z)) r u l2)
    (kk : ∀ a' w', Fr n ds ((d, .int .i64 ((min l2.length l.length : Nat) : Int)) :: F) a' → Stw B M (row v e r (IE l 0 (min l2.length l.length) l2) :: Z1) w' → wpList P ops Q rest a' w') :
    wpList P ops Q (⟨some d, .call ⟨.builtin .copy, #[s, q], #[t, t2]⟩, ty, pos, aft, none⟩ :: rest) a w :=
  MK (p := 0) (m := l.length) hF hW hn E hs hx hZ hZ1 (fun A ho => by
    rcases ho with ⟨ad, rfl, rfl⟩ | ⟨b, off, cap, cur, xs, rfl, _⟩
    · exact .inl ⟨ad, 0, rfl, rfl⟩
    · exact .inr ⟨cap, by simp [HF, Ei]⟩) (by omega) hsrc kk
theorem MP {s q : Operand} {d k : Nat} {lo hi : Int} (hF : Fr n ds F a) (hW : Stw B M Z w) (hn : Nat.blt d n = true) (E : Et P t e r.sz by_) (hs : Cw F s = some (Cu v lo hi r.sz)) (hx : Cw F q = some u)
    (hZ : Z[k]? = some (row v e r l)) (hZ1 : Z.eraseIdx k = Z1) (hs1 : Em l lo hi = some l1) (hsrc : Hw w (Fz B (AL M Z)) r u l2)
    (kk : ∀ a' w', Fr n ds ((d, .int .i64 ((min l2.length l1.length : Nat) : Int)) :: F) a' → Stw B M (row v e r (IE l lo (min l2.length l1.length) l2) :: Z1) w' → wpList P ops Q rest a' w') :
    wpList P ops Q (⟨some d, .call ⟨.builtin .copy, #[s, q], #[t, t2]⟩, ty, pos, aft, none⟩ :: rest) a w := by
  obtain ⟨g1, g2, g3, e1⟩ := Dy hs1
  have hl1 : l1.length = hi.toNat - lo.toNat := by rw [e1]; simp; omega
  refine MK (p := lo.toNat) (m := l1.length) hF hW hn E hs hx hZ hZ1 (fun A ho => ?_) (by omega) hsrc (by rw [Int.toNat_of_nonneg g1]; exact kk)
  rcases ho with ⟨ad, rfl, rfl⟩ | ⟨b, off, cap, cur, xs, rfl, hcp, hb, hc, _⟩
  · simp only [List.length_nil] at g3
    obtain ⟨rfl, rfl⟩ : lo = 0 ∧ hi = 0 := by omega
    exact .inl ⟨ad, 0, by simp [Cu], by omega⟩
  · rw [Jo]
    by_cases hz : l1.length = 0
    · exact .inl ⟨_, _, by rw [show hi.toNat - lo.toNat = 0 by omega], hz⟩
    · rw [if_neg (by omega)]
      exact .inr ⟨_, by rw [hl1]; rfl⟩
variable {M1 : B8} {g : Option (Nat × Bool)} {dst : Option Tmp} {x : α} {i : Int}
end
end Go.Proofs.Ytfnmlmglmegamaa
