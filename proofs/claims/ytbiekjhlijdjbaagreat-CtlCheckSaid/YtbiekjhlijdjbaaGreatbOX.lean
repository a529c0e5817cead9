/- copy into a row of one's own, or a part of it. Conditions: none. -/
import Derived.Test.YtbiekjhlijdjbaaGreatbOC
set_option linter.unusedVariables false
set_option linter.unusedSimpArgs false
set_option linter.unusedSectionVars false
open Go Go.RowKit
namespace Go.Proofs.YtbiekjhlijdjbaaGreat
def NV {α : Type} (l : List α) (p : Int) (k : Nat) (l2 : List α) : List α := l.take p.toNat ++ l2.take k ++ l.drop (p.toNat + k)
section
variable {P : Program} {B : Bs} {M M' : Bi} {Z Z' Z1 : List It} {n : Nat} {ds : List Deferred} {F F' : List (Nat × Value)} {a : Act} {w w' : World}
variable {ops : Array Oper} {Q : Exit → Act → World → Prop} {rest : List Oper} {o : Oper}
variable {ty : TypeId} {pos : String} {aft : Array Edge}
variable {α : Type} {r : Rp α} {l l1 l2 : List α} {v u dv : Value} {t t2 e by_ : Nat}
theorem M6 {A : Nat → Prop} {p m : Nat} (E : Et P t e r.sz by_) (hown : DZ w A e r v l) (hdst : (∃ ad c,dv = .slice ad 0 c ∧ m = 0) ∨ ∃ c,dv = .slice (some ⟨GR v,Dt v + p * r.sz,none⟩) m c) (hm : p + m ≤ l.length)
    (hsrc : Mg w A r u l2) (hA : ∀ b,A b → ES v ≠ some b) :
    ∃ w',(Builtin.copy_ #[t,t2] ty #[dv,u]).run P w = .ok (.int .i64 ((min l2.length m : Nat) : Int)) w' ∧ w.grownBy w' (ES v) ∧ ∀ A',E5 w w' A A' → DZ w' A' e r v (NV l (p : Int) (min l2.length m) l2) := by
  obtain ⟨inf,z,hi,hz,his,hib,hzs⟩ := E.info
  have hsame : w.grownBy w (ES v) := ⟨rfl,rfl,rfl,Nat.le_refl _,fun _ _ _ => rfl⟩
  by_cases h0 : min l2.length m = 0
  · refine ⟨w, ?_,hsame,fun A' hk => ?_⟩
    · have hn : ∀ ad2 n2 c2,n2 = l2.length → (Builtin.copy_ #[t,t2] ty #[dv,.slice ad2 n2 c2]).run P w = .ok (.int .i64 ((min l2.length m : Nat) : Int)) w := fun ad2 n2 c2 hn2 => by
        subst hn2
        have hl : ∀ (x : Addr),(loadCells x 0).run P w = .ok #[] w := fun x => by simp [loadCells,loadCellsFrom]
        have h0' : Nat.min l2.length m = 0 := h0
        have h00 : min l2.length m = 0 := h0
        rcases hdst with ⟨ad,c,rfl,rfl⟩ | ⟨c,rfl⟩
        · cases ad <;> cases ad2 <;> simp [Builtin.copy_,run_underlying E.desc,Builtin.lenOf,Builtin.firstCells,sizeOf,typeInfo,hi,storeCells,hl,goInt]
        · cases ad2 <;> simp [Builtin.copy_,run_underlying E.desc,Builtin.lenOf,Builtin.firstCells,sizeOf,typeInfo,hi,storeCells,hl,goInt,h0',h00]
      rcases hsrc with ⟨ad2,c2,rfl,rfl⟩ | ⟨b2,o2,c2,news,rfl,_⟩
      · exact hn _ _ _ rfl
      · exact hn _ _ _ rfl
    · have : NV l (p : Int) (min l2.length m) l2 = l := by rw [h0]; unfold NV; simp
      rw [this]; exact hown.stab hk fun _ _ => rfl
  · rcases hdst with ⟨ad,c,rfl,rfl⟩ | ⟨c,rfl⟩
    · simp at h0
    rcases hsrc with ⟨ad2,c2,rfl,rfl⟩ | ⟨b2,o2,c2,news,rfl,hc2,hcell,hr2⟩
    · simp at h0
    · have hnl := hr2.len
      have hr3 := hr2.take (min l2.length m)
      have htl : (l2.take (min l2.length m)).length = min l2.length m := by rw [List.length_take]; omega
      obtain ⟨w',hst,hg,ho⟩ := DZ.storeR (P := P) (p := p) hown (l2 := l2.take (min l2.length m)) (by rw [htl]; omega) (by rw [htl]; omega) hr3 hA
      refine ⟨w', ?_,hg,fun A' hk => ?_⟩
      · have h3l := hr3.len
        rw [htl] at h3l
        have hf := run_firstCells_some (P := P) w r.sz (min l2.length m) ⟨b2,o2,none⟩ l2.length c2 (news.take (min l2.length m * r.sz)) h3l (fun j u hu => by
          rw [Bg]
          rw [List.getElem?_take] at hu
          split at hu
          · exact hcell j u hu
          · cases hu)
        have hf' : (Builtin.firstCells r.sz (Nat.min l2.length m) (.slice (some ⟨b2,o2,none⟩) l2.length c2)).run P w = _ := hf
        simp [Builtin.copy_,run_underlying E.desc,sizeOf,typeInfo,hi,his,Builtin.lenOf,hf',hst,goInt]
      · have := ho A' hk
        rw [htl] at this
        unfold NV
        rw [Int.toNat_natCast]; exact this
theorem QF {s q : Operand} {d k : Nat} {p m : Nat} (hF : Fr n ds F a) (hW : Stw B M Z w) (hn : Nat.blt d n = true) (E : Et P t e r.sz by_) (hs : Bo F s = some dv) (hx : Bo F q = some u)
    (hZ : Z[k]? = some (row v e r l)) (hZ1 : Z.eraseIdx k = Z1) (hdst : ∀ A : Nat → Prop,DZ w A e r v l → (∃ ad c,dv = .slice ad 0 c ∧ m = 0) ∨ ∃ c,dv = .slice (some ⟨GR v,Dt v + p * r.sz,none⟩) m c) (hm : p + m ≤ l.length) (hsrc : Mg w (Fz B (AA M Z)) r u l2)
    (kk : ∀ a' w',Fr n ds ((d,.int .i64 ((min l2.length m : Nat) : Int)) :: F) a' → Stw B M (row v e r (NV l (p : Int) (min l2.length m) l2) :: Z1) w' → wpList P ops Q rest a' w') :
    wpList P ops Q (⟨some d,.call ⟨.builtin .copy, #[s,q], #[t,t2]⟩,ty,pos,aft,none⟩ :: rest) a w := by
  have hW1 := hW.permZ (CH hZ hZ1)
  have hbl : ∀ b,Fz B (AA M Z) b → Fz B (AA M (row v e r l :: Z1)) b := fun b hb => hb.mono fun g hg => (List.Perm.append_left _ ((CH hZ hZ1).flatMap_right _)).mem_iff.2 hg
  have hsrc1 : Mg w (Fz B (AA M (row v e r l :: Z1))) r u l2 := by
    rcases hsrc with h | ⟨b,o2,c2,news,h1,h2,h3,h4⟩
    · exact .inl h
    · exact .inr ⟨b,o2,c2,news,h1,h2,h3,h4.stab fun b hb _ => ⟨hbl b hb,rfl⟩⟩
  have ho : DZ w (Fz B (AA M (row v e r l :: Z1))) e r v l := hW1.items _ (List.mem_cons_self ..)
  obtain ⟨w',hr,hgr,hown⟩ := M6 (P := P) (w := w) (ty := ty) (t2 := t2) E ho (hdst _ ho) hm hsrc1 (fun b hb he => hb.2 (BT (z := row v e r l) (List.mem_cons_self ..) (Dx.2 he)))
  refine Ja hF hn (v := .int .i64 ((min l2.length m : Nat) : Int)) (w' := w') ?_ (fun a' h => kk a' w' h ?_)
  · simp [execOp,Ax,invoke,builtin,hF.eval hs,hF.eval hx,hr]
  · exact hW1.rowTurn hgr (fun A _ hk => hown A hk) (fun g hg => .inl hg)
theorem T5 {s q : Operand} {d k : Nat} (hF : Fr n ds F a) (hW : Stw B M Z w) (hn : Nat.blt d n = true) (E : Et P t e r.sz by_) (hs : Bo F s = some v) (hx : Bo F q = some u)
    (hZ : Z[k]? = some (row v e r l)) (hZ1 : Z.eraseIdx k = Z1) (hsrc : Mg w (Fz B (AA M Z)) r u l2)
    (kk : ∀ a' w',Fr n ds ((d,.int .i64 ((min l2.length l.length : Nat) : Int)) :: F) a' → Stw B M (row v e r (NV l 0 (min l2.length l.length) l2) :: Z1) w' → wpList P ops Q rest a' w') :
    wpList P ops Q (⟨some d,.call ⟨.builtin .copy, #[s,q], #[t,t2]⟩,ty,pos,aft,none⟩ :: rest) a w :=
  QF (p := 0) (m := l.length) hF hW hn E hs hx hZ hZ1 (fun A ho => by
    rcases ho with ⟨ad,rfl,rfl⟩ | ⟨b,off,cap,cur,xs,rfl,_⟩
    · exact .inl ⟨ad,0,rfl,rfl⟩
    · exact .inr ⟨cap,by simp [GR,Dt]⟩) (by omega) hsrc kk
theorem Rq {s q : Operand} {d k : Nat} {lo hi : Int} (hF : Fr n ds F a) (hW : Stw B M Z w) (hn : Nat.blt d n = true) (E : Et P t e r.sz by_) (hs : Bo F s = some (Ct v lo hi r.sz)) (hx : Bo F q = some u)
    (hZ : Z[k]? = some (row v e r l)) (hZ1 : Z.eraseIdx k = Z1) (hs1 : GF l lo hi = some l1) (hsrc : Mg w (Fz B (AA M Z)) r u l2)
    (kk : ∀ a' w',Fr n ds ((d,.int .i64 ((min l2.length l1.length : Nat) : Int)) :: F) a' → Stw B M (row v e r (NV l lo (min l2.length l1.length) l2) :: Z1) w' → wpList P ops Q rest a' w') :
    wpList P ops Q (⟨some d,.call ⟨.builtin .copy, #[s,q], #[t,t2]⟩,ty,pos,aft,none⟩ :: rest) a w := by
  obtain ⟨g1,g2,g3,e1⟩ := Fo hs1
  have hl1 : l1.length = hi.toNat - lo.toNat := by rw [e1]; simp; omega
  refine QF (p := lo.toNat) (m := l1.length) hF hW hn E hs hx hZ hZ1 (fun A ho => ?_) (by omega) hsrc (by rw [Int.toNat_of_nonneg g1]; exact kk)
  rcases ho with ⟨ad,rfl,rfl⟩ | ⟨b,off,cap,cur,xs,rfl,hcp,hb,hc,_⟩
  · simp only [List.length_nil] at g3
    obtain ⟨rfl,rfl⟩ : lo = 0 ∧ hi = 0 := by omega
    exact .inl ⟨ad,0,by simp [Ct],by omega⟩
  · rw [SI]
    by_cases hz : l1.length = 0
    · exact .inl ⟨_,_,by rw [show hi.toNat - lo.toNat = 0 by omega],hz⟩
    · rw [if_neg (by omega)]
      exact .inr ⟨_,by rw [hl1]; rfl⟩
variable {M1 : Bi} {g : Option (Nat × Bool)} {dst : Option Tmp} {x : α} {i : Int}
def VS {α : Type} (v : Value) (l : List α) : Prop := (∃ ad c,v = .slice ad 0 c ∧ l = []) ∨ ∃ b off cap,v = .slice (some ⟨b,off,none⟩) l.length cap
theorem J3 (hW : Stw B M Z w) (hR : Mo B M Z r v l) : VS v l := by
  rcases hR w hW with h | ⟨b,off,cap,xs,h,_⟩
  · exact .inl h
  · exact .inr ⟨b,off,cap,h⟩
theorem E8 {s iop : Operand} (E : Et P t e r.sz by_) (hF : Fr n ds F a) (hx : Bo F s = some v) (hi : Bo F iop = some (.int .i64 i)) (hR : VS v l) (hik : ix l i = some x) :
    Yx P B M Z a ⟨dst,.indexAddr t s iop,ty,pos,aft,g⟩ (.pointer (some ⟨GR v,Dt v + i.toNat * r.sz,none⟩)) :=
  AZ fun w hw => by
    obtain ⟨h0,hk,_⟩ := F9 hik
    have hsz := E.sizeOf (P := P) w
    rcases hR with ⟨ad,cap,rfl,rfl⟩ | ⟨b,off,cap,rfl⟩
    · simp at hk
    · have h1 : i < (l.length : Int) := by omega
      simp [execOp,Instr.indexAt,hF.eval hx,hF.eval hi,asIntOf,Go.underlying,E.desc,h0,h1,hsz,Bg,GR,Dt]
theorem TA {fn : Func} {R : Ending → World → Prop} {F : List (Nat × Value)} {e : Exit} {r s t q : ResultVar} {v u x y : Value} (he : e = .ret ∨ e = .normal) (hF : Fr n [] F a) (hW : Stw B M Z w) (hr : fn.results = #[r,s,t,q]) (h1 : Rv P B M Z a r v) (h2 : Rv P B M Z a s u) (h3 : Rv P B M Z a t x) (h4 : Rv P B M Z a q y) (h : R (.returned (.tuple #[v,u,x,y])) w) : bodyPost P fn R e a w := by
  have : (results fn a.tmps).run P w = .ok (.tuple #[v,u,x,y]) w := by
    rw [Ix,hr]
    have e1 := h1 w hW
    have e2 := h2 w hW
    have e3 := h3 w hW
    have e4 := h4 w hW
    simp [e1,e2,e3,e4]
  rcases he with rfl | rfl <;> exact ⟨hF.defers,_,this,h⟩
end
end Go.Proofs.YtbiekjhlijdjbaaGreat
