/- Rows: elements put over others (append in place, clear, copy), slices with a capacity. Conditions: none. -/
import Derived.Test.YtkhiflmalgkjiaaGreatfOE
set_option linter.unusedVariables false
set_option linter.unusedSimpArgs false
open Go Go.RowKit
namespace Go.Proofs.YtkhiflmalgkjiaaGreat
def tP {α : Type} (l : List α) (p : Int) (l2 : List α) : Option (List α) := if 0 ≤ p ∧ p + l2.length ≤ l.length then some (l.take p.toNat ++ l2 ++ l.drop (p.toNat + l2.length)) else none
theorem iN {α : Type} {l l2 l3 : List α} {p : Int} (h : tP l p l2 = some l3) : 0 ≤ p ∧ p + l2.length ≤ l.length ∧ l3 = l.take p.toNat ++ l2 ++ l.drop (p.toNat + l2.length) := by
  unfold tP at h
  split at h
  · rename_i hc; cases h; exact ⟨hc.1,hc.2,rfl⟩
  · cases h
section
variable {P : Program} {B : Bs} {M M' : CU} {Z Z' Z1 : List It} {n : Nat} {ds : List Deferred} {F F' : List (Nat × Value)} {a : Act} {w w' : World}
variable {ops : Array Oper} {Q : Exit → Act → World → Prop} {rest : List Oper} {o : Oper}
variable {dst : Option Tmp} {ty : TypeId} {pos : String} {aft : Array Edge} {g : Option (Nat × Bool)}
variable {α : Type} {r : Rp α} {l l1 l2 l3 : List α} {v u : Value} {x : α} {i : Int} {t e by_ : Nat}
theorem B1.splice {A : Nat → Prop} {xs ys : List Value} {p : Nat} (h : B1 r w A xs l) (h2 : B1 r w A ys l2) (hp : p + l2.length ≤ l.length) : B1 r w A (xs.take (p * r.sz) ++ ys ++ xs.drop (p * r.sz + ys.length)) (l.take p ++ l2 ++ l.drop (p + l2.length)) := by
  have e : p * r.sz + ys.length = (p + l2.length) * r.sz := by rw [h2.len,Nat.add_mul]
  rw [e]
  exact ((h.take p).append h2).append (h.drop (p + l2.length))
theorem H5.storeR {A : Nat → Prop} {p : Nat} {ys : List Value} (h : H5 w A e r v l) (hp : p + l2.length ≤ l.length) (h0 : 0 < l2.length) (hys : B1 r w A ys l2) (hA : ∀ b,A b → Ib v ≠ some b) :
    ∃ w',(storeCells ⟨QQ v,Qb v + p * r.sz,none⟩ ys).run P w = .ok () w' ∧ w.grownBy w' (Ib v) ∧ ∀ A',IP w w' A A' → H5 w' A' e r v (l.take p ++ l2 ++ l.drop (p + l2.length)) := by
  rcases h with ⟨ad,rfl,rfl⟩ | ⟨b,off,cap,cur,xs,rfl,hcp,hb,hc,hcm,hcs,ht,hr⟩
  · simp only [List.length_nil] at hp; omega
  · have hyl := hys.len
    have hxl := hr.len
    have hcap : l.length * r.sz ≤ cap * r.sz := Nat.mul_le_mul_right _ hc
    have hin : p * r.sz + ys.length ≤ l.length * r.sz := by rw [hyl, ← Nat.add_mul]; exact Nat.mul_le_mul_right _ hp
    have hst := run_storeCells_at P b (off + p * r.sz) e ys 0 cur w hb (by omega) (fun v hv => List.all_eq_true.1 hys.one v hv)
    simp only [Nat.add_zero] at hst
    refine ⟨_,hst,⟨rfl,rfl,rfl,by simp [World.setRow],fun k _ hk => setRow_other w b k _ (fun e => hk (by rw [EB hcp,e]))⟩,fun A' hkp => ?_⟩
    have hset := (hr.stab hkp).splice (hys.stab hkp) hp
    have e1 : (l.take p ++ l2 ++ l.drop (p + l2.length)).length = l.length := by simp; omega
    refine .inr ⟨b,off,cap,_,_,by rw [e1],hcp,setRow_heap w b cur _ e _ hb,by rw [e1]; exact hc,hcm, ?_,rfl, ?_⟩
    · simp only [List.size_toArray,List.length_append,List.length_take,List.length_drop,Array.length_toList]
      omega
    · have hcur : cur.toList = cur.toList.take off ++ (xs ++ (cur.toList.drop off).drop (l.length * r.sz)) := by
        rw [← ht,List.take_append_drop,List.take_append_drop]
      have hol : (cur.toList.take off).length = off := by rw [List.length_take,Array.length_toList]; omega
      have f1 : (cur.toList.take (off + p * r.sz)) = cur.toList.take off ++ xs.take (p * r.sz) := by
        conv => lhs; rw [hcur]
        rw [List.take_append,hol,List.take_of_length_le (by omega),List.take_append_of_le_length (by omega)]
        congr 2; omega
      have f2 : (cur.toList.drop (off + p * r.sz + ys.length)) = xs.drop (p * r.sz + ys.length) ++ (cur.toList.drop off).drop (l.length * r.sz) := by
        conv => lhs; rw [hcur]
        rw [List.drop_append,hol,List.drop_eq_nil_of_le (by omega),List.nil_append,List.drop_append_of_le_length (by omega)]
        congr 2; omega
      have key : ((cur.toList.take (off + p * r.sz) ++ ys ++ cur.toList.drop (off + p * r.sz + ys.length)).drop off).take (l.length * r.sz) = xs.take (p * r.sz) ++ ys ++ xs.drop (p * r.sz + ys.length) := by
        rw [f1,f2,List.append_assoc,List.append_assoc,List.drop_left' hol]
        have hlen : (xs.take (p * r.sz) ++ (ys ++ xs.drop (p * r.sz + ys.length))).length = l.length * r.sz := by
          simp only [List.length_append,List.length_take,List.length_drop]
          omega
        have h9 := List.take_left (l₁ := xs.take (p * r.sz) ++ (ys ++ xs.drop (p * r.sz + ys.length))) (l₂ := (cur.toList.drop off).drop (l.length * r.sz))
        rw [hlen] at h9
        simp only [List.append_assoc] at h9 ⊢
        exact h9
      rw [e1]
      show B1 r _ A' (((cur.toList.take (off + p * r.sz) ++ ys ++ cur.toList.drop (off + p * r.sz + ys.length)).drop off).take (l.length * r.sz)) _
      rw [key]; exact hset
theorem Xz {b off cap m : Nat} (lo hi : Int) (sz : Nat) : Ep (.slice (some ⟨b,off,none⟩) m cap) lo hi sz = .slice (some ⟨b,if cap = lo.toNat then off else off + lo.toNat * sz,none⟩) (hi.toNat - lo.toNat) (cap - lo.toNat) := by
  simp only [Ep,Option.map_some]
  split
  · rfl
  · rw [Eg]
theorem jF {s : Operand} {k : Nat} {lo hi : Int} {z : Value} (z0 : α) (hF : Fr n ds F a) (hW : Stw B M Z w) (E : Et P t e r.sz by_) (hz : (P.info? e).bind (·.zero) = some z) (hs : C7 F s = some (Ep v lo hi r.sz))
    (hZ : Z[k]? = some (row v e r l)) (hZ1 : Z.eraseIdx k = Z1) (hs1 : JV l lo hi = some l1) (hr : ∀ w A,r.rep w A z.cells.toList z0) (hsp : tP l lo (List.replicate l1.length z0) = some l3)
    (kk : ∀ w',Stw B M (row v e r l3 :: Z1) w' → wpList P ops Q rest a w') :
    wpList P ops Q (⟨none,.call ⟨.builtin .clear, #[s], #[t]⟩,ty,pos,aft,none⟩ :: rest) a w := by
  have hW1 := hW.permZ (HO hZ hZ1)
  obtain ⟨h1,h2,e3⟩ := iN hsp
  obtain ⟨g1,g2,g3,e1⟩ := Io hs1
  have hl1 : l1.length = hi.toNat - lo.toNat := by rw [e1]; simp; omega
  obtain ⟨inf,z',hi',hz',his,hib,hzs⟩ := E.info
  have hzz : z' = z := by rw [hi'] at hz; simp only [za] at hz; rw [hz'] at hz; exact Option.some.inj hz
  subst hzz
  have hown : H5 w (Fz B (Aq M (row v e r l :: Z1))) e r v l := hW1.items _ (List.mem_cons_self ..)
  have hA : ∀ b,Fz B (Aq M (row v e r l :: Z1)) b → Ib v ≠ some b := fun b hb he => hb.2 (D1 (z := row v e r l) (List.mem_cons_self ..) (H0.2 he))
  have hxe := hF.eval hs
  have hv : (∃ ad,v = .slice ad 0 0 ∧ l = []) ∨ ∃ b off cap,v = .slice (some ⟨b,off,none⟩) l.length cap ∧ 0 < cap ∧ l.length ≤ cap := by
    rcases hown with h | ⟨b,off,cap,cur,xs,hv,hcp,hb,hc,_⟩
    · exact .inl h
    · exact .inr ⟨b,off,cap,hv,hcp,hc⟩
  have hgo : ∃ w',(Builtin.clear_ #[t] ty #[Ep v lo hi r.sz]).run P w = .ok (.tuple #[]) w' ∧ w.grownBy w' (Ib v) ∧ ∀ A',IP w w' (Fz B (Aq M (row v e r l :: Z1))) A' → H5 w' A' e r v l3 := by
    by_cases h0 : l1.length = 0
    · refine ⟨w, ?_,⟨rfl,rfl,rfl,Nat.le_refl _,fun _ _ _ => rfl⟩,fun A' hk => ?_⟩
      · obtain ⟨ad,cc,hsl⟩ : ∃ ad cc,Ep v lo hi r.sz = .slice ad 0 cc := by
          rcases hv with ⟨ad,rfl,rfl⟩ | ⟨b,off,cap,hv,_⟩
          · simp only [List.length_nil] at g3
            obtain ⟨rfl,rfl⟩ : lo = 0 ∧ hi = 0 := by omega
            exact ⟨ad,0,by simp [Ep]⟩
          · rw [hv,Xz,show hi.toNat - lo.toNat = 0 by omega]; exact ⟨_,_,rfl⟩
        rw [hsl]
        cases ad <;> simp [Builtin.clear_,run_underlying E.desc]
      · have : l3 = l := by rw [e3,h0]; simp
        rw [this]; exact hown.stab hk fun _ _ => rfl
    · rcases hv with ⟨ad,rfl,rfl⟩ | ⟨b,off,cap,hv,hcp,hcl⟩
      · simp at g3; omega
      · have hzc : z'.cells.toList.length = r.sz := by simpa using hzs
        have hrep : B1 r w (Fz B (Aq M (row v e r l :: Z1))) (List.replicate l1.length z'.cells.toList).flatten (List.replicate l1.length z0) := B1.rep (hr w _) _
        obtain ⟨w',hst,hg,ho⟩ := H5.storeR (P := P) (p := lo.toNat) hown (by simp; omega) (by simp; omega) hrep hA
        have hcz : (Builtin.zeroCells z'.cells l1.length).toList = (List.replicate l1.length z'.cells.toList).flatten := by
          have := YO z'.cells.toList (by rw [hzc]; exact E.pos) l1.length
          rw [← this]
          simp [Builtin.zeroCells,madeCells]
        have hne : ¬ cap = lo.toNat := by omega
        refine ⟨w', ?_,hg,fun A' hk => ?_⟩
        · rw [hv] at hst
          simp only [QQ,Qb] at hst
          obtain ⟨m,hm⟩ : ∃ m,hi.toNat - lo.toNat = m + 1 := ⟨hi.toNat - lo.toNat - 1,by omega⟩
          rw [hv,Xz,if_neg hne,hm]
          have hcz' : (Builtin.zeroCells z'.cells (m + 1)).toList = (List.replicate l1.length z'.cells.toList).flatten := by rw [← hcz,hl1,hm]
          have hzv : (zeroValue e).run P w = .ok z' w := OJ hz _
          simp [Builtin.clear_,run_underlying E.desc,hzv,hcz',hst]
        · rw [e3]; exact ho A' hk
  obtain ⟨w',hr',hgr,hown'⟩ := hgo
  unfold wpList
  rw [if_pos (BN rfl)]
  refine .inl ?_
  unfold Oper.wp
  have hrun : (execOp a.eval ⟨none,.call ⟨.builtin .clear, #[s], #[t]⟩,ty,pos,aft,none⟩).run P w = .ok (.value (.tuple #[])) w' := by
    simp [execOp,Ef,invoke,builtin,hxe,hr']
  rw [hrun]
  exact kk w' (hW1.rowTurn hgr (fun A _ hk => hown' A hk) (fun g hg => .inl hg))
theorem YQ {Ml M : CU} {Zl Z : List It} {g : Nat} (h : g ∈ Aq Ml Zl) : g ∈ Aq (Ml ++ M) (Zl ++ Z) :=
  (List.Sublist.append ((List.sublist_append_left _ _).map _) (Hx (List.sublist_append_left _ _))).subset h
theorem Stw.roX {X' : List Nat} (h : Stw B M Z w) (hs : Sl B.w0 (NX B.X) r v l) (hsub : ∀ g ∈ X',g ∈ Aq M Z) : Sl w (NX X') r v l :=
  hs.stab fun b hb hlt => ⟨fun hm => by
    rcases h.own b (hsub b hm) with h1 | h1
    · exact hb h1
    · omega,h.frm.block b hlt hb⟩
theorem Aby {Ml : CU} {Zl : List It} {e : TypeId} (h : Stw B (Ml ++ M) (Zl ++ Z) w) (i : Nat) (hZ : Z[i]? = some (row v e r l)) : Sl w (NX (Aq Ml Zl)) r v l := by
  have hZ2 : (Zl ++ Z)[Zl.length + i]? = some (row v e r l) := by rw [List.getElem?_append_right (by omega),Nat.add_sub_cancel_left]; exact hZ
  have hp : (Aq (Ml ++ M) (Zl ++ Z)).Perm (Aq Ml Zl ++ Aq M Z) := by
    unfold Aq
    rw [List.map_append,List.flatMap_append]
    simp only [List.append_assoc]
    refine List.Perm.append_left _ ?_
    rw [← List.append_assoc, ← List.append_assoc]
    exact List.Perm.append_right _ List.perm_append_comm
  have hnd := List.nodup_append.1 (hp.nodup_iff.1 h.nodup)
  refine H5.sl (A := Fz B (Aq (Ml ++ M) (Zl ++ Z))) (e := e) (h.item hZ2) (fun b hb hm => hb.2 (hp.mem_iff.2 (List.mem_append_left _ hm))) fun g hg hm => ?_
  exact hnd.2.2 g hm g (D1 (Fd hZ) (show g ∈ (row v e r l).bl from H0.2 hg)) rfl
end
end Go.Proofs.YtkhiflmalgkjiaaGreat
