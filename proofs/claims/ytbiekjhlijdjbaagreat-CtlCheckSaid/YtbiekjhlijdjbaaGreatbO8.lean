/- Stores into rows, rows that go on as parts, calls. Conditions: none. -/
import Derived.Test.YtbiekjhlijdjbaaGreatbO6
import Derived.Laws.BytesString
import Derived.Laws.MakeOwn
set_option linter.unusedVariables false
set_option linter.unusedSimpArgs false
open Go Go.RowKit
namespace Go.Proofs.YtbiekjhlijdjbaaGreat
section
variable {P : Program} {B : Bs} {M M' M2 Ml : Bi} {Z Z' Z1 Z2 Zl : List It} {n : Nat} {ds : List Deferred} {F F' : List (Nat × Value)} {a : Act} {w w' : World}
variable {ops : Array Oper} {Q : Exit → Act → World → Prop} {rest : List Oper} {o : Oper}
variable {dst : Option Tmp} {ty : TypeId} {pos : String} {aft : Array Edge} {g : Option (Nat × Bool)}
variable {α : Type} {r : Rp α} {l l2 l3 : List α} {v u : Value} {x x' : α} {i : Int} {t e by_ : Nat}
theorem RB (v : Value) (lo hi : Int) (sz : Nat) {g : Nat} (h : ES (Ct v lo hi sz) = some g) : ES v = some g := by
  cases v with
  | slice a _ c =>
    cases a with
    | none => simp only [Ct,Option.map_none] at h; split at h <;> cases h
    | some a =>
      simp only [Ct,Option.map_some] at h
      split at h
      · rename_i hc; rw [hc,Nat.sub_self,DK] at h; cases h
      · by_cases h0 : c - lo.toNat = 0
        · rw [h0,DK] at h; cases h
        · rw [CL (by omega)] at h
          rw [CL (by omega), ← h]
          congr 1
          unfold Addr.add; split <;> rfl
  | _ => exact h
theorem DZ.sub {A : Nat → Prop} {lo hi : Int} (h : DZ w A e r v l) (hs : GF l lo hi = some l2) : DZ w A e r (Ct v lo hi r.sz) l2 := by
  obtain ⟨h1,h2,h3,rfl⟩ := Fo hs
  rcases h with ⟨ad,rfl,rfl⟩ | ⟨b,off,cap,cur,xs,rfl,hcp,hb,hc,hcm,hcs,ht,hr⟩
  · have : lo = 0 ∧ hi = 0 := by simp at h3; omega
    obtain ⟨rfl,rfl⟩ := this
    exact .inl ⟨ad,by simp [Ct],by simp⟩
  · have hlen : ((l.take hi.toNat).drop lo.toNat).length = hi.toNat - lo.toNat := by simp; omega
    by_cases hq : cap = lo.toNat
    · have hz : ((l.take hi.toNat).drop lo.toNat) = [] := List.eq_nil_of_length_eq_zero (by omega)
      have h0 : hi.toNat - lo.toNat = 0 := by omega
      refine .inl ⟨some ⟨b,off,none⟩, ?_,hz⟩
      simp [Ct,hq,hlen,h0, -List.length_drop, -List.length_take]
    · have hle : lo.toNat * r.sz + (cap - lo.toNat) * r.sz = cap * r.sz := by rw [← Nat.add_mul]; congr 1; omega
      refine .inr ⟨b,off + lo.toNat * r.sz,cap - lo.toNat,cur,_, ?_,by omega,hb,by omega,by omega,by omega,rfl, ?_⟩
      · simp only [Ct,if_neg hq,Option.map_some,hlen]
        unfold Addr.add
        split <;> simp_all
      · have h4 := (hr.take hi.toNat).drop lo.toNat
        have e1 : ((cur.toList.drop (off + lo.toNat * r.sz)).take (((l.take hi.toNat).drop lo.toNat).length * r.sz)) = (xs.take (hi.toNat * r.sz)).drop (lo.toNat * r.sz) := by
          rw [hlen, ← ht,List.take_take,Nat.min_eq_left (Nat.mul_le_mul_right _ (by omega)),List.drop_take,List.drop_drop,Nat.sub_mul]
        rw [e1]; exact h4
theorem Stw.subRow {k : Nat} {lo hi : Int} (h : Stw B M Z w) (hZ : Z[k]? = some (row v e r l)) (hZ1 : Z.eraseIdx k = Z1) (hs : GF l lo hi = some l2) : Stw B M (row (Ct v lo hi r.sz) e r l2 :: Z1) w :=
  (h.permZ (CH hZ hZ1)).rowTurn ⟨rfl,rfl,rfl,Nat.le_refl _,fun _ _ _ => rfl⟩ (fun A ho hk => (ho.stab hk fun _ _ => rfl).sub hs) (fun g hg => .inl (RB _ _ _ _ hg))
theorem Stw.one (h : Stw B M Z w) {k : Nat} (hZ : Z[k]? = some (row v e r l)) : v.oneCell' = true := DZ.one (A := Fz B (AA M Z)) (e := e) (r := r) (l := l) (h.item hZ)
theorem Stw.oneF (h : Stw B M Z w) {k : Nat} (hZ : Z[k]? = some (KB v r l)) : v.oneCell' = true := Sl.one (A := Fz B (AA M Z)) (r := r) (l := l) (h.item hZ)
theorem P9 {s : Operand} {ad : Addr} (hF : Fr n ds F a) (hx : Bo F s = some (.pointer (some ad))) : Yx P B M Z a ⟨dst,.nilCheck s,ty,pos,aft,g⟩ (.pointer (some ad)) :=
  AZ fun w _ => by simp [execOp,hF.eval hx]
theorem Gd (h : v.oneCell' = true) : v.cells.toList = [v] := by
  cases v <;> first | rfl | (simp [Value.oneCell'] at h)
theorem IZ {t : TypeId} {s q : Operand} {b off : Nat} {cs : List Value} (i : Nat) (hF : Fr n ds F a) (hW : Stw B M Z w) (hx : Bo F s = some (.pointer (some ⟨b,off,none⟩))) (hy : Bo F q = some v) (hM : M[i]? = some (b,cs)) (T : Ty P t false 1)
    (h1 : v.oneCell' = true) (hl : Nat.blt off cs.length = true) (hM' : M.set i (b,cs.set off v) = M')
    (k : ∀ w',Stw B M' Z w' → wpList P ops Q rest a w') : wpList P ops Q (⟨none,.store t s q,ty,pos,aft,none⟩ :: rest) a w :=
  QJ (vs := [v]) i hF hW hx hy hM T (Gd h1) rfl hl (by simp [h1]) hM' k
theorem Gy : ∀ (vs cs : List Value) (o : Nat),o + vs.length ≤ cs.length → DI cs o vs = cs.take o ++ vs ++ cs.drop (o + vs.length)
  | [],cs,o,_ => by simp [DI]
  | v :: r,cs,o,h => by
    simp only [List.length_cons] at h
    simp only [DI]
    rw [Gy r (cs.set o v) (o + 1) (by simp; omega)]
    have e1 : (cs.set o v).take (o + 1) = cs.take o ++ [v] := by
      rw [List.take_add_one,List.take_set_of_le (Nat.le_refl o)]
      simp [show o < cs.length by omega]
    rw [e1,List.drop_set_of_lt (by omega)]
    rw [List.length_cons,show o + (r.length + 1) = o + 1 + r.length by omega]
    simp only [List.append_assoc,List.cons_append,List.nil_append]
theorem DZ.store {A : Nat → Prop} {j : Nat} {vs : List Value} (h : DZ w A e r v l) (hik : ix l i = some x) (hle : j + vs.length ≤ r.sz) (h1 : vs.all (·.oneCell') = true)
    (hA : ∀ b,A b → ES v ≠ some b) (hrep : ∀ cs,r.rep w A cs x → r.rep w A (DI cs j vs) x') :
    ∃ w',(storeCells ⟨GR v,Dt v + i.toNat * r.sz + j,none⟩ vs).run P w = .ok () w' ∧ w.grownBy w' (ES v) ∧ ∀ A',E5 w w' A A' → DZ w' A' e r v (Ao l i x') := by
  obtain ⟨h0,hk,hx⟩ := F9 hik
  rcases h with ⟨ad,rfl,rfl⟩ | ⟨b,off,cap,cur,xs,rfl,hcp,hb,hc,hcm,hcs,ht,hr⟩
  · simp at hk
  · have hcap : l.length * r.sz ≤ cap * r.sz := Nat.mul_le_mul_right _ hc
    have hin : i.toNat * r.sz + r.sz ≤ l.length * r.sz := by rw [← Nat.succ_mul]; exact Nat.mul_le_mul_right _ hk
    have hxl := hr.len
    obtain ⟨cs,hcs1,hcs2⟩ := hr.get hx
    have hcl := r.len hcs1
    have hst := run_storeCells_at P b (off + i.toNat * r.sz + j) e vs 0 cur w hb (by omega) (fun v hv => List.all_eq_true.1 h1 v hv)
    simp only [Nat.add_zero] at hst
    refine ⟨_,hst,⟨rfl,rfl,rfl,by simp [World.setRow],fun k _ hk => setRow_other w b k _ (fun e => hk (by rw [CL hcp,e]))⟩,fun A' hkp => ?_⟩
    have hset := (hr.stab hkp).set hk ((r.stab (hrep cs hcs1) hkp))
    refine .inr ⟨b,off,cap,_,_,by simp [Ao],hcp,setRow_heap w b cur _ e _ hb,by simpa [Ao] using hc,hcm, ?_,rfl, ?_⟩
    · simp only [List.size_toArray,List.length_append,List.length_take,List.length_drop,Array.length_toList]
      omega
    · have hxs : cs = (xs.drop (i.toNat * r.sz)).take r.sz := by
        refine List.ext_getElem? fun q => ?_
        by_cases hq : q < r.sz
        · rw [List.getElem?_take_of_lt hq,List.getElem?_drop]
          have hq' : q < cs.length := by omega
          rw [hcs2 q cs[q] (zb hq')]
          exact zb hq'
        · rw [List.getElem?_eq_none (by omega),List.getElem?_eq_none (by simp; omega)]
      have e1 : (Ao l i x').length = l.length := by simp [Ao]
      have key : ((cur.toList.take (off + i.toNat * r.sz + j) ++ vs ++ cur.toList.drop (off + i.toNat * r.sz + j + vs.length)).drop off).take (l.length * r.sz) = xs.take (i.toNat * r.sz) ++ DI cs j vs ++ xs.drop (i.toNat * r.sz + r.sz) := by
        rw [Gy vs cs j (by omega)]
        have hcur : cur.toList = cur.toList.take off ++ (xs ++ (cur.toList.drop off).drop (l.length * r.sz)) := by
          rw [← ht,List.take_append_drop,List.take_append_drop]
        have hol : (cur.toList.take off).length = off := by rw [List.length_take,Array.length_toList]; omega
        have f1 : (cur.toList.take (off + i.toNat * r.sz + j)) = cur.toList.take off ++ xs.take (i.toNat * r.sz + j) := by
          conv => lhs; rw [hcur]
          rw [List.take_append,hol,List.take_of_length_le (by omega),List.take_append_of_le_length (by omega)]
          congr 2; omega
        have f2 : (cur.toList.drop (off + i.toNat * r.sz + j + vs.length)) = xs.drop (i.toNat * r.sz + j + vs.length) ++ (cur.toList.drop off).drop (l.length * r.sz) := by
          conv => lhs; rw [hcur]
          rw [List.drop_append,hol,List.drop_eq_nil_of_le (by omega),List.nil_append,List.drop_append_of_le_length (by omega)]
          congr 2; omega
        rw [f1,f2,List.append_assoc,List.append_assoc,List.drop_left' hol]
        have g1 : xs.take (i.toNat * r.sz + j) = xs.take (i.toNat * r.sz) ++ cs.take j := by
          rw [List.take_add,hxs,List.take_take,Nat.min_eq_left (by omega)]
        have g2 : xs.drop (i.toNat * r.sz + j + vs.length) = cs.drop (j + vs.length) ++ xs.drop (i.toNat * r.sz + r.sz) := by
          have hd : xs.drop (i.toNat * r.sz) = cs ++ xs.drop (i.toNat * r.sz + r.sz) := by
            rw [hxs, ← List.drop_drop,List.take_append_drop]
          rw [Nat.add_assoc, ← List.drop_drop,hd,List.drop_append_of_le_length (by omega)]
        rw [g1,g2]
        have hlen : (xs.take (i.toNat * r.sz) ++ cs.take j ++ (vs ++ (cs.drop (j + vs.length) ++ xs.drop (i.toNat * r.sz + r.sz)))).length = l.length * r.sz := by
          simp only [List.length_append,List.length_take,List.length_drop]
          omega
        have h9 := List.take_left (l₁ := xs.take (i.toNat * r.sz) ++ cs.take j ++ (vs ++ (cs.drop (j + vs.length) ++ xs.drop (i.toNat * r.sz + r.sz)))) (l₂ := (cur.toList.drop off).drop (l.length * r.sz))
        rw [hlen] at h9
        simp only [List.append_assoc] at h9 ⊢
        exact h9
      rw [e1,key]
      exact hset
theorem BE {t : TypeId} {s q : Operand} {agg : Bool} {sz off j k : Nat} {vs : List Value} {y : Value} (hF : Fr n ds F a) (hW : Stw B M Z w) (hx : Bo F s = some (.pointer (some ⟨GR v,off,none⟩))) (hy : Bo F q = some y)
    (ho : off = Dt v + i.toNat * r.sz + j) (hZ : Z[k]? = some (row v e r l)) (hZ1 : Z.eraseIdx k = Z1) (hik : ix l i = some x) (T : Ty P t agg sz) (hv : y.cells.toList = vs) (hsz : vs.length = sz) (hle : Nat.ble (j + vs.length) r.sz = true) (h1 : vs.all (·.oneCell') = true)
    (hrep : ∀ A cs,(∀ b,Fz B (AA M Z) b → A b) → r.rep w A cs x → r.rep w A (DI cs j vs) x')
    (kk : ∀ w',Stw B M (row v e r (Ao l i x') :: Z1) w' → wpList P ops Q rest a w') : wpList P ops Q (⟨none,.store t s q,ty,pos,aft,none⟩ :: rest) a w := by
  subst ho
  have hW1 := hW.permZ (CH hZ hZ1)
  have hbl : ∀ b,Fz B (AA M Z) b → Fz B (AA M (row v e r l :: Z1)) b := fun b hb => hb.mono fun g hg => (List.Perm.append_left _ ((CH hZ hZ1).flatMap_right _)).mem_iff.2 hg
  obtain ⟨w',hr,hgr,hown⟩ := DZ.store (P := P) (w := w) (hW1.items _ (List.mem_cons_self ..) : DZ w _ e r v l) hik (ze hle) h1 (fun b hb he => hb.2 (BT (z := row v e r l) (List.mem_cons_self ..) (Dx.2 he))) (fun cs => hrep _ cs hbl)
  unfold wpList
  rw [if_pos (Ba rfl)]
  refine .inl ?_
  unfold Oper.wp
  have hs : y.cells.size = sz := by rw [← hsz, ← hv]; simp
  have hrun : (execOp a.eval ⟨none,.store t s q,ty,pos,aft,none⟩).run P w = .ok .skip w' := by
    subst hv
    simp [execOp,hF.eval hx,hF.eval hy,Instr.storeAt,Instr.sureAddr,storeVar,T.sizeOf,hs,hr]
  rw [hrun]
  exact kk w' (hW1.rowTurn hgr (fun A _ hk => hown A hk) (fun g hg => .inl hg))
theorem Frm.join {X Xl : List Nat} {w0 : World} (h : Frm X w0 w) (h2 : Frm Xl w w') (hx : ∀ b ∈ Xl,b ∈ X ∨ w0.heap.size ≤ b) : Frm X w0 w' :=
  ⟨h2.os.trans h.os,h2.tape.trans h.tape,h2.output.trans h.output,Nat.le_trans h.size h2.size,fun k hk hX => (h2.block k (Nat.lt_of_lt_of_le hk h.size) fun hm => (hx k hm).elim hX fun h => by omega).trans (h.block k hk hX)⟩
theorem Stw.lend (h : Stw B (Ml ++ M) (Zl ++ Z) w) : Stw ⟨Fz B (AA (Ml ++ M) (Zl ++ Z)),AA Ml Zl,w⟩ Ml Zl w := by
  have hs : ∀ g ∈ AA Ml Zl,g ∈ AA (Ml ++ M) (Zl ++ Z) := fun g hg => (List.Sublist.append ((List.sublist_append_left _ _).map _) (Es (List.sublist_append_left _ _))).subset hg
  have h1 := h.sub (List.sublist_append_left Ml M) (List.sublist_append_left Zl Z)
  exact ⟨Frm.refl _ _,fun g hg => .inl hg,h1.at_,fun z hz => z.stab (h.items z (List.mem_append_left _ hz)) (fun b hA _ => ⟨⟨.inl hA,fun hm => hA.2 (hs b hm)⟩,rfl⟩) fun _ _ => rfl,h1.nodup,fun b hb hY => hY.2 (hs b hb)⟩
theorem Stw.join (h : Stw B (Ml ++ M) (Zl ++ Z) w) (h2 : Stw ⟨Fz B (AA (Ml ++ M) (Zl ++ Z)),AA Ml Zl,w⟩ M2 Z2 w') : Stw B (M2 ++ M) (Z2 ++ Z) w' := by
  have hp : ∀ {A C : Bi} {D E : List It},(AA (A ++ C) (D ++ E)).Perm (AA A D ++ AA C E) := by
    intro A C D E
    unfold AA
    rw [List.map_append,List.flatMap_append]
    simp only [List.append_assoc]
    refine List.Perm.append_left _ ?_
    rw [← List.append_assoc, ← List.append_assoc]
    exact List.Perm.append_right _ List.perm_append_comm
  have hnd := List.nodup_append.1 (hp.nodup_iff.1 h.nodup)
  have hl : ∀ g ∈ AA Ml Zl,g ∈ AA (Ml ++ M) (Zl ++ Z) := fun g hg => hp.mem_iff.2 (List.mem_append_left _ hg)
  have hr : ∀ g ∈ AA M Z,g ∈ AA (Ml ++ M) (Zl ++ Z) := fun g hg => hp.mem_iff.2 (List.mem_append_right _ hg)
  have hlt : ∀ g ∈ AA M Z,g < w.heap.size := fun g hg => h.lt_all (hr g hg)
  have hne : ∀ g ∈ AA M Z,g ∉ AA Ml Zl := fun g hg hm => hnd.2.2 g hm g hg rfl
  have hsame : ∀ g,g < w.heap.size → g ∉ AA Ml Zl → w'.heap[g]? = w.heap[g]? := h2.frm.block
  have hown2 : ∀ g ∈ AA M2 Z2,g ∈ AA Ml Zl ∨ w.heap.size ≤ g := h2.own
  have hd2 : ∀ g ∈ AA M2 Z2,g ∉ AA M Z := fun g hg hm => by
    rcases hown2 g hg with h1 | h1
    · exact hne g hm h1
    · have := hlt g hm; omega
  refine ⟨h.frm.join h2.frm fun b hb => h.own b (hl b hb),fun g hg => ?_,fun p hpm => ?_,fun z hz => ?_,hp.nodup_iff.2 (List.nodup_append.2 ⟨h2.nodup,hnd.2.1,fun a ha b hb e => hd2 a ha (e ▸ hb)⟩),h.disj⟩
  · rcases List.mem_append.1 (hp.mem_iff.1 hg) with hg | hg
    · rcases hown2 g hg with h1 | h1
      · exact h.own g (hl g h1)
      · exact .inr (Nat.le_trans h.frm.size h1)
    · exact h.own g (hr g hg)
  · rcases List.mem_append.1 hpm with hpm | hpm
    · exact h2.at_ p hpm
    · obtain ⟨t,ht⟩ := h.at_ p (List.mem_append_right _ hpm)
      exact ⟨t,by rw [hsame _ (hlt _ (Du hpm)) (hne _ (Du hpm))]; exact ht⟩
  · rcases List.mem_append.1 hz with hz | hz
    · refine z.stab (h2.items z hz) (fun b hA _ => ⟨?_,rfl⟩) fun _ _ => rfl
      obtain ⟨h1,h3⟩ := hA
      have h4 : (B.Y b ∨ b ∈ B.X ∨ B.w0.heap.size ≤ b) ∧ b ∉ AA M Z := by
        rcases h1 with h1 | h1 | h1
        · exact ⟨h1.1,fun hm => h1.2 (hr b hm)⟩
        · exact ⟨.inr (h.own b (hl b h1)),fun hm => hne b hm h1⟩
        · exact ⟨.inr (.inr (Nat.le_trans h.frm.size h1)),fun hm => by have := hlt b hm; have : w.heap.size ≤ b := h1; omega⟩
      exact ⟨h4.1,fun hm => (List.mem_append.1 (hp.mem_iff.1 hm)).elim h3 h4.2⟩
    · refine z.stab (h.items z (List.mem_append_right _ hz)) (fun b hA hb => ⟨⟨hA.1,fun hm => ?_⟩,hsame b hb fun hm => hA.2 (hl b hm)⟩) fun g hg => hsame g (hlt g (BT hz hg)) (hne g (BT hz hg))
      rcases List.mem_append.1 (hp.mem_iff.1 hm) with hm | hm
      · rcases hown2 b hm with h1 | h1
        · exact hA.2 (hl b h1)
        · omega
      · exact hA.2 (hr b hm)
theorem A9 {β : Type} {f : FuncId} {xs : List Operand} {vs : List Value} {ts : Array TypeId} {d : Nat} {rv : β → Value} {MM : β → Bi} {ZZ : β → List It} (hF : Fr n ds F a) (hW : Stw B (Ml ++ M) (Zl ++ Z) w) (hP : Has P f) (hx : Pk F xs = some vs) (hn : Nat.blt d n = true)
    (c : Stw ⟨Fz B (AA (Ml ++ M) (Zl ++ Z)),AA Ml Zl,w⟩ Ml Zl w → Calls P f vs.toArray w fun e w' => ∃ x : β,e = .returned (rv x) ∧ Stw ⟨Fz B (AA (Ml ++ M) (Zl ++ Z)),AA Ml Zl,w⟩ (MM x) (ZZ x) w')
    (k : ∀ x a' w',Fr n ds ((d,rv x) :: F) a' → Stw B (MM x ++ M) (ZZ x ++ Z) w' → wpList P ops Q rest a' w') :
    wpList P ops Q (⟨some d,.call ⟨.value (.func f),xs.toArray,ts⟩,ty,pos,aft,none⟩ :: rest) a w :=
  WL hF hP hx hn (c hW.lend) (fun v w' a' ⟨x,he,hW2⟩ hF => by cases he; exact k x a' w' hF (hW.join hW2)) (fun ch w' ⟨x,he,_⟩ => by cases he) (fun w' ⟨x,he,_⟩ => by cases he)
end
end Go.Proofs.YtbiekjhlijdjbaaGreat
namespace Go.Proofs.YtbiekjhlijdjbaaGreat
abbrev w64 : Int → Int := IntKind.i64.wrap
structure Fl {α : Type} (r : Rp α) (enc : α → List Value) : Prop where
  to : Dr r enc
  mk' : ∀ (w : World) (A : Nat → Prop) (a : α),r.rep w A (enc a) a
theorem Fl.int {k : IntKind} : Fl (Rp.int k) fun a => [.int k a] := ⟨fun h => h,fun _ _ _ => rfl⟩
theorem Fl.bool : Fl Rp.bool fun a => [.bool a] := ⟨fun h => h,fun _ _ _ => rfl⟩
theorem Fl.str : Fl Rp.str fun a => [.string (bs a)] := ⟨fun h => h,fun _ _ _ => rfl⟩
theorem Fl.flt {k : FloatKind} : Fl (Rp.flt k) fun a => [.float k a] := ⟨fun h => h,fun _ _ _ => rfl⟩
theorem Fl.unit : Fl Rp.unit fun _ => [] := ⟨fun h => h,fun _ _ _ => rfl⟩
theorem Fl.pair {α β : Type} {r : Rp α} {s : Rp β} {e : α → List Value} {f : β → List Value} (h : Fl r e) (k : Fl s f) : Fl (r.pair s) fun a => e a.1 ++ f a.2 :=
  ⟨fun ⟨c1,c2,h0,h1,h2⟩ => by rw [h0,h.to h1,k.to h2],fun w A a => ⟨_,_,rfl,h.mk' w A a.1,k.mk' w A a.2⟩⟩
def flat {α : Type} (enc : α → List Value) (l : List α) : List Value := l.flatMap enc
theorem Fl.repL {α : Type} {r : Rp α} {enc : α → List Value} (h : Fl r enc) (w : World) (A : Nat → Prop) : ∀ l : List α,A8 r w A (flat enc l) l
  | [] => rfl
  | x :: l => ⟨enc x,flat enc l,by simp [flat],h.mk' w A x,h.repL w A l⟩
theorem Fl.sto {α : Type} {r : Rp α} {enc : α → List Value} (h : Fl r enc) {x x' : α} {j : Nat} {vs : List Value} (he : DI (enc x) j vs = enc x') (w : World) (A : Nat → Prop) (cs : List Value) (hc : r.rep w A cs x) : r.rep w A (DI cs j vs) x' := by
  rw [h.to hc,he]; exact h.mk' w A x'
section
variable {P : Program} {B : Bs} {M M' : Bi} {Z Z' Z1 : List It} {n : Nat} {ds : List Deferred} {F F' : List (Nat × Value)} {a : Act} {w w' : World}
variable {ops : Array Oper} {Q : Exit → Act → World → Prop} {rest : List Oper} {o : Oper}
variable {dst : Option Tmp} {ty : TypeId} {pos : String} {aft : Array Edge} {g : Option (Nat × Bool)} {v : Value}
variable {fn : Func} {R : Ending → World → Prop}
theorem Nk (ρ : Operand → Value) (d : Option Tmp) (op : Op) (ty : TypeId) (pos : String) (aft : Array Edge) (g : Option (Nat × Bool)) : execOp ρ ⟨d,op,ty,pos,aft,g⟩ = execOp ρ ⟨d,op,ty,pos,aft,none⟩ := by cases op <;> rfl
theorem Fq {op : Op} (hwt : Region.wanted ⟨dst,op,ty,pos,aft,g⟩ (yielded ops a.tmps) = true) (h : wpList P ops Q (⟨dst,op,ty,pos,aft,none⟩ :: rest) a w) : wpList P ops Q (⟨dst,op,ty,pos,aft,g⟩ :: rest) a w := by
  unfold wpList at h ⊢
  rw [if_pos hwt]
  rw [if_pos (Ba rfl)] at h
  unfold Oper.wp Oper.asks at *
  rw [Nk]
  exact h
theorem At.re {Y : Nat → Prop} {b off : Nat} {cs : List Value} (h : At B b off cs) (hW : Stw B M Z w) : At ⟨Y,[],w⟩ b off cs :=
  ⟨fun hm => (by cases hm),Nat.lt_of_lt_of_le h.lt hW.frm.size,fun j u hu => h.now hW hu⟩
theorem Stw.done {Y : Nat → Prop} {w0 : World} (h : Stw ⟨Y,[],w0⟩ M Z w) : Below w0.heap.size w0 w := h.frm.below
end
end Go.Proofs.YtbiekjhlijdjbaaGreat
namespace Go.Proofs.YtbiekjhlijdjbaaGreat
theorem HT (l : List UInt8) : (bs l).size = l.length := by simp [ByteArray.size]
theorem RG (l m : List UInt8) : bs l ++ bs m = bs (l ++ m) := by apply ByteArray.ext; simp
theorem Fm (l : List UInt8) : (bs l).toList = l := by simp
theorem Xg (l : List UInt8) (i : Nat) : (bs l)[i]? = l[i]? := by
  by_cases h : i < l.length
  · rw [zb h]
    have h' : i < (bs l).size := by rw [HT]; exact h
    simp only [getElem?_def,h',dite_true]
    rfl
  · rw [List.getElem?_eq_none (by omega)]
    have h' : ¬ i < (bs l).size := by rw [HT]; exact h
    simp only [getElem?_def,h',dite_false]
theorem Pw (l : List UInt8) (i j : Nat) : (bs l).extract i j = bs ((l.take j).drop i) := by
  apply ByteArray.ext; simp [List.drop_take]
def W7 (k : IntKind) (x y : Int) : Int := k.wrap (x * 2 ^ (min y.toNat k.bits))
def ID (k : IntKind) (x y : Int) : Int := x.fdiv (2 ^ (min y.toNat k.bits))
def LF (k : IntKind) (x y : Int) : Int := k.wrap (BitVec.ofInt k.bits x &&& BitVec.ofInt k.bits y).toNat
def Z7 (k : IntKind) (x y : Int) : Int := k.wrap (BitVec.ofInt k.bits x ||| BitVec.ofInt k.bits y).toNat
def XL (k : IntKind) (x y : Int) : Int := k.wrap (BitVec.ofInt k.bits x ^^^ BitVec.ofInt k.bits y).toNat
def IY (k : IntKind) (x y : Int) : Int := k.wrap (BitVec.ofInt k.bits x &&& ~~~ BitVec.ofInt k.bits y).toNat
theorem Ns (l m : List UInt8) : (l == m) = decide (l = m) := by by_cases h : l = m <;> simp [h]
abbrev VY : List UInt8 → List UInt8 → Bool := Op.bytesLess
section
variable {P : Program} {B : Bs} {M M' : Bi} {Z Z' Z1 : List It} {n : Nat} {ds : List Deferred} {F F' : List (Nat × Value)} {a : Act} {w w' : World}
variable {ops : Array Oper} {Q : Exit → Act → World → Prop} {rest : List Oper} {o : Oper}
variable {dst : Option Tmp} {ty : TypeId} {pos : String} {aft : Array Edge} {g : Option (Nat × Bool)} {v : Value}
variable {α : Type} {r : Rp α} {l m : List UInt8} {x y : Operand} {T T' t e by_ : Nat} {p q : Int} {k k' : IntKind}
theorem Za (hF : Fr n ds F a) (hx : Bo F x = some (.int k p)) (hy : Bo F y = some (.int k' q)) (h0 : 0 ≤ q) : Yx P B M Z a ⟨dst,.binOp .shl T x y T',ty,pos,aft,g⟩ (.int k (W7 k p q)) :=
  AZ fun w _ => by
    have : ¬ q < 0 := by omega
    simp [execOp,hF.eval hx,hF.eval hy,AR,binOp,Op.shift,this,W7]
theorem Jo (hF : Fr n ds F a) (hx : Bo F x = some (.int k p)) (hy : Bo F y = some (.int k' q)) (h0 : 0 ≤ q) : Yx P B M Z a ⟨dst,.binOp .shr T x y T',ty,pos,aft,g⟩ (.int k (ID k p q)) :=
  AZ fun w _ => by
    have : ¬ q < 0 := by omega
    simp [execOp,hF.eval hx,hF.eval hy,AR,binOp,Op.shift,this,ID]
theorem VO (hF : Fr n ds F a) (hx : Bo F x = some (.int k p)) (hy : Bo F y = some (.int k q)) : Yx P B M Z a ⟨dst,.binOp .and T x y T',ty,pos,aft,g⟩ (.int k (LF k p q)) :=
  AZ fun w _ => by simp [execOp,hF.eval hx,hF.eval hy,AR,binOp,Op.intBits,LF]
theorem Y6 (hF : Fr n ds F a) (hx : Bo F x = some (.int k p)) (hy : Bo F y = some (.int k q)) : Yx P B M Z a ⟨dst,.binOp .or T x y T',ty,pos,aft,g⟩ (.int k (Z7 k p q)) :=
  AZ fun w _ => by simp [execOp,hF.eval hx,hF.eval hy,AR,binOp,Op.intBits,Z7]
theorem VI (hF : Fr n ds F a) (hx : Bo F x = some (.int k p)) (hy : Bo F y = some (.int k q)) : Yx P B M Z a ⟨dst,.binOp .xor T x y T',ty,pos,aft,g⟩ (.int k (XL k p q)) :=
  AZ fun w _ => by simp [execOp,hF.eval hx,hF.eval hy,AR,binOp,Op.intBits,XL]
theorem LQ (hF : Fr n ds F a) (hx : Bo F x = some (.int k p)) (hy : Bo F y = some (.int k q)) : Yx P B M Z a ⟨dst,.binOp .andNot T x y T',ty,pos,aft,g⟩ (.int k (IY k p q)) :=
  AZ fun w _ => by simp [execOp,hF.eval hx,hF.eval hy,AR,binOp,Op.intBits,IY]
theorem Ec {src dst' : TypeId} (hs : P.underlying src = some (.int k)) (hd : P.underlying dst' = some (.int k')) (hF : Fr n ds F a) (hx : Bo F x = some (.int k p)) : Yx P B M Z a ⟨dst,.convert src dst' x,ty,pos,aft,g⟩ (.int k' (k'.wrap p)) :=
  AZ fun w _ => by simp [execOp,hF.eval hx,convert,Go.underlying,hs,hd,Conv.intToInt]
section
variable {ad : Addr} {pt : TypeId}
theorem Kz {s t : Option Addr} {u : Bool} (hT : P.underlying T = some (.pointer pt)) (hF : Fr n ds F a) (hx : Bo F x = some (.pointer s)) (hy : Bo F y = some (.pointer t)) (hu : ∀ w,(Op.equal T (.pointer s) (.pointer t)).run P w = .ok u w) :
    Yx P B M Z a ⟨dst,.binOp .eql T x y T',ty,pos,aft,g⟩ (.bool u) ∧ Yx P B M Z a ⟨dst,.binOp .neq T x y T',ty,pos,aft,g⟩ (.bool (!u)) := by
  constructor <;> exact AZ fun w _ => by simp [execOp,hF.eval hx,hF.eval hy,eqGuard,binOp,hu]
theorem PV (hT : P.underlying T = some (.pointer pt)) (d : Nat) (w : World) : (Op.equalIn (d + 1) T (.pointer none) (.pointer none)).run P w = .ok true w := by
  simp [Op.equalIn,Go.underlying,hT]
theorem QE (hT : P.underlying T = some (.pointer pt)) (w : World) : (Op.equal T (.pointer none) (.pointer none)).run P w = .ok true w := PV hT 9999 w
theorem J6 (hT : P.underlying T = some (.pointer pt)) (d : Nat) (w : World) : (Op.equalIn (d + 1) T (.pointer (some ad)) (.pointer none)).run P w = .ok false w := by
  simp [Op.equalIn,Go.underlying,hT]
theorem I4 (hT : P.underlying T = some (.pointer pt)) (w : World) : (Op.equal T (.pointer (some ad)) (.pointer none)).run P w = .ok false w := J6 hT 9999 w
theorem Cm (hT : P.underlying T = some (.pointer pt)) (hF : Fr n ds F a) (hx : Bo F x = some (.pointer none)) (hy : Bo F y = some (.pointer none)) : Yx P B M Z a ⟨dst,.binOp .eql T x y T',ty,pos,aft,g⟩ (.bool true) := (Kz hT hF hx hy (QE hT)).1
theorem Ik (hT : P.underlying T = some (.pointer pt)) (hF : Fr n ds F a) (hx : Bo F x = some (.pointer none)) (hy : Bo F y = some (.pointer none)) : Yx P B M Z a ⟨dst,.binOp .neq T x y T',ty,pos,aft,g⟩ (.bool false) := (Kz hT hF hx hy (QE hT)).2
theorem LB (hT : P.underlying T = some (.pointer pt)) (hF : Fr n ds F a) (hx : Bo F x = some (.pointer (some ad))) (hy : Bo F y = some (.pointer none)) : Yx P B M Z a ⟨dst,.binOp .eql T x y T',ty,pos,aft,g⟩ (.bool false) := (Kz hT hF hx hy (I4 hT)).1
theorem Lu (hT : P.underlying T = some (.pointer pt)) (hF : Fr n ds F a) (hx : Bo F x = some (.pointer (some ad))) (hy : Bo F y = some (.pointer none)) : Yx P B M Z a ⟨dst,.binOp .neq T x y T',ty,pos,aft,g⟩ (.bool true) := (Kz hT hF hx hy (I4 hT)).2
end
theorem XK {l3 : List UInt8} (hF : Fr n ds F a) (hx : Bo F x = some (.string (bs l))) (hy : Bo F y = some (.string (bs m))) (ha : app l m = some l3) : Yx P B M Z a ⟨dst,.binOp .add T x y T',ty,pos,aft,g⟩ (.string (bs l3)) :=
  AZ fun w _ => by
    obtain ⟨h1,rfl⟩ := ON ha
    have h2 : ¬ ((((bs l).size + (bs m).size : Nat) : Int) > IntKind.i64.max) := by rw [HT,HT]; have : IntKind.i64.max = 9223372036854775807 := rfl; omega
    have h3 : (Op.stringOp .add (bs l) (bs m)).run P w = .ok (.string (bs (l ++ m))) w := by
      unfold Op.stringOp
      simp only [if_neg h2]
      rw [RG]; rfl
    simp only [execOp,hF.eval hx,hF.eval hy,Sem.run_bind,Fp,binOp,h3,Result.andThen_ok]
    rfl
theorem HK {op : BinOp} {u : Bool} (h : (Op.stringOp op (bs l) (bs m)).run P w = .ok (.bool u) w) (h1 : op ≠ .shl) (h2 : op ≠ .shr) (hF : Fr n ds F a) (hx : Bo F x = some (.string (bs l))) (hy : Bo F y = some (.string (bs m))) : (execOp a.eval ⟨dst,.binOp op T x y T',ty,pos,aft,g⟩).run P w = .ok (.value (.bool u)) w := by
  simp only [execOp,hF.eval hx,hF.eval hy,Sem.run_bind,Fp,Result.andThen_ok]
  have : binOp op T (.string (bs l)) (.string (bs m)) = Op.stringOp op (bs l) (bs m) := by cases op <;> rfl
  simp only [this,h,Result.andThen_ok]
  rfl
theorem YJ (hF : Fr n ds F a) (hx : Bo F x = some (.string (bs l))) (hy : Bo F y = some (.string (bs m))) : Yx P B M Z a ⟨dst,.binOp .eql T x y T',ty,pos,aft,g⟩ (.bool (decide (l = m))) :=
  AZ fun w _ => HK (by
    simp only [Op.stringOp,Fm]
    rw [Ns]; rfl) (by simp) (by simp) hF hx hy
theorem Zo (hF : Fr n ds F a) (hx : Bo F x = some (.string (bs l))) (hy : Bo F y = some (.string (bs m))) : Yx P B M Z a ⟨dst,.binOp .neq T x y T',ty,pos,aft,g⟩ (.bool (decide (l ≠ m))) :=
  AZ fun w _ => HK (by
    simp only [Op.stringOp,Fm]
    have : (!(l == m)) = decide (l ≠ m) := by
      by_cases h : l = m <;> simp [h]
    rw [this]; rfl) (by simp) (by simp) hF hx hy
theorem YO (hF : Fr n ds F a) (hx : Bo F x = some (.string (bs l))) (hy : Bo F y = some (.string (bs m))) : Yx P B M Z a ⟨dst,.binOp .lss T x y T',ty,pos,aft,g⟩ (.bool (VY l m)) :=
  AZ fun w _ => HK (by simp only [Op.stringOp,Fm]; rfl) (by simp) (by simp) hF hx hy
theorem X7 (hF : Fr n ds F a) (hx : Bo F x = some (.string (bs l))) (hy : Bo F y = some (.string (bs m))) : Yx P B M Z a ⟨dst,.binOp .leq T x y T',ty,pos,aft,g⟩ (.bool (VY l m || decide (l = m))) :=
  AZ fun w _ => HK (by simp only [Op.stringOp,Fm,Ns]; rfl) (by simp) (by simp) hF hx hy
theorem Zn (hF : Fr n ds F a) (hx : Bo F x = some (.string (bs l))) (hy : Bo F y = some (.string (bs m))) : Yx P B M Z a ⟨dst,.binOp .gtr T x y T',ty,pos,aft,g⟩ (.bool (!(VY l m || decide (l = m)))) :=
  AZ fun w _ => HK (by simp only [Op.stringOp,Fm,Ns]; rfl) (by simp) (by simp) hF hx hy
theorem Yf (hF : Fr n ds F a) (hx : Bo F x = some (.string (bs l))) (hy : Bo F y = some (.string (bs m))) : Yx P B M Z a ⟨dst,.binOp .geq T x y T',ty,pos,aft,g⟩ (.bool (!(VY l m))) :=
  AZ fun w _ => HK (by simp only [Op.stringOp,Fm]; rfl) (by simp) (by simp) hF hx hy
theorem Wj {ts : Array TypeId} (ht : P.underlying t = some .string) (hts : ts[0]? = some t) (hF : Fr n ds F a) (hx : Bo F x = some (.string (bs l))) :
    Yx P B M Z a ⟨dst,.call ⟨.builtin .len, #[x],ts⟩,ty,pos,aft,g⟩ (.int .i64 (l.length : Int)) :=
  AZ fun w hw => by
    have hts' : ts.toList[0]? = some t := by simpa using hts
    have := HT l
    simp [execOp,Ax,invoke,builtin,Builtin.len_,hF.eval hx,hts,Go.underlying,ht,goInt,this]
theorem Ol {i : Int} {c : UInt8} {k : IntKind} (ht : P.underlying t = some .string) (hF : Fr n ds F a) (hx : Bo F x = some (.string (bs l))) (hi : Bo F y = some (.int k i)) (h : ix l i = some c) :
    Yx P B M Z a ⟨dst,.index t x y,ty,pos,aft,g⟩ (.int .u8 (c.toNat : Int)) :=
  AZ fun w hw => by
    obtain ⟨h0,hk,hc⟩ := F9 h
    have hg : (if 0 ≤ i then (bs l)[i.toNat]? else none) = some c := by rw [if_pos h0,Xg]; exact hc
    simp only [execOp,Instr.indexAt,hF.eval hx,hF.eval hi,Instr.index,asIntOf,Go.underlying,Sem.run_bind,run_program,ht,Result.andThen_ok,Sem.run_pure,hg]
theorem Ng (cs : List Value) (hc : 0 < cs.length) (k : Nat) : (madeCells cs.toArray (k * cs.length)).toList = (List.replicate k cs).flatten := by
  have hl : ((List.replicate k cs).flatten).length = k * cs.length := by simp
  refine List.ext_getElem? fun j => ?_
  by_cases hj : j < k * cs.length
  · have h1 : ((List.replicate k cs).flatten)[j]? = cs[j % cs.length]? := by
      clear hl
      induction k generalizing j with
      | zero => simp at hj
      | succ k ih =>
        rw [List.replicate_succ,List.flatten_cons]
        by_cases hjc : j < cs.length
        · rw [List.getElem?_append_left hjc,Nat.mod_eq_of_lt hjc]
        · rw [List.getElem?_append_right (by omega),ih (j - cs.length) (by rw [Nat.succ_mul] at hj; omega)]
          congr 1
          rw [Nat.mod_eq_sub_mod (a := j) (by omega)]
    rw [h1]
    have hm : j % cs.length < cs.length := Nat.mod_lt _ hc
    simp [madeCells,hj,hm]
  · rw [List.getElem?_eq_none (by simp [madeCells]; omega),List.getElem?_eq_none (by omega)]
def bT (v : Value) (N : Nat) : Prop := ∃ b,v = .slice (some b) N N
theorem U4 {d : Nat} {z : Value} {lo co : Operand} {nn : Int} {k1 k2 : IntKind} {ls : List α} (z0 : α) (hF : Fr n ds F a) (hW : Stw B M Z w) (hn : Nat.blt d n = true) (E : Et P t e r.sz by_) (hz : (P.info? e).bind (·.zero) = some z) (hl : Bo F lo = some (.int k1 nn)) (hc : Bo F co = some (.int k2 nn))
    (hr : ∀ w A,r.rep w A z.cells.toList z0) (hm : mk nn z0 = some ls) (hby : Nat.ble by_ 100000 = true)
    (k : ∀ v,bT v nn.toNat → ∀ a' w',Fr n ds ((d,v) :: F) a' → Stw B M (row v e r ls :: Z) w' → wpList P ops Q rest a' w') :
    wpList P ops Q (⟨some d,.makeSlice t lo co,ty,pos,aft,none⟩ :: rest) a w := by
  obtain ⟨h0,h1,rfl⟩ := Re hm
  obtain ⟨i,z',hi,hz',his,hib,hzs⟩ := E.info
  have hzz : z' = z := by rw [hi] at hz; simp only [za] at hz; rw [hz'] at hz; exact Option.some.inj hz
  subst hzz
  have hby' := ze hby
  have hbytes : (i.bytes : Int) * nn ≤ 281474976710656 := by
    rw [hib]
    have h2 : (by_ : Int) * nn ≤ 100000 * 1000000000 := Int.mul_le_mul (by omega) h1 h0 (by omega)
    omega
  have hrun := run_make (P := P) w t e i z' E.desc hi hz' k1 k2 nn nn h0 (Int.le_refl _) hbytes (by omega)
  have hlen : z'.cells.toList.length = r.sz := by simpa using hzs
  have hcells : (madeCells z'.cells (nn.toNat * i.size)).toList = (List.replicate nn.toNat z'.cells.toList).flatten := by
    have := Ng z'.cells.toList (by rw [hlen]; exact E.pos) nn.toNat
    rw [hlen] at this
    rw [his]; simpa using this
  refine Ja hF hn (v := .slice (some ⟨w.heap.size,0,none⟩) nn.toNat nn.toNat) (w' := w.alloc (.cells (madeCells z'.cells (nn.toNat * i.size)) e)) ?_ (fun a' h => k _ ⟨_,rfl⟩ a' _ h ?_)
  · simp [execOp,hF.eval hl,hF.eval hc,hrun]
  · have hrep : A8 r w (Fz B (AA M Z)) (List.replicate nn.toNat z'.cells.toList).flatten (List.replicate nn.toNat z0) := A8.rep (hr w _) _
    have hll := hrep.len
    have := hW.allocRow ((List.replicate nn.toNat z'.cells.toList).flatten) e (m := nn.toNat) (l := List.replicate nn.toNat z0) (r := r) (by unfold maxLen; omega) (by rw [hll]; simp) (by simp) (by rw [← hll,List.take_length]; exact hrep)
    rw [← hcells] at this
    simpa using this
theorem P5 {d : Nat} {z : Value} {lo co : Operand} {nn : Int} {k1 k2 : IntKind} {ls : List α} (z0 : α) (hF : Fr n ds F a) (hW : Stw B M Z w) (hn : Nat.blt d n = true) (E : Et P t e r.sz by_) (hz : (P.info? e).bind (·.zero) = some z) (hl : Bo F lo = some (.int k1 nn)) (hc : Bo F co = some (.int k2 nn))
    (hr : ∀ w A,r.rep w A z.cells.toList z0) (hm : mk nn z0 = some ls) (hby : Nat.ble by_ 100000 = true)
    (k : ∀ v a' w',Fr n ds ((d,v) :: F) a' → Stw B M (row v e r ls :: Z) w' → wpList P ops Q rest a' w') :
    wpList P ops Q (⟨some d,.makeSlice t lo co,ty,pos,aft,none⟩ :: rest) a w :=
  U4 z0 hF hW hn E hz hl hc hr hm hby fun v _ => k v
end
end Go.Proofs.YtbiekjhlijdjbaaGreat
