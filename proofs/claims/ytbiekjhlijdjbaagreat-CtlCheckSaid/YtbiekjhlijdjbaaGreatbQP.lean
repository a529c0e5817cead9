/- A region in many orders: what is still is taken first, what turns the world one by one. Conditions: none. -/
import Derived.Test.YtbiekjhlijdjbaaGreatbO8
set_option linter.unusedVariables false
set_option linter.unusedSimpArgs false
open Go Go.RowKit
namespace Go.Proofs.YtbiekjhlijdjbaaGreat
variable {rl : Option Nat}
section
variable {P : Program} {ops : Array Oper} {md : Region.Mode} {C : Array Bool → World → Prop} {Q' : Exit → Act → World → Prop}
def Fc (P : Program) (md : Region.Mode) (ops : Array Oper) (Q : Exit → Act → World → Prop) (C : Array Bool → World → Prop) : Nat → Array Bool → Act → World → Prop
  | 0,listed,a,w => C listed w ∧ Region.ready md ops listed = [] ∧ Q .normal a w
  | fuel + 1,listed,a,w => C listed w ∧ (Region.ready md ops listed = [] → Q .normal a w) ∧ ∀ i ∈ Region.ready md ops listed,wpOp P ops Q i (Fc P md ops Q C fuel (listed.setIfInBounds i true)) a w
theorem Fc.c : ∀ {f : Nat} {listed : Array Bool} {a : Act} {w : World},Fc P md ops Q' C f listed a w → C listed w
  | 0,_,_,_,h => h.1
  | _ + 1,_,_,_,h => h.1
theorem wpOp_mono' {i : Nat} {K K' : Act → World → Prop} (hk : ∀ a w,K a w → K' a w) {a : Act} {w : World} (h : wpOp P ops Q' i K a w) : wpOp P ops Q' i K' a w := by
  unfold wpOp at *
  split
  · rename_i ho; simp only [ho] at h; exact hk _ _ h
  · rename_i o ho
    simp only [ho] at h
    split
    · rename_i hw
      rw [if_pos hw] at h
      exact h.imp (Oper.wp_mono hk) id
    · rename_i hw; rw [if_neg hw] at h; exact hk _ _ h
theorem Gt : ∀ {f : Nat} {listed : Array Bool} {a : Act} {w : World},Fc P md ops Q' C f listed a w → wpAny P md ops Q' f listed a w
  | 0,_,_,_,h => h.2
  | _ + 1,_,_,_,h => ⟨h.2.1,fun i hi => wpOp_mono' (fun _ _ h => Gt h) (h.2.2 i hi)⟩
def Jq (P : Program) (ops : Array Oper) (C : Array Bool → World → Prop) (R : List Nat) (a : Act) (o : Oper) (v : Value) : Prop :=
  (Region.wanted o (yielded ops a.tmps) = true ∧ ∀ L w,(∀ k ∈ R,L.getD k true = false) → C L w → (execOp a.eval o).run P w = .ok (.value v) w) ∨ (Region.wanted o (yielded ops a.tmps) = false ∧ v = undef)
theorem I6 (hQ : CJ ops Q') {i : Nat} {oi : Oper} {v : Value} {R : List Nat} (hi : ops[i]? = some oi) (hsel : ∀ (j : Nat) (o : Oper) cs b,ops[j]? = some o → o.op ≠ .select cs b)
    (hC : ∀ L w,C (L.setIfInBounds i true) w → C L w) (hRi : ∀ k ∈ R, ∃ ok,ops[k]? = some ok ∧ ∃ e ∈ ok.after,Region.binds md e = true ∧ (e.on = i ∨ e.on ∈ R)) :
    ∀ (f : Nat) (listed : Array Bool) (a : Act) (w : World),Jq P ops C R a oi v → (∀ k ∈ R,listed.getD k true = false) →
      (∀ j oj,ops[j]? = some oj → j ≠ i → listed.getD j true = false → (∀ e ∈ oj.after,Region.binds md e = true → e.on ≠ i) → oi.apart ops oj = true) →
      i ∈ Region.ready md ops listed → Fc P md ops Q' C f (listed.setIfInBounds i true) (a.put oi.dst v) w → Fc P md ops Q' C (f + 1) listed a w := by
  have here : ∀ (K : Act → World → Prop) (L : Array Bool) (a : Act) (w : World),C (L.setIfInBounds i true) w → (∀ k ∈ R,L.getD k true = false) → Jq P ops C R a oi v → K (a.put oi.dst v) w → wpOp P ops Q' i K a w := fun K L a w hCw hk hs h => by
    unfold wpOp
    simp only [hi]
    rcases hs with ⟨hw,hr⟩ | ⟨hw,rfl⟩
    · rw [if_pos hw]
      refine .inl ?_
      unfold Oper.wp
      rw [hr L w hk (hC L w hCw)]
      exact h
    · rw [if_neg (by rw [hw]; simp)]
      exact h
  intro f
  induction f with
  | zero =>
    intro listed a w hs hRl _ hr H
    refine ⟨hC _ _ H.c,fun h => (by rw [h] at hr; cases hr),fun j hj => ?_⟩
    by_cases hji : j = i
    · subst hji; exact here _ listed _ _ H.c hRl hs H
    · have := ready_mono hj hji
      rw [H.2.1] at this; cases this
  | succ f ih =>
    intro listed a w hs hRl hfree hr H
    refine ⟨hC _ _ H.c,fun h => (by rw [h] at hr; cases hr),fun j hj => ?_⟩
    by_cases hji : j = i
    · subst hji; exact here _ listed _ _ H.c hRl hs H
    · have h1 := H.2.2 j (ready_mono hj hji)
      obtain ⟨hjun,oj,hoj,hall⟩ := mem_ready.1 hj
      have hun := (mem_ready.1 hr).1
      have hnot : ∀ e ∈ oj.after,Region.binds md e = true → e.on ≠ i := fun e he hb heq => by
        have h1 := hall e he hb
        rw [heq,getD_both hun] at h1
        cases h1
      have hap := hfree j oj hoj hji hjun hnot
      obtain ⟨q1,q2,q3⟩ := Oper.apart_spec hap
      have hex2 : ∀ (a : Act) (u : Value),execOp (a.put oj.dst u).eval oi = execOp a.eval oi := fun a u => execOp_put (ops := ops) oi (fun cs b => hsel i oi cs b hi) a oj.dst u q3
      have hst : ∀ u,Jq P ops C R (a.put oj.dst u) oi v := fun u => by
        unfold Jq
        rw [wanted_put oi a oj.dst u q3,hex2]
        exact hs
      have hstd : ∀ dd u,Jq P ops C R (({ a with defers := dd } : Act).put oj.dst u) oi v := fun dd u => by
        unfold Jq
        rw [wanted_put oi { a with defers := dd } oj.dst u q3,hex2]
        exact hs
      have hK : ∀ a' w',Jq P ops C R a' oi v → Fc P md ops Q' C f ((listed.setIfInBounds i true).setIfInBounds j true) (a'.put oi.dst v) w' → Fc P md ops Q' C (f + 1) (listed.setIfInBounds j true) a' w' := fun a' w' hs' h => by
        refine ih (listed.setIfInBounds j true) a' w' hs' (fun k hk => ?_) (fun k ok hk hki hku hno => hfree k ok hk hki ?_ hno) (ready_mono hr (Ne.symm hji)) ?_
        · have hjk : j ≠ k := by
            rintro rfl
            obtain ⟨ok,h1,e,h2,h3,h4⟩ := hRi j hk
            rw [hoj] at h1
            cases h1
            rcases h4 with h4 | h4
            · exact hnot e h2 h3 h4
            · have h5 := hall e h2 h3
              rw [getD_both (hRl _ h4)] at h5
              cases h5
          rw [getD_set_ne true hjk]; exact hRl k hk
        · by_cases hjk : j = k
          · subst hjk; exact hjun
          · rw [getD_set_ne true hjk] at hku; exact hku
        · rw [Array.setIfInBounds_comm _ _ hji]; exact h
      have hput : ∀ u,(a.put oi.dst v).put oj.dst u = (a.put oj.dst u).put oi.dst v := fun u => Act.put_comm a v u q2
      unfold wpOp at h1 ⊢
      simp only [hoj] at h1 ⊢
      rw [wanted_put oj a oi.dst v q1] at h1
      have hex := execOp_put (ops := ops) oj (fun cs b => hsel j oj cs b hoj) a oi.dst v q1
      split
      · rename_i hw
        rw [if_pos hw] at h1
        rcases h1 with h1 | ⟨h1,h2⟩
        · refine .inl ?_
          unfold Oper.wp at h1 ⊢
          rw [hex] at h1
          generalize (execOp a.eval oj).run P w = res at h1 ⊢
          cases res with
          | ok nx w2 =>
            cases nx with
            | value u => simp only [Oper.upon] at h1 ⊢; rw [hput] at h1; exact hK _ _ (hst _) h1
            | skip => simp only [Oper.upon] at h1 ⊢; rw [hput] at h1; exact hK _ _ (hst _) h1
            | defer dd =>
              simp only [Oper.upon] at h1 ⊢
              have e1 : ({ a.put oi.dst v with defers := dd :: (a.put oi.dst v).defers } : Act).put oj.dst undef = (({ a with defers := dd :: a.defers } : Act).put oj.dst undef).put oi.dst v := by
                have e2 : ({ a.put oi.dst v with defers := dd :: (a.put oi.dst v).defers } : Act) = ({ a with defers := dd :: a.defers } : Act).put oi.dst v := by cases oi.dst <;> rfl
                rw [e2,Act.put_comm { a with defers := dd :: a.defers } v undef q2]
              rw [e1] at h1
              exact hK _ _ (hstd _ _) h1
            | enter ff args =>
              simp only [Oper.upon] at h1 ⊢
              refine h1.mono fun e w3 h => ?_
              cases e with
              | returned u => dsimp only at h ⊢; rw [hput] at h; exact hK _ _ (hst _) h
              | panicked ch => exact hQ _ _ hi _ _ _ _ h
              | outgrown => exact h
            | row row args =>
              simp only [Oper.upon] at h1 ⊢
              exact h1.mono fun u w3 h => by rw [hput] at h; exact hK _ _ (hst _) h
            | _ => simp only [Oper.upon] at h1
          | halt st w2 =>
            cases st with
            | panic v => exact hQ _ _ hi _ _ _ _ h1
            | _ => exact h1.elim
        · refine .inr ⟨?_,h2⟩
          unfold Oper.asks at h1 ⊢
          rw [hex] at h1
          exact h1
      · rename_i hw
        rw [if_neg hw] at h1
        rw [hput] at h1; exact hK _ _ (hst _) h1
def Region.planB (md : Region.Mode) (ops : Array Oper) : List (Bool × Nat) → Array Bool → Bool
  | [],listed => (Region.ready md ops listed).isEmpty
  | (true,k) :: ks,listed => (Region.ready md ops listed).contains k && Region.free md ops listed k && Region.planB md ops ks (listed.setIfInBounds k true)
  | (false,k) :: ks,listed => decide (Region.ready md ops listed = [k]) && Region.planB md ops ks (listed.setIfInBounds k true)
def PF (md : Region.Mode) (ops : Array Oper) (L : Array Bool) (k : Nat) (R : List Nat) : Bool :=
  R.all fun j => !(L.getD j true) && match ops[j]? with | some o => o.after.any fun e => Region.binds md e && (e.on == k || R.contains e.on) | none => false
theorem Jy {L : Array Bool} {k : Nat} {R : List Nat} (h : PF md ops L k R = true) : (∀ j ∈ R,L.getD j true = false) ∧ ∀ j ∈ R, ∃ ok,ops[j]? = some ok ∧ ∃ e ∈ ok.after,Region.binds md e = true ∧ (e.on = k ∨ e.on ∈ R) := by
  unfold PF at h
  rw [List.all_eq_true] at h
  refine ⟨fun j hj => ?_,fun j hj => ?_⟩
  · have := h j hj
    simp only [zf] at this
    simpa using this.1
  · have := h j hj
    simp only [zf] at this
    have h2 := this.2
    cases ho : ops[j]? with
    | none => rw [ho] at h2; cases h2
    | some o =>
      rw [ho] at h2
      simp only [Array.any_eq_true] at h2
      obtain ⟨q,hq,h3⟩ := h2
      simp only [zf,Bool.or_eq_true,beq_iff_eq,List.contains_iff_mem] at h3
      exact ⟨o,rfl,o.after[q],Array.getElem_mem hq,h3.1,h3.2⟩
def Ef (P : Program) (ops : Array Oper) (Q : Exit → Act → World → Prop) : (Array Bool → World → Prop) → List (Bool × Nat) → Array Bool → Act → World → Prop
  | _,[],_,a,w => Q .normal a w
  | C,(true,k) :: ks,L,a,w => ∃ o v R,ops[k]? = some o ∧ Jq P ops C R a o v ∧ PF .any ops L k R = true ∧ (∀ L' w,C (L'.setIfInBounds k true) w ↔ C L' w) ∧ Ef P ops Q C ks (L.setIfInBounds k true) (a.put o.dst v) w
  | C,(false,k) :: ks,L,a,w => wpOp P ops Q k (fun a' w' => ∃ C' : Array Bool → World → Prop,(∀ L w,C' L w → C L w) ∧ C' (L.setIfInBounds k true) w' ∧ Ef P ops Q C' ks (L.setIfInBounds k true) a' w') a w
theorem Hf {C' : Array Bool → World → Prop} (hc : ∀ L w,C' L w → C L w) : ∀ {f : Nat} {listed : Array Bool} {a : Act} {w : World},Fc P md ops Q' C' f listed a w → Fc P md ops Q' C f listed a w
  | 0,_,_,_,h => ⟨hc _ _ h.1,h.2⟩
  | _ + 1,_,_,_,h => ⟨hc _ _ h.1,h.2.1,fun i hi => wpOp_mono' (fun _ _ h => Hf hc h) (h.2.2 i hi)⟩
theorem Hq (hQ : CJ ops Q') (hsel : Region.noSelect ops = true) : ∀ (ks : List (Bool × Nat)) (C : Array Bool → World → Prop) (listed : Array Bool) (a : Act) (w : World),Region.planB .any ops ks listed = true → C listed w → Ef P ops Q' C ks listed a w → Fc P .any ops Q' C ks.length listed a w
  | [],C,listed,a,w,hB,hC,h => ⟨hC,by simpa [Region.planB] using hB,h⟩
  | (true,k) :: ks,C,listed,a,w,hB,hC,⟨o,v,R,ho,hs,hR,hins,h⟩ => by
    simp only [Region.planB,zf] at hB
    obtain ⟨⟨hr,hf⟩,hB'⟩ := hB
    have hR2 := Jy hR
    exact I6 hQ ho (Region.noSelect_spec hsel) (fun L w => (hins L w).1) hR2.2 _ listed a w hs hR2.1 (Region.free_spec ho hf) (by simpa using hr) (Hq hQ hsel ks C _ _ w hB' ((hins _ _).2 hC) h)
  | (false,k) :: ks,C,listed,a,w,hB,hC,h => by
    simp only [Region.planB,zf,decide_eq_true_eq] at hB
    obtain ⟨hr,hB'⟩ := hB
    refine ⟨hC,fun h0 => (by rw [h0] at hr; cases hr),fun i hi => ?_⟩
    rw [hr] at hi
    have : i = k := by simpa using hi
    subst this
    exact wpOp_mono' (fun a' w' ⟨C',hc,h1,h2⟩ => Hf hc (Hq hQ hsel ks C' _ a' w' hB' h1 h2)) h
def PE (Q : Exit → Act → World → Prop) (K : Act → World → Prop) : Exit → Act → World → Prop
  | .normal,a,w => K a w
  | e,a,w => Q e a w
end
section
variable {P : Program} {B : Bs} {M : Bi} {Z : List It} {n : Nat} {ds : List Deferred} {F : List (Nat × Value)} {a : Act} {w : World} {ops : Array Oper} {Q : Exit → Act → World → Prop} {C : Array Bool → World → Prop} {ks : List (Bool × Nat)} {o : Oper} {L : Array Bool} {R : List Nat}
variable {N N2 N3 : List (Option Nat × Nat × List Value)} {NZ NZ2 NZ3 : List (Option Nat × It)}
theorem R8 {id : Nat} {l : List Oper} (ks : List (Bool × Nat)) (C : Array Bool → World → Prop) (hQ : CJ l.toArray Q) (hm : P.follows .mixedOrders = true) (hB : (Region.noSelect l.toArray && decide (ks.length = l.length) && Region.planB .any l.toArray ks (Array.replicate l.toArray.size false)) = true)
    (hW : Stw B M Z w) (hC : ∀ w,Stw B M Z w → C (Array.replicate l.toArray.size false) w) (h : ∀ w,Stw B M Z w → Ef P l.toArray Q C ks (Array.replicate l.toArray.size false) a w) (hd : Mk rl l = true := by rfl) : (Code.region id l.toArray true).wr rl P Q a w := by
  simp only [zf,decide_eq_true_eq] at hB
  obtain ⟨⟨hsel,hlen⟩,hB⟩ := hB
  refine Df hd hm ?_
  have := Gt (Hq (P := P) (Q' := Q) hQ hsel ks C _ a _ hB (hC _ hW.drew) (h _ hW.drew))
  rw [hlen] at this
  simpa using this
theorem Gp {id : Nat} {l : List Oper} (ks : List (Bool × Nat)) (C : Array Bool → World → Prop) (hQ : Ht Q) (hm : P.follows .mixedOrders = true) (hB : (Region.noSelect l.toArray && decide (ks.length = l.length) && Region.planB .any l.toArray ks (Array.replicate l.toArray.size false)) = true)
    (hW : Stw B M Z w) (hC : ∀ w,Stw B M Z w → C (Array.replicate l.toArray.size false) w) (h : ∀ w,Stw B M Z w → Ef P l.toArray Q C ks (Array.replicate l.toArray.size false) a w) (hd : Mk rl l = true := by rfl) : (Code.region id l.toArray true).wr rl P Q a w := R8 ks C hQ.on hm hB hW hC h hd
def GS (L : Array Bool) : Option Nat → Bool | none => false | some k => L.getD k true
def QM (R : List Nat) : Option Nat → Bool | none => true | some k => R.contains k
theorem Lz {x : Option Nat} (h : QM R x = true) (hR : ∀ k ∈ R,L.getD k true = false) : GS L x = false := by
  cases x with
  | none => rfl
  | some k => exact hR k (by simpa [QM] using h)
def CN (B : Bs) (N : List (Option Nat × Nat × List Value)) (NZ : List (Option Nat × It)) (L : Array Bool) (w : World) : Prop := ∃ M Z,Stw B M Z w ∧ (∀ p ∈ N,GS L p.1 = false → p.2 ∈ M) ∧ ∀ z ∈ NZ,GS L z.1 = false → z.2 ∈ Z
theorem yC {v : Value} (h : ∀ M Z,(∀ p ∈ N,QM R p.1 = true → p.2 ∈ M) → (∀ z ∈ NZ,QM R z.1 = true → z.2 ∈ Z) → Yx P B M Z a o v) : ∀ L w,(∀ k ∈ R,L.getD k true = false) → CN B N NZ L w → (execOp a.eval o).run P w = .ok (.value v) w :=
  fun L w hR ⟨M,Z,hW,h1,h2⟩ => h M Z (fun p hp hr => h1 p hp (Lz hr hR)) (fun z hz hr => h2 z hz (Lz hr hR)) w hW
def SM (k : Nat) (l : List (Option Nat)) : Bool := l.all fun x => match x with | some j => !(Nat.beq j k) | none => true
theorem OR {k : Nat} {x : Option Nat} (h : ∀ j,x = some j → j ≠ k) : GS (L.setIfInBounds k true) x = GS L x := by
  cases x with
  | none => rfl
  | some j => exact getD_set_ne true (Ne.symm (h j rfl))
theorem PW {k : Nat} (h : SM k (N.map (·.1) ++ NZ.map (·.1)) = true) (L : Array Bool) (w : World) : CN B N NZ (L.setIfInBounds k true) w ↔ CN B N NZ L w := by
  unfold SM at h
  rw [List.all_eq_true] at h
  have h1 : ∀ x ∈ N.map (·.1) ++ NZ.map (·.1),GS (L.setIfInBounds k true) x = GS L x := fun x hx => OR fun j hj => by
    have := h x hx
    subst hj
    rintro rfl
    simp at this
  constructor
  · rintro ⟨M,Z,hW,h2,h3⟩
    exact ⟨M,Z,hW,fun p hp hr => h2 p hp (by rw [h1 _ (List.mem_append_left _ (List.mem_map_of_mem hp))]; exact hr),fun z hz hr => h3 z hz (by rw [h1 _ (List.mem_append_right _ (List.mem_map_of_mem hz))]; exact hr)⟩
  · rintro ⟨M,Z,hW,h2,h3⟩
    exact ⟨M,Z,hW,fun p hp hr => h2 p hp (by rw [← h1 _ (List.mem_append_left _ (List.mem_map_of_mem hp))]; exact hr),fun z hz hr => h3 z hz (by rw [← h1 _ (List.mem_append_right _ (List.mem_map_of_mem hz))]; exact hr)⟩
theorem Cp {k d : Nat} {v : Value} {op : Op} {t : TypeId} {pos : String} {aft : Array Edge} (hF : Fr n ds F a) (ho : ops[k]? = some ⟨some d,op,t,pos,aft,none⟩) (hn : Nat.blt d n = true) (y : ∀ L w,(∀ k ∈ R,L.getD k true = false) → CN B N NZ L w → (execOp a.eval ⟨some d,op,t,pos,aft,none⟩).run P w = .ok (.value v) w)
    (hR : PF .any ops L k R = true) (hI : SM k (N.map (·.1) ++ NZ.map (·.1)) = true) (h : ∀ a',Fr n ds ((d,v) :: F) a' → Ef P ops Q (CN B N NZ) ks (L.setIfInBounds k true) a' w) : Ef P ops Q (CN B N NZ) ((true,k) :: ks) L a w :=
  ⟨_,v,R,ho,.inl ⟨Ba rfl,y⟩,hR,PW hI,h _ (hF.put (ze hn) v)⟩
theorem Nv {k d : Nat} (hF : Fr n ds F a) (ho : ops[k]? = some o) (hwt : Region.wanted o (yielded ops a.tmps) = false) (hd : o.dst = some d) (hn : Nat.blt d n = true)
    (hI : SM k (N.map (·.1) ++ NZ.map (·.1)) = true) (h : ∀ a',Fr n ds ((d,undef) :: F) a' → Ef P ops Q (CN B N NZ) ks (L.setIfInBounds k true) a' w) : Ef P ops Q (CN B N NZ) ((true,k) :: ks) L a w :=
  ⟨_,undef,[],ho,.inr ⟨hwt,rfl⟩,rfl,PW hI,h _ (by rw [hd]; exact hF.put (ze hn) _)⟩
theorem HD {k : Nat} (ho : ops[k]? = some o) (h : wpList P ops (PE Q fun a' w' => ∃ C' : Array Bool → World → Prop,(∀ L w,C' L w → C L w) ∧ C' (L.setIfInBounds k true) w' ∧ Ef P ops Q C' ks (L.setIfInBounds k true) a' w') [o] a w) : Ef P ops Q C ((false,k) :: ks) L a w := by
  unfold Ef wpOp
  simp only [ho]
  unfold wpList at h
  split
  · rename_i hw
    rw [if_pos hw] at h
    refine h.imp (fun h => ?_) (fun ⟨h1,a',w',h2⟩ => ⟨h1,a',w',h2⟩)
    unfold Oper.wp at h ⊢
    generalize (execOp a.eval o).run P w = res at h ⊢
    cases res with
    | ok nx w2 =>
      cases nx <;> simp only [Oper.upon] at h ⊢ <;> try exact h
    | halt st w2 => cases st <;> first | exact h | exact h.elim
  · rename_i hw
    rw [if_neg hw] at h
    exact h
theorem As {α : Type} {q : α → Prop} : ∀ p ∈ ([] : List α),q p := fun _ h => nomatch h
theorem all_cons {α : Type} {q : α → Prop} {x : α} {l : List α} (h1 : q x) (h2 : ∀ p ∈ l,q p) : ∀ p ∈ x :: l,q p := fun p hp => by
  rcases List.mem_cons.1 hp with rfl | hp
  · exact h1
  · exact h2 p hp
theorem Bl {q : Prop} {x : Option Nat} (h : GS L x = true) (h2 : GS L x = false) : q := by rw [h] at h2; cases h2
theorem CC {a : Act} {w : World} (hW : Stw B M Z w) (hN3 : N ++ N2 = N3) (hZ3 : NZ ++ NZ2 = NZ3) (h1 : ∀ p ∈ N3,GS L p.1 = false → p.2 ∈ M) (h2 : ∀ z ∈ NZ3,GS L z.1 = false → z.2 ∈ Z) (h : Ef P ops Q (CN B N3 NZ3) ks L a w) :
    wpList P ops (PE Q fun a' w' => ∃ C' : Array Bool → World → Prop,(∀ L w,C' L w → CN B N NZ L w) ∧ C' L w' ∧ Ef P ops Q C' ks L a' w') [] a w := by
  subst hN3 hZ3
  exact ⟨CN B (N ++ N2) (NZ ++ NZ2),fun _ _ ⟨M,Z,hW,k1,k2⟩ => ⟨M,Z,hW,fun p hp => k1 p (List.mem_append_left _ hp),fun z hz => k2 z (List.mem_append_left _ hz)⟩,⟨M,Z,hW,h1,h2⟩,h⟩
theorem JE (h : Q .normal a w) : Ef P ops Q C [] L a w := h
section
variable {α : Type} {r : Rp α} {l : List α} {v u : Value} {e : TypeId}
theorem Ji (h : row v e r l ∈ Z) : Mo B M Z r v l := by
  obtain ⟨k,hk⟩ := List.mem_iff_getElem?.1 h
  exact Ae k hk
theorem Gh {dst : Option Tmp} {ty : TypeId} {pos : String} {aft : Array Edge} {g : Option (Nat × Bool)} {x : Operand} {t : TypeId} {agg : Bool} {sz b off : Nat} {cs : List Value} {v : Value} (hF : Fr n ds F a) (hx : Bo F x = some (.pointer (some ⟨b,off,none⟩))) (hM : (b,cs) ∈ M) (T : Ty P t agg sz) (hv : Jx agg sz cs off = some v) :
    Yx P B M Z a ⟨dst,.load t x,ty,pos,aft,g⟩ v := by
  obtain ⟨k,hk⟩ := List.mem_iff_getElem?.1 hM
  exact B5 k hF hx hk T hv
end
end
end Go.Proofs.YtbiekjhlijdjbaaGreat
