/- A region in many orders: what is still is taken first; of steps that turn the world, and are ready TS by TS, any may go first. Conditions: none. -/
import Derived.Test.YtbiekjhlijdjbaaGreatbOT
import Derived.Scope
set_option linter.unusedVariables false
set_option linter.unusedSimpArgs false
open Go Go.RowKit
namespace Go.Proofs.YtbiekjhlijdjbaaGreat
variable {rl : Option Nat}
inductive PT where
  | done : PT
  | st (k : Nat) (t : PT) : PT
  | alt (k : Nat) (t : PT) (m : PT) : PT
  | stop : PT
def PT.heads : PT → List Nat
  | .alt k _ m => k :: m.heads
  | _ => []
section
variable {P : Program} {ops : Array Oper} {md : Region.Mode} {C : Array Bool → World → Prop} {Q' : Exit → Act → World → Prop}
def PT.okB (md : Region.Mode) (ops : Array Oper) : PT → Nat → Array Bool → Bool → Bool
  | .done,n,listed,inner => !inner && Nat.beq n 0 && (Region.ready md ops listed).isEmpty
  | .st k t,n,listed,inner => match n with
    | 0 => false
    | n + 1 => !inner && (Region.ready md ops listed).contains k && Region.free md ops listed k && t.okB md ops n (listed.setIfInBounds k true) false
  | .alt k t m,n,listed,inner => match n with
    | 0 => false
    | n + 1 => (inner || decide (Region.ready md ops listed = k :: m.heads)) && t.okB md ops n (listed.setIfInBounds k true) false && m.okB md ops (n + 1) listed true
  | .stop,n,listed,inner => inner
def LU (P : Program) (ops : Array Oper) (Q : Exit → Act → World → Prop) : (Array Bool → World → Prop) → PT → Array Bool → Act → World → Prop
  | _,.done,_,a,w => Q .normal a w
  | C,.st k t,L,a,w => ∃ o v R,ops[k]? = some o ∧ Jq P ops C R a o v ∧ PF .any ops L k R = true ∧ (∀ L' w,C (L'.setIfInBounds k true) w ↔ C L' w) ∧ LU P ops Q C t (L.setIfInBounds k true) (a.put o.dst v) w
  | C,.alt k t m,L,a,w => wpOp P ops Q k (fun a' w' => ∃ C' : Array Bool → World → Prop,(∀ L w,C' L w → C L w) ∧ C' (L.setIfInBounds k true) w' ∧ LU P ops Q C' t (L.setIfInBounds k true) a' w') a w ∧ LU P ops Q C m L a w
  | _,.stop,_,_,_ => True
theorem Ph : ∀ (t : PT) (n : Nat) (C : Array Bool → World → Prop) (L : Array Bool) (a : Act) (w : World),t.okB .any ops (n + 1) L true = true → LU P ops Q' C t L a w → ∀ i ∈ t.heads, ∃ s : PT,s.okB .any ops n (L.setIfInBounds i true) false = true ∧
    wpOp P ops Q' i (fun a' w' => ∃ C' : Array Bool → World → Prop,(∀ L w,C' L w → C L w) ∧ C' (L.setIfInBounds i true) w' ∧ LU P ops Q' C' s (L.setIfInBounds i true) a' w') a w
  | .done,n,C,L,a,w,h,_,i,hi => by simp [PT.heads] at hi
  | .st k t,n,C,L,a,w,h,_,i,hi => by simp [PT.heads] at hi
  | .stop,n,C,L,a,w,h,_,i,hi => by simp [PT.heads] at hi
  | .alt k t m,n,C,L,a,w,h,hw,i,hi => by
    simp only [PT.okB,Bool.true_or,Bool.true_and,zf] at h
    rcases List.mem_cons.1 (show i ∈ k :: m.heads from hi) with rfl | hm
    · exact ⟨t,h.1,hw.1⟩
    · exact Ph m n C L a w h.2 hw.2 i hm
theorem FL (hQ : CJ ops Q') (hsel : Region.noSelect ops = true) : ∀ (n : Nat) (t : PT) (C : Array Bool → World → Prop) (listed : Array Bool) (a : Act) (w : World),t.okB .any ops n listed false = true → C listed w → LU P ops Q' C t listed a w → Fc P .any ops Q' C n listed a w
  | 0,.done,C,listed,a,w,hB,hC,h => ⟨hC,by simp only [PT.okB,zf] at hB; simpa using hB.2,h⟩
  | 0,.st k t,C,listed,a,w,hB,hC,h => by simp [PT.okB] at hB
  | 0,.alt k t m,C,listed,a,w,hB,hC,h => by simp [PT.okB] at hB
  | 0,.stop,C,listed,a,w,hB,hC,h => by simp [PT.okB] at hB
  | n + 1,.done,C,listed,a,w,hB,hC,h => by simp [PT.okB] at hB
  | n + 1,.stop,C,listed,a,w,hB,hC,h => by simp [PT.okB] at hB
  | n + 1,.st k t,C,listed,a,w,hB,hC,⟨o,v,R,ho,hs,hR,hins,h⟩ => by
    simp only [PT.okB,zf] at hB
    obtain ⟨⟨⟨_,hr⟩,hf⟩,hB'⟩ := hB
    have hR2 := Jy hR
    exact I6 hQ ho (Region.noSelect_spec hsel) (fun L w => (hins L w).1) hR2.2 _ listed a w hs hR2.1 (Region.free_spec ho hf) (by simpa using hr) (FL hQ hsel n t C _ _ w hB' ((hins _ _).2 hC) h)
  | n + 1,.alt k t m,C,listed,a,w,hB,hC,h => by
    have hB2 := hB
    simp only [PT.okB,Bool.false_or,zf,decide_eq_true_eq] at hB
    obtain ⟨⟨hr,hB'⟩,hm⟩ := hB
    refine ⟨hC,fun h0 => (by rw [h0] at hr; cases hr),fun i hi => ?_⟩
    rw [hr] at hi
    have hall : (PT.alt k t m).okB .any ops (n + 1) listed true = true := by
      simp only [PT.okB,Bool.true_or,Bool.true_and,zf]; exact ⟨hB',hm⟩
    obtain ⟨s,hs,hw⟩ := Ph (.alt k t m) n C listed a w hall h i hi
    exact wpOp_mono' (fun a' w' ⟨C',hc,h1,h2⟩ => Hf hc (FL hQ hsel n s C' _ a' w' hs h1 h2)) hw
theorem US {c : Code} {a : Act} {w : World} (K : Act → World → Prop) (h : c.wr rl P (PE Q' K) a w) (hk : ∀ a w,K a w → Q' .normal a w) : c.wr rl P Q' a w :=
  KD (fun e a w h => by cases e <;> first | exact h | exact hk _ _ h) h
theorem Lx {place : Nat → Option (Nat × Nat)} {zs : List Value} : Gn place zs [] = some zs := rfl
theorem Jz {place : Nat → Option (Nat × Nat)} {zs cs vs : List Value} {i off sz : Nat} {v : Value} {rest : List (Nat × Value)} (hp : place i = some (off,sz)) (hv : v.cells.toList = vs) (hs : (Nat.beq vs.length sz && Nat.ble (off + vs.length) zs.length) = true)
    (h : Gn place (DI zs off vs) rest = some cs) : Gn place zs ((i,v) :: rest) = some cs := by
  simp only [zf] at hs
  have h1 := zd hs.1
  have h2 := ze hs.2
  subst hv
  simp only [Gn,hp]
  rw [if_pos ⟨h1,h2⟩]; exact h
end
section
variable {P : Program} {B : Bs} {M : Bi} {Z : List It} {n : Nat} {ds : List Deferred} {F : List (Nat × Value)} {a : Act} {w : World} {ops : Array Oper} {Q : Exit → Act → World → Prop} {C : Array Bool → World → Prop} {t m : PT} {o : Oper} {L : Array Bool} {R : List Nat}
variable {N N2 N3 : List (Option Nat × Nat × List Value)} {NZ NZ2 NZ3 : List (Option Nat × It)}
theorem RF {id : Nat} {l : List Oper} (t : PT) (C : Array Bool → World → Prop) (hQ : CJ l.toArray Q) (hm : P.follows .mixedOrders = true) (hB : (Region.noSelect l.toArray && t.okB .any l.toArray l.length (Array.replicate l.toArray.size false) false) = true)
    (hW : Stw B M Z w) (hC : ∀ w,Stw B M Z w → C (Array.replicate l.toArray.size false) w) (h : ∀ w,Stw B M Z w → LU P l.toArray Q C t (Array.replicate l.toArray.size false) a w) (hd : Mk rl l = true := by rfl) : (Code.region id l.toArray true).wr rl P Q a w := by
  simp only [zf] at hB
  obtain ⟨hsel,hB⟩ := hB
  refine Df hd hm ?_
  have := Gt (FL (P := P) (Q' := Q) hQ hsel _ t C _ a _ hB (hC _ hW.drew) (h _ hW.drew))
  simpa using this
theorem Uq {id : Nat} {l : List Oper} (t : PT) (C : Array Bool → World → Prop) (hQ : Ht Q) (hm : P.follows .mixedOrders = true) (hB : (Region.noSelect l.toArray && t.okB .any l.toArray l.length (Array.replicate l.toArray.size false) false) = true)
    (hW : Stw B M Z w) (hC : ∀ w,Stw B M Z w → C (Array.replicate l.toArray.size false) w) (h : ∀ w,Stw B M Z w → LU P l.toArray Q C t (Array.replicate l.toArray.size false) a w) (hd : Mk rl l = true := by rfl) : (Code.region id l.toArray true).wr rl P Q a w := RF t C hQ.on hm hB hW hC h hd
theorem YR {k d : Nat} {v : Value} {op : Op} {ty : TypeId} {pos : String} {aft : Array Edge} (hF : Fr n ds F a) (ho : ops[k]? = some ⟨some d,op,ty,pos,aft,none⟩) (hn : Nat.blt d n = true) (y : ∀ L w,(∀ k ∈ R,L.getD k true = false) → CN B N NZ L w → (execOp a.eval ⟨some d,op,ty,pos,aft,none⟩).run P w = .ok (.value v) w)
    (hR : PF .any ops L k R = true) (hI : SM k (N.map (·.1) ++ NZ.map (·.1)) = true) (h : ∀ a',Fr n ds ((d,v) :: F) a' → LU P ops Q (CN B N NZ) t (L.setIfInBounds k true) a' w) : LU P ops Q (CN B N NZ) (.st k t) L a w :=
  ⟨_,v,R,ho,.inl ⟨Ba rfl,y⟩,hR,PW hI,h _ (hF.put (ze hn) v)⟩
theorem Qg {k : Nat} (ho : ops[k]? = some o) (h : wpList P ops (PE Q fun a' w' => ∃ C' : Array Bool → World → Prop,(∀ L w,C' L w → C L w) ∧ C' (L.setIfInBounds k true) w' ∧ LU P ops Q C' t (L.setIfInBounds k true) a' w') [o] a w) (hm : LU P ops Q C m L a w) : LU P ops Q C (.alt k t m) L a w := by
  refine ⟨?_,hm⟩
  unfold wpOp
  simp only [ho]
  unfold wpList at h
  split
  · rename_i hw
    rw [if_pos hw] at h
    refine h.imp (fun h => ?_) (fun ⟨h1,a',w',h2⟩ => ⟨h1,a',w',h2⟩)
    unfold Oper.wp at h ⊢
    generalize (execOp a.eval o).run P w = res at h ⊢
    cases res with
    | ok nx w2 =>
      cases nx <;> simp only [Oper.upon] at h ⊢ <;> try exact h
    | halt st w2 => cases st <;> first | exact h | exact h.elim
  · rename_i hw
    rw [if_neg hw] at h
    exact h
theorem Hj {k : Nat} (ho : ops[k]? = some o) (h : wpList P ops (PE Q fun a' w' => ∃ C' : Array Bool → World → Prop,(∀ L w,C' L w → C L w) ∧ C' (L.setIfInBounds k true) w' ∧ LU P ops Q C' t (L.setIfInBounds k true) a' w') [o] a w) : LU P ops Q C (.alt k t .stop) L a w := Qg ho h trivial
theorem CA {a : Act} {w : World} (hW : Stw B M Z w) (hN3 : N ++ N2 = N3) (hZ3 : NZ ++ NZ2 = NZ3) (h1 : ∀ p ∈ N3,GS L p.1 = false → p.2 ∈ M) (h2 : ∀ z ∈ NZ3,GS L z.1 = false → z.2 ∈ Z) (h : LU P ops Q (CN B N3 NZ3) t L a w) :
    wpList P ops (PE Q fun a' w' => ∃ C' : Array Bool → World → Prop,(∀ L w,C' L w → CN B N NZ L w) ∧ C' L w' ∧ LU P ops Q C' t L a' w') [] a w := by
  subst hN3 hZ3
  exact ⟨CN B (N ++ N2) (NZ ++ NZ2),fun _ _ ⟨M,Z,hW,k1,k2⟩ => ⟨M,Z,hW,fun p hp => k1 p (List.mem_append_left _ hp),fun z hz => k2 z (List.mem_append_left _ hz)⟩,⟨M,Z,hW,h1,h2⟩,h⟩
theorem Nq {K : Act → World → Prop} (h : K a w) : LU P ops (PE Q K) C .done L a w := h
end
end Go.Proofs.YtbiekjhlijdjbaaGreat
