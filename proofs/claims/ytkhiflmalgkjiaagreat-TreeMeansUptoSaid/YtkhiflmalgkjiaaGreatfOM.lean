/- Maps that a call has made: what lies in them, in the order in which it came. Conditions: none. -/
import Derived.Test.YtkhiflmalgkjiaaGreatfO8
set_option linter.unusedVariables false
set_option linter.unusedSimpArgs false
set_option linter.unusedSectionVars false
open Go Go.RowKit
namespace Go.Proofs.YtkhiflmalgkjiaaGreat
section
variable {κ ν : Type} [DecidableEq κ]
def TJ : List (κ × ν) → κ → ν → List (κ × ν)
  | [],x,v => [(x,v)]
  | p :: l,x,v => if x = p.1 then (x,v) :: l else p :: TJ l x v
def IG (V : ν → Value) : List (κ × ν) → κ → Nat → Option (Nat × Value)
  | [],_,_ => none
  | p :: l,x,i => if x = p.1 then some (i,V p.2) else IG V l x (i + 1)
structure KeyEnc (P : Program) (k : TypeId) (E : κ → Value) : Prop where
  und : ∃ d,P.underlying k = some d ∧ ((∀ x y,Instr.sameNow d (E x) (E y) = none) ∨ ∀ x y,Instr.sameNow d (E x) (E y) = some (decide (x = y)))
  eq : ∀ x y w,(Op.equal k (E x) (E y)).run P w = .ok (decide (x = y)) w
  chk : ∀ b x w,(Instr.checkKey b 10000 k (E x)).run P w = .ok () w
  bits : ∀ x,Instr.sameBits 10000 (E x) (E x) = true
variable {P : Program} {k e t : TypeId} {E : κ → Value} {V : ν → Value}
abbrev QR (E : κ → Value) (V : ν → Value) (es : List MapEntry) (l : List (κ × ν)) : Prop := es.map (fun e => (e.key,e.val)) = l.map (fun p => (E p.1,V p.2))
theorem QR.cons {e : MapEntry} {es : List MapEntry} {p : κ × ν} {l : List (κ × ν)} (h : QR E V (e :: es) (p :: l)) : e.key = E p.1 ∧ e.val = V p.2 ∧ QR E V es l := by
  simp only [QR,zj,List.cons.injEq,Prod.mk.injEq] at h
  exact ⟨h.1.1,h.1.2,h.2⟩
theorem QR.nil_l {es : List MapEntry} (h : QR E V es ([] : List (κ × ν))) : es = [] := by simpa [QR] using h
theorem QR.ne {p : κ × ν} {l : List (κ × ν)} (h : QR E V [] (p :: l)) : False := by simp [QR] at h
theorem MK (K : KeyEnc P k E) (x : κ) (w : World) : ∀ {es : List MapEntry} {l : List (κ × ν)},QR E V es l → ∀ i,(Instr.findAsking k (E x) es i).run P w = .ok (IG V l x i) w
  | [],[],_,i => by simp [Instr.findAsking,IG]
  | e :: es,[],h,i => by cases h.nil_l
  | [],p :: l,h,i => h.ne.elim
  | e :: es,p :: l,h,i => by
    obtain ⟨h1,h2,h3⟩ := h.cons
    unfold Instr.findAsking IG
    rw [Sem.run_bind,h1,K.eq x p.1 w,Result.andThen_ok]
    by_cases c : x = p.1
    · rw [decide_eq_true c,if_pos rfl,if_pos c,Sem.run_pure,h2]
    · rw [decide_eq_false c,if_neg (by decide),if_neg c]
      exact MK K x w h3 (i + 1)
theorem Qz {d : TypeDesc} (hd : ∀ x y,Instr.sameNow d (E x) (E y) = some (decide (x = y))) (x : κ) : ∀ {es : List MapEntry} {l : List (κ × ν)},QR E V es l → ∀ i,Instr.findNow d (E x) es i = some (IG V l x i)
  | [],[],_,i => rfl
  | e :: es,[],h,i => by cases h.nil_l
  | [],p :: l,h,i => h.ne.elim
  | e :: es,p :: l,h,i => by
    obtain ⟨h1,h2,h3⟩ := h.cons
    unfold Instr.findNow IG
    rw [h1,hd x p.1]
    by_cases c : x = p.1
    · rw [decide_eq_true c,if_pos c,h2]
    · rw [decide_eq_false c,if_neg c]
      exact Qz hd x h3 (i + 1)
theorem WT (K : KeyEnc P k E) (x : κ) (w : World) {es : List MapEntry} {l : List (κ × ν)} (h : QR E V es l) : (Instr.findKey k (E x) es).run P w = .ok (IG V l x 0) w := by
  obtain ⟨d,hd,hc⟩ := K.und
  unfold Instr.findKey
  simp only [Go.underlying,Sem.run_bind,run_program,hd,Result.andThen_ok,Sem.run_pure]
  rcases hc with hc | hc
  · cases es with
    | nil =>
      cases l with
      | nil => simp [Instr.findNow,IG]
      | cons p l => exact h.ne.elim
    | cons e es =>
      cases l with
      | nil => cases h.nil_l
      | cons p l =>
        have := h.cons.1
        simp only [Instr.findNow,this,hc]
        exact MK K x w h 0
  · simp only [Qz hc x h 0,Sem.run_pure]
def mp (b : Nat) (E : κ → Value) (V : ν → Value) (l : List (κ × ν)) : It :=
  ⟨[b],fun w _ => ∃ es clock,w.heap[b]? = some (.map es clock) ∧ QR E V es.toList l,
   fun ⟨es,c,h1,h2⟩ _ hg => ⟨es,c,by rw [hg b (by simp)]; exact h1,h2⟩,
   fun ⟨es,c,h1,h2⟩ g hg => by
     rw [List.mem_singleton] at hg; subst hg
     exact (Array.getElem?_eq_some_iff.1 h1).1,
   fun _ => by simp⟩
end
section
variable {κ ν : Type} [DecidableEq κ] {P : Program} {B : Bs} {M : CU} {Z Z1 : List It} {n : Nat} {ds : List Deferred} {F : List (Nat × Value)} {a : Act} {w : World} {ops : Array Oper} {Q : Exit → Act → World → Prop} {rest : List Oper}
variable {k e t ty : TypeId} {pos : String} {aft : Array Edge} {E : κ → Value} {V : ν → Value} {l : List (κ × ν)} {b : Nat} {dst : Option Nat} {g : Option (Nat × Bool)} {x y z : Operand}
theorem Kv {r : Nat} {es : Array MapEntry} {clock : Nat} (hb : w.heap[r]? = some (.map es clock)) : (getObj r).run P w = .ok (.map es clock) w := by
  simp [getObj,Sem.run,hb]
theorem NB {r : Nat} {es : Array MapEntry} {clock : Nat} (o : Obj) (hb : w.heap[r]? = some (.map es clock)) : (setObj r o).run P w = .ok () { w with heap := w.heap.setIfInBounds r o } := by
  simp [setObj,Sem.run,hb]
theorem Stw.newIt (h : Stw B M Z w) (o : Obj) (z : It) (hbl : z.bl = [w.heap.size]) (hok : ∀ A,z.ok (w.alloc o) A) : Stw B M (z :: Z) (w.alloc o) := by
  have hb : Below w.heap.size w (w.alloc o) := (Below.refl _ _).alloc (Nat.le_refl _) _
  have h' := h.below hb
  have hm : ∀ g,g ∈ Aq M (z :: Z) ↔ g = w.heap.size ∨ g ∈ Aq M Z := by
    intro g; unfold Aq; simp [hbl]
    constructor
    · rintro (h | rfl | h) <;> simp_all
    · rintro (rfl | h | h) <;> simp_all
  have hk : IP w (w.alloc o) (Fz B (Aq M Z)) (Fz B (Aq M (z :: Z))) := fun b hA hlt =>
    ⟨⟨hA.1,fun hx => by
      rcases (hm b).1 hx with rfl | hx
      · exact Nat.lt_irrefl _ hlt
      · exact hA.2 hx⟩,hb.block b hlt⟩
  refine ⟨h'.frm,fun g hg => ?_,h'.at_,fun y hy => ?_, ?_,h.disj⟩
  · rcases (hm g).1 hg with rfl | hg
    · exact .inr h.frm.size
    · exact h.own g hg
  · rcases List.mem_cons.1 hy with rfl | hy
    · exact hok _
    · exact y.stab (h.items y hy) hk fun g hg => hb.block g (h.lt_all (D1 hy hg))
  · have hp : (Aq M (z :: Z)).Perm (w.heap.size :: Aq M Z) := by
      unfold Aq
      rw [List.flatMap_cons,hbl]
      exact List.perm_middle
    rw [hp.nodup_iff,List.nodup_cons]
    exact ⟨fun hx => Nat.lt_irrefl _ (h.lt_all hx),h.nodup⟩
theorem QR.put {kx : κ} {vx : ν} {clock : Nat} : ∀ {es : List MapEntry} {l : List (κ × ν)},QR E V es l → ∀ i0, 
    (∀ i v,IG V l kx i0 = some (i,v) → i0 ≤ i ∧ (es[i - i0]?).map (·.key) = some (E kx) ∧ QR E V (es.modify (i - i0) fun e => { e with key := E kx,val := V vx }) (TJ l kx vx)) ∧
    (IG V l kx i0 = none → QR E V (es ++ [{ key := E kx,val := V vx,born := clock }]) (TJ l kx vx))
  | [],[],_,i0 => ⟨fun i v h => by simp [IG] at h,fun _ => rfl⟩
  | e :: es,[],h,i0 => by cases h.nil_l
  | [],p :: l,h,i0 => h.ne.elim
  | e :: es,p :: l,h,i0 => by
    obtain ⟨h1,h2,h3⟩ := h.cons
    obtain ⟨r1,r2⟩ := QR.put (kx := kx) (vx := vx) (clock := clock) h3 (i0 + 1)
    unfold IG TJ
    by_cases c : kx = p.1
    · rw [if_pos c,if_pos c]
      refine ⟨fun i v h => ?_,fun h => by cases h⟩
      simp only [Option.some.injEq,Prod.mk.injEq] at h
      obtain ⟨rfl,rfl⟩ := h
      refine ⟨Nat.le_refl _,by simp [h1,c], ?_⟩
      simp only [Nat.sub_self,List.modify_zero_cons,QR,zj,List.cons.injEq,true_and]
      exact h3
    · rw [if_neg c,if_neg c]
      refine ⟨fun i v h => ?_,fun h => ?_⟩
      · obtain ⟨q1,q2,q3⟩ := r1 i v h
        have hi : i - i0 = (i - (i0 + 1)) + 1 := by omega
        refine ⟨by omega,by rw [hi,List.getElem?_cons_succ]; exact q2, ?_⟩
        rw [hi,List.modify_succ_cons]
        simp only [QR,zj,List.cons.injEq,Prod.mk.injEq]
        exact ⟨⟨h1,h2⟩,q3⟩
      · have := r2 h
        simp only [QR,List.cons_append,zj,List.cons.injEq,Prod.mk.injEq] at this ⊢
        exact ⟨⟨h1,h2⟩,this⟩
end
end Go.Proofs.YtkhiflmalgkjiaaGreat
