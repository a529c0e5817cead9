/- Maps that a call has made: what lies in them, in the order in which it came. Conditions: none. -/
import Derived.Test.YtbiekjhlijdjbaaGreatbO8
set_option linter.unusedVariables false
set_option linter.unusedSimpArgs false
set_option linter.unusedSectionVars false
open Go Go.RowKit
namespace Go.Proofs.YtbiekjhlijdjbaaGreat
section
variable {κ ν : Type} [DecidableEq κ]
def Ki : List (κ × ν) → κ → Option ν
  | [],_ => none
  | p :: l,x => if x = p.1 then some p.2 else Ki l x
def Ks : List (κ × ν) → κ → ν → List (κ × ν)
  | [],x,v => [(x,v)]
  | p :: l,x,v => if x = p.1 then (x,v) :: l else p :: Ks l x v
def Fd (V : ν → Value) : List (κ × ν) → κ → Nat → Option (Nat × Value)
  | [],_,_ => none
  | p :: l,x,i => if x = p.1 then some (i,V p.2) else Fd V l x (i + 1)
theorem MN {V : ν → Value} : ∀ (l : List (κ × ν)) (x : κ) (i : Nat),(Fd V l x i).map (·.2) = (Ki l x).map V
  | [],_,_ => rfl
  | p :: l,x,i => by
    unfold Fd Ki
    by_cases h : x = p.1
    · rw [if_pos h,if_pos h]; rfl
    · rw [if_neg h,if_neg h]; exact MN l x (i + 1)
structure KeyEnc (P : Program) (k : TypeId) (E : κ → Value) : Prop where
  und : ∃ d,P.underlying k = some d ∧ ((∀ x y,Instr.sameNow d (E x) (E y) = none) ∨ ∀ x y,Instr.sameNow d (E x) (E y) = some (decide (x = y)))
  eq : ∀ x y w,(Op.equal k (E x) (E y)).run P w = .ok (decide (x = y)) w
  chk : ∀ b x w,(Instr.checkKey b 10000 k (E x)).run P w = .ok () w
  bits : ∀ x,Instr.sameBits 10000 (E x) (E x) = true
variable {P : Program} {k e t : TypeId} {E : κ → Value} {V : ν → Value}
abbrev Kj (E : κ → Value) (V : ν → Value) (es : List MapEntry) (l : List (κ × ν)) : Prop := es.map (fun e => (e.key,e.val)) = l.map (fun p => (E p.1,V p.2))
theorem Kj.cons {e : MapEntry} {es : List MapEntry} {p : κ × ν} {l : List (κ × ν)} (h : Kj E V (e :: es) (p :: l)) : e.key = E p.1 ∧ e.val = V p.2 ∧ Kj E V es l := by
  simp only [Kj,List.map_cons,List.cons.injEq,Prod.mk.injEq] at h
  exact ⟨h.1.1,h.1.2,h.2⟩
theorem Kj.nil_l {es : List MapEntry} (h : Kj E V es ([] : List (κ × ν))) : es = [] := by simpa [Kj] using h
theorem Kj.ne {p : κ × ν} {l : List (κ × ν)} (h : Kj E V [] (p :: l)) : False := by simp [Kj] at h
theorem GX (K : KeyEnc P k E) (x : κ) (w : World) : ∀ {es : List MapEntry} {l : List (κ × ν)},Kj E V es l → ∀ i,(Instr.findAsking k (E x) es i).run P w = .ok (Fd V l x i) w
  | [],[],_,i => by simp [Instr.findAsking,Fd]
  | e :: es,[],h,i => by cases h.nil_l
  | [],p :: l,h,i => h.ne.elim
  | e :: es,p :: l,h,i => by
    obtain ⟨h1,h2,h3⟩ := h.cons
    unfold Instr.findAsking Fd
    rw [Sem.run_bind,h1,K.eq x p.1 w,Result.andThen_ok]
    by_cases c : x = p.1
    · rw [decide_eq_true c,if_pos rfl,if_pos c,Sem.run_pure,h2]
    · rw [decide_eq_false c,if_neg (by decide),if_neg c]
      exact GX K x w h3 (i + 1)
theorem JS {d : TypeDesc} (hd : ∀ x y,Instr.sameNow d (E x) (E y) = some (decide (x = y))) (x : κ) : ∀ {es : List MapEntry} {l : List (κ × ν)},Kj E V es l → ∀ i,Instr.findNow d (E x) es i = some (Fd V l x i)
  | [],[],_,i => rfl
  | e :: es,[],h,i => by cases h.nil_l
  | [],p :: l,h,i => h.ne.elim
  | e :: es,p :: l,h,i => by
    obtain ⟨h1,h2,h3⟩ := h.cons
    unfold Instr.findNow Fd
    rw [h1,hd x p.1]
    by_cases c : x = p.1
    · rw [decide_eq_true c,if_pos c,h2]
    · rw [decide_eq_false c,if_neg c]
      exact JS hd x h3 (i + 1)
theorem JQ (K : KeyEnc P k E) (x : κ) (w : World) {es : List MapEntry} {l : List (κ × ν)} (h : Kj E V es l) : (Instr.findKey k (E x) es).run P w = .ok (Fd V l x 0) w := by
  obtain ⟨d,hd,hc⟩ := K.und
  unfold Instr.findKey
  simp only [Go.underlying,Sem.run_bind,run_program,hd,Result.andThen_ok,Sem.run_pure]
  rcases hc with hc | hc
  · cases es with
    | nil =>
      cases l with
      | nil => simp [Instr.findNow,Fd]
      | cons p l => exact h.ne.elim
    | cons e es =>
      cases l with
      | nil => cases h.nil_l
      | cons p l =>
        have := h.cons.1
        simp only [Instr.findNow,this,hc]
        exact GX K x w h 0
  · simp only [JS hc x h 0,Sem.run_pure]
def mp (b : Nat) (E : κ → Value) (V : ν → Value) (l : List (κ × ν)) : It :=
  ⟨[b],fun w _ => ∃ es clock,w.heap[b]? = some (.map es clock) ∧ Kj E V es.toList l,
   fun ⟨es,c,h1,h2⟩ _ hg => ⟨es,c,by rw [hg b (by simp)]; exact h1,h2⟩,
   fun ⟨es,c,h1,h2⟩ g hg => by
     rw [List.mem_singleton] at hg; subst hg
     exact (Array.getElem?_eq_some_iff.1 h1).1,
   fun _ => by simp⟩
end
section
variable {κ ν : Type} [DecidableEq κ] {P : Program} {B : Bs} {M : Bi} {Z Z1 : List It} {n : Nat} {ds : List Deferred} {F : List (Nat × Value)} {a : Act} {w : World} {ops : Array Oper} {Q : Exit → Act → World → Prop} {rest : List Oper}
variable {k e t ty : TypeId} {pos : String} {aft : Array Edge} {E : κ → Value} {V : ν → Value} {l : List (κ × ν)} {b : Nat} {dst : Option Nat} {g : Option (Nat × Bool)} {x y z : Operand}
theorem BG {r : Nat} {es : Array MapEntry} {clock : Nat} (hb : w.heap[r]? = some (.map es clock)) : (getObj r).run P w = .ok (.map es clock) w := by
  simp [getObj,Sem.run,hb]
theorem Dd {r : Nat} {es : Array MapEntry} {clock : Nat} (o : Obj) (hb : w.heap[r]? = some (.map es clock)) : (setObj r o).run P w = .ok () { w with heap := w.heap.setIfInBounds r o } := by
  simp [setObj,Sem.run,hb]
theorem Stw.newIt (h : Stw B M Z w) (o : Obj) (z : It) (hbl : z.bl = [w.heap.size]) (hok : ∀ A,z.ok (w.alloc o) A) : Stw B M (z :: Z) (w.alloc o) := by
  have hb : Below w.heap.size w (w.alloc o) := (Below.refl _ _).alloc (Nat.le_refl _) _
  have h' := h.below hb
  have hm : ∀ g,g ∈ AA M (z :: Z) ↔ g = w.heap.size ∨ g ∈ AA M Z := by
    intro g; unfold AA; simp [hbl]
    constructor
    · rintro (h | rfl | h) <;> simp_all
    · rintro (rfl | h | h) <;> simp_all
  have hk : E5 w (w.alloc o) (Fz B (AA M Z)) (Fz B (AA M (z :: Z))) := fun b hA hlt =>
    ⟨⟨hA.1,fun hx => by
      rcases (hm b).1 hx with rfl | hx
      · exact Nat.lt_irrefl _ hlt
      · exact hA.2 hx⟩,hb.block b hlt⟩
  refine ⟨h'.frm,fun g hg => ?_,h'.at_,fun y hy => ?_, ?_,h.disj⟩
  · rcases (hm g).1 hg with rfl | hg
    · exact .inr h.frm.size
    · exact h.own g hg
  · rcases List.mem_cons.1 hy with rfl | hy
    · exact hok _
    · exact y.stab (h.items y hy) hk fun g hg => hb.block g (h.lt_all (BT hy hg))
  · have hp : (AA M (z :: Z)).Perm (w.heap.size :: AA M Z) := by
      unfold AA
      rw [List.flatMap_cons,hbl]
      exact List.perm_middle
    rw [hp.nodup_iff,List.nodup_cons]
    exact ⟨fun hx => Nat.lt_irrefl _ (h.lt_all hx),h.nodup⟩
theorem RL {d : Nat} (E : κ → Value) (V : ν → Value) (hF : Fr n ds F a) (hW : Stw B M Z w) (hn : Nat.blt d n = true)
    (k : ∀ b a' w',Fr n ds ((d,.map (some b)) :: F) a' → Stw B M (mp b E V [] :: Z) w' → wpList P ops Q rest a' w') : wpList P ops Q (⟨some d,.makeMap t none,ty,pos,aft,none⟩ :: rest) a w := by
  refine Ja hF hn (v := .map (some w.heap.size)) (w' := w.alloc (.map #[] 0)) ?_ (fun a' h => k _ a' _ h (hW.newIt _ _ rfl fun A => ⟨#[],0, ?_,rfl⟩))
  · simp [execOp,Instr.makeMap]
  · show (w.heap.push _)[w.heap.size]? = _
    simp
theorem R7 {q : Nat} {kx : κ} {zv : ν} (hF : Fr n ds F a) (hx : Bo F x = some (.map (some b))) (hy : Bo F y = some (E kx)) (hZ : Z[q]? = some (mp b E V l)) (K : KeyEnc P k E) (ht : P.underlying t = some (.map k e)) (hz : (P.info? e).bind (·.zero) = some (V zv)) :
    Yx P B M Z a ⟨dst,.lookup t x y true,ty,pos,aft,g⟩ (.tuple #[V ((Ki l kx).getD zv),.bool (Ki l kx).isSome]) :=
  AZ fun w hw => by
    obtain ⟨es,clock,h1,h2⟩ := hw.item hZ
    have hf := MN (V := V) l kx 0
    simp only [execOp,hF.eval hx,hF.eval hy,Instr.lookup,Go.underlying,Sem.run_bind,run_program,ht,Result.andThen_ok,Sem.run_pure,BG h1,K.chk,JQ K kx w h2]
    cases hm : Fd V l kx 0 with
    | none =>
      rw [hm] at hf
      cases hg : Ki l kx with
      | some v => rw [hg] at hf; simp at hf
      | none =>
        have hzr : (zeroValue e).run P w = .ok (V zv) w := by
          simp only [zeroValue,typeInfo,Sem.run_bind,run_program,Result.andThen_ok]
          cases hi : P.info? e with
          | none => rw [hi] at hz; simp at hz
          | some i =>
            rw [hi] at hz
            simp only [za] at hz
            simp [hz]
        simp [hzr]
    | some r =>
      obtain ⟨i,v⟩ := r
      rw [hm] at hf
      cases hg : Ki l kx with
      | none => rw [hg] at hf; simp at hf
      | some v' =>
        rw [hg] at hf
        simp only [Option.map_some,Option.some.injEq] at hf
        subst hf
        simp
theorem Kj.put {kx : κ} {vx : ν} {clock : Nat} : ∀ {es : List MapEntry} {l : List (κ × ν)},Kj E V es l → ∀ i0, 
    (∀ i v,Fd V l kx i0 = some (i,v) → i0 ≤ i ∧ (es[i - i0]?).map (·.key) = some (E kx) ∧ Kj E V (es.modify (i - i0) fun e => { e with key := E kx,val := V vx }) (Ks l kx vx)) ∧
    (Fd V l kx i0 = none → Kj E V (es ++ [{ key := E kx,val := V vx,born := clock }]) (Ks l kx vx))
  | [],[],_,i0 => ⟨fun i v h => by simp [Fd] at h,fun _ => rfl⟩
  | e :: es,[],h,i0 => by cases h.nil_l
  | [],p :: l,h,i0 => h.ne.elim
  | e :: es,p :: l,h,i0 => by
    obtain ⟨h1,h2,h3⟩ := h.cons
    obtain ⟨r1,r2⟩ := Kj.put (kx := kx) (vx := vx) (clock := clock) h3 (i0 + 1)
    unfold Fd Ks
    by_cases c : kx = p.1
    · rw [if_pos c,if_pos c]
      refine ⟨fun i v h => ?_,fun h => by cases h⟩
      simp only [Option.some.injEq,Prod.mk.injEq] at h
      obtain ⟨rfl,rfl⟩ := h
      refine ⟨Nat.le_refl _,by simp [h1,c], ?_⟩
      simp only [Nat.sub_self,List.modify_zero_cons,Kj,List.map_cons,List.cons.injEq,true_and]
      exact h3
    · rw [if_neg c,if_neg c]
      refine ⟨fun i v h => ?_,fun h => ?_⟩
      · obtain ⟨q1,q2,q3⟩ := r1 i v h
        have hi : i - i0 = (i - (i0 + 1)) + 1 := by omega
        refine ⟨by omega,by rw [hi,List.getElem?_cons_succ]; exact q2, ?_⟩
        rw [hi,List.modify_succ_cons]
        simp only [Kj,List.map_cons,List.cons.injEq,Prod.mk.injEq]
        exact ⟨⟨h1,h2⟩,q3⟩
      · have := r2 h
        simp only [Kj,List.cons_append,List.map_cons,List.cons.injEq,Prod.mk.injEq] at this ⊢
        exact ⟨⟨h1,h2⟩,this⟩
theorem SQ {q : Nat} {kx : κ} {vx : ν} (hF : Fr n ds F a) (hW : Stw B M Z w) (hx : Bo F x = some (.map (some b))) (hy : Bo F y = some (E kx)) (hv : Bo F z = some (V vx)) (hZ : Z[q]? = some (mp b E V l)) (hZ1 : Z.eraseIdx q = Z1) (K : KeyEnc P k E) (ht : P.underlying t = some (.map k e))
    (c : ∀ w',Stw B M (mp b E V (Ks l kx vx) :: Z1) w' → wpList P ops Q rest a w') : wpList P ops Q (⟨none,.mapUpdate t x y z,ty,pos,aft,none⟩ :: rest) a w := by
  have hW1 := hW.frontZ hZ hZ1
  obtain ⟨es,clock,h1,h2⟩ := hW.item hZ
  obtain ⟨p1,p2⟩ := Kj.put (kx := kx) (vx := vx) (clock := clock) h2 0
  have hfin : ∀ es' clock',Kj E V es'.toList (Ks l kx vx) → (Instr.mapUpdate t (.map (some b)) (E kx) (V vx)).run P w = .ok () { w with heap := w.heap.setIfInBounds b (.map es' clock') } → wpList P ops Q (⟨none,.mapUpdate t x y z,ty,pos,aft,none⟩ :: rest) a w := fun es' clock' he hr => by
    unfold wpList
    rw [if_pos (Ba rfl)]
    refine .inl ?_
    unfold Oper.wp
    have hrun : (execOp a.eval ⟨none,.mapUpdate t x y z,ty,pos,aft,none⟩).run P w = .ok .skip { w with heap := w.heap.setIfInBounds b (.map es' clock') } := by
      simp [execOp,hF.eval hx,hF.eval hy,hF.eval hv,hr]
    rw [hrun]
    have hlt := (Array.getElem?_eq_some_iff.1 h1).1
    refine c _ (hW1.itemTurn (z' := mp b E V (Ks l kx vx)) ⟨rfl,rfl,rfl,by simp,fun j hj hne => ?_⟩ (fun A _ _ => ⟨es',clock', ?_,he⟩) (fun g hg => .inl hg))
    · have : b ≠ j := fun h => hne (by show j ∈ [b]; simp [h])
      simp [Array.getElem?_setIfInBounds,this]
    · simp [hlt]
  have hq := JQ K kx w h2
  cases hm : Fd V l kx 0 with
  | none =>
    rw [hm] at hq
    refine hfin (es.push { key := E kx,val := V vx,born := clock }) (clock + 1) (by rw [Array.toList_push]; exact p2 hm) ?_
    simp only [Instr.mapUpdate,Go.underlying,Sem.run_bind,run_program,ht,Result.andThen_ok,Sem.run_pure,BG h1,K.chk,hq,Dd _ h1]
  | some r =>
    obtain ⟨i,v⟩ := r
    rw [hm] at hq
    obtain ⟨_,q2,q3⟩ := p1 i v hm
    rw [Nat.sub_zero] at q2 q3
    have hkey : (Instr.keyThatStays (((es[i]?).map (·.key)).getD (E kx)) (E kx)).run P w = .ok (E kx) w := by
      have : (es[i]?).map (·.key) = some (E kx) := by simpa using q2
      rw [this]
      simp [Instr.keyThatStays,K.bits]
    refine hfin (es.modify i fun e => { e with key := E kx,val := V vx }) clock (by rw [Array.toList_modify]; exact q3) ?_
    simp only [Instr.mapUpdate,Go.underlying,Sem.run_bind,run_program,ht,Result.andThen_ok,Sem.run_pure,BG h1,K.chk,hq,hkey,Dd _ h1]
def YC (P : Program) (n : Nat) (cs : Array Value) : List Field → Prop
  | [] => True
  | f :: fs => (∃ v,(∀ w,(part f.type cs f.offset).run P w = .ok v w) ∧ ∀ b w,(Instr.checkKey b n f.type v).run P w = .ok () w) ∧ YC P n cs fs
theorem GE {kk k' : IntKind} {p : Int} {m : Nat} (hu : P.underlying t = some (.int kk)) (b : Bool) (w : World) : (Instr.checkKey b (m + 1) t (.int k' p)).run P w = .ok () w := by
  simp [Instr.checkKey,Go.underlying,hu]
theorem Kc {fs : Array Field} {cs : Array Value} {m : Nat} (hu : P.underlying t = some (.struct fs)) (h : YC P m cs fs.toList) (b : Bool) (w : World) : (Instr.checkKey b (m + 1) t (.agg cs)).run P w = .ok () w := by
  unfold Instr.checkKey
  simp only [Go.underlying,Sem.run_bind,run_program,hu,Result.andThen_ok,Sem.run_pure]
  rw [← Array.forIn_toList]
  generalize fs.toList = l at h
  induction l with
  | nil => simp
  | cons f l ih =>
    obtain ⟨⟨v,h1,h2⟩,h3⟩ := h
    simp only [List.forIn_cons]
    by_cases c : f.name ≠ "_"
    · simp only [if_pos c]
      simp only [Sem.run_bind,h1,h2,Result.andThen_ok,Sem.run_pure]
      exact ih h3
    · simp only [if_neg c]
      simp only [Sem.run_bind,Result.andThen_ok,Sem.run_pure]
      exact ih h3
theorem OG {o : Nat} {cs : List Value} {v : Value} {e : TypeId} (T : Ty P e false 1) (h : cs[o]? = some v) (w : World) : (part e cs.toArray o).run P w = .ok v w := by
  simp [part,T.isAgg,h]
end
end Go.Proofs.YtbiekjhlijdjbaaGreat
