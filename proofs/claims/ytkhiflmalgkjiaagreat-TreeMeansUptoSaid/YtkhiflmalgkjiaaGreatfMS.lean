/- Sets that a call has made: maps without values, Mj by the ascending list of their keys. Conditions: none. -/
import Derived.Test.YtkhiflmalgkjiaaGreatfVC
import Derived.Test.YtkhiflmalgkjiaaGreatfOM
import Derived.Test.YtkhiflmalgkjiaaGreatfOT
set_option linter.unusedVariables false
set_option linter.unusedSimpArgs false
set_option linter.unusedSectionVars false
open Go Go.RowKit
namespace Go.Proofs.YtkhiflmalgkjiaaGreat
structure Lo {κ : Type} (lt : κ → κ → Bool) : Prop where
  irr : ∀ x,lt x x = false
  tr : ∀ {x y z},lt x y = true → lt y z = true → lt x z = true
  tot : ∀ {x y},lt x y = false → lt y x = false → x = y
section
variable {κ : Type} {lt : κ → κ → Bool}
def Gw (lt : κ → κ → Bool) : List κ → κ → List κ
  | [],x => [x]
  | y :: l,x => if lt x y = true then x :: y :: l else if lt y x = true then y :: Gw lt l x else y :: l
def Mk (lt : κ → κ → Bool) (a b : List κ) : List κ := b.foldl (Gw lt) a
abbrev Ku (lt : κ → κ → Bool) (l : List κ) : Prop := l.Pairwise fun x y => lt x y = true
theorem O1 (O : Lo lt) {x z : κ} : ∀ {l : List κ},z ∈ Gw lt l x ↔ z = x ∨ z ∈ l
  | [] => by simp [Gw]
  | y :: l => by
    unfold Gw
    by_cases h1 : lt x y = true
    · rw [if_pos h1]; simp
    · rw [if_neg h1]
      by_cases h2 : lt y x = true
      · rw [if_pos h2,List.mem_cons,O1 O,List.mem_cons]
        constructor
        · rintro (h | h | h) <;> simp [h]
        · rintro (h | h | h) <;> simp [h]
      · rw [if_neg h2]
        have := O.tot (Bool.eq_false_iff.2 h1) (Bool.eq_false_iff.2 h2)
        subst this
        simp
theorem MP (O : Lo lt) {x : κ} : ∀ {l : List κ},Ku lt l → Ku lt (Gw lt l x)
  | [],_ => by simp [Gw,Ku]
  | y :: l,h => by
    have ⟨h1,h2⟩ := List.pairwise_cons.1 h
    unfold Gw
    by_cases c1 : lt x y = true
    · rw [if_pos c1]
      refine List.pairwise_cons.2 ⟨fun z hz => ?_,h⟩
      rcases List.mem_cons.1 hz with rfl | hz
      · exact c1
      · exact O.tr c1 (h1 z hz)
    · rw [if_neg c1]
      by_cases c2 : lt y x = true
      · rw [if_pos c2]
        refine List.pairwise_cons.2 ⟨fun z hz => ?_,MP O h2⟩
        rcases (O1 O).1 hz with rfl | hz
        · exact c2
        · exact h1 z hz
      · rw [if_neg c2]; exact h
theorem Jf (O : Lo lt) {z : κ} : ∀ {b a : List κ},z ∈ Mk lt a b ↔ z ∈ a ∨ z ∈ b
  | [],a => by simp [Mk]
  | x :: b,a => by
    show z ∈ Mk lt (Gw lt a x) b ↔ _
    rw [Jf O,O1 O,List.mem_cons]
    constructor
    · rintro ((h | h) | h) <;> simp [h]
    · rintro (h | h | h) <;> simp [h]
theorem OH (O : Lo lt) : ∀ {b a : List κ},Ku lt a → Ku lt (Mk lt a b)
  | [],_,h => h
  | x :: b,a,h => OH (b := b) O (MP O h)
theorem Nl (O : Lo lt) : ∀ {a b : List κ},Ku lt a → Ku lt b → (∀ x,x ∈ a ↔ x ∈ b) → a = b
  | [],[],_,_,_ => rfl
  | [],y :: b,_,_,h => absurd ((h y).2 (by simp)) (by simp)
  | x :: a,[],_,_,h => absurd ((h x).1 (by simp)) (by simp)
  | x :: a,y :: b,ha,hb,h => by
    have ⟨a1,a2⟩ := List.pairwise_cons.1 ha
    have ⟨b1,b2⟩ := List.pairwise_cons.1 hb
    have hne : ∀ {u v},lt u v = true → u ≠ v := fun h e => by rw [e,O.irr] at h; cases h
    have hxy : x = y := by
      rcases List.mem_cons.1 ((h x).1 (by simp)) with h1 | h1
      · exact h1
      · rcases List.mem_cons.1 ((h y).2 (by simp)) with h2 | h2
        · exact h2.symm
        · exact absurd rfl (hne (O.tr (b1 x h1) (a1 y h2)))
    subst hxy
    refine congrArg _ (Nl O a2 b2 fun z => ?_)
    constructor
    · intro hz
      rcases List.mem_cons.1 ((h z).1 (by simp [hz])) with rfl | h1
      · exact absurd rfl (hne (a1 z hz))
      · exact h1
    · intro hz
      rcases List.mem_cons.1 ((h z).2 (by simp [hz])) with rfl | h1
      · exact absurd rfl (hne (b1 z hz))
      · exact h1
theorem P7 (O : Lo lt) {l : List κ} (h : Ku lt l) : l.Nodup := h.imp fun h e => by rw [e,O.irr] at h; cases h
theorem kB (O : Lo lt) {l : List κ} {x : κ} (h : Ku lt l) (hx : x ∈ l) : Gw lt l x = l :=
  Nl O (MP O h) h fun z => by rw [O1 O]; exact ⟨fun hz => hz.elim (fun e => e ▸ hx) id,.inr⟩
theorem Xe (O : Lo lt) {x : κ} : ∀ {l : List κ},x ∉ l → (Gw lt l x).Perm (x :: l)
  | [],_ => List.Perm.refl _
  | y :: l,h => by
    unfold Gw
    by_cases c1 : lt x y = true
    · rw [if_pos c1]
    · rw [if_neg c1]
      by_cases c2 : lt y x = true
      · rw [if_pos c2]
        exact ((Xe O fun hx => h (zd _ hx)).cons y).trans (List.Perm.swap x y l)
      · exact absurd (O.tot (Bool.eq_false_iff.2 c1) (Bool.eq_false_iff.2 c2)) fun e => h (by simp [e])
theorem cY (O : Lo lt) {a b c : List κ} (ha : Ku lt a) (h : b.Perm c) : Mk lt a b = Mk lt a c :=
  Nl O (OH O ha) (OH O ha) fun z => by rw [Jf O,Jf O,h.mem_iff]
def H4 (lt : κ → κ → Bool) (f : κ → Option (List κ)) : List κ → List κ → Option (List κ)
  | [],a => some a
  | x :: l,a => (f x).bind fun r => H4 lt f l (Mk lt a r)
theorem WK {f : κ → Option (List κ)} {x : κ} : ∀ {l a : List κ},H4 lt f (l ++ [x]) a = (H4 lt f l a).bind fun b => (f x).bind fun r => some (Mk lt b r)
  | [],a => by simp only [List.nil_append,H4,za]
  | y :: l,a => by
    show (f y).bind _ = ((f y).bind _).bind _
    cases f y with
    | none => rfl
    | some r => exact WK
theorem Ic (O : Lo lt) {f : κ → Option (List κ)} : ∀ {l a b : List κ},Ku lt a → H4 lt f l a = some b → Ku lt b ∧ (∀ x ∈ l, ∃ r,f x = some r) ∧ ∀ z,z ∈ b ↔ z ∈ a ∨ ∃ x ∈ l, ∃ r,f x = some r ∧ z ∈ r
  | [],a,b,ha,h => by cases h; exact ⟨ha,by simp,by simp⟩
  | y :: l, a, b, ha, h => by
    unfold H4 at h
    cases hf : f y with
    | none => rw [hf] at h; cases h
    | some r =>
      rw [hf] at h
      obtain ⟨h1,h2,h3⟩ := Ic O (OH O ha) h
      refine ⟨h1,fun x hx => ?_,fun z => ?_⟩
      · rcases List.mem_cons.1 hx with rfl | hx
        · exact ⟨r,hf⟩
        · exact h2 x hx
      · rw [h3,Jf O]
        constructor
        · rintro ((h | h) | ⟨x,hx,h⟩)
          · exact .inl h
          · exact .inr ⟨y,by simp,r,hf,h⟩
          · exact .inr ⟨x,by simp [hx],h⟩
        · rintro (h | ⟨x,hx,r',h,hz⟩)
          · exact .inl (.inl h)
          · rcases List.mem_cons.1 hx with rfl | hx
            · rw [hf] at h; cases h; exact .inl (.inr hz)
            · exact .inr ⟨x,hx,r',h,hz⟩
theorem OG (O : Lo lt) {f : κ → Option (List κ)} : ∀ {l a : List κ},(∀ x ∈ l, ∃ r,f x = some r) → ∃ b,H4 lt f l a = some b
  | [],a,_ => ⟨a,rfl⟩
  | y :: l,a,h => by
    obtain ⟨r,hr⟩ := h y (by simp)
    obtain ⟨b,hb⟩ := OG (l := l) (a := Mk lt a r) O fun x hx => h x (by simp [hx])
    exact ⟨b,by unfold H4; rw [hr]; exact hb⟩
theorem Z4 (O : Lo lt) {f : κ → Option (List κ)} {l m a b : List κ} (ha : Ku lt a) (h : l.Perm m) (hl : H4 lt f l a = some b) : H4 lt f m a = some b := by
  obtain ⟨h1,h2,h3⟩ := Ic O ha hl
  obtain ⟨c,hc⟩ := OG (lt := lt) (l := m) (a := a) O fun x hx => h2 x (h.mem_iff.2 hx)
  obtain ⟨g1,_,g3⟩ := Ic O ha hc
  rw [hc]
  refine congrArg some (Nl O g1 h1 fun z => ?_)
  rw [h3,g3]
  constructor
  · rintro (h' | ⟨x,hx,h'⟩)
    · exact .inl h'
    · exact .inr ⟨x,h.mem_iff.2 hx,h'⟩
  · rintro (h' | ⟨x,hx,h'⟩)
    · exact .inl h'
    · exact .inr ⟨x,h.mem_iff.1 hx,h'⟩
end
def lC : Value → List Nat | .map (some b) => [b] | _ => []
abbrev uV : Unit → Value := fun _ => .agg #[]
section
variable {κ : Type} [DecidableEq κ]
structure MapAt (E : κ → Value) (lt : κ → κ → Bool) (s : List κ) (es : Array MapEntry) (clock : Nat) (l : List (κ × Unit)) : Prop where
  ent : QR E uV es.toList l
  perm : (l.map (·.1)).Perm s
  asc : Ku lt s
  old : ∀ e ∈ es.toList,e.born < clock
  nd : (es.toList.map (·.born)).Nodup
def Cj (v : Value) (E : κ → Value) (lt : κ → κ → Bool) (s : List κ) : It :=
  ⟨lC v,fun w _ => ∃ b es clock l,v = .map (some b) ∧ w.heap[b]? = some (.map es clock) ∧ MapAt E lt s es clock l,
   fun ⟨b,es,c,l,h1,h2,h3⟩ _ hg => ⟨b,es,c,l,h1,by rw [hg b (by rw [h1]; simp [lC])]; exact h2,h3⟩,
   fun ⟨b,es,c,l,h1,h2,h3⟩ g hg => by
     rw [h1] at hg; simp only [lC,List.mem_singleton] at hg; subst hg
     exact (Array.getElem?_eq_some_iff.1 h2).1,
   fun _ => by unfold lC; split <;> simp⟩
def GG (b : Nat) (es : Array MapEntry) (clock : Nat) : It :=
  ⟨[b],fun w _ => w.heap[b]? = some (.map es clock),fun h _ hg => by rw [hg b (by simp)]; exact h,
   fun h g hg => by rw [List.mem_singleton] at hg; subst hg; exact (Array.getElem?_eq_some_iff.1 h).1,fun _ => by simp⟩
def Hn (i b since : Nat) (seen : Array Nat) (last : Nat) : It :=
  ⟨[i],fun w _ => w.heap[i]? = some (.mapIter (some b) since seen last),fun h _ hg => by rw [hg i (by simp)]; exact h,
   fun h g hg => by rw [List.mem_singleton] at hg; subst hg; exact (Array.getElem?_eq_some_iff.1 h).1,fun _ => by simp⟩
end
section
variable {κ : Type} [DecidableEq κ] {P : Program} {B : Bs} {M : CU} {Z Z1 : List It} {n : Nat} {ds : List Deferred} {F : List (Nat × Value)} {a : Act} {w : World} {ops : Array Oper} {Q : Exit → Act → World → Prop} {rest : List Oper}
variable {k e t ty : TypeId} {pos : String} {aft : Array Edge} {E : κ → Value} {lt : κ → κ → Bool} {s : List κ} {v : Value} {dst : Option Nat} {g : Option (Nat × Bool)} {x y z : Operand}
theorem Jl {d : Nat} (E : κ → Value) (lt : κ → κ → Bool) (hF : Fr n ds F a) (hW : Stw B M Z w) (hn : Nat.blt d n = true)
    (k : ∀ v a' w',Fr n ds ((d,v) :: F) a' → Stw B M (Cj v E lt [] :: Z) w' → wpList P ops Q rest a' w') : wpList P ops Q (⟨some d,.makeMap t none,ty,pos,aft,none⟩ :: rest) a w := by
  refine Pj hF hn (v := .map (some w.heap.size)) (w' := w.alloc (.map #[] 0)) ?_ (fun a' h => k _ a' _ h (hW.newIt _ _ rfl fun A => ⟨_, #[],0,[],rfl, ?_,⟨rfl,List.Perm.refl _,List.Pairwise.nil,by simp,by simp⟩⟩))
  · simp [execOp,Instr.makeMap]
  · show (w.heap.push _)[w.heap.size]? = _
    simp
theorem Tr {κ ν : Type} [DecidableEq κ] {V : ν → Value} : ∀ {l : List (κ × ν)} {kx : κ} {i j : Nat} {v : Value},IG V l kx i = some (j,v) → kx ∈ l.map (·.1)
  | [],_,_,_,_,h => by cases h
  | p :: l,kx,i,j,v,h => by
    unfold IG at h
    by_cases c : kx = p.1
    · simp [c]
    · rw [if_neg c] at h
      exact zd _ (Tr h)
theorem Rr {κ ν : Type} [DecidableEq κ] {V : ν → Value} : ∀ {l : List (κ × ν)} {kx : κ} {i : Nat},IG V l kx i = none → kx ∉ l.map (·.1)
  | [],_,_,_ => by simp
  | p :: l,kx,i,h => by
    unfold IG at h
    by_cases c : kx = p.1
    · rw [if_pos c] at h; cases h
    · rw [if_neg c] at h
      simp only [zj,List.mem_cons,not_or]
      exact ⟨c,Rr h⟩
theorem Wd : ∀ {l : List (κ × Unit)} {kx : κ},kx ∈ l.map (·.1) → (TJ l kx ()).map (·.1) = l.map (·.1)
  | [],_,h => by simp at h
  | p :: l,kx,h => by
    unfold TJ
    by_cases c : kx = p.1
    · rw [if_pos c]; simp [c]
    · rw [if_neg c]
      rw [zj,List.mem_cons] at h
      rw [zj,zj,Wd (h.resolve_left c)]
theorem W6 : ∀ {l : List (κ × Unit)} {kx : κ},kx ∉ l.map (·.1) → (TJ l kx ()).map (·.1) = l.map (·.1) ++ [kx]
  | [],_,_ => rfl
  | p :: l,kx,h => by
    rw [zj,List.mem_cons,not_or] at h
    unfold TJ
    rw [if_neg h.1,zj,W6 h.2]
    rfl
theorem Qe (f : MapEntry → MapEntry) (hf : ∀ e,(f e).born = e.born) : ∀ (L : List MapEntry) (i : Nat),(L.modify i f).map (·.born) = L.map (·.born)
  | [],i => by simp
  | e :: L,0 => by simp [hf]
  | e :: L,i + 1 => by simp [Qe f hf L i]
theorem Ym {kx : κ} {b clock : Nat} {es : Array MapEntry} {l : List (κ × Unit)} (K : KeyEnc P k E) (O : Lo lt) (ht : P.underlying t = some (.map k e)) (h1 : w.heap[b]? = some (.map es clock)) (h2 : MapAt E lt s es clock l) :
    ∃ es' clock' l',MapAt E lt (Gw lt s kx) es' clock' l' ∧ (Instr.mapUpdate t (.map (some b)) (E kx) (.agg #[])).run P w = .ok () { w with heap := w.heap.setIfInBounds b (.map es' clock') } := by
  obtain ⟨p1,p2⟩ := QR.put (V := uV) (kx := kx) (vx := ()) (clock := clock) h2.ent 0
  have hq := WT (V := uV) K kx w h2.ent
  cases hm : IG uV l kx 0 with
  | none =>
    rw [hm] at hq
    have hnew := Rr hm
    have hns : kx ∉ s := fun h => hnew (h2.perm.mem_iff.2 h)
    refine ⟨es.push { key := E kx,val := .agg #[],born := clock },clock + 1,TJ l kx (),⟨by rw [Array.toList_push]; exact p2 hm, ?_,MP O h2.asc,fun e he => ?_, ?_⟩, ?_⟩
    · rw [W6 hnew]
      exact ((h2.perm.append_right _).trans (List.perm_append_comm (l₁ := s) (l₂ := [kx]))).trans (Xe O hns).symm
    · rw [Array.toList_push] at he
      rcases List.mem_append.1 he with he | he
      · exact Nat.lt_succ_of_lt (h2.old e he)
      · rw [List.mem_singleton] at he; subst he; exact Nat.lt_succ_self _
    · rw [Array.toList_push,List.map_append]
      refine List.nodup_append.2 ⟨h2.nd,by simp,fun x hx y hy => ?_⟩
      obtain ⟨e,he,rfl⟩ := List.mem_map.1 hx
      have := h2.old e he
      simp at hy
      subst hy
      exact Nat.ne_of_lt this
    · simp only [Instr.mapUpdate,Go.underlying,Sem.run_bind,run_program,ht,Result.andThen_ok,Sem.run_pure,Kv h1,K.chk,hq,NB _ h1]
  | some r =>
    obtain ⟨i,v⟩ := r
    rw [hm] at hq
    obtain ⟨_,q2,q3⟩ := p1 i v hm
    rw [Nat.sub_zero] at q2 q3
    have hold := Tr hm
    have hkey : (Instr.keyThatStays (((es[i]?).map (·.key)).getD (E kx)) (E kx)).run P w = .ok (E kx) w := by
      have : (es[i]?).map (·.key) = some (E kx) := by simpa using q2
      rw [this]
      simp [Instr.keyThatStays,K.bits]
    have hb : (es.toList.modify i fun e => { e with key := E kx,val := uV () }).map (·.born) = es.toList.map (·.born) := by
      exact Qe (fun e => { e with key := E kx,val := uV () }) (fun _ => rfl) _ _
    refine ⟨es.modify i fun e => { e with key := E kx,val := .agg #[] },clock,TJ l kx (),⟨by rw [Array.toList_modify]; exact q3, ?_,MP O h2.asc,fun e he => ?_, ?_⟩, ?_⟩
    · rw [Wd hold,kB O h2.asc (h2.perm.mem_iff.1 hold)]; exact h2.perm
    · rw [Array.toList_modify] at he
      have h3 : e.born ∈ (es.toList.modify i fun e => { e with key := E kx,val := uV () }).map (·.born) := List.mem_map.2 ⟨e,he,rfl⟩
      rw [hb] at h3
      obtain ⟨e',he',h4⟩ := List.mem_map.1 h3
      rw [← h4]; exact h2.old e' he'
    · rw [Array.toList_modify]
      show (List.map _ (es.toList.modify i fun e => { e with key := E kx,val := uV () })).Nodup
      rw [hb]; exact h2.nd
    · simp only [Instr.mapUpdate,Go.underlying,Sem.run_bind,run_program,ht,Result.andThen_ok,Sem.run_pure,Kv h1,K.chk,hq,hkey,NB _ h1]
theorem Zq {q : Nat} (kx : κ) (hW : Stw B M Z w) (hZ : Z[q]? = some (Cj v E lt s)) (hZ1 : Z.eraseIdx q = Z1) (K : KeyEnc P k E) (O : Lo lt) (ht : P.underlying t = some (.map k e)) :
    ∃ w',(Instr.mapUpdate t v (E kx) (.agg #[])).run P w = .ok () w' ∧ Stw B M (Cj v E lt (Gw lt s kx) :: Z1) w' := by
  have hW1 := hW.frontZ hZ hZ1
  obtain ⟨b,es,clock,l,rfl,h1,h2⟩ := hW.item hZ
  obtain ⟨es',clock',l',g1,g2⟩ := Ym (kx := kx) K O ht h1 h2
  refine ⟨_,g2,hW1.itemTurn (z' := Cj (.map (some b)) E lt (Gw lt s kx)) ⟨rfl,rfl,rfl,by simp,fun j hj hne => ?_⟩ (fun A _ _ => ⟨b,es',clock',l',rfl, ?_,g1⟩) (fun g hg => .inl hg)⟩
  · have : b ≠ j := fun h => hne (by show j ∈ [b]; simp [h])
    simp [Array.getElem?_setIfInBounds,this]
  · have hlt := (Array.getElem?_eq_some_iff.1 h1).1
    simp [hlt]
theorem dO {q : Nat} (kx : κ) (hF : Fr n ds F a) (hW : Stw B M Z w) (hx : C7 F x = some v) (hy : C7 F y = some (E kx)) (hv : C7 F z = some (.agg #[])) (hZ : Z[q]? = some (Cj v E lt s)) (hZ1 : Z.eraseIdx q = Z1) (K : KeyEnc P k E) (O : Lo lt) (ht : P.underlying t = some (.map k e))
    (c : ∀ w',Stw B M (Cj v E lt (Gw lt s kx) :: Z1) w' → wpList P ops Q rest a w') : wpList P ops Q (⟨none,.mapUpdate t x y z,ty,pos,aft,none⟩ :: rest) a w := by
  obtain ⟨w',h1,h2⟩ := Zq kx hW hZ hZ1 K O ht
  unfold wpList
  rw [if_pos (BN rfl)]
  refine .inl ?_
  unfold Oper.wp
  have hrun : (execOp a.eval ⟨none,.mapUpdate t x y z,ty,pos,aft,none⟩).run P w = .ok .skip w' := by
    simp [execOp,hF.eval hx,hF.eval hy,hF.eval hv,h1]
  rw [hrun]
  exact c _ h2
theorem l_setput' {q : Nat} (kx : κ) (hF : Fr n ds F a) (hW : Stw B M Z w) (hx : C7 F x = some v) (hy : C7 F y = some (E kx)) (hv : C7 F z = some (.agg #[])) (hZ : Z[q]? = some (Cj v E lt s)) (hZ1 : Z.eraseIdx q = Z1) (K : KeyEnc P k E) (O : Lo lt) (ht : P.underlying t = some (.map k e))
    (c : ∀ w',Stw B M (Cj v E lt (Gw lt s kx) :: Z1) w' → wpList P ops Q rest a w') : wpList P ops Q (⟨none,.insert t x y z,ty,pos,aft,none⟩ :: rest) a w := by
  obtain ⟨w',h1,h2⟩ := Zq kx hW hZ hZ1 K O ht
  unfold wpList
  rw [if_pos (BN rfl)]
  refine .inl ?_
  unfold Oper.wp
  have hrun : (execOp a.eval ⟨none,.insert t x y z,ty,pos,aft,none⟩).run P w = .ok .skip w' := by
    simp [execOp,hF.eval hx,hF.eval hy,hF.eval hv,h1]
  rw [hrun]
  exact c _ h2
theorem Oa {d q : Nat} (hF : Fr n ds F a) (hW : Stw B M Z w) (hn : Nat.blt d n = true) (hx : C7 F x = some v) (hZ : Z[q]? = some (Cj v E lt s)) (hZ1 : Z.eraseIdx q = Z1) (ht : P.underlying t = some (.map k e))
    (c : ∀ i b es clock l a' w',v = .map (some b) → MapAt E lt s es clock l → Fr n ds ((d,.pointer (some ⟨i,0,none⟩)) :: F) a' → Stw B M (Hn i b clock #[] clock :: GG b es clock :: Z1) w' → wpList P ops Q rest a' w') : wpList P ops Q (⟨some d,.range t x,ty,pos,aft,none⟩ :: rest) a w := by
  have hW1 := hW.frontZ hZ hZ1
  obtain ⟨b,es,clock,l,rfl,h1,h2⟩ := hW.item hZ
  have hW2 : Stw B M (GG b es clock :: Z1) w := hW1.itemTurn (z' := GG b es clock) (⟨rfl,rfl,rfl,Nat.le_refl _,fun _ _ _ => rfl⟩) (fun A _ _ => h1) (fun g hg => .inl hg)
  refine Pj hF hn (v := .pointer (some ⟨w.heap.size,0,none⟩)) (w' := w.alloc (.mapIter (some b) clock #[] clock)) ?_ (fun a' h => c _ b es clock l a' _ rfl h2 h (hW2.newIt _ _ rfl fun A => ?_))
  · simp [execOp,Instr.range,Go.underlying,ht,hF.eval hx,Kv h1,newObj]
    rfl
  · show (w.heap.push _)[w.heap.size]? = _
    simp
theorem Stw.unfix {i b clock last : Nat} {seen : Array Nat} {es : Array MapEntry} {l : List (κ × Unit)} (hW : Stw B M (Hn i b clock seen last :: GG b es clock :: Z) w) (hE : MapAt E lt s es clock l) : Stw B M (Cj (.map (some b)) E lt s :: Z) w := by
  have h1 : Stw B M (GG b es clock :: Z) w := hW.sub (List.Sublist.refl _) (List.sublist_cons_self _ _)
  have h2 : w.heap[b]? = some (.map es clock) := h1.items _ (List.mem_cons_self ..)
  exact h1.itemTurn (z' := Cj (.map (some b)) E lt s) (⟨rfl,rfl,rfl,Nat.le_refl _,fun _ _ _ => rfl⟩) (fun A _ _ => ⟨b,es,clock,l,rfl,h2,hE⟩) (fun g hg => .inl hg)
theorem Vx {i b clock : Nat} {seen : Array Nat} {es : Array MapEntry} (hi : w.heap[i]? = some (.mapIter (some b) clock seen clock)) (hb : w.heap[b]? = some (.map es clock)) (hold : ∀ e ∈ es.toList,e.born < clock) (ty : TypeId) :
    ((∀ e ∈ es.toList,seen.contains e.born = true) ∧ (Instr.next (.pointer (some ⟨i,0,none⟩)) false ty).run P w = .ok (.tuple #[.bool false]) w) ∨
    ∃ e ∈ es.toList,seen.contains e.born = false ∧ ∃ w1 : World,(w1 = w ∨ w1 = { w with drawn := w.drawn + 1 }) ∧ (Instr.next (.pointer (some ⟨i,0,none⟩)) false ty).run P w = .ok (.tuple #[.bool true,e.key,e.val]) { w1 with heap := w.heap.setIfInBounds i (.mapIter (some b) clock (seen.push e.born) clock) } := by
  have htest : (!seen.isEmpty && !es.isEmpty && es.all (fun x => decide (x.born ≥ clock))) = false := by
    cases he : es.isEmpty with
    | true => simp
    | false =>
      have : es.all (fun x => decide (x.born ≥ clock)) = false := by
        rw [Bool.eq_false_iff]
        intro h
        rw [Array.all_eq_true_iff_forall_mem] at h
        have h0 : 0 < es.size := by
          rcases Nat.eq_zero_or_pos es.size with h0 | h0
          · simp [Array.isEmpty,h0] at he
          · exact h0
        have h1 := h _ (Array.getElem_mem h0)
        have h2 := hold es[0] (by simp)
        simp at h1
        omega
      simp [this]
  simp only [Instr.next,getObj,Sem.run_bind,Sem.run,hi,hb,Result.andThen,htest,Bool.false_eq_true,if_false]
  have hmem : ∀ x ∈ (Array.filter (fun e => !seen.contains e.born) es).toList,x ∈ es.toList ∧ seen.contains x.born = false := fun x hx => by simp at hx ⊢; exact hx
  have hall : (Array.filter (fun e => !seen.contains e.born) es).size = 0 → ∀ e ∈ es.toList,seen.contains e.born = true := fun h e he => by
    have h3 := Array.eq_empty_of_size_eq_zero h
    rw [Array.filter_eq_empty_iff] at h3
    have := h3 e (by simpa using he)
    simpa using this
  generalize Array.filter (fun e => !seen.contains e.born) es = L at hmem hall ⊢
  have e1 : L.filter (fun x => decide (x.born < clock)) = L := Array.filter_eq_self.2 (fun x hx => by simpa using hold x (hmem x (by simpa using hx)).1)
  have e2 : L.filter (fun x => decide (x.born ≥ clock)) = #[] := by
    rw [Array.filter_eq_empty_iff]
    intro x hx
    have := hold x (hmem x (by simpa using hx)).1
    simp
    omega
  simp only [e1,e2,Array.append_empty]
  by_cases h0 : L.size = 0
  · left
    refine ⟨hall h0, ?_⟩
    have : L = #[] := Array.eq_empty_of_size_eq_zero h0
    subst this
    simp [choose,Sem.run,Question.forced]
  · right
    have hne : L.isEmpty = false := by simp [Array.isEmpty,h0]
    simp only [hne,Bool.false_eq_true,if_false,Array.empty_append,Array.size_map]
    have hch : ∃ (j : Nat) (w1 : World),j < L.size ∧ (w1 = w ∨ w1 = { w with drawn := w.drawn + 1 }) ∧ (choose (Question.mapNext L.size)).run P w = .ok j w1 := by
      by_cases hf : L.size ≤ 1
      · exact ⟨0,w,by omega,.inl rfl,by simp [choose,Sem.run,Question.forced,hf]⟩
      · exact ⟨_,w.drew,Nat.mod_lt _ (by omega),.inr rfl,by
          simp only [choose,Sem.run,Question.forced,decide_eq_true_eq,hf,if_false,Question.cut]
          rfl⟩
    obtain ⟨j,w1,hj,hal,hrun⟩ := hch
    have hheap : w1.heap = w.heap := by rcases hal with h | h <;> rw [h]
    refine ⟨L[j],(hmem _ (by simp)).1,(hmem L[j] (by simp)).2,w1,hal, ?_⟩
    have hset : ∀ o' : Obj,(setObj i o').run P w1 = .ok () { w1 with heap := w.heap.setIfInBounds i o' } := fun o' => by
      simp only [setObj,Sem.run,hheap,hi]
    simp only [hrun,Array.getElem?_map,Array.getElem?_eq_getElem hj,Option.map_some,Sem.run_bind,hset,Result.andThen]
    rfl
theorem aR {d i b clock : Nat} {seen : Array Nat} {es : Array MapEntry} (hF : Fr n ds F a) (hW : Stw B M (Hn i b clock seen clock :: GG b es clock :: Z) w) (hn : Nat.blt d n = true) (hx : C7 F x = some (.pointer (some ⟨i,0,none⟩))) (hold : ∀ e ∈ es.toList,e.born < clock)
    (k0 : (∀ e ∈ es.toList,seen.contains e.born = true) → ∀ a',Fr n ds ((d,.tuple #[.bool false]) :: F) a' → wpList P ops Q rest a' w)
    (k1 : ∀ e ∈ es.toList,seen.contains e.born = false → ∀ a' w',Fr n ds ((d,.tuple #[.bool true,e.key,e.val]) :: F) a' → Stw B M (Hn i b clock (seen.push e.born) clock :: GG b es clock :: Z) w' → wpList P ops Q rest a' w') : wpList P ops Q (⟨some d,.next x false,ty,pos,aft,none⟩ :: rest) a w := by
  have hi : w.heap[i]? = some (.mapIter (some b) clock seen clock) := hW.items _ (List.mem_cons_self ..)
  have hb : w.heap[b]? = some (.map es clock) := hW.items _ (zd _ (List.mem_cons_self ..))
  rcases Vx (P := P) hi hb hold ty with ⟨h1,h2⟩ | ⟨e,he,h1,w1,h2,h3⟩
  · exact Pj hF hn (v := .tuple #[.bool false]) (w' := w) (by simp [execOp,hF.eval hx,h2]) (fun a' h => k0 h1 a' h)
  · refine Pj hF hn (v := .tuple #[.bool true,e.key,e.val]) (w' := { w1 with heap := w.heap.setIfInBounds i (.mapIter (some b) clock (seen.push e.born) clock) }) (by simp only [execOp,hF.eval hx,Sem.run_bind,h3,Result.andThen_ok,Sem.run_pure]) (fun a' h => k1 e he h1 a' _ h ?_)
    have hlt := (Array.getElem?_eq_some_iff.1 hi).1
    have hp : w1.os = w.os ∧ w1.tape = w.tape ∧ w1.output = w.output := by rcases h2 with h | h <;> rw [h] <;> exact ⟨rfl,rfl,rfl⟩
    refine hW.itemTurn (z' := Hn i b clock (seen.push e.born) clock) ⟨hp.1,hp.2.1,hp.2.2,by simp,fun j hj hne => ?_⟩ (fun A _ _ => ?_) (fun g hg => .inl hg)
    · have : i ≠ j := fun h => hne (by show j ∈ [i]; simp [h])
      simp [Array.getElem?_setIfInBounds,this]
    · show (w.heap.setIfInBounds i _)[i]? = _
      simp [hlt]
def wE (E : κ → Value) (es : Array MapEntry) (seen : Array Nat) (kx : κ) : Prop := ∃ e : MapEntry,es.find? (fun x => x.born == e.born) = some e ∧ seen.back? = some e.born ∧ e.key = E kx ∧ e.val = .agg #[]
theorem Oe {i b clock q q' : Nat} {seen : Array Nat} {es : Array MapEntry} {kx : κ} (hF : Fr n ds F a) (hx : C7 F x = some (.pointer (some ⟨i,0,none⟩))) (hZ : Z[q]? = some (Hn i b clock seen clock)) (hZ' : Z[q']? = some (GG b es clock)) (hc : wE E es seen kx) :
    Yx P B M Z a ⟨dst,.entry x,ty,pos,aft,g⟩ (.tuple #[E kx,.agg #[]]) :=
  Ck fun w hw => by
    have hi : w.heap[i]? = some (.mapIter (some b) clock seen clock) := hw.item hZ
    have hb : w.heap[b]? = some (.map es clock) := hw.item hZ'
    obtain ⟨e,h1,h2,h3,h4⟩ := hc
    simp only [execOp,hF.eval hx,Instr.entry,getObj,Sem.run_bind,Sem.run,hi,hb,Result.andThen,h2,bne_self_eq_false,Bool.false_eq_true,if_false,h1,h3,h4]
    rfl
theorem YX : ∀ {es : List MapEntry} {l : List (κ × Unit)},QR E uV es l → ∃ zl : List (MapEntry × κ),zl.map (·.1) = es ∧ zl.map (·.2) = l.map (·.1) ∧ ∀ p ∈ zl,p.1.key = E p.2 ∧ p.1.val = .agg #[]
  | [],[],_ => ⟨[],rfl,rfl,by simp⟩
  | e :: es,[],h => by cases h.nil_l
  | [],p :: l,h => h.ne.elim
  | e :: es,p :: l,h => by
    obtain ⟨h1,h2,h3⟩ := h.cons
    obtain ⟨zl,g1,g2,g3⟩ := YX h3
    refine ⟨(e,p.1) :: zl,by simp [g1],by simp [g2],fun q hq => ?_⟩
    rcases List.mem_cons.1 hq with rfl | hq
    · exact ⟨h1,h2⟩
    · exact g3 q hq
theorem RM {e : MapEntry} : ∀ {l : List MapEntry},(l.map (·.born)).Nodup → e ∈ l → l.find? (fun x => x.born == e.born) = some e
  | x :: l,hn,he => by
    have hn' := List.nodup_cons.1 hn
    rcases List.mem_cons.1 he with rfl | h
    · simp
    · have hx : (x.born == e.born) = false := by
        cases hc : x.born == e.born with
        | false => rfl
        | true => exact absurd (show x.born ∈ l.map (·.born) by rw [show x.born = e.born from beq_iff_eq.1 hc]; exact List.mem_map.2 ⟨e,h,rfl⟩) hn'.1
      rw [List.find?_cons,hx]
      exact RM hn'.2 h
theorem Xb {p : MapEntry × κ} : ∀ {L : List (MapEntry × κ)},(L.map (·.1.born)).Nodup → p ∈ L → L.Perm (p :: L.filter fun q => decide (q.1.born ≠ p.1.born))
  | x :: L,hn,hp => by
    have hn' := List.nodup_cons.1 hn
    rw [List.filter_cons]
    rcases List.mem_cons.1 hp with rfl | h
    · rw [if_neg (by simp)]
      have : L.filter (fun q => decide (q.1.born ≠ p.1.born)) = L := List.filter_eq_self.2 fun q hq => by
        have : q.1.born ≠ p.1.born := fun e => hn'.1 (by show p.1.born ∈ _; rw [← e]; exact List.mem_map.2 ⟨q,hq,rfl⟩)
        simpa using this
      rw [this]
    · have hx : x.1.born ≠ p.1.born := fun e => hn'.1 (by show x.1.born ∈ _; rw [e]; exact List.mem_map.2 ⟨p,h,rfl⟩)
      rw [if_pos (by simpa using hx)]
      exact ((Xb hn'.2 h).cons x).trans (List.Perm.swap p x _)
theorem Tn {rl : Option Nat} {σ : Type} {S : List κ} {rid id it dn db : Nat} {ty1 ty2 : TypeId} {pos1 pos2 : String} {aft1 aft2 : Array Edge} {body : Code} {i b clock : Nat} {es : Array MapEntry} {l : List (κ × Unit)} {s0 : σ}
    (R : List κ → σ → Prop) (Ff : σ → List (Nat × Value)) (Zf : σ → List It)
    (hF : Fr n ds ((it,.pointer (some ⟨i,0,none⟩)) :: Ff s0) a) (hW : Stw B M (Hn i b clock #[] clock :: GG b es clock :: Zf s0) w) (hE : MapAt E lt S es clock l) (h0 : R [] s0)
    (hn1 : Nat.blt dn n = true) (hn2 : Nat.blt db n = true)
    (step : ∀ done kx s seen a w,kx ∈ S → done.length + 1 ≤ S.length → wE E es seen kx → R done s → Fr n ds ((db,.bool true) :: (dn,.tuple #[.bool true,E kx,.agg #[]]) :: (it,.pointer (some ⟨i,0,none⟩)) :: Ff s) a → Stw B M (Hn i b clock seen clock :: GG b es clock :: Zf s) w →
      body.wr rl P (Exit.then (fun a' w' => ∃ s',R (done ++ [kx]) s' ∧ Fr n ds ((it,.pointer (some ⟨i,0,none⟩)) :: Ff s') a' ∧ Stw B M (Hn i b clock seen clock :: GG b es clock :: Zf s') w') Q) a w)
    (fin : ∀ done s seen a w,done.Perm S → R done s → Fr n ds ((db,.bool false) :: (dn,.tuple #[.bool false]) :: (it,.pointer (some ⟨i,0,none⟩)) :: Ff s) a → Stw B M (Hn i b clock seen clock :: GG b es clock :: Zf s) w → Q (.exit id) a w)
    (hd : SI rl [⟨some dn,.next (.tmp it) false,ty1,pos1,aft1,none⟩,⟨some db,.extract (.tmp dn) 0,ty2,pos2,aft2,none⟩] = true := by rfl) :
    (Code.loop ((Code.region rid #[⟨some dn,.next (.tmp it) false,ty1,pos1,aft1,none⟩,⟨some db,.extract (.tmp dn) 0,ty2,pos2,aft2,none⟩] false).seq ((Code.cond (.tmp db) .skip (.exit id)).seq body))).wr rl P Q a w := by
  obtain ⟨zl,z1,z2,z3⟩ := YX hE.ent
  have hzn : (zl.map (·.1.born)).Nodup := by
    have := hE.nd
    rw [← z1,List.map_map] at this
    exact this
  have hkn : (zl.map (·.2)).Perm S := by rw [z2]; exact hE.perm
  have h00 : zl.filter (fun p => !(#[] : Array Nat).contains p.1.born) = zl := List.filter_eq_self.2 fun p _ => by simp
  refine KB (fun m a w => ∃ done s seen,(zl.filter fun p => !seen.contains p.1.born).length = m ∧ (done ++ (zl.filter fun p => !seen.contains p.1.born).map (·.2)).Perm (zl.map (·.2)) ∧ R done s ∧ Fr n ds ((it,.pointer (some ⟨i,0,none⟩)) :: Ff s) a ∧ Stw B M (Hn i b clock seen clock :: GG b es clock :: Zf s) w) _ ⟨[],s0, #[],rfl,by rw [h00]; exact List.Perm.refl _,h0,hF,hW⟩ ?_
  rintro m a w ⟨done,s,seen,hm,hp,hR,hF,hW⟩
  refine Qm (Lg (l := [_,_]) ?_ hd)
  have H3 : C7 ((it,.pointer (some ⟨i,0,none⟩)) :: Ff s) (.tmp it) = some (.pointer (some ⟨i,0,none⟩)) := by simp [C7,lk]
  refine aR hF hW hn1 H3 hE.old (fun hall a hF => ?_) (fun e he hns a w hF hW => ?_)
  · refine ls hF hW hn2 ((Hy (vs := [.bool false]) hF (by simp [C7,lk]) rfl).q) (fun a w hF hW => ?_)
    refine Ig (BJ (Qm (KW hF (by simp [C7,lk]) (HW ?_))))
    refine LQ (LQ (fin done s seen a w ?_ hR hF hW))
    have : (zl.filter fun p => !seen.contains p.1.born) = [] := List.filter_eq_nil_iff.2 fun p hp => by
      have := hall p.1 (by rw [← z1]; exact List.mem_map.2 ⟨p,hp,rfl⟩)
      simp only [this,Bool.not_true]; exact Bool.false_ne_true
    rw [this] at hp
    simpa using hp.trans hkn
  · refine ls hF hW hn2 ((Hy (vs := [.bool true,e.key,e.val]) hF (by simp [C7,lk]) rfl).q) (fun a w hF hW => ?_)
    refine Ig (BJ (Qm (Lj hF (by simp [C7,lk]) (F9 (BJ ?_)))))
    obtain ⟨p,hpz,hpe⟩ : ∃ p ∈ zl,p.1 = e := by
      rw [← z1] at he
      obtain ⟨p,h1,h2⟩ := List.mem_map.1 he
      exact ⟨p,h1,h2⟩
    subst hpe
    obtain ⟨hk1,hk2⟩ := z3 p hpz
    have hpl : p ∈ zl.filter fun p => !seen.contains p.1.born := List.mem_filter.2 ⟨hpz,by simp only [hns,Bool.not_false]⟩
    have hln : ((zl.filter fun p => !seen.contains p.1.born).map (·.1.born)).Nodup := hzn.sublist (List.filter_sublist.map _)
    have hout := Xb hln hpl
    have hfl : (zl.filter fun q => !(seen.push p.1.born).contains q.1.born) = (zl.filter fun p => !seen.contains p.1.born).filter fun q => decide (q.1.born ≠ p.1.born) := by
      rw [List.filter_filter]
      refine List.filter_congr fun q _ => ?_
      simp [Array.contains_eq_mem,Array.mem_push,Bool.and_comm]
    have hp2 : ((done ++ [p.2]) ++ (zl.filter fun q => !(seen.push p.1.born).contains q.1.born).map (·.2)).Perm (zl.map (·.2)) := by
      rw [hfl,List.append_assoc]
      refine (List.Perm.append_left done ?_).trans hp
      exact (hout.map (·.2)).symm
    have hlen : done.length + 1 ≤ S.length := by
      have h1 := hp2.length_eq
      have h2 := hkn.length_eq
      simp only [List.length_append,zh,List.length_cons,List.length_nil] at h1 h2
      omega
    rw [hk1,hk2] at hF
    refine J9 ?_ (step done p.2 s (seen.push p.1.born) a w (hkn.mem_iff.1 (List.mem_map.2 ⟨p,hpz,rfl⟩)) hlen ⟨p.1, ?_,by simp,hk1,hk2⟩ hR hF hW)
    · intro ex a' w' h
      cases ex <;> first | exact h | skip
      obtain ⟨s',h1,h2,h3⟩ := h
      refine ⟨_, ?_,done ++ [p.2],s',seen.push p.1.born,rfl,hp2,h1,h2,h3⟩
      rw [hfl, ← hm,hout.length_eq]
      exact Nat.lt_succ_self _
    · rw [← Array.find?_toList]
      exact RM hE.nd (by rw [← z1]; exact List.mem_map.2 ⟨p,hpz,rfl⟩)
theorem Uq {rl : Option Nat} {σ : Type} {S : List κ} {rid id it dn db : Nat} {ty1 ty2 : TypeId} {pos1 pos2 : String} {aft1 aft2 : Array Edge} {body : Code} {i b clock : Nat} {es : Array MapEntry} {l : List (κ × Unit)} {s0 : σ}
    (R : List κ → σ → Prop) (Ff : σ → List (Nat × Value)) (Zf : σ → List It)
    (hF : Fr n ds ((it,.pointer (some ⟨i,0,none⟩)) :: Ff s0) a) (hW : Stw B M (Hn i b clock #[] clock :: GG b es clock :: Zf s0) w) (hE : MapAt E lt S es clock l) (h0 : R [] s0)
    (hn1 : Nat.blt dn n = true) (hn2 : Nat.blt db n = true)
    (step : ∀ done kx s seen a w,kx ∈ S → wE E es seen kx → R done s → Fr n ds ((db,.bool true) :: (dn,.tuple #[.bool true,E kx,.agg #[]]) :: (it,.pointer (some ⟨i,0,none⟩)) :: Ff s) a → Stw B M (Hn i b clock seen clock :: GG b es clock :: Zf s) w →
      body.wr rl P (Exit.then (fun a' w' => ∃ s',R (done ++ [kx]) s' ∧ Fr n ds ((it,.pointer (some ⟨i,0,none⟩)) :: Ff s') a' ∧ Stw B M (Hn i b clock seen clock :: GG b es clock :: Zf s') w') Q) a w)
    (fin : ∀ done s seen a w,done.Perm S → R done s → Fr n ds ((db,.bool false) :: (dn,.tuple #[.bool false]) :: (it,.pointer (some ⟨i,0,none⟩)) :: Ff s) a → Stw B M (Hn i b clock seen clock :: GG b es clock :: Zf s) w → Q (.exit id) a w)
    (hd : SI rl [⟨some dn,.next (.tmp it) false,ty1,pos1,aft1,none⟩,⟨some db,.extract (.tmp dn) 0,ty2,pos2,aft2,none⟩] = true := by rfl) :
    (Code.loop ((Code.region rid #[⟨some dn,.next (.tmp it) false,ty1,pos1,aft1,none⟩,⟨some db,.extract (.tmp dn) 0,ty2,pos2,aft2,none⟩] false).seq ((Code.cond (.tmp db) .skip (.exit id)).seq body))).wr rl P Q a w :=
  Tn R Ff Zf hF hW hE h0 hn1 hn2 (fun done kx s seen a w h _ => step done kx s seen a w h) fin hd
theorem kI {α : Type} {l S x : List α} {k : α} (h : HU ([] : List α) S = some x) (hl : l.length + 1 ≤ S.length) : HU l [k] = some (l ++ [k]) := by
  unfold HU at h ⊢
  by_cases c : (([] : List α).length : Nat) + S.length ≤ 1000000000
  · rw [if_pos (by simp only [List.length_cons,List.length_nil] at *; omega)]
  · rw [if_neg (by simpa using c)] at h; cases h
noncomputable def Xa {α β : Type} (f : List α → Option β) (S : List α) : Option β :=
  open Classical in if h : ∃ r, ∀ l,l.Perm S → f l = some r then some h.choose else none
theorem Yr {α β : Type} {f : List α → Option β} {S : List α} {r : β} (h : Xa f S = some r) (l : List α) (hp : l.Perm S) : f l = some r := by
  unfold Xa at h
  split at h
  · rename_i h1
    cases h
    exact h1.choose_spec l hp
  · cases h
theorem g8 {α β : Type} {f : List α → Option β} {S : List α} {r : β} (h : ∀ l,l.Perm S → f l = some r) : Xa f S = some r := by
  unfold Xa
  have h1 : ∃ r, ∀ l,l.Perm S → f l = some r := ⟨r,h⟩
  rw [dif_pos h1]
  have h2 := h1.choose_spec S (List.Perm.refl _)
  rw [h S (List.Perm.refl _)] at h2
  exact h2.symm
theorem Stw.asc {i : Nat} (hW : Stw B M Z w) (hZ : Z[i]? = some (Cj v E lt s)) : Ku lt s := by
  obtain ⟨b,es,clock,l,_,_,h⟩ := hW.item hZ
  exact h.asc
theorem fO {rl : Option Nat} {S acc xr : List κ} {f : κ → Option (List κ)} {rid id it dn db : Nat} {ty1 ty2 : TypeId} {pos1 pos2 : String} {aft1 aft2 : Array Edge} {body : Code} {i b clock : Nat} {es : Array MapEntry} {l : List (κ × Unit)} {va vS : Value} {Ff : List (Nat × Value)} {Zr : List It}
    (O : Lo lt) (hx : H4 lt f S acc = some xr) (hF : Fr n ds ((it,.pointer (some ⟨i,0,none⟩)) :: Ff) a) (hW : Stw B M (Hn i b clock #[] clock :: GG b es clock :: Cj va E lt acc :: Zr) w) (hv : vS = .map (some b)) (hE : MapAt E lt S es clock l)
    (hn1 : Nat.blt dn n = true) (hn2 : Nat.blt db n = true)
    (step : ∀ kx r s seen a w,f kx = some r → wE E es seen kx → Fr n ds ((db,.bool true) :: (dn,.tuple #[.bool true,E kx,.agg #[]]) :: (it,.pointer (some ⟨i,0,none⟩)) :: Ff) a → Stw B M (Hn i b clock seen clock :: GG b es clock :: Cj va E lt s :: Zr) w →
      body.wr rl P (Exit.then (fun a' w' => Fr n ds ((it,.pointer (some ⟨i,0,none⟩)) :: Ff) a' ∧ Stw B M (Hn i b clock seen clock :: GG b es clock :: Cj va E lt (Mk lt s r) :: Zr) w') Q) a w)
    (fin : ∀ a w,Fr n ds ((db,.bool false) :: (dn,.tuple #[.bool false]) :: (it,.pointer (some ⟨i,0,none⟩)) :: Ff) a → Stw B M (Cj vS E lt S :: Cj va E lt xr :: Zr) w → Q (.exit id) a w)
    (hd : SI rl [⟨some dn,.next (.tmp it) false,ty1,pos1,aft1,none⟩,⟨some db,.extract (.tmp dn) 0,ty2,pos2,aft2,none⟩] = true := by rfl) :
    (Code.loop ((Code.region rid #[⟨some dn,.next (.tmp it) false,ty1,pos1,aft1,none⟩,⟨some db,.extract (.tmp dn) 0,ty2,pos2,aft2,none⟩] false).seq ((Code.cond (.tmp db) .skip (.exit id)).seq body))).wr rl P Q a w := by
  have hA : Ku lt acc := hW.asc (i := 2) rfl
  subst hv
  refine Uq (fun done s => H4 lt f done acc = some s) (fun _ => Ff) (fun s => Cj va E lt s :: Zr) hF hW hE rfl hn1 hn2 (fun done kx s seen a w hk hc hR hF hW => ?_) (fun done s seen a w hp hR hF hW => ?_) hd
  · obtain ⟨r,hr⟩ := (Ic O hA hx).2.1 kx hk
    refine J9 ?_ (step kx r s seen a w hr hc hF hW)
    intro ex a' w' h
    cases ex <;> first | exact h | skip
    exact ⟨Mk lt s r,by rw [WK,hR,za,hr,za],h.1,h.2⟩
  · have hs := Z4 O hA hp hR
    rw [hx] at hs
    cases hs
    exact fin a w hF (hW.unfix hE)
def JM : List Int → List Int → Bool
  | x :: a,y :: b => decide (x < y) || (decide (x = y) && JM a b)
  | _,_ => false
theorem p9 (f : κ → List Int) (m : Nat) (hl : ∀ x,(f x).length = m) (hi : ∀ x y,f x = f y → x = y) : Lo fun x y => JM (f x) (f y) := by
  have irr : ∀ a : List Int,JM a a = false := fun a => by
    induction a with
    | nil => rfl
    | cons x a ih => simp [JM,ih]
  have tr : ∀ a b c : List Int,JM a b = true → JM b c = true → JM a c = true := fun a => by
    induction a with
    | nil => intro b c h; cases b <;> cases h
    | cons x a ih =>
      intro b c h1 h2
      cases b with
      | nil => cases h1
      | cons y b =>
        cases c with
        | nil => cases h2
        | cons z c =>
          simp only [JM,Bool.or_eq_true,zg,decide_eq_true_eq] at h1 h2 ⊢
          rcases h1 with h1 | ⟨h1,h1'⟩ <;> rcases h2 with h2 | ⟨h2,h2'⟩
          · left; omega
          · left; omega
          · left; omega
          · right; exact ⟨h1.trans h2,ih b c h1' h2'⟩
  have tot : ∀ a b : List Int,a.length = b.length → JM a b = false → JM b a = false → a = b := fun a => by
    induction a with
    | nil => intro b h _ _; cases b with
      | nil => rfl
      | cons y b => simp at h
    | cons x a ih =>
      intro b h h1 h2
      cases b with
      | nil => simp at h
      | cons y b =>
        simp only [JM,Bool.or_eq_false_iff,Bool.and_eq_false_iff,decide_eq_false_iff_not] at h1 h2
        have hxy : x = y := by omega
        subst hxy
        rw [ih b (by simpa using h) (h1.2.resolve_left (fun e => e rfl)) (h2.2.resolve_left (fun e => e rfl))]
  exact ⟨fun x => irr _,fun h1 h2 => tr _ _ _ h1 h2,fun h1 h2 => hi _ _ (tot _ _ (by rw [hl,hl]) h1 h2)⟩
theorem aH {rl : Option Nat} {S xr : List κ} {rid id it dn db sl : Nat} {ty1 ty2 : TypeId} {pos1 pos2 : String} {aft1 aft2 : Array Edge} {body : Code} {i b clock : Nat} {es : Array MapEntry} {l : List (κ × Unit)} {vS v0 : Value} {Ff : List (Nat × Value)} {Zr : List It} {re : TypeId} {r : Rp κ}
    (hx : HU ([] : List κ) S = some xr) (hF : Fr n ds ((it,.pointer (some ⟨i,0,none⟩)) :: (sl,v0) :: Ff) a) (hW : Stw B M (Hn i b clock #[] clock :: GG b es clock :: row v0 re r [] :: Zr) w) (hv : vS = .map (some b)) (hE : MapAt E lt S es clock l)
    (hn1 : Nat.blt dn n = true) (hn2 : Nat.blt db n = true)
    (step : ∀ kx v s seen a w,HU s [kx] = some (s ++ [kx]) → wE E es seen kx → Fr n ds ((db,.bool true) :: (dn,.tuple #[.bool true,E kx,.agg #[]]) :: (it,.pointer (some ⟨i,0,none⟩)) :: (sl,v) :: Ff) a → Stw B M (Hn i b clock seen clock :: GG b es clock :: row v re r s :: Zr) w →
      body.wr rl P (Exit.then (fun a' w' => ∃ v',Fr n ds ((it,.pointer (some ⟨i,0,none⟩)) :: (sl,v') :: Ff) a' ∧ Stw B M (Hn i b clock seen clock :: GG b es clock :: row v' re r (s ++ [kx]) :: Zr) w') Q) a w)
    (fin : ∀ v lg a w,lg.Perm S → Fr n ds ((db,.bool false) :: (dn,.tuple #[.bool false]) :: (it,.pointer (some ⟨i,0,none⟩)) :: (sl,v) :: Ff) a → Stw B M (Cj vS E lt S :: row v re r lg :: Zr) w → Q (.exit id) a w)
    (hd : SI rl [⟨some dn,.next (.tmp it) false,ty1,pos1,aft1,none⟩,⟨some db,.extract (.tmp dn) 0,ty2,pos2,aft2,none⟩] = true := by rfl) :
    (Code.loop ((Code.region rid #[⟨some dn,.next (.tmp it) false,ty1,pos1,aft1,none⟩,⟨some db,.extract (.tmp dn) 0,ty2,pos2,aft2,none⟩] false).seq ((Code.cond (.tmp db) .skip (.exit id)).seq body))).wr rl P Q a w := by
  subst hv
  refine Tn (σ := Value × List κ) (fun done s => s.2 = done) (fun s => (sl,s.1) :: Ff) (fun s => row s.1 re r s.2 :: Zr) (s0 := (v0,[])) hF hW hE rfl hn1 hn2 (fun done kx s seen a w hk hlen hc hR hF hW => ?_) (fun done s seen a w hp hR hF hW => ?_) hd
  · obtain ⟨v,s⟩ := s
    have hR : s = done := hR
    subst hR
    refine J9 ?_ (step kx v s seen a w (kI hx hlen) hc hF hW)
    intro ex a' w' h
    cases ex <;> first | exact h | skip
    obtain ⟨v',h1,h2⟩ := h
    exact ⟨(v',s ++ [kx]),rfl,h1,h2⟩
  · obtain ⟨v,s⟩ := s
    have hR : s = done := hR
    subst hR
    exact fin v s a w hp hF (hW.unfix hE)
end
section
variable {α : Type} {r : Rp α} {l : List α} {P : Program} {B : Bs} {M : CU} {Z : List It} {n : Nat} {ds : List Deferred} {F : List (Nat × Value)} {a : Act} {dst : Option Tmp} {ty : TypeId} {pos : String} {aft : Array Edge} {g : Option (Nat × Bool)}
theorem PE {t e : TypeId} {s : Operand} {m b off sz : Nat} (E : Ar P t m e sz) (hF : Fr n ds F a) (hx : C7 F s = some (.pointer (some ⟨b,off,none⟩))) :
    Yx P B M Z a ⟨dst,.slice t s none none none,ty,pos,aft,g⟩ (.slice (some ⟨b,off,none⟩) m m) :=
  Ck fun w hw => by
    have hsz := E.sizeOf (P := P) w
    simp [execOp,Instr.sliceAt,Instr.slice,Instr.sliceBounds,Go.underlying,E.desc,hF.eval hx,hsz,Instr.sureAddr,Addr.add]
theorem ZB {b off m : Nat} {cs : List Value} {enc : α → List Value} (i : Nat) (f : Fl r enc) (hM : M[i]? = some (b,cs)) (hl : (cs.drop off).take (flat enc l).length = flat enc l) (hm : l.length = m) : T9 B M Z r (.slice (some ⟨b,off,none⟩) m m) l := fun w hw => by
  subst hm
  obtain ⟨t,ht⟩ := hw.at_ _ (Fd hM)
  refine .inr ⟨b,off,l.length,flat enc l,rfl,Nat.le_refl _,trivial,(Array.getElem?_eq_some_iff.1 ht).1,fun j u hj => ?_,f.repL _ _ _⟩
  rw [hw.cell hM]
  rw [← hl,List.getElem?_take] at hj
  split at hj
  · rw [List.getElem?_drop] at hj; exact hj
  · cases hj
end
end Go.Proofs.YtkhiflmalgkjiaaGreat
