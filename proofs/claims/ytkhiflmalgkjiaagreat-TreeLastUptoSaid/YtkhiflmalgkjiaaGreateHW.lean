/- Where ways meet: what is Mn is said as data, and laid down again. Conditions: none. -/
import Derived.Test.YtkhiflmalgkjiaaGreateHT
set_option linter.unusedVariables false
set_option linter.unusedSimpArgs false
open Go Go.RowKit
namespace Go.Proofs.YtkhiflmalgkjiaaGreat
section
variable {E : TE} {P : Program} {B : Bs} {θ : Pin} {n : Nat} {ds : List Deferred} {S : St E.c} {a : Act} {w : World} {σ : Nat → Value} {ρ : Nat → Nat} {ι : Nat → It} {R : Type}
variable {Q : Exit → Act → World → Prop}
theorem Rel.lit (h : Rel E B θ n ds S a w σ ρ ι) {d : Nat} {ver : Nat} {b : BX} {b' : Bool} (hf : CG S.F d = some (ver,.one (.bool b))) (hb : b.v = b') : Rel E B θ n ds (S.put d (.one (.bool (.lit b')))) a w σ ρ ι := by
  refine h.put (v := .one (.bool (.lit b'))) rfl (h.fr.sub fun k v e => ?_)
  by_cases q : d = k
  · subst q
    rw [CS] at e
    cases e
    have := Ho (f := fun q => q.2.val E.sz σ ρ) hf
    rw [this]
    show some (Value.bool b.v) = some (Value.bool b')
    rw [hb]
  · rw [Dh q] at e; exact e
theorem cY {l0 : List Oper} {o : Oper} {yes no : St E.c → Tree R} {r : R} {goal : Prop} (h : Rel E B θ n ds S a w σ ρ ι) (e : (dG l0 S yes no o.guard).den = some r)
    (hy : ∀ S',Ext S S' ∧ S'.M = S.M ∧ S'.Z = S.Z → Rel E B θ n ds S' a w σ ρ ι → Region.wanted o (yielded l0.toArray a.tmps) = true → (yes S').den = some r → goal)
    (hno : ∀ S',Ext S S' ∧ S'.M = S.M ∧ S'.Z = S.Z → Rel E B θ n ds S' a w σ ρ ι → Region.wanted o (yielded l0.toArray a.tmps) = false → (no S').den = some r → goal) : goal := by
  cases hg : o.guard with
  | none => rw [hg] at e; exact hy S ⟨Ext.refl S,rfl,rfl⟩ h (BN hg) e
  | some p =>
    obtain ⟨i,t⟩ := p
    rw [hg] at e
    unfold dG at e
    simp only at e
    split at e
    · rename_i d hd
      have hdst := OI hd
      split at e
      · rename_i ver b hf
        have hwt : ∀ t',b.v = t' → Region.wanted o (yielded l0.toArray a.tmps) = (t' == t) := fun t' ht => Kc h.fr rfl hg hdst (by
          rw [Ho (f := fun q => q.2.val E.sz σ ρ) hf]
          show some (Value.bool b.v) = _
          rw [ht])
        split at e
        · rename_i b0
          have hw := hwt b0 rfl
          cases b0 <;> cases t <;> simp only at e
          · exact hy S ⟨Ext.refl S,rfl,rfl⟩ h hw e
          · exact hno S ⟨Ext.refl S,rfl,rfl⟩ h hw e
          · exact hno S ⟨Ext.refl S,rfl,rfl⟩ h hw e
          · exact hy S ⟨Ext.refl S,rfl,rfl⟩ h hw e
        · have e : aJ b _ _ = some r := e
          rw [Q2] at e
          split at e
          · rename_i hb
            have hw := hwt true hb
            cases t <;> simp only at e
            · exact hno _ ⟨Ext.put S d _,rfl,rfl⟩ (h.lit hf hb) hw e
            · exact hy _ ⟨Ext.put S d _,rfl,rfl⟩ (h.lit hf hb) hw e
          · rename_i hb
            have hb : b.v = false := by simpa using hb
            have hw := hwt false hb
            cases t <;> simp only at e
            · exact hy _ ⟨Ext.put S d _,rfl,rfl⟩ (h.lit hf hb) hw e
            · exact hno _ ⟨Ext.put S d _,rfl,rfl⟩ (h.lit hf hb) hw e
      · rename_i ver hf
        exact hno S ⟨Ext.refl S,rfl,rfl⟩ h (H2 h.fr rfl hg hdst (Ho (f := fun q => q.2.val E.sz σ ρ) hf)) e
      · cases e
    · cases e
theorem cK {tb : Tb} (T : TbOk E P tb) {G : Hz E P} (hG : ConsOk B G) {l0 : List Oper} {k : St E.c → Tree R} {r : R} : ∀ (l : List Oper) {S : St E.c} {a : Act} {w : World} {σ : Nat → Value} {ρ : Nat → Nat} {ι : Nat → It},Rel E B θ n ds S a w σ ρ ι → (dL E tb G n l0 k l S).den = some r →
    (∀ S' a' w' σ' ρ' ι',Ext S S' → Rel E B θ n ds S' a' w' σ' ρ' ι' → (k S').den = some r → Q .normal a' w') → wpList P l0.toArray Q l a w
  | [],S,a,w,σ,ρ,ι,h,e,K => K S a w σ ρ ι (Ext.refl S) h e
  | o :: l,S,a,w,σ,ρ,ι,h,e,K => by
    unfold dL at e
    refine cY h e (fun S' ⟨x,_⟩ h' hw e' => ?_) fun S' ⟨x,_⟩ h' hw e' => ?_
    · exact ZB hw (iD T hG h' e' fun S'' a' w' σ' ρ' ι' x' h'' e'' => cK T hG l h'' e'' fun S3 a3 w3 σ3 ρ3 ι3 x3 h3 e3 => K S3 a3 w3 σ3 ρ3 ι3 ((x.trans x').trans x3) h3 e3)
    · split at e'
      · rename_i d hd
        split at e'
        · rename_i hn
          refine Vi h'.fr hw hd hn fun a' hf => ?_
          exact cK T hG l (h'.put (v := .tup []) rfl hf) e' fun S3 a3 w3 σ3 ρ3 ι3 x3 h3 e3 => K S3 a3 w3 σ3 ρ3 ι3 ((x.trans (Ext.put S' d _)).trans x3) h3 e3
        · cases e'
      · cases e'
end
def zG : List Oper → List Nat
  | [] => []
  | o :: l => match o.dst with | some d => d :: zG l | none => zG l
def QG : Code → List Nat
  | .region _ ⟨l⟩ _ => zG l
  | .seq x y => QG x ++ QG y
  | .cond _ x y => QG x ++ QG y
  | .block _ x => QG x
  | .loop x => QG x
  | .scope x => QG x
  | _ => []
def Ih (k : Nat) : List Nat → Bool
  | [] => false
  | j :: l => match Nat.beq j k with | true => true | false => Ih k l
def Fp {β : Type _} (ws : List Nat) : List (Nat × β) → List (Nat × β)
  | [] => []
  | p :: l => match Ih p.1 ws with | true => Fp ws l | false => p :: Fp ws l
theorem Lh {k : Nat} : ∀ {l : List Nat},Ih k l = true ↔ k ∈ l
  | [] => by simp [Ih]
  | j :: l => by
    unfold Ih
    split
    · rename_i h; simp [Nat.eq_of_beq_eq_true h]
    · rename_i h
      have := Ym h
      rw [Lh (l := l)]
      simp [Ne.symm this]
theorem EN {β : Type _} {ws : List Nat} {k : Nat} : ∀ {l : List (Nat × β)} {x : β},CG (Fp ws l) k = some x → CG l k = some x ∧ Ih k ws = false
  | [],x,h => nomatch h
  | (j,y) :: l,x,h => by
    unfold Fp at h
    split at h
    · rename_i hm
      have := EN h
      by_cases hj : j = k
      · subst hj; rw [hm] at this; exact absurd this.2 (by simp)
      · exact ⟨by rw [C4 hj]; exact this.1,this.2⟩
    · rename_i hm
      by_cases hj : j = k
      · subst hj; rw [DK] at h ⊢; exact ⟨h,by simpa using hm⟩
      · rw [C4 hj] at h ⊢; exact EN h
theorem DY {β : Type _} {ws : List Nat} : ∀ {l : List (Nat × β)} {p : Nat × β},p ∈ Fp ws l → p ∈ l ∧ Ih p.1 ws = false
  | q :: l,p,h => by
    unfold Fp at h
    split at h
    · exact ⟨List.mem_cons_of_mem _ (DY h).1,(DY h).2⟩
    · rename_i hm
      rcases List.mem_cons.1 h with rfl | h
      · exact ⟨List.mem_cons_self ..,by simpa using hm⟩
      · exact ⟨List.mem_cons_of_mem _ (DY h).1,(DY h).2⟩
theorem Lk {β : Type _} {ws : List Nat} : ∀ {l : List (Nat × β)},(Fp ws l).Sublist l
  | [] => .slnil
  | q :: l => by
    unfold Fp
    split
    · exact .cons _ Lk
    · exact .cons_cons _ Lk
structure JS where
  s : List (Nat × Bool × List CK)
  b : List (Nat × List (Option CK))
  z : List Nat
def kR : List (Nat × Bool × List CK) → List CK | [] => [] | p :: r => p.2.2 ++ kR r
def jsB : List (Nat × List (Option CK)) → List CK | [] => [] | p :: r => TF p.2 ++ jsB r
def JS.ks (J : JS) : List CK := kR J.s ++ jsB J.b
def rW (E : TE) {c : Nat → Type} (S : St c) : List (Nat × Bool × List CK) → Option (List CV)
  | [] => some []
  | (k, b, l) :: r => match CG S.F k with
    | some (_,v) => match (match b,v with | true,.agg cs => some cs | false,.one c => some [c] | _,_ => none) with
      | some cs => match Nat.beq cs.length (Ao E l) with
        | true => match rW E S r with | some s => some (cs ++ s) | none => none
        | false => none
      | none => none
    | none => none
def vG (E : TE) {c : Nat → Type} (S : St c) : List (Nat × List (Option CK)) → Option (List CV)
  | [] => some []
  | (k,l) :: r => match CG S.M k with
    | some (_,cs) => match SJ E l cs with
      | some c1 => match vG E S r with | some s => some (c1 ++ s) | none => none
      | none => none
    | none => none
def iY {c : Nat → Type} (S : St c) : List CV → List Nat
  | [] => []
  | .sl z :: cs => match CG S.Z z with | some (_,⟨.own _,_,_⟩) => z :: iY S cs | _ => iY S cs
  | _ :: cs => iY S cs
def aQ (E : TE) (S : St E.c) : List CK → List CV → List Nat
  | [],_ => []
  | .d true u :: r,cs => aQ E S r (Zz (E.sz u) cs)
  | .d false u :: r,cs => iY S (cs.take (E.sz u)) ++ aQ E S r (Zz (E.sz u) cs)
  | .o _ _ :: r,.sl z :: cs => z :: aQ E S r cs
  | .o _ _ :: r,_ :: cs => aQ E S r cs
  | .o _ _ :: _,[] => []
def base (E : TE) (J : JS) (ws : List Nat) (S : St E.c) : St E.c :=
  { S with F := Fp (ws ++ J.s.map (·.1)) S.F,M := Fp (J.b.map (·.1)) S.M,V := Fp (J.b.map (·.1)) S.V,C := [],
           Z := Fp (match rW E S J.s,vG E S J.b with | some x,some y => aQ E S J.ks (x ++ y) | some x,none => aQ E S (kR J.s) x | _,_ => []) S.Z }
def Mo {β : Type _} (l : List (Nat × Nat × β)) (l' : List (Nat × Nat × β)) : Bool := Bw (fun p => match CG l p.1,CG l' p.1 with | some (v,_),some (v',_) => Nat.beq v v' | _,_ => false) l
def Y6 {c : Nat → Type} (S0 S' : St c) : Bool := match Mo S0.F S'.F with
  | true => match Mo S0.M S'.M with
    | true => Mo S0.Z S'.Z
    | false => false
  | false => false
def Wp (E : TE) {c : Nat → Type} : List (Nat × Bool × List CK) → List CV → St c → Option (St c)
  | [],_,S => some S
  | (k,b,l) :: r,cs,S => match uT b (cs.take (Ao E l)) with
    | some v => Wp E r (cs.drop (Ao E l)) (S.put k v)
    | none => none
def Ov {c : Nat → Type} : List (Nat × List CV) → St c → St c
  | [],S => S
  | (k,cs) :: r,S => Ov r { S with M := (k,S.nv,cs) :: S.M,V := (k,[]) :: S.V,nv := S.nv + 1 }
def xC : List Nat → Bool
  | [] => true
  | k :: l => match Ih k l with | true => false | false => xC l
def okB (J : JS) (nb : Nat) : Bool := match xC (J.b.map (·.1)) with | true => Bw (fun p => Nat.blt p.1 nb) J.b | false => false
def oX (E : TE) (J : JS) (ws : List Nat) (S0 : St E.c) (t : TT E.c J.ks) : Option (St E.c) := match Re E J.ks t with
  | some L => match xC (J.b.map (·.1)) with
    | true => match MU E S0 J.b ((injS (base E J ws S0) L).1.drop (Ao E (kR J.s))) with
      | some m => match Wp E J.s (injS (base E J ws S0) L).1 (Ov m (injS (base E J ws S0) L).2) with
        | some S2 => some { S2 with V := gJ E S0 S2.nv J.b ++ S2.V,nv := S2.nv + 1 }
        | none => none
      | none => none
    | false => none
  | none => none
def pW (E : TE) (J : JS) (ws : List Nat) (S0 : St E.c) (S : St E.c) : Option (TT E.c J.ks) := match rW E S J.s with
  | some x => match vG E S J.b with
    | some y => match VA E S0 S J.b with
      | true => match pk E false J.ks S (x ++ y) with
        | some (t,S') => match Y6 (base E J ws S0) S' with
          | true => match okB J S0.nb with
            | true => match oX E J ws S0 t with | some _ => some t | none => none
            | false => none
          | false => none
        | none => none
      | false => none
    | none => none
  | none => none
section
variable {E : TE} {P : Program} {B : Bs} {θ : Pin} {n : Nat} {ds : List Deferred} {S S0 : St E.c} {a : Act} {w : World} {σ : Nat → Value} {ρ : Nat → Nat} {ι : Nat → It} {R : Type}
theorem IY {β : Type _} {l l' : List (Nat × Nat × β)} (h : Mo l l' = true) {k : Nat} {x : Nat × β} (hx : CG l k = some x) : ∃ y,CG l' k = some (x.1,y) := by
  have := Ac.1 h _ (Ba hx)
  simp only [hx] at this
  split at this
  · rename_i v _ v' y h1 h2
    cases h1
    rw [Nat.eq_of_beq_eq_true this]
    exact ⟨y,h2⟩
  · cases this
theorem Pn {β : Type _} {ws : List Nat} {k : Nat} (hk : Ih k ws = false) : ∀ (l : List (Nat × β)),CG (Fp ws l) k = CG l k
  | [] => rfl
  | (j,y) :: l => by
    unfold Fp
    split
    · rename_i hm
      rw [Pn hk l,C4 (fun e => by simp only at hm; rw [e,hk] at hm; cases hm)]
    · by_cases e : j = k
      · subst e; rw [DK,DK]
      · rw [C4 e,C4 e]; exact Pn hk l
theorem dH {c : Nat → Type} {S : St c} {b i v : Nat} (h : UF S b i = some v) : ∃ l,CG S.V b = some l := by
  unfold UF at h
  cases hv : CG S.V b with
  | none => rw [hv] at h; cases h
  | some l => exact ⟨l,rfl⟩
theorem f8 (J : JS) (ws : List Nat) (S : St E.c) : Ext S (base E J ws S) := ⟨Nat.le_refl _,fun _ _ h _ => (EN h).1,fun _ _ h _ => (EN h).1,fun _ _ h _ => (EN h).1,fun b i v h _ => by
  obtain ⟨l,hl⟩ := dH h
  have hk := (EN (show CG (Fp (J.b.map (·.1)) S.V) b = some l from hl)).2
  unfold UF iR at *
  rw [show (base E J ws S).V = Fp (J.b.map (·.1)) S.V from rfl,Pn hk] at h
  rw [show (base E J ws S).M = Fp (J.b.map (·.1)) S.M from rfl,Pn hk]
  exact ⟨h,rfl⟩⟩
theorem Xu : ∀ (l : List (Nat × Bool × List CK)) (cs : List CV) {S S' : St E.c},Wp E l cs S = some S' → Ext S S'
  | [],cs,S,S',e => by cases e; exact Ext.refl _
  | (k,b,l) :: r,cs,S,S',e => by
    unfold Wp at e
    split at e
    · exact (Ext.put S k _).trans (Xu r _ e)
    · cases e
theorem Wr : ∀ (l : List (Nat × List CV)) (S : St E.c),Ext S (Ov l S)
  | [],S => Ext.refl _
  | (k, cs) :: r, S => by
    refine Ext.trans (S' := { S with M := (k,S.nv,cs) :: S.M,V := (k,[]) :: S.V,nv := S.nv + 1 }) ⟨Nat.le_succ _,fun _ _ e _ => e,fun j x e hl => ?_,fun _ _ e _ => e,fun j i v e hl => ?_⟩ (Wr r _)
    · by_cases hk : k = j
      · subst hk
        simp only [DK] at e
        cases e
        exact absurd hl (Nat.lt_irrefl _)
      · simp only [C4 hk] at e
        exact e
    · by_cases hk : k = j
      · subst hk
        unfold UF at e
        simp only [DK] at e
        cases e
      · unfold UF iR at *
        simp only [C4 hk] at e ⊢
        exact ⟨e,trivial⟩
theorem bT : ∀ (l : List (Nat × List CV)) (S : St E.c) {k : Nat} {cs : List CV},(l.map (·.1)).Nodup → (k,cs) ∈ l → ∃ v,CG (Ov l S).M k = some (v,cs)
  | (j, cj) :: r, S, k, cs, hn, hm => by
    rw [List.map_cons,List.nodup_cons] at hn
    rcases List.mem_cons.1 hm with h | hm
    · cases h
      have keep : ∀ (l : List (Nat × List CV)) (S : St E.c),j ∉ l.map (·.1) → CG (Ov l S).M j = CG S.M j := by
        intro l
        induction l with
        | nil => intro S _; rfl
        | cons p l ih =>
          intro S hk
          obtain ⟨q,cq⟩ := p
          rw [List.map_cons,List.mem_cons,not_or] at hk
          show CG (Ov l _).M j = _
          rw [ih _ hk.2]
          exact C4 (Ne.symm hk.1)
      exact ⟨S.nv,(keep r _ hn.1).trans DK⟩
    · exact bT r _ hn.2 hm
theorem d9 : ∀ (l : List (Nat × Bool × List CK)) (cs : List CV) {S S' : St E.c},Wp E l cs S = some S' → S'.M = S.M ∧ S'.V = S.V
  | [],cs,S,S',e => by cases e; exact ⟨rfl,rfl⟩
  | (k,b,l) :: r,cs,S,S',e => by
    unfold Wp at e
    split at e
    · exact d9 r _ (S := S.put k _) e
    · cases e
theorem Xy {S0 : St E.c} {nv b : Nat} {V : List (Nat × List Nat)} : ∀ (l : List (Nat × List (Option CK))),(∃ q,(b,q) ∈ l ∧ CG (gJ E S0 nv l ++ V) b = some (QQ E (UF S0 b) nv q 0)) ∨ CG (gJ E S0 nv l ++ V) b = CG V b
  | [] => .inr rfl
  | (k,q) :: l => by
    by_cases hk : k = b
    · subst hk
      exact .inl ⟨q,List.mem_cons_self ..,DK⟩
    · rcases Xy (S0 := S0) (nv := nv) (V := V) l with ⟨q',h1,h2⟩ | h
      · exact .inl ⟨q',List.mem_cons_of_mem _ h1,(C4 hk).trans h2⟩
      · exact .inr ((C4 hk).trans h)
theorem SY {S0 : St E.c} : ∀ {l : List (Nat × List (Option CK))} {new : List CV} {m : List (Nat × List CV)},MU E S0 l new = some m → m.map (·.1) = l.map (·.1) ∧ ∀ k q,(k,q) ∈ l → ∃ v cs c1,CG S0.M k = some (v,cs) ∧ cs.length = X0 E q ∧ c1.length = Ao E (TF q) ∧ (k,Ku E q cs c1) ∈ m
  | [],new,m,e => by cases e; exact ⟨rfl,fun _ _ h => nomatch h⟩
  | (j, p) :: l, new, m, e => by
    unfold MU at e
    split at e
    · rename_i v cs hf
      split at e
      · rename_i hl
        split at e
        · rename_i c1 hc
          split at e
          · rename_i m' hm'
            cases e
            obtain ⟨g1,g2⟩ := SY hm'
            obtain ⟨t1,t2⟩ := I8 hc
            refine ⟨by simp [g1],fun k q hq => ?_⟩
            rcases List.mem_cons.1 hq with h | hq
            · cases h
              exact ⟨v,cs,c1,hf,Nat.eq_of_beq_eq_true hl,by rw [← t2,List.length_take]; omega,List.mem_cons_self ..⟩
            · obtain ⟨v',cs',c',a1,a2,a3,a4⟩ := g2 k q hq
              exact ⟨v',cs',c',a1,a2,a3,List.mem_cons_of_mem _ a4⟩
          · cases e
        · cases e
      · cases e
    · cases e
theorem X7 : ∀ {l : List Nat},xC l = true → l.Nodup
  | [],_ => List.nodup_nil
  | k :: l,h => by
    unfold xC at h
    split at h
    · cases h
    · rename_i hm
      exact List.nodup_cons.2 ⟨(fun hk => by rw [Lh.2 hk] at hm; cases hm),X7 h⟩
theorem jP {J : JS} {ws : List Nat} {t : TT E.c J.ks} {S' : St E.c} (e : oX E J ws S t = some S') : Ext S S' := by
  unfold oX at e
  split at e
  · rename_i L hL
    split at e
    · rename_i hnd
      split at e
      · rename_i m hm
        split at e
        · rename_i S2 h2
          cases e
          have xx : Ext S S2 := (((f8 J ws S).trans (Ext.injS L _)).trans (Wr _ _)).trans (Xu _ _ h2)
          refine ⟨Nat.le_succ_of_le xx.v,xx.F,xx.M,xx.Z,fun b i v he hl => ?_⟩
          unfold UF at he
          simp only at he
          rcases Xy (S0 := S) (nv := S2.nv) (b := b) (V := S2.V) J.b with ⟨q,g1,g2⟩ | g
          · rw [g2] at he
            simp only at he
            obtain ⟨k1,k2⟩ := SY hm
            obtain ⟨v0,cs,c1,a1,a2,a3,a4⟩ := k2 b q g1
            have hnd' : (m.map (·.1)).Nodup := by rw [k1]; exact X7 hnd
            obtain ⟨v1,hv1⟩ := bT m (injS (base E J ws S) L).2 hnd' a4
            have hM : CG S2.M b = some (v1,Ku E q cs c1) := by rw [(d9 _ _ h2).1]; exact hv1
            rcases U0 q 0 i v cs c1 he (by omega) with rfl | ⟨h3,h4⟩
            · exact absurd (Nat.lt_of_lt_of_le hl xx.v) (Nat.lt_irrefl _)
            · rw [Nat.zero_add] at h3
              refine ⟨h3, ?_⟩
              have hi : i < cs.length := by
                rw [a2, ← Sb (f := UF S b) (nv := S2.nv) q 0]
                exact (List.getElem?_eq_some_iff.1 he).1
              unfold iR
              simp only [hM,a1]
              rw [h4 _ (List.getElem?_eq_getElem hi),List.getElem?_eq_getElem hi]
          · rw [g] at he
            exact xx.V b i v he hl
        · cases e
      · cases e
    · cases e
  · cases e
theorem r7 {J : JS} {nb : Nat} (h : okB J nb = true) : (J.b.map (·.1)).Nodup ∧ Bw (fun p => Nat.blt p.1 nb) J.b = true := by
  unfold okB at h
  split at h
  · rename_i h1; exact ⟨X7 h1,h⟩
  · cases h
theorem bI {β : Type _} : ∀ {A l : List (Nat × β)},(l.map (·.1)).Nodup → (A.map (·.1)).Nodup → (∀ p ∈ A,p ∈ l) → ∃ r,l.Perm (A ++ r)
  | [],l,_,_,_ => ⟨l,List.Perm.refl _⟩
  | x :: A,l,hl,hA,h => by
    obtain ⟨l1,l2,rfl⟩ := List.append_of_mem (h x (List.mem_cons_self ..))
    have hp : (l1 ++ x :: l2).Perm (x :: (l1 ++ l2)) := List.perm_middle
    have hl' := (hp.map (·.1)).nodup_iff.1 hl
    rw [List.map_cons,List.nodup_cons] at hl'
    rw [List.map_cons,List.nodup_cons] at hA
    obtain ⟨r,hr⟩ := bI (A := A) (l := l1 ++ l2) hl'.2 hA.2 fun p hp' => by
      rcases List.mem_cons.1 (hp.mem_iff.1 (h p (List.mem_cons_of_mem _ hp'))) with rfl | hm
      · exact absurd (List.mem_map.2 ⟨_,hp',rfl⟩) hA.1
      · exact hm
    exact ⟨r,hp.trans (hr.cons x)⟩
theorem c8 {M : CQ} {Z : List It} (h : StC E B θ S σ ρ ι) (hZ : ∀ z ∈ S.zz ι,z ∈ Z) (hW : Stw B M Z w) {a : U} {c : CV} {l : List (a.T E.c)} (e : aI false S .rd a c = some l) : Sl B.w0 (NX B.X) (a.rp E.r) (c.val E.sz σ ρ) l := by
  unfold aI at e
  split at e
  · cases e; exact .nil
  · rename_i z
    split at e
    · rename_i ver k u' l' hz
      split at e
      · rename_i hk
        refine SF e ?_
        have hm := Ba hz
        obtain ⟨lx,e1,e2⟩ := h.it _ hm
        have hok := hW.items (ι z) (hZ _ (List.mem_map.2 ⟨_,hm,rfl⟩))
        rw [e2] at hok
        cases k with
        | own e => cases hk
        | frz => cases hk
        | rd =>
          have hs : Sl B.w0 (NX B.X) (u'.rp E.r).seen (σ z) lx := hok
          exact hs.hide (Ex.seen _) e1
      · cases e
    · cases e
  · cases e
theorem Yn {f : Nat × AV → Value} : ∀ {l : List (Nat × Nat × AV)} {k : Nat} {v : Value},lk (l.map fun p => (p.1,f p.2)) k = some v → ∃ x,CG l k = some x ∧ v = f x
  | [],k,v,h => nomatch h
  | (j,y) :: l,k,v,h => by
    simp only [List.map_cons,lk] at h
    split at h
    · rename_i e
      cases h
      rw [Nat.eq_of_beq_eq_true e]
      exact ⟨y,DK,rfl⟩
    · rename_i e
      obtain ⟨x,h1,h2⟩ := Yn h
      exact ⟨x,by rw [C4 (by intro e'; subst e'; simp at e)]; exact h1,h2⟩
theorem fJ {b : Bool} {cs : List CV} {v : AV} {nz nb : Nat} (e : uT b cs = some v) : v.val E.sz σ ρ = cG b (cs.map (CV.val E.sz σ ρ)) ∧ (Bw (CV.wf nz nb) cs = true → v.wf nz nb = true) := by
  unfold uT at e
  split at e
  · cases e; exact ⟨rfl,fun h => h⟩
  · cases e; exact ⟨rfl,fun h => Ac.1 h _ (List.mem_cons_self ..)⟩
  · cases e
def SV (F : List (Nat × Value)) (E : TE) : List (Nat × Bool × List CK) → List Value → Prop
  | [],_ => True
  | (k,b,l) :: r,cs => lk F k = some (cG b (cs.take (Ao E l))) ∧ SV F E r (cs.drop (Ao E l))
theorem b7 : ∀ {l : List (Nat × Bool × List CK)} {x : List CV} (y : List Value),rW E S l = some x → SV (S.ff E σ ρ) E l (x.map (CV.val E.sz σ ρ) ++ y)
  | [],x,y,e => trivial
  | (k, b, l) :: r, x, y, e => by
    unfold rW at e
    split at e
    · rename_i ver v hf
      split at e
      · rename_i cs hcs
        split at e
        · rename_i hl
          have hl := Nat.eq_of_beq_eq_true hl
          split at e
          · rename_i s hs
            cases e
            have h1 := b7 y hs
            rw [List.map_append,List.append_assoc]
            refine ⟨?_, ?_⟩
            · rw [List.take_left' (by rw [List.length_map]; exact hl),Ho (f := fun q => q.2.val E.sz σ ρ) hf]
              congr 1
              cases b <;> cases v <;> simp only at hcs <;> first | (cases hcs; done) | (cases hcs; rfl)
            · rw [List.drop_left' (by rw [List.length_map]; exact hl)]; exact h1
          · cases e
        · cases e
      · cases e
    · cases e
theorem Zs : ∀ {l : List (Nat × Bool × List CK)} {cs : List CV} {S S' : St E.c} {F : List (Nat × Value)},Rel E B θ n ds S a w σ ρ ι → Fr n ds F a → SV F E l (cs.map (CV.val E.sz σ ρ)) → Bw (CV.wf S.nz S.nb) cs = true → Wp E l cs S = some S' → Rel E B θ n ds S' a w σ ρ ι
  | [],cs,S,S',F,h,hF,hv,hw,e => by cases e; exact h
  | (k, b, l) :: r, cs, S, S', F, h, hF, hv, hw, e => by
    unfold Wp at e
    split at e
    · rename_i v hm
      obtain ⟨v1,v2⟩ := fJ (σ := σ) (ρ := ρ) (nz := S.nz) (nb := S.nb) hm
      have hwt : Bw (CV.wf S.nz S.nb) (cs.take (Ao E l)) = true := Ac.2 fun c hc => Ac.1 hw c (List.mem_of_mem_take hc)
      have hwd : Bw (CV.wf S.nz S.nb) (cs.drop (Ao E l)) = true := Ac.2 fun c hc => Ac.1 hw c (List.mem_of_mem_drop hc)
      obtain ⟨g1,g2⟩ := hv
      refine Zs (h.put (v2 hwt) ⟨h.fr.size,h.fr.defers,fun j u hj => ?_⟩) hF (by rw [List.map_drop]; exact g2) hwd e
      by_cases q : k = j
      · subst q
        rw [CS] at hj
        cases hj
        rw [v1,List.map_take]
        exact hF.slots _ _ g1
      · rw [Dh q] at hj; exact h.fr.slots j u hj
    · cases e
def BV (σ : Nat → Value) (ρ : Nat → Nat) (E : TE) (l : List (Nat × List CV)) : CQ := l.map fun p => (ρ p.1,p.2.map (CV.val E.sz σ ρ))
theorem gZ (x : Ext S0 S) : ∀ {l : List (Nat × List (Option CK))} {y m : List CV} {mm : List (Nat × List CV)},vG E S l = some y → VA E S0 S l = true → MU E S0 l (y ++ m) = some mm → ∃ A : List (Nat × Nat × List CV),A.map (·.1) = l.map (·.1) ∧ (∀ p ∈ A,p ∈ S.M) ∧ A.map (fun p => (p.1,p.2.2)) = mm
  | [],y,m,mm,e,hk,hm => by cases hm; exact ⟨[],rfl,(fun _ h => nomatch h),rfl⟩
  | (k, l) :: r, y, m, mm, e, hk, hm => by
    unfold vG at e
    split at e
    · rename_i ver cs hf
      split at e
      · rename_i c1 hc
        split at e
        · rename_i s hs
          cases e
          unfold VA at hk
          split at hk
          · rename_i hk1
            unfold MU at hm
            split at hm
            · rename_i v0 cs0 h0
              split at hm
              · split at hm
                · rename_i c2 hc2
                  split at hm
                  · rename_i m' hm'
                    cases hm
                    obtain ⟨t1,t2⟩ := I8 hc2
                    have hlen : c1.length = Ao E (TF l) := by
                      have : ∀ (l : List (Option CK)) (cs y : List CV),SJ E l cs = some y → y.length = Ao E (TF l) := by
                        intro l
                        induction l with
                        | nil => intro cs y h; cases cs with | nil => cases h; rfl | cons _ _ => cases h
                        | cons q l ih =>
                          intro cs y h
                          cases q with
                          | none => cases cs with | nil => cases h | cons c cs => exact ih cs y h
                          | some q =>
                            unfold SJ at h
                            split at h
                            · rename_i d1 hd
                              split at h
                              · rename_i d2 hd2
                                cases h
                                obtain ⟨u1,u2⟩ := I8 hd
                                have hq : Ao E (TF (some q :: l)) = Ao E [q] + Ao E (TF l) := by cases q <;> simp [TF,Ao] <;> omega
                                rw [List.length_append,ih _ _ hd2,hq, ← u2,List.length_take]
                                omega
                              · cases h
                            · cases h
                      exact this _ _ _ hc
                    rw [List.append_assoc] at t2 hm'
                    rw [List.take_left' hlen] at t2
                    rw [I4,List.drop_left' hlen] at hm'
                    obtain ⟨A,a1,a2,a3⟩ := gZ x hs hk hm'
                    have hmix := Tc x h0 hf l 0 c1 hk1 (by simpa using hc)
                    simp only [List.drop_zero] at hmix
                    refine ⟨(k,ver,cs) :: A,by simp [a1],fun p hp => ?_, ?_⟩
                    · rcases List.mem_cons.1 hp with rfl | hp
                      · exact Ba hf
                      · exact a2 p hp
                    · rw [List.map_cons,a3, ← t2,hmix]
                  · cases hm
                · cases hm
              · cases hm
            · cases hm
          · cases hk
        · cases e
      · cases e
    · cases e
theorem Tf {β : Type _} : ∀ {n : Nat} {l : List β},n ≤ l.length → YT n l = some (l.take n)
  | 0,l,h => by unfold YT; rfl
  | n + 1,[],h => by simp at h
  | n + 1,x :: l,h => by
    unfold YT
    rw [Tf (by simpa using h)]
    rfl
theorem W3 {f f' : CV → Value} : ∀ {l : List (Nat × List (Option CK))} {new ys : List CV} {m : List (Nat × List CV)},MU E S0 l new = some m → new.map f' = ys.map f → (∀ p ∈ S0.M,p.2.2.map f' = p.2.2.map f) → ∃ m0,MU E S0 l ys = some m0 ∧ m.map (fun p => (p.1,p.2.map f')) = m0.map (fun p => (p.1,p.2.map f))
  | [],new,ys,m,e,h,ho => by cases e; exact ⟨[],rfl,rfl⟩
  | (k, l) :: r, new, ys, m, e, h, ho => by
    unfold MU at e
    split at e
    · rename_i v cs hf
      split at e
      · rename_i hl
        split at e
        · rename_i c1 hc
          split at e
          · rename_i m' hm'
            cases e
            obtain ⟨t1,t2⟩ := I8 hc
            have hlen : new.length = ys.length := by simpa using congrArg List.length h
            have hc' := Tf (n := Ao E (TF l)) (l := ys) (by omega)
            rw [I4] at hm'
            obtain ⟨m0,g1,g2⟩ := W3 hm' (ys := ys.drop (Ao E (TF l))) (by rw [List.map_drop,List.map_drop,h]) ho
            refine ⟨(k,Ku E l cs (ys.take (Ao E (TF l)))) :: m0, ?_, ?_⟩
            · unfold MU
              rw [hf]
              simp only [hl,hc',I4,g1]
            · rw [List.map_cons,List.map_cons,g2,MC,MC,ho _ (Ba hf), ← t2,List.map_take,List.map_take,h]
          · cases e
        · cases e
      · cases e
    · cases e
theorem YF {nz nb : Nat} : ∀ {l : List (Nat × List (Option CK))} {new : List CV} {m : List (Nat × List CV)},MU E S0 l new = some m → Bw (CV.wf nz nb) new = true → (∀ p ∈ S0.M,Bw (CV.wf nz nb) p.2.2 = true) → ∀ p ∈ m,Bw (CV.wf nz nb) p.2 = true
  | [],new,m,e,h,ho => by cases e; exact fun _ h => nomatch h
  | (k, l) :: r, new, m, e, h, ho => by
    unfold MU at e
    split at e
    · rename_i v cs hf
      split at e
      · split at e
        · rename_i c1 hc
          split at e
          · rename_i m' hm'
            cases e
            obtain ⟨t1,t2⟩ := I8 hc
            rw [I4] at hm'
            intro p hp
            rcases List.mem_cons.1 hp with rfl | hp
            · refine Ac.2 fun c hcm => ?_
              rcases PL hcm with hcm | hcm
              · exact Ac.1 (ho _ (Ba hf)) c hcm
              · rw [← t2] at hcm
                exact Ac.1 h c (List.mem_of_mem_take hcm)
            · exact YF hm' (Ac.2 fun c hc => Ac.1 h c (List.mem_of_mem_drop hc)) ho p hp
          · cases e
        · cases e
      · cases e
    · cases e
theorem YK {Z : List It} : ∀ {l : List (Nat × List CV)} {S : St E.c},StC E B θ S σ ρ ι → Stw B (BV σ ρ E l ++ S.mm E σ ρ) Z w → (∀ p ∈ l,Bw (CV.wf S.nz S.nb) p.2 = true) → (∀ p ∈ l,p.1 < S.nb) → StC E B θ (Ov l S) σ ρ ι ∧ Stw B ((Ov l S).mm E σ ρ) Z w ∧ (Ov l S).F = S.F ∧ (Ov l S).Z = S.Z ∧ (Ov l S).nz = S.nz ∧ (Ov l S).nb = S.nb
  | [],S,h,hW,hw,hb => ⟨h,hW,rfl,rfl,rfl,rfl⟩
  | (k, cs) :: r, S, h, hW, hw, hb => by
    have h1 : StC E B θ { S with M := (k,S.nv,cs) :: S.M,V := (k,[]) :: S.V,nv := S.nv + 1 } σ ρ ι := {
      it := h.it
      wF := fun p hp => ⟨(h.wF p hp).1,Nat.lt_succ_of_lt (h.wF p hp).2⟩
      wM := fun p hp => by
        rcases List.mem_cons.1 hp with rfl | hp
        · exact ⟨hb (k,cs) (List.mem_cons_self ..),Nat.lt_succ_self _,hw (k,cs) (List.mem_cons_self ..)⟩
        · exact ⟨(h.wM p hp).1,Nat.lt_succ_of_lt (h.wM p hp).2.1,(h.wM p hp).2.2⟩
      wZ := fun p hp => ⟨(h.wZ p hp).1,Nat.lt_succ_of_lt (h.wZ p hp).2⟩
      nZ := h.nZ
      ca := h.ca
      pn := h.pn
      pi := ⟨Nat.le_succ_of_le h.pi.1,h.pi.2⟩ }
    exact YK (l := r) (S := { S with M := (k,S.nv,cs) :: S.M,V := (k,[]) :: S.V,nv := S.nv + 1 }) h1 (hW.perm List.perm_middle.symm) (fun p hp => hw p (List.mem_cons_of_mem _ hp)) fun p hp => hb p (List.mem_cons_of_mem _ hp)
theorem Rel.ndM (h : Rel E B θ n ds S a w σ ρ ι) : (S.M.map (·.1)).Nodup := by
  have h1 : (S.M.map fun p => ρ p.1).Nodup := by
    have := (List.nodup_append.1 h.st.nodup).1
    rw [List.map_map] at this
    exact this
  have h2 : (S.M.map fun p => ρ p.1) = (S.M.map (·.1)).map ρ := by rw [List.map_map]; rfl
  rw [h2] at h1
  exact Jk h1
end
end Go.Proofs.YtkhiflmalgkjiaaGreat
