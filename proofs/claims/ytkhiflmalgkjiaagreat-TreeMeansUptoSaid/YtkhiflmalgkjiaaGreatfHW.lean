/- Where ways meet: what is Mj is said as data, and laid down again. Conditions: none. -/
import Derived.Test.YtkhiflmalgkjiaaGreatfHT
set_option linter.unusedVariables false
set_option linter.unusedSimpArgs false
open Go Go.RowKit
namespace Go.Proofs.YtkhiflmalgkjiaaGreat
section
variable {E : TE} {P : Program} {B : Bs} {θ : Pin} {n : Nat} {ds : List Deferred} {S : St E.c} {a : Act} {w : World} {σ : Nat → Value} {ρ : Nat → Nat} {ι : Nat → It} {R : Type}
variable {Q : Exit → Act → World → Prop}
theorem Rel.lit (h : Rel E B θ n ds S a w σ ρ ι) {d : Nat} {ver : Nat} {b : BX} {b' : Bool} (hf : CQ S.F d = some (ver,.one (.bool b))) (hb : b.v = b') : Rel E B θ n ds (S.put d (.one (.bool (.lit b')))) a w σ ρ ι := by
  refine h.put (v := .one (.bool (.lit b'))) rfl (h.fr.sub fun k v e => ?_)
  by_cases q : d = k
  · subst q
    rw [CX] at e
    cases e
    have := Hw (f := fun q => q.2.val E.sz σ ρ) hf
    rw [this]
    show some (Value.bool b.v) = some (Value.bool b')
    rw [hb]
  · rw [Dh q] at e; exact e
theorem i5 {l0 : List Oper} {o : Oper} {yes no : St E.c → Tree R} {r : R} {goal : Prop} (h : Rel E B θ n ds S a w σ ρ ι) (e : (dG l0 S yes no o.guard).den = some r)
    (hy : ∀ S',Ext S S' ∧ S'.M = S.M ∧ S'.Z = S.Z → Rel E B θ n ds S' a w σ ρ ι → Region.wanted o (yielded l0.toArray a.tmps) = true → (yes S').den = some r → goal)
    (hno : ∀ S',Ext S S' ∧ S'.M = S.M ∧ S'.Z = S.Z → Rel E B θ n ds S' a w σ ρ ι → Region.wanted o (yielded l0.toArray a.tmps) = false → (no S').den = some r → goal) : goal := by
  cases hg : o.guard with
  | none => rw [hg] at e; exact hy S ⟨Ext.refl S,rfl,rfl⟩ h (BN hg) e
  | some p =>
    obtain ⟨i,t⟩ := p
    rw [hg] at e
    unfold dG at e
    simp only at e
    split at e
    · rename_i d hd
      have hdst := OI hd
      split at e
      · rename_i ver b hf
        have hwt : ∀ t',b.v = t' → Region.wanted o (yielded l0.toArray a.tmps) = (t' == t) := fun t' ht => Ke h.fr rfl hg hdst (by
          rw [Hw (f := fun q => q.2.val E.sz σ ρ) hf]
          show some (Value.bool b.v) = _
          rw [ht])
        split at e
        · rename_i b0
          have hw := hwt b0 rfl
          cases b0 <;> cases t <;> simp only at e
          · exact hy S ⟨Ext.refl S,rfl,rfl⟩ h hw e
          · exact hno S ⟨Ext.refl S,rfl,rfl⟩ h hw e
          · exact hno S ⟨Ext.refl S,rfl,rfl⟩ h hw e
          · exact hy S ⟨Ext.refl S,rfl,rfl⟩ h hw e
        · have e : aG b _ _ = some r := e
          rw [Rk] at e
          split at e
          · rename_i hb
            have hw := hwt true hb
            cases t <;> simp only at e
            · exact hno _ ⟨Ext.put S d _,rfl,rfl⟩ (h.lit hf hb) hw e
            · exact hy _ ⟨Ext.put S d _,rfl,rfl⟩ (h.lit hf hb) hw e
          · rename_i hb
            have hb : b.v = false := by simpa using hb
            have hw := hwt false hb
            cases t <;> simp only at e
            · exact hy _ ⟨Ext.put S d _,rfl,rfl⟩ (h.lit hf hb) hw e
            · exact hno _ ⟨Ext.put S d _,rfl,rfl⟩ (h.lit hf hb) hw e
      · rename_i ver hf
        exact hno S ⟨Ext.refl S,rfl,rfl⟩ h (PD h.fr rfl hg hdst (Hw (f := fun q => q.2.val E.sz σ ρ) hf)) e
      · cases e
    · cases e
theorem b7 {tb : Tb} (T : TbOk E P tb) {G : Hq E P} (hG : ConsOk B G) {l0 : List Oper} {k : St E.c → Tree R} {r : R} : ∀ (l : List Oper) {S : St E.c} {a : Act} {w : World} {σ : Nat → Value} {ρ : Nat → Nat} {ι : Nat → It},Rel E B θ n ds S a w σ ρ ι → (dL E tb G n l0 k l S).den = some r →
    (∀ S' a' w' σ' ρ' ι',Ext S S' → Rel E B θ n ds S' a' w' σ' ρ' ι' → (k S').den = some r → Q .normal a' w') → wpList P l0.toArray Q l a w
  | [],S,a,w,σ,ρ,ι,h,e,K => K S a w σ ρ ι (Ext.refl S) h e
  | o :: l,S,a,w,σ,ρ,ι,h,e,K => by
    unfold dL at e
    refine i5 h e (fun S' ⟨x,_⟩ h' hw e' => ?_) fun S' ⟨x,_⟩ h' hw e' => ?_
    · exact YW hw (gV T hG h' e' fun S'' a' w' σ' ρ' ι' x' h'' e'' => b7 T hG l h'' e'' fun S3 a3 w3 σ3 ρ3 ι3 x3 h3 e3 => K S3 a3 w3 σ3 ρ3 ι3 ((x.trans x').trans x3) h3 e3)
    · split at e'
      · rename_i d hd
        split at e'
        · rename_i hn
          refine VJ h'.fr hw hd hn fun a' hf => ?_
          exact b7 T hG l (h'.put (v := .tup []) rfl hf) e' fun S3 a3 w3 σ3 ρ3 ι3 x3 h3 e3 => K S3 a3 w3 σ3 ρ3 ι3 ((x.trans (Ext.put S' d _)).trans x3) h3 e3
        · cases e'
      · cases e'
end
def wrL : List Oper → List Nat
  | [] => []
  | o :: l => match o.dst with | some d => d :: wrL l | none => wrL l
def QD : Code → List Nat
  | .region _ ⟨l⟩ _ => wrL l
  | .seq x y => QD x ++ QD y
  | .cond _ x y => QD x ++ QD y
  | .block _ x => QD x
  | .loop x => QD x
  | .scope x => QD x
  | _ => []
def H6 (k : Nat) : List Nat → Bool
  | [] => false
  | j :: l => match Nat.beq j k with | true => true | false => H6 k l
def Fy {β : Type _} (ws : List Nat) : List (Nat × β) → List (Nat × β)
  | [] => []
  | p :: l => match H6 p.1 ws with | true => Fy ws l | false => p :: Fy ws l
theorem KZ {k : Nat} : ∀ {l : List Nat},H6 k l = true ↔ k ∈ l
  | [] => by simp [H6]
  | j :: l => by
    unfold H6
    split
    · rename_i h; simp [ze h]
    · rename_i h
      have := XZ h
      rw [KZ (l := l)]
      simp [Ne.symm this]
theorem EJ {β : Type _} {ws : List Nat} {k : Nat} : ∀ {l : List (Nat × β)} {x : β},CQ (Fy ws l) k = some x → CQ l k = some x ∧ H6 k ws = false
  | [],x,h => nomatch h
  | (j,y) :: l,x,h => by
    unfold Fy at h
    split at h
    · rename_i hm
      have := EJ h
      by_cases hj : j = k
      · subst hj; rw [hm] at this; exact absurd this.2 (by simp)
      · exact ⟨by rw [C6 hj]; exact this.1,this.2⟩
    · rename_i hm
      by_cases hj : j = k
      · subst hj; rw [DK] at h ⊢; exact ⟨h,by simpa using hm⟩
      · rw [C6 hj] at h ⊢; exact EJ h
theorem DV {β : Type _} {ws : List Nat} : ∀ {l : List (Nat × β)} {p : Nat × β},p ∈ Fy ws l → p ∈ l ∧ H6 p.1 ws = false
  | q :: l,p,h => by
    unfold Fy at h
    split at h
    · exact ⟨zd _ (DV h).1,(DV h).2⟩
    · rename_i hm
      rcases List.mem_cons.1 h with rfl | h
      · exact ⟨List.mem_cons_self ..,by simpa using hm⟩
      · exact ⟨zd _ (DV h).1,(DV h).2⟩
theorem Ll {β : Type _} {ws : List Nat} : ∀ {l : List (Nat × β)},(Fy ws l).Sublist l
  | [] => .slnil
  | q :: l => by
    unfold Fy
    split
    · exact .cons _ Ll
    · exact .cons_cons _ Ll
structure JS where
  s : List (Nat × Bool × List CK)
  b : List (Nat × List (Option CK))
  z : List Nat
def l9 : List (Nat × Bool × List CK) → List CK | [] => [] | p :: r => p.2.2 ++ l9 r
def jsB : List (Nat × List (Option CK)) → List CK | [] => [] | p :: r => TH p.2 ++ jsB r
def JS.ks (J : JS) : List CK := l9 J.s ++ jsB J.b
def qS (E : TE) {c : Nat → Type} (S : St c) : List (Nat × Bool × List CK) → Option (List CV)
  | [] => some []
  | (k, b, l) :: r => match CQ S.F k with
    | some (_,v) => match (match b,v with | true,.agg cs => some cs | false,.one c => some [c] | _,_ => none) with
      | some cs => match Nat.beq cs.length (Au E l) with
        | true => match qS E S r with | some s => some (cs ++ s) | none => none
        | false => none
      | none => none
    | none => none
def yT (E : TE) {c : Nat → Type} (S : St c) : List (Nat × List (Option CK)) → Option (List CV)
  | [] => some []
  | (k,l) :: r => match CQ S.M k with
    | some (_,cs) => match Tx E l cs with
      | some c1 => match yT E S r with | some s => some (c1 ++ s) | none => none
      | none => none
    | none => none
def lW {c : Nat → Type} (S : St c) : List CV → List Nat
  | [] => []
  | .sl z :: cs => match CQ S.Z z with | some (_,⟨.own _,_,_⟩) => z :: lW S cs | _ => lW S cs
  | _ :: cs => lW S cs
def aK (E : TE) (S : St E.c) : List CK → List CV → List Nat
  | [],_ => []
  | .d true u :: r,cs => aK E S r (YJ (E.sz u) cs)
  | .d false u :: r,cs => lW S (cs.take (E.sz u)) ++ aK E S r (YJ (E.sz u) cs)
  | .o _ _ :: r,.sl z :: cs => z :: aK E S r cs
  | .o _ _ :: r,_ :: cs => aK E S r cs
  | .o _ _ :: _,[] => []
def base (E : TE) (J : JS) (ws : List Nat) (S : St E.c) : St E.c :=
  { S with F := Fy (ws ++ J.s.map (·.1)) S.F,M := Fy (J.b.map (·.1)) S.M,V := Fy (J.b.map (·.1)) S.V,C := [],
           Z := Fy (match qS E S J.s,yT E S J.b with | some x,some y => aK E S J.ks (x ++ y) | some x,none => aK E S (l9 J.s) x | _,_ => []) S.Z }
def Mi {β : Type _} (l : List (Nat × Nat × β)) (l' : List (Nat × Nat × β)) : Bool := Bx (fun p => match CQ l p.1,CQ l' p.1 with | some (v,_),some (v',_) => Nat.beq v v' | _,_ => false) l
def ZT {c : Nat → Type} (S0 S' : St c) : Bool := match Mi S0.F S'.F with
  | true => match Mi S0.M S'.M with
    | true => Mi S0.Z S'.Z
    | false => false
  | false => false
def W7 (E : TE) {c : Nat → Type} : List (Nat × Bool × List CK) → List CV → St c → Option (St c)
  | [],_,S => some S
  | (k,b,l) :: r,cs,S => match w7 b (cs.take (Au E l)) with
    | some v => W7 E r (cs.drop (Au E l)) (S.put k v)
    | none => none
def N5 {c : Nat → Type} : List (Nat × List CV) → St c → St c
  | [],S => S
  | (k,cs) :: r,S => N5 r { S with M := (k,S.nv,cs) :: S.M,V := (k,[]) :: S.V,nv := S.nv + 1 }
def vU : List Nat → Bool
  | [] => true
  | k :: l => match H6 k l with | true => false | false => vU l
def okB (J : JS) (nb : Nat) : Bool := match vU (J.b.map (·.1)) with | true => Bx (fun p => Nat.blt p.1 nb) J.b | false => false
def qR (E : TE) (J : JS) (ws : List Nat) (S0 : St E.c) (t : TT E.c J.ks) : Option (St E.c) := match Q7 E J.ks t with
  | some L => match vU (J.b.map (·.1)) with
    | true => match MA E S0 J.b ((injS (base E J ws S0) L).1.drop (Au E (l9 J.s))) with
      | some m => match W7 E J.s (injS (base E J ws S0) L).1 (N5 m (injS (base E J ws S0) L).2) with
        | some S2 => some { S2 with V := eA E S0 S2.nv J.b ++ S2.V,nv := S2.nv + 1 }
        | none => none
      | none => none
    | false => none
  | none => none
def sI (E : TE) (J : JS) (ws : List Nat) (S0 : St E.c) (S : St E.c) : Option (TT E.c J.ks) := match qS E S J.s with
  | some x => match yT E S J.b with
    | some y => match Vg E S0 S J.b with
      | true => match pk E false J.ks S (x ++ y) with
        | some (t,S') => match ZT (base E J ws S0) S' with
          | true => match okB J S0.nb with
            | true => match qR E J ws S0 t with | some _ => some t | none => none
            | false => none
          | false => none
        | none => none
      | false => none
    | none => none
  | none => none
section
variable {E : TE} {P : Program} {B : Bs} {θ : Pin} {n : Nat} {ds : List Deferred} {S S0 : St E.c} {a : Act} {w : World} {σ : Nat → Value} {ρ : Nat → Nat} {ι : Nat → It} {R : Type}
theorem IQ {β : Type _} {l l' : List (Nat × Nat × β)} (h : Mi l l' = true) {k : Nat} {x : Nat × β} (hx : CQ l k = some x) : ∃ y,CQ l' k = some (x.1,y) := by
  have := Ae.1 h _ (A8 hx)
  simp only [hx] at this
  split at this
  · rename_i v _ v' y h1 h2
    cases h1
    rw [ze this]
    exact ⟨y,h2⟩
  · cases this
theorem Oo {β : Type _} {ws : List Nat} {k : Nat} (hk : H6 k ws = false) : ∀ (l : List (Nat × β)),CQ (Fy ws l) k = CQ l k
  | [] => rfl
  | (j,y) :: l => by
    unfold Fy
    split
    · rename_i hm
      rw [Oo hk l,C6 (fun e => by simp only at hm; rw [e,hk] at hm; cases hm)]
    · by_cases e : j = k
      · subst e; rw [DK,DK]
      · rw [C6 e,C6 e]; exact Oo hk l
theorem iZ {c : Nat → Type} {S : St c} {b i v : Nat} (h : Uz S b i = some v) : ∃ l,CQ S.V b = some l := by
  unfold Uz at h
  cases hv : CQ S.V b with
  | none => rw [hv] at h; cases h
  | some l => exact ⟨l,rfl⟩
theorem iD (J : JS) (ws : List Nat) (S : St E.c) : Ext S (base E J ws S) := ⟨Nat.le_refl _,fun _ _ h _ => (EJ h).1,fun _ _ h _ => (EJ h).1,fun _ _ h _ => (EJ h).1,fun b i v h _ => by
  obtain ⟨l,hl⟩ := iZ h
  have hk := (EJ (show CQ (Fy (J.b.map (·.1)) S.V) b = some l from hl)).2
  unfold Uz i9 at *
  rw [show (base E J ws S).V = Fy (J.b.map (·.1)) S.V from rfl,Oo hk] at h
  rw [show (base E J ws S).M = Fy (J.b.map (·.1)) S.M from rfl,Oo hk]
  exact ⟨h,rfl⟩⟩
theorem Wt : ∀ (l : List (Nat × Bool × List CK)) (cs : List CV) {S S' : St E.c},W7 E l cs S = some S' → Ext S S'
  | [],cs,S,S',e => by cases e; exact Ext.refl _
  | (k,b,l) :: r,cs,S,S',e => by
    unfold W7 at e
    split at e
    · exact (Ext.put S k _).trans (Wt r _ e)
    · cases e
theorem WE : ∀ (l : List (Nat × List CV)) (S : St E.c),Ext S (N5 l S)
  | [],S => Ext.refl _
  | (k, cs) :: r, S => by
    refine Ext.trans (S' := { S with M := (k,S.nv,cs) :: S.M,V := (k,[]) :: S.V,nv := S.nv + 1 }) ⟨Nat.le_succ _,fun _ _ e _ => e,fun j x e hl => ?_,fun _ _ e _ => e,fun j i v e hl => ?_⟩ (WE r _)
    · by_cases hk : k = j
      · subst hk
        simp only [DK] at e
        cases e
        exact absurd hl (Nat.lt_irrefl _)
      · simp only [C6 hk] at e
        exact e
    · by_cases hk : k = j
      · subst hk
        unfold Uz at e
        simp only [DK] at e
        cases e
      · unfold Uz i9 at *
        simp only [C6 hk] at e ⊢
        exact ⟨e,trivial⟩
theorem dD : ∀ (l : List (Nat × List CV)) (S : St E.c) {k : Nat} {cs : List CV},(l.map (·.1)).Nodup → (k,cs) ∈ l → ∃ v,CQ (N5 l S).M k = some (v,cs)
  | (j, cj) :: r, S, k, cs, hn, hm => by
    rw [zj,List.nodup_cons] at hn
    rcases List.mem_cons.1 hm with h | hm
    · cases h
      have keep : ∀ (l : List (Nat × List CV)) (S : St E.c),j ∉ l.map (·.1) → CQ (N5 l S).M j = CQ S.M j := by
        intro l
        induction l with
        | nil => intro S _; rfl
        | cons p l ih =>
          intro S hk
          obtain ⟨q,cq⟩ := p
          rw [zj,List.mem_cons,not_or] at hk
          show CQ (N5 l _).M j = _
          rw [ih _ hk.2]
          exact C6 (Ne.symm hk.1)
      exact ⟨S.nv,(keep r _ hn.1).trans DK⟩
    · exact dD r _ hn.2 hm
theorem fT : ∀ (l : List (Nat × Bool × List CK)) (cs : List CV) {S S' : St E.c},W7 E l cs S = some S' → S'.M = S.M ∧ S'.V = S.V
  | [],cs,S,S',e => by cases e; exact ⟨rfl,rfl⟩
  | (k,b,l) :: r,cs,S,S',e => by
    unfold W7 at e
    split at e
    · exact fT r _ (S := S.put k _) e
    · cases e
theorem WZ {S0 : St E.c} {nv b : Nat} {V : List (Nat × List Nat)} : ∀ (l : List (Nat × List (Option CK))),(∃ q,(b,q) ∈ l ∧ CQ (eA E S0 nv l ++ V) b = some (Q1 E (Uz S0 b) nv q 0)) ∨ CQ (eA E S0 nv l ++ V) b = CQ V b
  | [] => .inr rfl
  | (k,q) :: l => by
    by_cases hk : k = b
    · subst hk
      exact .inl ⟨q,List.mem_cons_self ..,DK⟩
    · rcases WZ (S0 := S0) (nv := nv) (V := V) l with ⟨q',h1,h2⟩ | h
      · exact .inl ⟨q',zd _ h1,(C6 hk).trans h2⟩
      · exact .inr ((C6 hk).trans h)
theorem Sn {S0 : St E.c} : ∀ {l : List (Nat × List (Option CK))} {new : List CV} {m : List (Nat × List CV)},MA E S0 l new = some m → m.map (·.1) = l.map (·.1) ∧ ∀ k q,(k,q) ∈ l → ∃ v cs c1,CQ S0.M k = some (v,cs) ∧ cs.length = X0 E q ∧ c1.length = Au E (TH q) ∧ (k,KN E q cs c1) ∈ m
  | [],new,m,e => by cases e; exact ⟨rfl,fun _ _ h => nomatch h⟩
  | (j, p) :: l, new, m, e => by
    unfold MA at e
    split at e
    · rename_i v cs hf
      split at e
      · rename_i hl
        split at e
        · rename_i c1 hc
          split at e
          · rename_i m' hm'
            cases e
            obtain ⟨g1,g2⟩ := Sn hm'
            obtain ⟨t1,t2⟩ := I7 hc
            refine ⟨by simp [g1],fun k q hq => ?_⟩
            rcases List.mem_cons.1 hq with h | hq
            · cases h
              exact ⟨v,cs,c1,hf,ze hl,by rw [← t2,List.length_take]; omega,List.mem_cons_self ..⟩
            · obtain ⟨v',cs',c',a1,a2,a3,a4⟩ := g2 k q hq
              exact ⟨v',cs',c',a1,a2,a3,zd _ a4⟩
          · cases e
        · cases e
      · cases e
    · cases e
theorem X8 : ∀ {l : List Nat},vU l = true → l.Nodup
  | [],_ => List.nodup_nil
  | k :: l,h => by
    unfold vU at h
    split at h
    · cases h
    · rename_i hm
      exact List.nodup_cons.2 ⟨(fun hk => by rw [KZ.2 hk] at hm; cases hm),X8 h⟩
theorem jK {J : JS} {ws : List Nat} {t : TT E.c J.ks} {S' : St E.c} (e : qR E J ws S t = some S') : Ext S S' := by
  unfold qR at e
  split at e
  · rename_i L hL
    split at e
    · rename_i hnd
      split at e
      · rename_i m hm
        split at e
        · rename_i S2 h2
          cases e
          have xx : Ext S S2 := (((iD J ws S).trans (Ext.injS L _)).trans (WE _ _)).trans (Wt _ _ h2)
          refine ⟨Nat.le_succ_of_le xx.v,xx.F,xx.M,xx.Z,fun b i v he hl => ?_⟩
          unfold Uz at he
          simp only at he
          rcases WZ (S0 := S) (nv := S2.nv) (b := b) (V := S2.V) J.b with ⟨q,g1,g2⟩ | g
          · rw [g2] at he
            simp only at he
            obtain ⟨k1,k2⟩ := Sn hm
            obtain ⟨v0,cs,c1,a1,a2,a3,a4⟩ := k2 b q g1
            have hnd' : (m.map (·.1)).Nodup := by rw [k1]; exact X8 hnd
            obtain ⟨v1,hv1⟩ := dD m (injS (base E J ws S) L).2 hnd' a4
            have hM : CQ S2.M b = some (v1,KN E q cs c1) := by rw [(fT _ _ h2).1]; exact hv1
            rcases Vl q 0 i v cs c1 he (by omega) with rfl | ⟨h3,h4⟩
            · exact absurd (Nat.lt_of_lt_of_le hl xx.v) (Nat.lt_irrefl _)
            · rw [Nat.zero_add] at h3
              refine ⟨h3, ?_⟩
              have hi : i < cs.length := by
                rw [a2, ← Rz (f := Uz S b) (nv := S2.nv) q 0]
                exact (List.getElem?_eq_some_iff.1 he).1
              unfold i9
              simp only [hM,a1]
              rw [h4 _ (zb hi),zb hi]
          · rw [g] at he
            exact xx.V b i v he hl
        · cases e
      · cases e
    · cases e
  · cases e
theorem pO {J : JS} {nb : Nat} (h : okB J nb = true) : (J.b.map (·.1)).Nodup ∧ Bx (fun p => Nat.blt p.1 nb) J.b = true := by
  unfold okB at h
  split at h
  · rename_i h1; exact ⟨X8 h1,h⟩
  · cases h
theorem Z8 {β : Type _} : ∀ {A l : List (Nat × β)},(l.map (·.1)).Nodup → (A.map (·.1)).Nodup → (∀ p ∈ A,p ∈ l) → ∃ r,l.Perm (A ++ r)
  | [],l,_,_,_ => ⟨l,List.Perm.refl _⟩
  | x :: A,l,hl,hA,h => by
    obtain ⟨l1,l2,rfl⟩ := List.append_of_mem (h x (List.mem_cons_self ..))
    have hp : (l1 ++ x :: l2).Perm (x :: (l1 ++ l2)) := List.perm_middle
    have hl' := (hp.map (·.1)).nodup_iff.1 hl
    rw [zj,List.nodup_cons] at hl'
    rw [zj,List.nodup_cons] at hA
    obtain ⟨r,hr⟩ := Z8 (A := A) (l := l1 ++ l2) hl'.2 hA.2 fun p hp' => by
      rcases List.mem_cons.1 (hp.mem_iff.1 (h p (zd _ hp'))) with rfl | hm
      · exact absurd (List.mem_map.2 ⟨_,hp',rfl⟩) hA.1
      · exact hm
    exact ⟨r,hp.trans (hr.cons x)⟩
theorem e8 {M : CU} {Z : List It} (h : StC E B θ S σ ρ ι) (hZ : ∀ z ∈ S.zz ι,z ∈ Z) (hW : Stw B M Z w) {a : U} {c : CV} {l : List (a.T E.c)} (e : aA false S .rd a c = some l) : Sl B.w0 (NX B.X) (a.rp E.r) (c.val E.sz σ ρ) l := by
  unfold aA at e
  split at e
  · cases e; exact .nil
  · rename_i z
    split at e
    · rename_i ver k u' l' hz
      split at e
      · rename_i hk
        refine Sc e ?_
        have hm := A8 hz
        obtain ⟨lx,e1,e2⟩ := h.it _ hm
        have hok := hW.items (ι z) (hZ _ (List.mem_map.2 ⟨_,hm,rfl⟩))
        rw [e2] at hok
        cases k with
        | own e => cases hk
        | frz => cases hk
        | rd =>
          have hs : Sl B.w0 (NX B.X) (u'.rp E.r).seen (σ z) lx := hok
          exact hs.hide (Ex.seen _) e1
      · cases e
    · cases e
  · cases e
theorem Yf {f : Nat × AV → Value} : ∀ {l : List (Nat × Nat × AV)} {k : Nat} {v : Value},lk (l.map fun p => (p.1,f p.2)) k = some v → ∃ x,CQ l k = some x ∧ v = f x
  | [],k,v,h => nomatch h
  | (j,y) :: l,k,v,h => by
    simp only [zj,lk] at h
    split at h
    · rename_i e
      cases h
      rw [ze e]
      exact ⟨y,DK,rfl⟩
    · rename_i e
      obtain ⟨x,h1,h2⟩ := Yf h
      exact ⟨x,by rw [C6 (by intro e'; subst e'; simp at e)]; exact h1,h2⟩
theorem eU {b : Bool} {cs : List CV} {v : AV} {nz nb : Nat} (e : w7 b cs = some v) : v.val E.sz σ ρ = fH b (cs.map (CV.val E.sz σ ρ)) ∧ (Bx (CV.wf nz nb) cs = true → v.wf nz nb = true) := by
  unfold w7 at e
  split at e
  · cases e; exact ⟨rfl,fun h => h⟩
  · cases e; exact ⟨rfl,fun h => Ae.1 h _ (List.mem_cons_self ..)⟩
  · cases e
def SV (F : List (Nat × Value)) (E : TE) : List (Nat × Bool × List CK) → List Value → Prop
  | [],_ => True
  | (k,b,l) :: r,cs => lk F k = some (fH b (cs.take (Au E l))) ∧ SV F E r (cs.drop (Au E l))
theorem i7 : ∀ {l : List (Nat × Bool × List CK)} {x : List CV} (y : List Value),qS E S l = some x → SV (S.ff E σ ρ) E l (x.map (CV.val E.sz σ ρ) ++ y)
  | [],x,y,e => trivial
  | (k, b, l) :: r, x, y, e => by
    unfold qS at e
    split at e
    · rename_i ver v hf
      split at e
      · rename_i cs hcs
        split at e
        · rename_i hl
          have hl := ze hl
          split at e
          · rename_i s hs
            cases e
            have h1 := i7 y hs
            rw [List.map_append,List.append_assoc]
            refine ⟨?_, ?_⟩
            · rw [List.take_left' (by rw [zh]; exact hl),Hw (f := fun q => q.2.val E.sz σ ρ) hf]
              congr 1
              cases b <;> cases v <;> simp only at hcs <;> first | (cases hcs; done) | (cases hcs; rfl)
            · rw [List.drop_left' (by rw [zh]; exact hl)]; exact h1
          · cases e
        · cases e
      · cases e
    · cases e
theorem Y4 : ∀ {l : List (Nat × Bool × List CK)} {cs : List CV} {S S' : St E.c} {F : List (Nat × Value)},Rel E B θ n ds S a w σ ρ ι → Fr n ds F a → SV F E l (cs.map (CV.val E.sz σ ρ)) → Bx (CV.wf S.nz S.nb) cs = true → W7 E l cs S = some S' → Rel E B θ n ds S' a w σ ρ ι
  | [],cs,S,S',F,h,hF,hv,hw,e => by cases e; exact h
  | (k, b, l) :: r, cs, S, S', F, h, hF, hv, hw, e => by
    unfold W7 at e
    split at e
    · rename_i v hm
      obtain ⟨v1,v2⟩ := eU (σ := σ) (ρ := ρ) (nz := S.nz) (nb := S.nb) hm
      have hwt : Bx (CV.wf S.nz S.nb) (cs.take (Au E l)) = true := Ae.2 fun c hc => Ae.1 hw c (List.mem_of_mem_take hc)
      have hwd : Bx (CV.wf S.nz S.nb) (cs.drop (Au E l)) = true := Ae.2 fun c hc => Ae.1 hw c (List.mem_of_mem_drop hc)
      obtain ⟨g1,g2⟩ := hv
      refine Y4 (h.put (v2 hwt) ⟨h.fr.size,h.fr.defers,fun j u hj => ?_⟩) hF (by rw [List.map_drop]; exact g2) hwd e
      by_cases q : k = j
      · subst q
        rw [CX] at hj
        cases hj
        rw [v1,List.map_take]
        exact hF.slots _ _ g1
      · rw [Dh q] at hj; exact h.fr.slots j u hj
    · cases e
def BV (σ : Nat → Value) (ρ : Nat → Nat) (E : TE) (l : List (Nat × List CV)) : CU := l.map fun p => (ρ p.1,p.2.map (CV.val E.sz σ ρ))
theorem fV (x : Ext S0 S) : ∀ {l : List (Nat × List (Option CK))} {y m : List CV} {mm : List (Nat × List CV)},yT E S l = some y → Vg E S0 S l = true → MA E S0 l (y ++ m) = some mm → ∃ A : List (Nat × Nat × List CV),A.map (·.1) = l.map (·.1) ∧ (∀ p ∈ A,p ∈ S.M) ∧ A.map (fun p => (p.1,p.2.2)) = mm
  | [],y,m,mm,e,hk,hm => by cases hm; exact ⟨[],rfl,(fun _ h => nomatch h),rfl⟩
  | (k, l) :: r, y, m, mm, e, hk, hm => by
    unfold yT at e
    split at e
    · rename_i ver cs hf
      split at e
      · rename_i c1 hc
        split at e
        · rename_i s hs
          cases e
          unfold Vg at hk
          split at hk
          · rename_i hk1
            unfold MA at hm
            split at hm
            · rename_i v0 cs0 h0
              split at hm
              · split at hm
                · rename_i c2 hc2
                  split at hm
                  · rename_i m' hm'
                    cases hm
                    obtain ⟨t1,t2⟩ := I7 hc2
                    have hlen : c1.length = Au E (TH l) := by
                      have : ∀ (l : List (Option CK)) (cs y : List CV),Tx E l cs = some y → y.length = Au E (TH l) := by
                        intro l
                        induction l with
                        | nil => intro cs y h; cases cs with | nil => cases h; rfl | cons _ _ => cases h
                        | cons q l ih =>
                          intro cs y h
                          cases q with
                          | none => cases cs with | nil => cases h | cons c cs => exact ih cs y h
                          | some q =>
                            unfold Tx at h
                            split at h
                            · rename_i d1 hd
                              split at h
                              · rename_i d2 hd2
                                cases h
                                obtain ⟨u1,u2⟩ := I7 hd
                                have hq : Au E (TH (some q :: l)) = Au E [q] + Au E (TH l) := by cases q <;> simp [TH,Au] <;> omega
                                rw [List.length_append,ih _ _ hd2,hq, ← u2,List.length_take]
                                omega
                              · cases h
                            · cases h
                      exact this _ _ _ hc
                    rw [List.append_assoc] at t2 hm'
                    rw [List.take_left' hlen] at t2
                    rw [I1,List.drop_left' hlen] at hm'
                    obtain ⟨A,a1,a2,a3⟩ := fV x hs hk hm'
                    have hmix := RF x h0 hf l 0 c1 hk1 (by simpa using hc)
                    simp only [List.drop_zero] at hmix
                    refine ⟨(k,ver,cs) :: A,by simp [a1],fun p hp => ?_, ?_⟩
                    · rcases List.mem_cons.1 hp with rfl | hp
                      · exact A8 hf
                      · exact a2 p hp
                    · rw [zj,a3, ← t2,hmix]
                  · cases hm
                · cases hm
              · cases hm
            · cases hm
          · cases hk
        · cases e
      · cases e
    · cases e
theorem Td {β : Type _} : ∀ {n : Nat} {l : List β},n ≤ l.length → YI n l = some (l.take n)
  | 0,l,h => by unfold YI; rfl
  | n + 1,[],h => by simp at h
  | n + 1,x :: l,h => by
    unfold YI
    rw [Td (by simpa using h)]
    rfl
theorem V7 {f f' : CV → Value} : ∀ {l : List (Nat × List (Option CK))} {new ys : List CV} {m : List (Nat × List CV)},MA E S0 l new = some m → new.map f' = ys.map f → (∀ p ∈ S0.M,p.2.2.map f' = p.2.2.map f) → ∃ m0,MA E S0 l ys = some m0 ∧ m.map (fun p => (p.1,p.2.map f')) = m0.map (fun p => (p.1,p.2.map f))
  | [],new,ys,m,e,h,ho => by cases e; exact ⟨[],rfl,rfl⟩
  | (k, l) :: r, new, ys, m, e, h, ho => by
    unfold MA at e
    split at e
    · rename_i v cs hf
      split at e
      · rename_i hl
        split at e
        · rename_i c1 hc
          split at e
          · rename_i m' hm'
            cases e
            obtain ⟨t1,t2⟩ := I7 hc
            have hlen : new.length = ys.length := by simpa using congrArg List.length h
            have hc' := Td (n := Au E (TH l)) (l := ys) (by omega)
            rw [I1] at hm'
            obtain ⟨m0,g1,g2⟩ := V7 hm' (ys := ys.drop (Au E (TH l))) (by rw [List.map_drop,List.map_drop,h]) ho
            refine ⟨(k,KN E l cs (ys.take (Au E (TH l)))) :: m0, ?_, ?_⟩
            · unfold MA
              rw [hf]
              simp only [hl,hc',I1,g1]
            · rw [zj,zj,g2,My,My,ho _ (A8 hf), ← t2,List.map_take,List.map_take,h]
          · cases e
        · cases e
      · cases e
    · cases e
theorem YM {nz nb : Nat} : ∀ {l : List (Nat × List (Option CK))} {new : List CV} {m : List (Nat × List CV)},MA E S0 l new = some m → Bx (CV.wf nz nb) new = true → (∀ p ∈ S0.M,Bx (CV.wf nz nb) p.2.2 = true) → ∀ p ∈ m,Bx (CV.wf nz nb) p.2 = true
  | [],new,m,e,h,ho => by cases e; exact fun _ h => nomatch h
  | (k, l) :: r, new, m, e, h, ho => by
    unfold MA at e
    split at e
    · rename_i v cs hf
      split at e
      · split at e
        · rename_i c1 hc
          split at e
          · rename_i m' hm'
            cases e
            obtain ⟨t1,t2⟩ := I7 hc
            rw [I1] at hm'
            intro p hp
            rcases List.mem_cons.1 hp with rfl | hp
            · refine Ae.2 fun c hcm => ?_
              rcases Pr hcm with hcm | hcm
              · exact Ae.1 (ho _ (A8 hf)) c hcm
              · rw [← t2] at hcm
                exact Ae.1 h c (List.mem_of_mem_take hcm)
            · exact YM hm' (Ae.2 fun c hc => Ae.1 h c (List.mem_of_mem_drop hc)) ho p hp
          · cases e
        · cases e
      · cases e
    · cases e
theorem Zm {Z : List It} : ∀ {l : List (Nat × List CV)} {S : St E.c},StC E B θ S σ ρ ι → Stw B (BV σ ρ E l ++ S.mm E σ ρ) Z w → (∀ p ∈ l,Bx (CV.wf S.nz S.nb) p.2 = true) → (∀ p ∈ l,p.1 < S.nb) → StC E B θ (N5 l S) σ ρ ι ∧ Stw B ((N5 l S).mm E σ ρ) Z w ∧ (N5 l S).F = S.F ∧ (N5 l S).Z = S.Z ∧ (N5 l S).nz = S.nz ∧ (N5 l S).nb = S.nb
  | [],S,h,hW,hw,hb => ⟨h,hW,rfl,rfl,rfl,rfl⟩
  | (k, cs) :: r, S, h, hW, hw, hb => by
    have h1 : StC E B θ { S with M := (k,S.nv,cs) :: S.M,V := (k,[]) :: S.V,nv := S.nv + 1 } σ ρ ι := {
      it := h.it
      wF := fun p hp => ⟨(h.wF p hp).1,Nat.lt_succ_of_lt (h.wF p hp).2⟩
      wM := fun p hp => by
        rcases List.mem_cons.1 hp with rfl | hp
        · exact ⟨hb (k,cs) (List.mem_cons_self ..),Nat.lt_succ_self _,hw (k,cs) (List.mem_cons_self ..)⟩
        · exact ⟨(h.wM p hp).1,Nat.lt_succ_of_lt (h.wM p hp).2.1,(h.wM p hp).2.2⟩
      wZ := fun p hp => ⟨(h.wZ p hp).1,Nat.lt_succ_of_lt (h.wZ p hp).2⟩
      nZ := h.nZ
      ca := h.ca
      pn := h.pn
      pi := ⟨Nat.le_succ_of_le h.pi.1,h.pi.2⟩ }
    exact Zm (l := r) (S := { S with M := (k,S.nv,cs) :: S.M,V := (k,[]) :: S.V,nv := S.nv + 1 }) h1 (hW.perm List.perm_middle.symm) (fun p hp => hw p (zd _ hp)) fun p hp => hb p (zd _ hp)
theorem Rel.ndM (h : Rel E B θ n ds S a w σ ρ ι) : (S.M.map (·.1)).Nodup := by
  have h1 : (S.M.map fun p => ρ p.1).Nodup := by
    have := (List.nodup_append.1 h.st.nodup).1
    rw [List.map_map] at this
    exact this
  have h2 : (S.M.map fun p => ρ p.1) = (S.M.map (·.1)).map ρ := by rw [List.map_map]; rfl
  rw [h2] at h1
  exact Jm h1
end
end Go.Proofs.YtkhiflmalgkjiaaGreat
