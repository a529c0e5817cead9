/- The walk of a code. Conditions: none. -/
import Derived.Test.YtkhiflmalgkjiaaGreatfHX
import Derived.Test.YtkhiflmalgkjiaaGreatfUN
set_option linter.unusedVariables false
set_option linter.unusedSimpArgs false
open Go Go.RowKit
namespace Go.Proofs.YtkhiflmalgkjiaaGreat
inductive Ed where | n | x (id : Nat) | r
def Ed.ex : Ed → Exit | .n => .normal | .x i => .exit i | .r => .ret
inductive Jn where | bl (ks : List Nat) | st (ex : Bool) (J : JS)
inductive Ct where
  | d | s (a b : Ct) | j (J : Jn) (a b : Ct) | c (a b : Ct) | b (a : Ct) | l (J : JS) (a : Ct) | un (a b : Ct)
abbrev Ct.q (x : Ct) : Ct := .s .d x
def bxJ (b : BX) : BX → BX → BX
  | .lit true,.lit false => b
  | .lit false,.lit true => b.not
  | x,.lit false => .tm (b.v && x.v)
  | .lit true,y => .tm (b.v || y.v)
  | x,y => .tm (bif b.v then x.v else y.v)
theorem wB (b x y : BX) : (bxJ b x y).v = bif b.v then x.v else y.v := by
  have h : ∀ c : Bool,(bif c then true else false) = c ∧ (bif c then false else true) = !c ∧ (∀ u,(bif c then u else false) = (c && u)) ∧ ∀ u,(bif c then true else u) = (c || u) := by intro c; cases c <;> simp
  unfold bxJ
  split
  · exact (h b.v).1.symm
  · exact (BX.not_v b).trans (h b.v).2.1.symm
  · exact ((h b.v).2.2.1 _).symm
  · exact ((h b.v).2.2.2 _).symm
  · rfl
def eS : {R : Type} → (R → BX) → Tree R → Option BX
  | _,f,.ret r => some (f r)
  | _, f, .ite b x y => match eS f x with
    | some x => match eS f y with
      | some y => some (bxJ b x y)
      | none => none
    | none => none
  | _,_,_ => none
theorem ZQ {R : Type} (t : Tree R) : ∀ (f : R → BX) (b : BX),eS f t = some b → ∃ r,t.den = some r ∧ (f r).v = b.v := by
  induction t with
  | ret r => intro f b e; cases e; exact ⟨r,rfl,rfl⟩
  | fail => intro f b e; cases e
  | ite c x y ihx ihy =>
    intro f b e
    unfold eS at e
    split at e
    · rename_i x' hx
      split at e
      · rename_i y' hy
        cases e
        obtain ⟨rx,x1,x2⟩ := ihx f _ hx
        obtain ⟨ry,y1,y2⟩ := ihy f _ hy
        refine ⟨if c.v = true then rx else ry, ?_, ?_⟩
        · show aG c x.den y.den = _
          rw [Rk,x1,y1]
          split <;> rfl
        · rw [wB]
          cases c.v with
          | true => exact x2
          | false => exact y2
      · cases e
    · cases e
  | bnd o k ih => intro f b e; cases e
  | sub x k ihx ih => intro f b e; cases e
  | or x k ihx ih => intro f b e; cases e
  | loop f s ih => intro f b e; cases e
def Nw {α : Type _} {R : Type} (o : Option α) (f : α → Tree R) : Tree R := match o with | some x => f x | none => .fail
def Mf {c : Nat → Type} (ws : List Nat) (S : St c) : St c := { S with F := Fy ws S.F,C := [] }
def Yy {c : Nat → Type} (S : St c) : List Nat → Option (List BX)
  | [] => some []
  | k :: r => match CQ S.F k with
    | some (_,.one (.bool b)) => match Yy S r with | some l => some (b :: l) | none => none
    | _ => none
def VM {c : Nat → Type} (ks : List Nat) (S0 S : St c) : Tree (List BX) := match Yy S ks with
  | some l => match ZT S0 S with | true => .ret l | false => .fail
  | none => .fail
def aJ (t : Tree (List BX)) : Nat → List Nat → Option (List BX)
  | _,[] => some []
  | i,_ :: r => match eS (fun l => (Pl l i).getD (.lit false)) t with
    | some b => match aJ t (i + 1) r with | some l => some (b :: l) | none => none
    | none => none
def Xs {c : Nat → Type} : List Nat → List BX → St c → St c
  | k :: r,b :: l,S => Xs r l (S.put k (.one (.bool b)))
  | _,_,S => S
def unr {c : Nat → Type} {R : Type} (f : Ct → St c → (Ed → St c → Tree R) → Tree R) (k : Ed → St c → Tree R) : Ct → St c → Tree R
  | .un c1 c2,S => f c1 S fun e S' => match e with | .n => unr f k c2 S' | e => k e S'
  | _,_ => .fail
def Ct.dep : Ct → Nat
  | .un _ ct => ct.dep + 1
  | _ => 0
def dC (E : TE) {P : Program} (tb : Tb) (G : Hq E P) (n : Nat) : Code → Ct → {R : Type} → St E.c → (Ed → St E.c → Tree R) → Tree R
  | .skip,_,_,S,k => k .n S
  | .label _,_,_,S,k => k .n S
  | .region _ ⟨l⟩ false,_,_,S,k => match SI none l with | true => dL E tb G n l (k .n) l S | false => .fail
  | .region _ ⟨l⟩ true,_,_,S,k => dR E tb G n l (k .n) S
  | .seq x y,.j (.bl (s :: ss)) a b,_,S,k => Nw (aJ (dC E tb G n x a S fun e S' => match e with | .n => VM (s :: ss) (Mf ((s :: ss) ++ QD x) S) S' | _ => .fail) 0 (s :: ss)) fun bs => dC E tb G n y b (Xs (s :: ss) bs (Mf ((s :: ss) ++ QD x) S)) k
  | .seq x y,.j (.st false J) a b,_,S,k => .sub (dC E tb G n x a S fun e S' => match e with
      | .n => Nw (O3 E J (QD x) S S') .ret
      | _ => .fail) fun t => Nw (QX E J (QD x) S t) fun S2 => dC E tb G n y b S2 k
  | .seq x y,.j (.st true J) a b,R,S,k => .or (dC E tb G n x a (R := TT E.c J.ks ⊕ R) S fun e S' => match e with
      | .n => Nw (O3 E J (QD x) S S') fun t => .ret (.inl t)
      | e => (k e S').map .inr) fun t => Nw (QX E J (QD x) S t) fun S2 => dC E tb G n y b S2 k
  | .seq x y,.s a b,_,S,k => dC E tb G n x a S fun e S' => match e with | .n => dC E tb G n y b S' k | e => k e S'
  | .seq x y,_,_,S,k => dC E tb G n x .d S fun e S' => match e with | .n => dC E tb G n y .d S' k | e => k e S'
  | .cond (.tmp c) x y,ct,_,S,k => match CQ S.F c with
    | some (_,.one (.bool b)) => match b with
      | .lit true => dC E tb G n x (match ct with | .c a _ => a | _ => .d) S k
      | .lit false => dC E tb G n y (match ct with | .c _ b => b | _ => .d) S k
      | b => .ite b (dC E tb G n x (match ct with | .c a _ => a | _ => .d) (S.put c (.one (.bool (.lit true)))) k) (dC E tb G n y (match ct with | .c _ b => b | _ => .d) (S.put c (.one (.bool (.lit false)))) k)
    | _ => .fail
  | .cond (.const v) x y,ct,_,S,k => match v with
    | .bool true => dC E tb G n x (match ct with | .c a _ => a | _ => .d) S k
    | .bool false => dC E tb G n y (match ct with | .c _ b => b | _ => .d) S k
    | _ => .fail
  | .block id x,ct,_,S,k => dC E tb G n x (match ct with | .b a => a | _ => .d) S fun e S' => match e with
    | .x j => match Nat.beq j id with | true => k .n S' | false => k (.x j) S'
    | e => k e S'
  | .scope x,ct,_,S,k => dC E tb G n x (match ct with | .b a => a | _ => .d) S k
  | .loop x,.l J a,R,S,k => Nw (O3 E J (QD x) S S) (.loop fun t => Nw (QX E J (QD x) S t) fun S2 => dC E tb G n x a (R := TT E.c J.ks ⊕ R) S2 fun e S' => match e with
        | .n => Nw (O3 E J (QD x) S S') fun t' => .ret (.inl t')
        | e => (k e S').map .inr)
  | .loop x,.un a b,_,S,k => unr (fun a S k => dC E tb G n x a S k) k (.un a b) S
  | .exit id,_,_,S,k => k (.x id) S
  | .ret,_,_,S,k => k .r S
  | _,_,_,_,_ => .fail
section
variable {E : TE} {P : Program} {B : Bs} {θ : Pin} {n : Nat} {ds : List Deferred} {S0 : St E.c}
theorem Wr : ∀ {ks : List Nat} {l : List BX},Yy S0 ks = some l → l.length = ks.length ∧ ∀ (i : Nat) (k : Nat),ks[i]? = some k → ∃ b,l[i]? = some b ∧ ∃ ver,CQ S0.F k = some (ver,.one (.bool b))
  | [],l,e => by cases e; exact ⟨rfl,fun i k h => by simp at h⟩
  | j :: r,l,e => by
    unfold Yy at e
    split at e
    · rename_i ver b hf
      split at e
      · rename_i l' hl
        cases e
        obtain ⟨g1,g2⟩ := Wr hl
        refine ⟨by simp [g1],fun i k h => ?_⟩
        cases i with
        | zero => simp at h; subst h; exact ⟨b,rfl,ver,hf⟩
        | succ i => exact g2 i k (by simpa using h)
      · cases e
    · cases e
theorem ZM {t : Tree (List BX)} {r : List BX} (ht : t.den = some r) : ∀ {ks : List Nat} {i : Nat} {bs : List BX},aJ t i ks = some bs → ∀ (j : Nat) (b : BX),bs[j]? = some b → ((Pl r (i + j)).getD (.lit false)).v = b.v
  | [],i,bs,e,j,b,hb => by cases e; simp at hb
  | k :: ks,i,bs,e,j,b,hb => by
    unfold aJ at e
    split at e
    · rename_i b0 h0
      split at e
      · rename_i l hl
        cases e
        cases j with
        | zero =>
          simp at hb
          subst hb
          obtain ⟨r',q1,q2⟩ := ZQ _ _ _ h0
          rw [ht] at q1
          cases q1
          exact q2
        | succ j =>
          have := ZM ht hl j b (by simpa using hb)
          rw [show i + (j + 1) = i + 1 + j by omega]
          exact this
      · cases e
    · cases e
theorem Wi : ∀ (ks : List Nat) {bs : List BX} {S : St E.c} {a : Act} {w : World} {σ : Nat → Value} {ρ : Nat → Nat} {ι : Nat → It},Rel E B θ n ds S a w σ ρ ι → (∀ (j : Nat) (k : Nat) (b : BX),ks[j]? = some k → bs[j]? = some b → Fr n ds [(k,.bool b.v)] a) → Rel E B θ n ds (Xs ks bs S) a w σ ρ ι
  | [],bs,S,a,w,σ,ρ,ι,h,H => h
  | k :: r,[],S,a,w,σ,ρ,ι,h,H => h
  | k :: r,b :: bs,S,a,w,σ,ρ,ι,h,H => by
    refine Wi r (h.put (v := .one (.bool b)) rfl ⟨h.fr.size,h.fr.defers,fun j u hj => ?_⟩) fun j k' b' hk hb => H (j + 1) k' b' (by simpa using hk) (by simpa using hb)
    by_cases q : k = j
    · subst q
      rw [CX] at hj
      cases hj
      exact (H 0 k b rfl rfl).slots k _ (CX _ _ _)
    · rw [Dh q] at hj; exact h.fr.slots j u hj
theorem fI {ws ks : List Nat} {r bs : List BX} {t : Tree (List BX)} {S : St E.c} {a a0 : Act} {w w0 : World} {σ σ0 : Nat → Value} {ρ ρ0 : Nat → Nat} {ι ι0 : Nat → It} (h0 : Rel E B θ n ds S0 a0 w0 σ0 ρ0 ι0) (x : Ext S0 S) (h : Rel E B θ n ds S a w σ ρ ι) (ht : t.den = some r) (hp : aJ t 0 ks = some bs) (e : (VM ks (Mf ws S0) S).den = some r) :
    ∃ σ' ρ' ι',Rel E B θ n ds (Xs ks bs (Mf ws S0)) a w σ' ρ' ι' := by
  unfold VM at e
  split at e
  · rename_i l hl
    split at e
    · rename_i hkept
      cases e
      have hk1 : Mi (Mf ws S0).F S.F = true ∧ Mi (Mf ws S0).M S.M = true ∧ Mi (Mf ws S0).Z S.Z = true := by
        unfold ZT at hkept
        split at hkept
        · rename_i e1
          split at hkept
          · rename_i e2
            exact ⟨e1,e2,hkept⟩
          · cases hkept
        · cases hkept
      obtain ⟨kF,kM,kZ⟩ := hk1
      have mM : ∀ p ∈ S0.M,p ∈ S.M := fun p hp => by
        have q1 := F7 h0.ndM (show (p.1,p.2) ∈ _ from hp)
        obtain ⟨y,q2⟩ := IQ kM q1
        have q4 := x.M _ _ q2 (h0.wM _ hp).2.1
        rw [q1] at q4
        have : p.2 = (p.2.1,y) := Option.some.inj q4
        rw [← this] at q2
        exact A8 q2
      have mZ : ∀ p ∈ S0.Z,p ∈ S.Z := fun p hp => by
        have q1 := F7 h0.nZ (show (p.1,p.2) ∈ _ from hp)
        obtain ⟨y,q2⟩ := IQ kZ q1
        have q4 := x.Z _ _ q2 (h0.wZ _ hp).2
        rw [q1] at q4
        have : p.2 = (p.2.1,y) := Option.some.inj q4
        rw [← this] at q2
        exact A8 q2
      obtain ⟨rM,pM⟩ := Z8 h.ndM h0.ndM mM
      obtain ⟨rZ,pZ⟩ := Z8 h.nZ h0.nZ mZ
      have pm := pM.map fun p : Nat × Nat × List CV => (ρ p.1,p.2.2.map (CV.val E.sz σ ρ))
      have pz := pZ.map fun p : Nat × Nat × ZI E.c => ι p.1
      rw [List.map_append] at pm pz
      have hW0 : Stw B (S0.mm E σ ρ) (S0.zz ι) w := ((h.st.perm pm).permZ pz).sub (List.sublist_append_left _ _) (List.sublist_append_left _ _)
      have hC0 : StC E B θ (Mf ws S0) σ ρ ι := ⟨fun p hp => h.it p (mZ p hp),fun p hp => h0.wF p (DV hp).1,fun p hp => h0.wM p hp,fun p hp => h0.wZ p hp,h0.nZ,(fun p hp => nomatch hp),⟨h.pn.1,h0.pn.2⟩,h0.pi.1,fun p hp hv => h.pi.2 p (mZ p hp) hv⟩
      have hF0 : Fr n ds ((Mf ws S0).ff E σ ρ) a := h.fr.sub fun k v hv => by
        obtain ⟨y,y1,y2⟩ := Yf (f := fun q => q.2.val E.sz σ ρ) hv
        obtain ⟨z,z1⟩ := IQ kF y1
        have q3 := (EJ y1).1
        have q4 := x.F _ _ z1 (h0.wF _ (A8 q3)).2
        rw [q3] at q4
        have q5 : y = (y.1,z) := Option.some.inj q4
        rw [← q5] at z1
        rw [Hw (f := fun q => q.2.val E.sz σ ρ) z1,y2]
      have hR : Rel E B θ n ds (Mf ws S0) a w σ ρ ι := { toStC := hC0,fr := hF0,st := hW0 }
      refine ⟨σ,ρ,ι,Wi ks hR fun j k b hk hb => ?_⟩
      obtain ⟨_,g⟩ := Wr hl
      obtain ⟨b0,g1,ver,g2⟩ := g j k hk
      have hv := ZM ht hp j b hb
      rw [Nat.zero_add,Jg,g1] at hv
      have hv : b0.v = b.v := hv
      refine h.fr.sub fun i u hu => ?_
      by_cases q : k = i
      · subst q
        rw [CX] at hu
        cases hu
        rw [Hw (f := fun q => q.2.val E.sz σ ρ) g2, ← hv]
        rfl
      · rw [Dh q] at hu; cases hu
    · cases e
  · cases e
theorem D0 {α : Type _} {R : Type} {o : Option α} {f : α → Tree R} {r : R} (e : (Nw o f).den = some r) : ∃ x,o = some x ∧ (f x).den = some r := by
  cases o with
  | none => cases e
  | some x => exact ⟨x,rfl,e⟩
theorem sP {x : Code} {R : Type} {f : Ct → St E.c → (Ed → St E.c → Tree R) → Tree R} {k : Ed → St E.c → Tree R} {r : R} {Q : Exit → Act → World → Prop}
    (ih : ∀ (ct : Ct) {S : St E.c} {a : Act} {w : World} {σ : Nat → Value} {ρ : Nat → Nat} {ι : Nat → It} {k : Ed → St E.c → Tree R} {Q : Exit → Act → World → Prop},(f ct S k).den = some r → Rel E B θ n ds S a w σ ρ ι →
      (∀ e S' a' w' σ' ρ' ι',Ext S S' → Rel E B θ n ds S' a' w' σ' ρ' ι' → (k e S').den = some r → Q e.ex a' w') → x.wr none P Q a w) :
    ∀ (ct : Ct) {S : St E.c} {a : Act} {w : World} {σ : Nat → Value} {ρ : Nat → Nat} {ι : Nat → It},(unr f k ct S).den = some r → Rel E B θ n ds S a w σ ρ ι →
      (∀ e S' a' w' σ' ρ' ι',Ext S S' → Rel E B θ n ds S' a' w' σ' ρ' ι' → (k e S').den = some r → Q e.ex a' w') → oZ none P x Q ct.dep a w := by
  intro ct
  induction ct with
  | un c1 c2 _ ih2 =>
    intro S a w σ ρ ι e h K
    refine xY (ih c1 e h fun e' S' a' w' σ' ρ' ι' x' h' e'' => ?_)
    cases e' with
    | n => exact ih2 e'' h' fun e S2 a2 w2 σ2 ρ2 ι2 x2 h2 e2 => K e S2 a2 w2 σ2 ρ2 ι2 (x'.trans x2) h2 e2
    | x j => exact K (.x j) S' a' w' σ' ρ' ι' x' h' e''
    | r => exact K .r S' a' w' σ' ρ' ι' x' h' e''
  | _ => intro S a w σ ρ ι e; cases e
theorem vJ {tb : Tb} (T : TbOk E P tb) {G : Hq E P} (hG : ConsOk B G) : ∀ (c : Code) (ct : Ct) {R : Type} {S : St E.c} {a : Act} {w : World} {σ : Nat → Value} {ρ : Nat → Nat} {ι : Nat → It} {k : Ed → St E.c → Tree R} {r : R} {Q : Exit → Act → World → Prop},(dC E tb G n c ct S k).den = some r → Rel E B θ n ds S a w σ ρ ι →
    (∀ e S' a' w' σ' ρ' ι',Ext S S' → Rel E B θ n ds S' a' w' σ' ρ' ι' → (k e S').den = some r → Q e.ex a' w') → c.wr none P Q a w := by
  intro c
  induction c with
  | skip => intro ct R S a w σ ρ ι k r Q e h K; exact F9 (K .n S a w σ ρ ι (Ext.refl S) h e)
  | label l => intro ct R S a w σ ρ ι k r Q e h K; exact W1 (K .n S a w σ ρ ι (Ext.refl S) h e)
  | exit id => intro ct R S a w σ ρ ι k r Q e h K; exact HW (K (.x id) S a w σ ρ ι (Ext.refl S) h e)
  | ret => intro ct R S a w σ ρ ι k r Q e h K; exact Ej (K .r S a w σ ρ ι (Ext.refl S) h e)
  | goto l => intro ct R S a w σ ρ ι k r Q e h K; cases e
  | refuse s => intro ct R S a w σ ρ ι k r Q e h K; cases e
  | rangeFunc f p x y ihx ihy => intro ct R S a w σ ρ ι k r Q e h K; cases e
  | region id ops dr =>
    intro ct R S a w σ ρ ι k r Q e h K
    obtain ⟨l⟩ := ops
    cases dr with
    | true =>
      unfold dC at e
      exact vV T hG h e fun S' a' w' σ' ρ' ι' x h' e' => K .n S' a' w' σ' ρ' ι' x h' e'
    | false =>
      unfold dC at e
      split at e
      · rename_i hd
        exact Lg (b7 T hG l h e fun S' a' w' σ' ρ' ι' x h' e' => K .n S' a' w' σ' ρ' ι' x h' e') hd
      · cases e
  | scope x ih =>
    intro ct R S a w σ ρ ι k r Q e h K
    unfold dC at e
    refine PM (ih _ e h fun e' S' a' w' σ' ρ' ι' x' h' e'' => ?_)
    cases e' with
    | n => exact K .n S' a' w' σ' ρ' ι' x' h' e''
    | x j => exact K (.x j) S' a' w' σ' ρ' ι' x' h' e''
    | r => exact K .r S' a' w' σ' ρ' ι' x' h' e''
  | block id x ih =>
    intro ct R S a w σ ρ ι k r Q e h K
    unfold dC at e
    refine O0 (ih _ e h fun e' S' a' w' σ' ρ' ι' x' h' e'' => ?_)
    cases e' with
    | n => exact K .n S' a' w' σ' ρ' ι' x' h' e''
    | r => exact K .r S' a' w' σ' ρ' ι' x' h' e''
    | x j =>
      simp only at e''
      split at e''
      · rename_i hj
        rw [ze hj]
        exact Ha (K .n S' a' w' σ' ρ' ι' x' h' e'')
      · rename_i hj
        exact dZ hj (K (.x j) S' a' w' σ' ρ' ι' x' h' e'')
  | cond c x y ihx ihy =>
    intro ct R S a w σ ρ ι k r Q e h K
    cases c with
    | tmp c =>
      unfold dC at e
      split at e
      · rename_i ver b hf
        have hc : ∀ b',b.v = b' → C7 (S.ff E σ ρ) (.tmp c) = some (.bool b') := fun b' hb => by
          show lk _ c = _
          rw [Hw (f := fun q => q.2.val E.sz σ ρ) hf]
          show some (Value.bool b.v) = _
          rw [hb]
        split at e
        · exact Lj h.fr (hc true rfl) (ihx _ e h K)
        · exact KW h.fr (hc false rfl) (ihy _ e h K)
        · have e : aG b _ _ = some r := e
          rw [Rk] at e
          split at e
          · rename_i hb
            exact Lj h.fr (hc true hb) (ihx _ e (h.lit hf hb) fun e' S' a' w' σ' ρ' ι' x' h' e'' => K e' S' a' w' σ' ρ' ι' ((Ext.put S c _).trans x') h' e'')
          · rename_i hb
            have hb : b.v = false := by simpa using hb
            exact KW h.fr (hc false hb) (ihy _ e (h.lit hf hb) fun e' S' a' w' σ' ρ' ι' x' h' e'' => K e' S' a' w' σ' ρ' ι' ((Ext.put S c _).trans x') h' e'')
      · cases e
    | const v =>
      unfold dC at e
      split at e
      · exact Lj h.fr rfl (ihx _ e h K)
      · exact KW h.fr rfl (ihy _ e h K)
      · cases e
    | _ => cases e
  | loop x ih =>
    intro ct R S a w σ ρ ι k r Q e h K
    cases ct with
    | l J ct =>
      unfold dC at e
      obtain ⟨t0,ht0,e⟩ := D0 e
      have e : Aj _ t0 = some r := e
      refine J5 e (fun t a w => ∃ S2 σ ρ ι,QX E J (QD x) S t = some S2 ∧ Rel E B θ n ds S2 a w σ ρ ι) (Pi h (Ext.refl S) h ht0) fun t o a w ho hr hR => ?_
      obtain ⟨S2,σ2,ρ2,ι2,hu,h2⟩ := hR
      obtain ⟨S3,hu',ho⟩ := D0 (o := QX E J (QD x) S t) ho
      rw [hu] at hu'
      cases hu'
      refine ih ct ho h2 fun e' S' a' w' σ' ρ' ι' x' h' e'' => ?_
      have other : ∀ e',((k e' S').map (Sum.inr : R → TT E.c J.ks ⊕ R)).den = some o → (k e' S').den = some r := fun e' e'' => by
        rw [Tree.den_map] at e''
        cases hk : (k e' S').den with
        | none => rw [hk] at e''; cases e''
        | some r' => rw [hk] at e''; exact hr r' e''
      have x2 : Ext S S' := (Rs hu).trans x'
      cases e' with
      | n =>
        obtain ⟨t',ht',e3⟩ := D0 (o := O3 E J (QD x) S S') e''
        cases e3
        exact ⟨t',rfl,Pi h x2 h' ht'⟩
      | x j => exact K (.x j) S' a' w' σ' ρ' ι' x2 h' (other _ e'')
      | r => exact K .r S' a' w' σ' ρ' ι' x2 h' (other _ e'')
    | un c1 c2 =>
      unfold dC at e
      exact aP _ (sP (fun ct _ _ _ _ _ _ _ _ e h K => ih ct e h K) (.un c1 c2) e h K)
    | _ => cases e
  | seq x y ihx ihy =>
    intro ct R S a w σ ρ ι k r Q e h K
    have plain : ∀ (a1 b1 : Ct),(dC E tb G n x a1 S fun e S' => match e with | .n => dC E tb G n y b1 S' k | e => k e S').den = some r → (Code.seq x y).wr none P Q a w := fun a1 b1 e => by
      refine P0 (ihx a1 e h fun e' S' a' w' σ' ρ' ι' x' h' e'' => ?_)
      cases e' with
      | n => exact ihy b1 e'' h' fun e3 S3 a3 w3 σ3 ρ3 ι3 x3 h3 e4 => K e3 S3 a3 w3 σ3 ρ3 ι3 (x'.trans x3) h3 e4
      | x j => exact K (.x j) S' a' w' σ' ρ' ι' x' h' e''
      | r => exact K .r S' a' w' σ' ρ' ι' x' h' e''
    cases ct with
    | d => exact plain .d .d e
    | s a1 b1 => exact plain a1 b1 e
    | c a1 b1 => exact plain .d .d e
    | b a1 => exact plain .d .d e
    | l J a1 => exact plain .d .d e
    | un c1 c2 => exact plain .d .d e
    | j J a1 b1 =>
      cases J with
      | bl ks =>
        cases ks with
        | nil => exact plain .d .d e
        | cons s ss =>
          unfold dC at e
          obtain ⟨bs,hbs,e⟩ := D0 e
          obtain ⟨rt,hrt⟩ : ∃ r,(dC E tb G n x a1 S fun e S' => match e with | .n => VM (s :: ss) (Mf ((s :: ss) ++ QD x) S) S' | _ => .fail).den = some r := by
            have hb := hbs
            unfold aJ at hb
            split at hb
            · rename_i b0 h0
              obtain ⟨r',q1,_⟩ := ZQ _ _ _ h0
              exact ⟨r',q1⟩
            · cases hb
          refine P0 (ihx a1 hrt h fun e' S' a' w' σ' ρ' ι' x' h' e'' => ?_)
          cases e' with
          | n =>
            obtain ⟨σ2,ρ2,ι2,h2⟩ := fI h x' h' hrt hbs e''
            have xb : ∀ (ks : List Nat) (bs : List BX) (S : St E.c),Ext S (Xs ks bs S) := by
              intro ks
              induction ks with
              | nil => intro bs S; exact Ext.refl _
              | cons k r ih =>
                intro bs S
                cases bs with
                | nil => exact Ext.refl _
                | cons b bs => exact (Ext.put S k _).trans (ih bs _)
            have xb0 : Ext S (Mf ((s :: ss) ++ QD x) S) := ⟨Nat.le_refl _,fun _ _ h _ => (EJ h).1,fun _ _ h _ => h,fun _ _ h _ => h,fun _ _ _ h _ => ⟨h,rfl⟩⟩
            exact ihy b1 e h2 fun e3 S3 a3 w3 σ3 ρ3 ι3 x3 h3 e4 => K e3 S3 a3 w3 σ3 ρ3 ι3 ((xb0.trans (xb _ _ _)).trans x3) h3 e4
          | x j => cases e''
          | r => cases e''
      | st ex J =>
        cases ex with
        | false =>
          unfold dC at e
          obtain ⟨t,ht,e⟩ := Option.bind_eq_some_iff.1 e
          obtain ⟨S2,hS2,e⟩ := D0 (o := QX E J (QD x) S _) e
          refine P0 (ihx a1 ht h fun e' S' a' w' σ' ρ' ι' x' h' e'' => ?_)
          cases e' with
          | n =>
            obtain ⟨t',ht',e3⟩ := D0 (o := O3 E J (QD x) S S') e''
            cases e3
            obtain ⟨S3,σ2,ρ2,ι2,hu,h2⟩ := Pi h x' h' ht'
            rw [hS2] at hu
            cases hu
            exact ihy b1 e h2 fun e3 S3 a3 w3 σ3 ρ3 ι3 x3 h3 e4 => K e3 S3 a3 w3 σ3 ρ3 ι3 ((Rs hS2).trans x3) h3 e4
          | x j => cases e''
          | r => cases e''
        | true =>
          unfold dC at e
          obtain ⟨s,hs,e⟩ := Option.bind_eq_some_iff.1 e
          have other : ∀ e' S',((k e' S').map (Sum.inr : R → TT E.c J.ks ⊕ R)).den = some s → (k e' S').den = some r := fun e' S' e'' => by
            rw [Tree.den_map] at e''
            cases hk : (k e' S').den with
            | none => rw [hk] at e''; cases e''
            | some r' => rw [hk] at e''; cases e''; exact e
          refine P0 (ihx a1 hs h fun e' S' a' w' σ' ρ' ι' x' h' e'' => ?_)
          cases e' with
          | n =>
            obtain ⟨t',ht',e3⟩ := D0 (o := O3 E J (QD x) S S') e''
            cases e3
            obtain ⟨S2,hS2,e⟩ := D0 (o := QX E J (QD x) S _) e
            obtain ⟨S3,σ2,ρ2,ι2,hu,h2⟩ := Pi h x' h' ht'
            rw [hS2] at hu
            cases hu
            exact ihy b1 e h2 fun e3 S3 a3 w3 σ3 ρ3 ι3 x3 h3 e4 => K e3 S3 a3 w3 σ3 ρ3 ι3 ((Rs hS2).trans x3) h3 e4
          | x j => exact K (.x j) S' a' w' σ' ρ' ι' x' h' (other _ _ e'')
          | r => exact K .r S' a' w' σ' ρ' ι' x' h' (other _ _ e'')
end
end Go.Proofs.YtkhiflmalgkjiaaGreat
