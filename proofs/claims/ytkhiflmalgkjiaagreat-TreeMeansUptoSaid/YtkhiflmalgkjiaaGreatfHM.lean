/- Rows that turn: append, make, literals, stores into elements; parts of rows. Conditions: none. -/
import Derived.Test.YtkhiflmalgkjiaaGreatfHP
set_option linter.unusedVariables false
set_option linter.unusedSimpArgs false
open Go Go.RowKit
namespace Go.Proofs.YtkhiflmalgkjiaaGreat
def XC : U → Bool
  | .sl _ => false
  | .tr _ => false
  | .pr a b => match XC a with | true => XC b | false => false
  | _ => true
theorem aO {c : Nat → Type} {r : ∀ i,Rp (c i)} {w w' : World} {A A' : Nat → Prop} : ∀ {u : U} {cs : List Value} {x : u.T c},XC u = true → (u.rp r).rep w A cs x → (u.rp r).rep w' A' cs x := by
  intro u
  induction u with
  | pr a b iha ihb =>
    intro cs x h hr
    unfold XC at h
    split at h
    · rename_i h1
      obtain ⟨c1,c2,e,g1,g2⟩ := hr
      exact ⟨c1,c2,e,iha h1 g1,ihb h g2⟩
    · cases h
  | sl a ih => intro cs x h; cases h
  | tr i => intro cs x h; cases h
  | _ => intro cs x _ hr; exact hr
theorem B1.flat {α : Type} {r : Rp α} {w w' : World} {A A' : Nat → Prop} (h : ∀ cs a,r.rep w A cs a → r.rep w' A' cs a) : ∀ {l : List α} {xs : List Value},B1 r w A xs l → B1 r w' A' xs l
  | [],_,hr => hr
  | _ :: _,_,⟨cs,ys,e,h1,h2⟩ => ⟨cs,ys,e,h _ _ h1,B1.flat h h2⟩
section
variable {E : TE} {P : Program} {B : Bs} {θ : Pin} {n : Nat} {ds : List Deferred} {S : St E.c} {a : Act} {w : World} {σ : Nat → Value} {ρ : Nat → Nat} {ι : Nat → It} {R : Type}
variable {ops : Array Oper} {Q : Exit → Act → World → Prop} {rest : List Oper} {ty : TypeId} {pos : String} {aft : Array Edge}
theorem Rel.of (h : Rel E B θ n ds S a w σ ρ ι) {S' : St E.c} {w' : World} {σ' : Nat → Value} {ρ' : Nat → Nat} {ι' : Nat → It} (h' : StC E B θ S' σ' ρ' ι') (hF : S'.F = S.F) (g : Ag S.nz S.nb σ σ' ρ ρ') (hW : Stw B (S'.mm E σ' ρ') (S'.zz ι') w') : Rel E B θ n ds S' a w' σ' ρ' ι' := by
  refine { toStC := h',fr := ?_,st := hW }
  have : S'.ff E σ' ρ' = S.ff E σ ρ := by
    show S'.F.map _ = _
    rw [hF]; exact S7 (S := S) h.wF g
  rw [this]; exact h.fr
theorem Fr.ff {S' : St E.c} {σ' : Nat → Value} {ρ' : Nat → Nat} {d : Nat} {v : Value} (h : Rel E B θ n ds S a w σ ρ ι) (hF : S'.F = S.F) (g : Ag S.nz S.nb σ σ' ρ ρ') {a' : Act} (hf : Fr n ds ((d,v) :: S.ff E σ ρ) a') : Fr n ds ((d,v) :: S'.ff E σ' ρ') a' := by
  have : S'.ff E σ' ρ' = S.ff E σ ρ := by
    show S'.F.map _ = _
    rw [hF]; exact S7 (S := S) h.wF g
  rw [this]; exact hf
theorem Rel.put' (h : Rel E B θ n ds S a w σ ρ ι) {S' : St E.c} {w' : World} {σ' : Nat → Value} {ρ' : Nat → Nat} {ι' : Nat → It} (h' : StC E B θ S' σ' ρ' ι') (hF : S'.F = S.F) (g : Ag S.nz S.nb σ σ' ρ ρ') (hW : Stw B (S'.mm E σ' ρ') (S'.zz ι') w') {d : Nat} {v : AV} {x : Value} {a' : Act} (hv : v.wf S'.nz S'.nb = true) (hx : v.val E.sz σ' ρ' = x) (hf : Fr n ds ((d,x) :: S.ff E σ ρ) a') : Rel E B θ n ds (S'.put d v) a' w' σ' ρ' ι' := by
  subst hx
  have e : S'.ff E σ' ρ' = S.ff E σ ρ := by
    show S'.F.map _ = _
    rw [hF]; exact S7 (S := S) h.wF g
  have hf' : Fr n ds ((d,v.val E.sz σ' ρ') :: S'.ff E σ' ρ') a' := by rw [e]; exact hf
  exact { it := h'.it,wF := fun p hp => by
            rcases List.mem_cons.1 hp with rfl | hp
            · exact ⟨hv,Nat.lt_succ_self _⟩
            · exact ⟨(h'.wF p hp).1,Nat.lt_succ_of_lt (h'.wF p hp).2⟩
          wM := fun p hp => ⟨(h'.wM p hp).1,Nat.lt_succ_of_lt (h'.wM p hp).2.1,(h'.wM p hp).2.2⟩
          wZ := fun p hp => ⟨(h'.wZ p hp).1,Nat.lt_succ_of_lt (h'.wZ p hp).2⟩
          nZ := h'.nZ
          ca := fun p hp => by
            obtain ⟨hp,hd⟩ := Jo hp
            obtain ⟨v',z,i,o,k,l,h1,h2,h3⟩ := h'.ca p hp
            exact ⟨v',z,i,o,k,l,by show CQ ((d,S'.nv,v) :: S'.F) p.1 = _; rw [C6 (Ne.symm hd)]; exact h1,h2,h3⟩
          pn := h'.pn,pi := ⟨Nat.le_succ_of_le h'.pi.1,h'.pi.2⟩,fr := hf',st := hW }
def qZ {c : Nat → Type} (S : St c) (u : U) : AV → Option (List (u.T c))
  | .one .nil => some []
  | .one (.sl z) => match CQ S.Z z with
    | some (_,⟨k,u',l⟩) => match k with
      | .rd => match XC u with | true => Lc u' u l | false => none
      | _ => Lc u' u l
    | none => none
  | _ => none
theorem kL {u : U} {q : AV} {l : List (u.T E.c)} (h : Rel E B θ n ds S a w σ ρ ι) (e : qZ S u q = some l) : ∃ lx,lx.map Prod.snd = l ∧ Wy w (Fz B (Aq (S.mm E σ ρ) (S.zz ι))) (u.rp E.r).seen (q.val E.sz σ ρ) lx := by
  unfold qZ at e
  split at e
  · cases e; exact ⟨[],rfl,lO⟩
  · rename_i z
    split at e
    · rename_i ver k u' l' hz
      have hm := A8 hz
      obtain ⟨lx,e1,e2⟩ := h.it _ hm
      have hok := h.st.items (ι z) (List.mem_map.2 ⟨_,hm,rfl⟩)
      rw [e2] at hok
      split at e
      · split at e
        · rename_i hfl
          unfold Lc at e
          split at e
          · rename_i hu
            have := U.same_eq hu
            subst this
            cases e
            have hR := Ek (r := (u'.rp E.r).seen) (v := σ z) (l := lx) (M := S.mm E σ ρ) (Z := S.zz ι) (show Sl B.w0 (NX B.X) _ _ _ from hok) w h.st
            refine ⟨lx,e1, ?_⟩
            rcases hR with hR | ⟨b,off,cap,xs,hv,hc,_,_,hx,hr⟩
            · exact .inl hR
            · exact .inr ⟨b,off,cap,xs,hv,hc,hx,B1.flat (r := (u'.rp E.r).seen) (fun cs a ha => (⟨ha.1,aO hfl ha.2⟩ : cs = a.1 ∧ _)) hr⟩
          · cases e
        · cases e
      · rename_i hk
        unfold Lc at e
        split at e
        · rename_i hu
          have := U.same_eq hu
          subst this
          cases e
          refine ⟨lx,e1, ?_⟩
          cases k with
          | own e => exact H5.src (e := e) (show H5 w _ e _ _ _ from hok)
          | frz => exact Sl.src (show Sl w _ _ _ _ from hok)
          | rd => exact absurd rfl hk
        · cases e
    · cases e
  · cases e
theorem WI {α β : Type} {l1 l2 : List (β × α)} {m1 m2 l3 : List α} (h1 : l1.map Prod.snd = m1) (h2 : l2.map Prod.snd = m2) (e : HU m1 m2 = some l3) : HU l1 l2 = some (l1 ++ l2) ∧ (l1 ++ l2).map Prod.snd = l3 := by
  subst h1 h2
  obtain ⟨hl,rfl⟩ := R9 e
  rw [zh,zh] at hl
  exact ⟨by unfold HU; rw [if_pos hl],by rw [List.map_append]⟩
def s9 (E : TE) (tb : Tb) (t : Nat) (s q : AV) (S : St E.c) (k : AV → St E.c → Tree R) : Tree R := match CQ tb.sl t with
  | some (e, u, by_) => match Nat.ble by_ 100000 with
    | true => match qZ S u q with
      | some l2 => match s with
        | .one (.sl z) => match Xn S.Z z with
          | some ((_,⟨.own e',u',l1⟩),Zr) => match Nat.beq e' e with
            | true => match Lc u' u l1 with
              | some l1 => .bnd (HU l1 l2) fun l3 => k (.one (.sl S.nz)) ({ S with Z := Zr,C := [] }.addZ ⟨.own e,u,l3⟩)
              | none => .fail
            | false => .fail
          | _ => .fail
        | .one .nil => .bnd (HU [] l2) fun l3 => k (.one (.sl S.nz)) ({ S with C := [] }.addZ ⟨.own e,u,l3⟩)
        | _ => .fail
      | none => .fail
    | false => .fail
  | none => .fail
theorem StC.out (h : StC E B θ S σ ρ ι) {z : Nat} {x : Nat × ZI E.c} {Zr : List (Nat × Nat × ZI E.c)} (e : Xn S.Z z = some (x,Zr)) : StC E B θ { S with Z := Zr,C := [] } σ ρ ι ∧ Ext S { S with Z := Zr,C := [] } := by
  obtain ⟨n1,n2,n3,n4⟩ := N6 h.nZ e
  exact ⟨⟨fun p hp' => h.it p (n2 p hp'),h.wF,h.wM,fun p hp' => h.wZ p (n2 p hp'),n1,(fun p hp' => nomatch hp'),h.pn,h.pi.1,fun p hp' hv => h.pi.2 p (n2 p hp') hv⟩,Nat.le_refl _,fun _ _ e _ => e,fun _ _ e _ => e,fun k x hx _ => Pb h.nZ e hx,fun _ _ _ h _ => ⟨h,rfl⟩⟩
theorem StC.noC (h : StC E B θ S σ ρ ι) : StC E B θ { S with C := [] } σ ρ ι ∧ Ext S { S with C := [] } :=
  ⟨⟨h.it,h.wF,h.wM,h.wZ,h.nZ,(fun p hp' => nomatch hp'),h.pn,h.pi⟩,Nat.le_refl _,fun _ _ e _ => e,fun _ _ e _ => e,fun _ _ e _ => e,fun _ _ _ h _ => ⟨h,rfl⟩⟩
abbrev SJ (E : TE) (P : Program) (B : Bs) (θ : Pin) (n : Nat) (ds : List Deferred) (S : St E.c) (k : AV → St E.c → Tree R) (r : R) (ops : Array Oper) (Q : Exit → Act → World → Prop) (rest : List Oper) (d : Nat) : Prop :=
  ∀ v S' a' w' σ' ρ' ι',Ext S S' → Rel E B θ n ds (S'.put d v) a' w' σ' ρ' ι' → (k v S').den = some r → wpList P ops Q rest a' w'
theorem newRow (h : Rel E B θ n ds S a w σ ρ ι) {S0 : St E.c} (h0 : StC E B θ S0 σ ρ ι) (x0 : Ext S S0) (hF : S0.F = S.F) (hz : S0.nz = S.nz) (hb : S0.nb = S.nb) {zi : ZI E.c} {v' : Value} {it : It} {a' : Act} {w' : World} {d : Nat} (hi : Y2 E B v' zi it) (hW : Stw B (S0.mm E σ ρ) (it :: S0.zz ι) w') (hf : Fr n ds ((d,v') :: S.ff E σ ρ) a') {k : AV → St E.c → Tree R} {r : R} (e : (k (.one (.sl S.nz)) (S0.addZ zi)).den = some r) (K : SJ E P B θ n ds S k r ops Q rest d) : wpList P ops Q rest a' w' := by
  have h1 := h0.addZ hi
  rw [hz] at h1
  have g : Ag S.nz S.nb σ (DH σ S.nz v') ρ ρ := Nf
  refine K _ _ a' w' _ _ _ (x0.trans (Ext.addZ S0 zi)) (h.put' h1 hF g ?_ ?_ ?_ hf) e
  · have e1 : (S0.addZ zi).mm E (DH σ S.nz v') ρ = S0.mm E σ ρ := by
      have := R3 (S := S0) (σ := σ) (ρ := ρ) (σ' := DH σ S.nz v') (ρ' := ρ) h0.wM (by rw [hz,hb]; exact g)
      exact this
    have e2 : (S0.addZ zi).zz (DH ι S.nz it) = it :: S0.zz ι := by rw [← hz]; exact h0.zz_addZ
    rw [e1,e2]; exact hW
  · show Nat.blt S.nz (S0.nz + 1) = true
    rw [hz]; exact Nat.ble_eq_true_of_le (Nat.lt_succ_self _)
  · exact El
theorem kC {tb : Tb} (T : TbOk E P tb) (h : Rel E B θ n ds S a w σ ρ ι) {t d : Nat} {xs xq : Operand} {s q : AV} {k : AV → St E.c → Tree R} {r : R} (hn : Nat.blt d n = true) (hs : F2 S xs = some s) (hq : F2 S xq = some q) (e : (s9 E tb t s q S k).den = some r) (K : SJ E P B θ n ds S k r ops Q rest d) :
    wpList P ops Q (⟨some d,.call ⟨.builtin .append, #[xs,xq], #[t,t]⟩,ty,pos,aft,none⟩ :: rest) a w := by
  have hF := h.fr
  unfold s9 at e
  split at e
  · rename_i e0 u by_ ht
    split at e
    · rename_i hby
      split at e
      · rename_i l2 hl2
        obtain ⟨lx2,q1,q2⟩ := kL h hl2
        have o1 := h.op hs
        have o2 := h.op hq
        split at e
        · rename_i z
          split at e
          · rename_i ver e' u' l1 Zr hp
            split at e
            · rename_i he
              obtain rfl := ze he
              split at e
              · rename_i l1' hc
                obtain ⟨l3,ha,e9⟩ := Option.bind_eq_some_iff.1 e
                clear e
                unfold Lc at hc
                split at hc
                · rename_i hu
                  have := U.same_eq hu
                  subst this
                  cases hc
                  obtain ⟨n1,n2,n3,n4⟩ := N6 h.nZ hp
                  obtain ⟨lx1,p1,p2⟩ := h.it _ n3
                  obtain ⟨a1,a2⟩ := WI p1 q1 ha
                  have hperm : (S.zz ι).Perm (ι z :: Zr.map fun p => ι p.1) := (FY hp).map fun p => ι p.1
                  have hW1 := h.st.permZ hperm
                  have hsrc : Wy w (Fz B (Aq (S.mm E σ ρ) (ι z :: Zr.map fun p => ι p.1))) (u'.rp E.r).seen (q.val E.sz σ ρ) lx2 := by
                    rcases q2 with q2 | ⟨b,o2,c2,news,k1,k2,k3,k4⟩
                    · exact .inl q2
                    · exact .inr ⟨b,o2,c2,news,k1,k2,k3,k4.stab fun b hb _ => ⟨hb.mono fun g hg => (He hperm).mem_iff.2 hg,rfl⟩⟩
                  rw [show ι z = row (σ z) e' (u'.rp E.r).seen lx1 from p2] at hW1 hsrc
                  refine Ls (r := (u'.rp E.r).seen) (l := lx1) (l2 := lx2) (i := 0) hF hW1 hn (T.et ht) o1.1 o2.1 rfl rfl hsrc a1 hby fun v' a' w' hf hW' => ?_
                  obtain ⟨c1,c2⟩ := h.toStC.out hp
                  exact newRow (S0 := { S with Z := Zr,C := [] }) (zi := ⟨.own e',u',l3⟩) h c1 c2 rfl rfl rfl ⟨_,a2,rfl⟩ hW' hf e9 K
                · cases hc
              · cases e
            · cases e
          · cases e
        · obtain ⟨l3,ha,e⟩ := Option.bind_eq_some_iff.1 e
          obtain ⟨a1,a2⟩ := WI (l1 := ([] : List (List Value × u.T E.c))) rfl q1 ha
          have hW1 := h.st.nilRow e0 (u.rp E.r).seen
          have hsrc : Wy w (Fz B (Aq (S.mm E σ ρ) (row (.slice none 0 0) e0 (u.rp E.r).seen [] :: S.zz ι))) (u.rp E.r).seen (q.val E.sz σ ρ) lx2 := by
            rw [Rj (it := row (.slice none 0 0) e0 (u.rp E.r).seen []) rfl]; exact q2
          refine Ls (r := (u.rp E.r).seen) (l := []) (l2 := lx2) (i := 0) hF hW1 hn (T.et ht) o1.1 o2.1 rfl rfl hsrc a1 hby fun v' a' w' hf hW' => ?_
          obtain ⟨c1,c2⟩ := h.toStC.noC
          exact newRow (S0 := { S with C := [] }) (zi := ⟨.own e0,u,l3⟩) h c1 c2 rfl rfl rfl ⟨_,a2,rfl⟩ hW' hf e K
        · cases e
      · cases e
    · cases e
  · cases e
def St.emp (c : Nat → Type) : St c := ⟨[],[],[],[],0,0,0,[]⟩
def eM (E : TE) (u : U) (cs : List CV) : Option (u.T E.c) := match fK false (St.emp E.c) .frz (nJ E false (St.emp E.c) .frz 4) u cs with | some (x,[]) => some x | _ => none
theorem cT {u : U} {cs : List CV} {x : u.T E.c} {sz : U → Nat} {σ : Nat → Value} {ρ : Nat → Nat} {w : World} {A : Nat → Prop} (e : eM E u cs = some x) : (u.rp E.r).rep w A (cs.map (CV.val sz σ ρ)) x := by
  unfold eM at e
  split at e
  · rename_i y hy
    cases e
    have hS : ∀ (a : U) (c : CV) (l : List (a.T E.c)),aA false (St.emp E.c) .frz a c = some l → Sl w A (a.rp E.r) (c.val sz σ ρ) l := fun a c l h => by
      unfold aA at h
      split at h
      · cases h; exact .nil
      · cases h
      · cases h
    obtain ⟨c1,h1,h2⟩ := U1 (q := .frz) (lax := false) (S := St.emp E.c) hS (VP hS 4) hy
    rw [h1]; simpa using h2
  · cases e
def X3 : Operand → Operand → Bool
  | .tmp a,.tmp b => Nat.beq a b
  | .const (.int _ p),.const (.int _ q) => decide (p = q)
  | _,_ => false
def gY (E : TE) (tb : Tb) (t : Nat) (nn : Int) (S : St E.c) (k : AV → St E.c → Tree R) : Tree R := match CQ tb.sl t with
  | some (e,u,by_) => match Nat.ble by_ 100000 with
    | true => match CQ tb.zr e with
      | some zc => match eM E u zc with
        | some z0 => .bnd (mk nn z0) fun ls => k (.one (.sl S.nz)) ({ S with C := [] }.addZ ⟨.own e,u,ls⟩)
        | none => .fail
      | none => .fail
    | false => .fail
  | none => .fail
theorem fU {tb : Tb} (T : TbOk E P tb) (h : Rel E B θ n ds S a w σ ρ ι) {t d : Nat} {lo co : Operand} {k1 k2 : IntKind} {nn : Int} {k : AV → St E.c → Tree R} {r : R} (hn : Nat.blt d n = true) (hl : F2 S lo = some (.one (.int k1 nn))) (hc : F2 S co = some (.one (.int k2 nn))) (e : (gY E tb t nn S k).den = some r) (K : SJ E P B θ n ds S k r ops Q rest d) :
    wpList P ops Q (⟨some d,.makeSlice t lo co,ty,pos,aft,none⟩ :: rest) a w := by
  unfold gY at e
  split at e
  · rename_i e0 u by_ ht
    split at e
    · rename_i hby
      split at e
      · rename_i zc hz
        split at e
        · rename_i z0 hz0
          obtain ⟨ls,hm,e⟩ := Option.bind_eq_some_iff.1 e
          obtain ⟨z,g1,g2,_⟩ := T.zr _ (A8 hz)
          have hm' : mk nn (zc.map (CV.val E.sz σ ρ),z0) = some (List.replicate nn.toNat (zc.map (CV.val E.sz σ ρ),z0)) := by
            obtain ⟨m1,m2,_⟩ := Va hm
            unfold mk; rw [if_pos ⟨m1,m2⟩]
          refine rF (r := (u.rp E.r).seen) (zc.map (CV.val E.sz σ ρ),z0) h.fr h.st hn (T.et ht) g1 (h.op hl).1 (h.op hc).1 (fun w A => ⟨g2 _ _ _, ?_⟩) hm' hby fun v' a' w' hf hW' => ?_
          · rw [g2 E.sz σ ρ]; exact cT hz0
          · obtain ⟨c1,c2⟩ := h.toStC.noC
            exact newRow (S0 := { S with C := [] }) (zi := ⟨.own e0,u,ls⟩) h c1 c2 rfl rfl rfl ⟨_,by
              obtain ⟨_,_,rfl⟩ := Va hm
              simp,rfl⟩ hW' hf e K
        · cases e
      · cases e
    · cases e
  · cases e
end
end Go.Proofs.YtkhiflmalgkjiaaGreat
namespace Go.Proofs.YtkhiflmalgkjiaaGreat
section
variable {E : TE} {P : Program} {B : Bs} {θ : Pin} {n : Nat} {ds : List Deferred} {S : St E.c} {a : Act} {w : World} {σ : Nat → Value} {ρ : Nat → Nat} {ι : Nat → It} {R : Type}
variable {ops : Array Oper} {Q : Exit → Act → World → Prop} {rest : List Oper} {ty : TypeId} {pos : String} {aft : Array Edge}
theorem Ve {M : CU} {Z : List It} (h : StC E B θ S σ ρ ι) (hZ : ∀ z ∈ S.zz ι,z ∈ Z) (hW : Stw B M Z w) {A : Nat → Prop} (hA : ∀ b,Fz B (Aq M Z) b → A b) {a : U} {c : CV} {l : List (a.T E.c)} (e : aA false S .frz a c = some l) : Sl w A (a.rp E.r) (c.val E.sz σ ρ) l := by
  unfold aA at e
  split at e
  · cases e; exact .nil
  · rename_i z
    split at e
    · rename_i ver k u' l' hz
      split at e
      · rename_i hk
        refine Sc e ?_
        have hm := A8 hz
        obtain ⟨lx,e1,e2⟩ := h.it _ hm
        have hok := hW.items (ι z) (hZ _ (List.mem_map.2 ⟨_,hm,rfl⟩))
        rw [e2] at hok
        cases k with
        | own e => cases hk
        | rd => cases hk
        | frz =>
          have hs : Sl w (Fz B (Aq M Z)) (u'.rp E.r).seen (σ z) lx := hok
          exact (hs.hide (Ex.seen _) e1).stab fun b hb _ => ⟨hA b hb,rfl⟩
      · cases e
    · cases e
  · cases e
theorem cC {M : CU} {Z : List It} (h : StC E B θ S σ ρ ι) (hZ : ∀ z ∈ S.zz ι,z ∈ Z) (hW : Stw B M Z w) {A : Nat → Prop} (hA : ∀ b,Fz B (Aq M Z) b → A b) {u : U} {cs : List CV} {x : u.T E.c} (e : fK false S .frz (nJ E false S .frz 4) u cs = some (x,[])) : (u.rp E.r).rep w A (cs.map (CV.val E.sz σ ρ)) x := by
  have hS : ∀ (a : U) (c : CV) (l : List (a.T E.c)),aA false S .frz a c = some l → Sl w A (a.rp E.r) (c.val E.sz σ ρ) l := fun a c l h1 => Ve h hZ hW hA h1
  obtain ⟨c1,h1,h2⟩ := U1 (q := .frz) hS (VP hS 4) e
  rw [h1]; simpa using h2
def kT (E : TE) (z : Nat) (u : U) (i : Int) (o : Nat) (x : u.T E.c) (vs : List CV) (S : St E.c) (k : St E.c → Tree R) : Tree R :=
  match (match Nat.beq vs.length (E.sz u) with
    | true => some (vs,S)
    | false => match tQ E .frz u x with | some L => (match injS S L with | (cs,S1) => some (QI cs o vs,S1)) | none => none) with
  | some (cs,S1) => match fK false S1 .frz (nJ E false S1 .frz 4) u cs with
    | some (x',[]) => match Xn S1.Z z with
      | some ((_,⟨.own e,u1,l⟩),Zr) => match Lc u1 u l with
        | some l => k { S1 with Z := (z,S1.nv,⟨.own e,u,AU l i x'⟩) :: Zr,C := [],nv := S1.nv + 1 }
        | none => .fail
      | _ => .fail
    | _ => .fail
  | none => .fail
theorem aD {vs cs : List Value} (h : vs.length = cs.length) : Gv cs 0 vs = vs := by
  rw [VA vs cs 0 (by omega),Nat.zero_add,h,List.drop_eq_nil_of_le (Nat.le_refl _)]; simp
theorem ZH {t o m z ver0 : Nat} {agg : Bool} {u : U} {i : Int} {e0 : TypeId} {l0 : List (u.T E.c)} {x : u.T E.c} {vs : List CV} {v : AV} {px py : Operand} {k : St E.c → Tree R} {r : R} (h : Rel E B θ n ds S a w σ ρ ι) (hx : F2 S px = some (.one (.ep z u i o))) (hy : F2 S py = some v) (hc : v.cells = some vs) (hk : Bx (fun c => match c with | .sl z => (CQ S.Z z).isSome | _ => true) vs = true)
    (T : Ty P t agg m) (hm : vs.length = m) (hle : Nat.ble (o + vs.length) (E.sz u) = true) (hz : (z,ver0,(⟨.own e0,u,l0⟩ : ZI E.c)) ∈ S.Z) (hix : ix l0 i = some x) (e : (kT E z u i o x vs S k).den = some r) (K : RS E P B θ n ds S k r ops Q rest) : wpList P ops Q (⟨none,.store t px py,ty,pos,aft,none⟩ :: rest) a w := by
  obtain ⟨lx,cs0,h1,h2,h3,h4⟩ := h.cells hz hix
  have hox := h.op hx
  have hoy := h.op hy
  obtain ⟨c1,c2⟩ := h.cells1 hc hk
  have hwv : Bx (CV.wf S.nz S.nb) vs = true := by
    cases v with
    | one c => cases hc; exact Ae.2 fun z hz => by rcases List.mem_singleton.1 hz with rfl; exact hoy.2
    | agg l => cases hc; exact hoy.2
    | tup l => cases hc
    | fnv f gs ps => cases hc
  have hcl : cs0.length = E.sz u := by
    have hok := h.st.items (ι z) (List.mem_map.2 ⟨_,hz,rfl⟩)
    rw [h1] at hok
    rcases (show H5 w _ e0 (u.rp E.r).seen (σ z) lx from hok) with ⟨ad,_,rfl⟩ | ⟨g,off,cap,cur,xs,_,_,_,_,_,_,_,hr⟩
    · obtain ⟨_,hk,_⟩ := IM h3; simp at hk
    · obtain ⟨cs',e',hr'⟩ := hr.at_ h3
      obtain rfl : cs' = cs0 := e'
      exact (u.rp E.r).len hr'
  have hzlt := (h.wZ _ hz).1
  unfold kT at e
  split at e
  · rename_i cs S1 hcs
    -- the state with the element's slices named
    have key : ∃ σ1 ι1,Rel E B θ n ds S1 a w σ1 ρ ι1 ∧ Ext S S1 ∧ Ag S.nz S.nb σ σ1 ρ ρ ∧ (∀ j,j < S.nz → ι1 j = ι j) ∧ (∃ X,S1.Z = X ++ S.Z) ∧ S1.F = S.F ∧ cs.map (CV.val E.sz σ1 ρ) = Gv cs0 o (vs.map (CV.val E.sz σ ρ)) := by
      split at hcs
      · rename_i hfull
        cases hcs
        have hf := ze hfull
        have ho : o = 0 := by have := zf hle; omega
        subst ho
        exact ⟨σ,ι,h,Ext.refl _,Ag.rfl',fun _ _ => rfl,⟨[],rfl⟩,rfl,(aD (by rw [zh,hf,hcl])).symm⟩
      · split at hcs
        · rename_i L hL
          cases hcs
          obtain ⟨σ',ι',g1,g2,g3,g4,g5,g6,g7⟩ := Rel.inj L h (h4 hL)
          obtain ⟨s1,s2,s3,s4⟩ := Fm L S
          refine ⟨σ',ι',g1,Ext.injS L S,g2,g7,s4,s1, ?_⟩
          rw [KT,g3,Hl g2 hwv]
        · cases hcs
    obtain ⟨σ1,ι1,k1,k2,k3,k4,⟨X,k5⟩,k6,k7⟩ := key
    split at e
    · rename_i x' hx'
      split at e
      · rename_i ver e1 u1 l Zr hp
        split at e
        · rename_i l' hcl'
          obtain ⟨n1,n2,n3,n4⟩ := N6 k1.nZ hp
          have hz1 : (z,ver0,(⟨.own e0,u,l0⟩ : ZI E.c)) ∈ S1.Z := by rw [k5]; exact List.mem_append_right _ hz
          have q1 := F7 k1.nZ hz1
          rw [(Q8 hp).1] at q1
          cases q1
          unfold Lc at hcl'
          split at hcl'
          · cases hcl'
            have hιz : ι1 z = row (σ z) e0 (u.rp E.r).seen lx := (k4 z hzlt).trans h1
            have hσz : σ1 z = σ z := k3.1 z hzlt
            have hperm : (S1.zz ι1).Perm (ι1 z :: Zr.map fun p => ι1 p.1) := (FY hp).map fun p => ι1 p.1
            have hW1 := k1.st.permZ hperm
            rw [hιz] at hW1
            have hox1 := k1.op (x := px) (v := .one (.ep z u i o)) (by
              cases px with
              | tmp t => show (match CQ S1.F t with | some x => some x.2 | none => none) = _; rw [k6]; exact hx
              | const c => exact hx
              | func f => exact hx
              | global g => exact hx)
            have hoy1 := k1.op (x := py) (v := v) (by
              cases py with
              | tmp t => show (match CQ S1.F t with | some x => some x.2 | none => none) = _; rw [k6]; exact hy
              | const c => exact hy
              | func f => exact hy
              | global g => exact hy)
            have hvv : v.val E.sz σ1 ρ = v.val E.sz σ ρ := AV.val_ag k3 hoy.2
            refine Sd (off := Qb (σ z) + i.toNat * E.sz u + o) (r := (u.rp E.r).seen) (v := σ z) (l := lx) (i := i) (x := (cs0,x)) (x' := (Gv cs0 o (vs.map (CV.val E.sz σ ρ)),x')) (j := o) (k := 0) k1.fr hW1 (by rw [hox1.1]; simp only [AV.val,CV.val,hσz]) hoy1.1 rfl rfl rfl h3 T (by rw [hvv]; exact c1) (by rw [zh]; exact hm) (by rw [zh]; exact hle) c2 (fun A cs hA hcs => ?_) fun w' hW' => ?_
            · obtain ⟨rfl,_⟩ := hcs
              refine ⟨rfl, ?_⟩
              rw [← k7]
              refine cC k1.toStC (fun y hy => hy) k1.st (fun b hb => hA b (hb.mono fun g hg => ?_)) hx'
              exact (He hperm).mem_iff.2 (by rw [hιz]; exact hg)
            · have hmr : (Zr.map fun p => DH ι1 z (row (σ z) e0 (u.rp E.r).seen (AU lx i (Gv cs0 o (vs.map (CV.val E.sz σ ρ)),x'))) p.1) = Zr.map fun p => ι1 p.1 := List.map_congr_left fun p hp' => DM (n4 p hp')
              have hpi : ∀ p ∈ (z,S1.nv,(⟨.own e0,u,AU l0 i x'⟩ : ZI E.c)) :: Zr,p.2.1 < θ.v → DH ι1 z (row (σ z) e0 (u.rp E.r).seen (AU lx i (Gv cs0 o (vs.map (CV.val E.sz σ ρ)),x'))) p.1 = θ.ι p.1 := fun p hp' hv => by
                rcases List.mem_cons.1 hp' with rfl | hp'
                · exact absurd (Nat.lt_of_lt_of_le hv k1.pi.1) (Nat.lt_irrefl _)
                · rw [DM (n4 p hp')]; exact k1.pi.2 p (n2 p hp') hv
              refine K { S1 with Z := (z,S1.nv,⟨.own e0,u,AU l0 i x'⟩) :: Zr,C := [],nv := S1.nv + 1 } a w' σ1 ρ (DH ι1 z (row (σ z) e0 (u.rp E.r).seen (AU lx i (Gv cs0 o (vs.map (CV.val E.sz σ ρ)),x')))) (k2.trans ⟨Nat.le_succ _,fun _ _ e _ => e,fun _ _ e _ => e,fun j q hq hl => ?_,fun _ _ _ h _ => ⟨h,rfl⟩⟩) { it := fun p hp' => ?_,wF := fun p hp => ⟨(k1.wF p hp).1,Nat.lt_succ_of_lt (k1.wF p hp).2⟩,wM := fun p hp => ⟨(k1.wM p hp).1,Nat.lt_succ_of_lt (k1.wM p hp).2.1,(k1.wM p hp).2.2⟩,wZ := fun p hp' => ?_,nZ := ?_,ca := (fun p hp' => nomatch hp'),pn := k1.pn,pi := ⟨Nat.le_succ_of_le k1.pi.1,hpi⟩,fr := k1.fr,st := ?_ } e
              · by_cases hb : z = j
                · subst hb
                  simp only [DK] at hq
                  cases hq
                  exact absurd hl (Nat.lt_irrefl _)
                · simp only [C6 hb] at hq
                  exact Pb k1.nZ hp hq
              · rcases List.mem_cons.1 hp' with rfl | hp'
                · show Y2 E B (σ1 z) ⟨.own e0,u,AU l0 i x'⟩ (DH ι1 z _ z)
                  rw [El,hσz]
                  exact ⟨_,by rw [← h2]; unfold AU; rw [List.map_set],rfl⟩
                · rw [DM (n4 p hp')]; exact k1.it p (n2 p hp')
              · rcases List.mem_cons.1 hp' with rfl | hp'
                · exact ⟨(k1.wZ _ hz1).1,Nat.lt_succ_self _⟩
                · exact ⟨(k1.wZ p (n2 p hp')).1,Nat.lt_succ_of_lt (k1.wZ p (n2 p hp')).2⟩
              · show (z :: Zr.map (·.1)).Nodup
                rw [List.nodup_cons]
                exact ⟨fun hm => by obtain ⟨p,hp',e⟩ := List.mem_map.1 hm; exact n4 p hp' e,n1⟩
              · show Stw B (S1.mm E σ1 ρ) (DH ι1 z (row (σ z) e0 (u.rp E.r).seen (AU lx i (Gv cs0 o (vs.map (CV.val E.sz σ ρ)),x'))) z :: Zr.map fun p => DH ι1 z (row (σ z) e0 (u.rp E.r).seen (AU lx i (Gv cs0 o (vs.map (CV.val E.sz σ ρ)),x'))) p.1) w'
                rw [hmr,El]
                exact hW'
          · cases hcl'
        · cases e
      · cases e
    · cases e
  · cases e
end
end Go.Proofs.YtkhiflmalgkjiaaGreat
