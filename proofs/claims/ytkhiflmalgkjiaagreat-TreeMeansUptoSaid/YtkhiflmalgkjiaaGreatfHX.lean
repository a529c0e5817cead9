/- A join; the walk of a code. Conditions: none. -/
import Derived.Test.YtkhiflmalgkjiaaGreatfHW
import Derived.Test.YtkhiflmalgkjiaaGreatfQP
set_option linter.unusedVariables false
set_option linter.unusedSimpArgs false
open Go Go.RowKit
namespace Go.Proofs.YtkhiflmalgkjiaaGreat
section
variable {E : TE} {P : Program} {B : Bs} {θ : Pin} {n : Nat} {ds : List Deferred} {S S0 : St E.c} {a a0 : Act} {w w0 : World} {σ σ0 : Nat → Value} {ρ ρ0 : Nat → Nat} {ι ι0 : Nat → It} {R : Type}
theorem jO : ∀ {l : List (Nat × Bool × List CK)} {x : List CV},qS E S l = some x → x.length = Au E (l9 l) := by
  intro l
  induction l with
  | nil => intro x hx; cases hx; rfl
  | cons p r ih =>
    obtain ⟨k,b,l⟩ := p
    intro x hx
    unfold qS at hx
    split at hx
    · split at hx
      · split at hx
        · rename_i hl
          split at hx
          · rename_i s hs
            cases hx
            rw [List.length_append,ih hs,ze hl]
            have HU : ∀ (u v : List CK),Au E (u ++ v) = Au E u + Au E v := by
              intro u v
              induction u with
              | nil => simp [Au]
              | cons q u ihu => cases q <;> simp only [List.cons_append,Au,ihu] <;> omega
            exact (HU l (l9 r)).symm
          · cases hx
        · cases hx
      · cases hx
    · cases hx
theorem RU : ∀ (L : List (Leaf E.c)) {S : St E.c},(injS S L).1.length = L.length
  | [],S => rfl
  | .v x :: L,S => by show (injS S L).1.length + 1 = _; rw [RU L]; rfl
  | .s z :: L,S => by show (injS (S.addZ z) L).1.length + 1 = _; rw [RU L]; rfl
theorem JF.len {I : ZI E.c → Value → Prop} {D : ZI E.c → Value → It → Prop} : ∀ {L : List (Leaf E.c)} {cs : List Value} {its : List It},JF I D L cs its → cs.length = L.length
  | [],cs,its,h => by rw [h.1]; rfl
  | .v x :: L,cs,its,⟨v,r,e,_,_,h⟩ => by rw [e,List.length_cons,List.length_cons,JF.len h]
  | .s z :: L,cs,its,h => by
    rcases h with ⟨v,r,e,_,h⟩ | ⟨v,r,it,its',e,_,_,h⟩
    · rw [e,List.length_cons,List.length_cons,JF.len h]
    · rw [e,List.length_cons,List.length_cons,JF.len h]
theorem Xi {S0 : St E.c} : ∀ {l : List (Nat × List (Option CK))} {new ys : List CV} {m : List (Nat × List CV)},MA E S0 l new = some m → new.length = ys.length → ∃ m0,MA E S0 l ys = some m0
  | [],new,ys,m,e,h => ⟨[],rfl⟩
  | (k, l) :: r, new, ys, m, e, h => by
    unfold MA at e
    split at e
    · rename_i v cs hf
      split at e
      · rename_i hl
        split at e
        · rename_i c1 hc
          split at e
          · rename_i m' hm'
            obtain ⟨t1,t2⟩ := I7 hc
            have hc' := Td (n := Au E (TH l)) (l := ys) (by omega)
            rw [I1] at hm'
            obtain ⟨m0,g⟩ := Xi hm' (ys := ys.drop (Au E (TH l))) (by rw [List.length_drop,List.length_drop,h])
            exact ⟨(k,KN E l cs (ys.take (Au E (TH l)))) :: m0,by unfold MA; rw [hf]; simp only [hl,hc',I1,g]⟩
          · cases e
        · cases e
      · cases e
    · cases e
theorem jV {J : JS} {ws : List Nat} {t : TT E.c J.ks} (h0 : Rel E B θ n ds S0 a0 w0 σ0 ρ0 ι0) (x : Ext S0 S) (h : Rel E B θ n ds S a w σ ρ ι) (e : sI E J ws S0 S = some t) :
    ∃ S2 σ' ρ' ι',qR E J ws S0 t = some S2 ∧ Rel E B θ n ds S2 a w σ' ρ' ι' ∧ Ag S0.nz S0.nb σ σ' ρ ρ' := by
  unfold sI at e
  split at e
  · rename_i xs hxs
    split at e
    · rename_i ys hys
      split at e
      case h_2 => cases e
      rename_i hkB
      split at e
      · rename_i t' S' hpk
        split at e
        · rename_i hkept
          split at e
          · rename_i hokB
            obtain ⟨hnd,hnb⟩ := pO hokB
            split at e
            · rename_i S2 hS2
              cases e
              unfold pk at hpk
              split at hpk
              · rename_i S1' ol h1
                split at hpk
                · rename_i t1 ht
                  cases hpk
                  obtain ⟨its,ι1,s1,s2,s3,s4⟩ := Oc J.ks (xs ++ ys) (X := []) h.toStC h.st h1
                  have s2 : Stw B (S'.mm E σ ρ) (its ++ S'.zz ι1) w := s2
                  unfold qR at hS2
                  split at hS2
                  · rename_i L hL
                    split at hS2
                    case h_2 => cases hS2
                    rename_i hnd2
                    split at hS2
                    case h_2 => cases hS2
                    rename_i m hm
                    split at hS2
                    case h_2 => cases hS2
                    rename_i S2' hS2'
                    cases hS2
                    obtain ⟨cs1,g1,g2⟩ := Tp (lax := false) (B := B) (S := S') (I := W0 E B w (Aq (S'.mm E σ ρ) (its ++ S'.zz ι1)))
                      (W := fun q => match q with | true => B.w0 | false => w) (A := fun q => lA q (NX B.X) (Fz B (Aq (S'.mm E σ ρ) (its ++ S'.zz ι1))))
                      (fun q a c l hh => by
                        cases q with
                        | true => exact e8 s1 (fun z hz => List.mem_append_right _ hz) s2 hh
                        | false => exact Ve s1 (fun z hz => List.mem_append_right _ hz) s2 (fun _ h => h) hh)
                      (fun q u v l hh => by cases q <;> exact hh) J.ks ol (xs ++ ys) s4 ht hL
                    rw [List.map_nil,List.append_nil] at g1
                    subst g1
                    -- what is kept
                    have hk1 : Mi (base E J ws S0).F S'.F = true ∧ Mi (base E J ws S0).M S'.M = true ∧ Mi (base E J ws S0).Z S'.Z = true := by
                      unfold ZT at hkept
                      split at hkept
                      · rename_i e1
                        split at hkept
                        · rename_i e2
                          exact ⟨e1,e2,hkept⟩
                        · cases hkept
                      · cases hkept
                    obtain ⟨kF,kM,kZ⟩ := hk1
                    have xx : Ext S0 S' := x.trans s3.toExt
                    have nM0 := h0.ndM
                    have nMk : ((base E J ws S0).M.map (·.1)).Nodup := nM0.sublist (Ll.map _)
                    have nZk : ((base E J ws S0).Z.map (·.1)).Nodup := h0.nZ.sublist (Ll.map _)
                    have mM : ∀ p ∈ (base E J ws S0).M,p ∈ S'.M := fun p hp => by
                      have q1 := F7 nMk (show (p.1,p.2) ∈ _ from hp)
                      obtain ⟨y,q2⟩ := IQ kM q1
                      have q3 := (EJ q1).1
                      have q4 := xx.M _ _ q2 (h0.wM _ (A8 q3)).2.1
                      rw [q3] at q4
                      have : p.2 = (p.2.1,y) := Option.some.inj q4
                      rw [← this] at q2
                      exact A8 q2
                    have mZ : ∀ p ∈ (base E J ws S0).Z,p ∈ S'.Z := fun p hp => by
                      have q1 := F7 nZk (show (p.1,p.2) ∈ _ from hp)
                      obtain ⟨y,q2⟩ := IQ kZ q1
                      have q3 := (EJ q1).1
                      have q4 := xx.Z _ _ q2 (h0.wZ _ (A8 q3)).2
                      rw [q3] at q4
                      have : p.2 = (p.2.1,y) := Option.some.inj q4
                      rw [← this] at q2
                      exact A8 q2
                    have hold : ∀ {σ'' : Nat → Value},Ag S0.nz S0.nb σ σ'' ρ ρ → ∀ p ∈ S0.M,p.2.2.map (CV.val E.sz σ'' ρ) = p.2.2.map (CV.val E.sz σ ρ) := fun hag p hp => Hl hag (h0.wM p hp).2.2
                    have hlen0 : xs.length = Au E (l9 J.s) := jO hxs
                    have hinj : (injS (base E J ws S0) L).1.length = (xs ++ ys).length := by
                      rw [RU, ← g2.len,zh]
                    obtain ⟨m0,hm0⟩ : ∃ m0,MA E S0 J.b ys = some m0 := Xi hm (by rw [List.length_drop,hinj,List.length_append,hlen0]; omega)
                    obtain ⟨A,b1,b2,b3⟩ := fV (m := []) x hys hkB (by rw [List.append_nil]; exact hm0)
                    have nM' : (S'.M.map (·.1)).Nodup := by rw [s3.fM]; exact h.ndM
                    obtain ⟨rM,pM⟩ := Z8 (A := A ++ (base E J ws S0).M) (l := S'.M) nM' (by
                      rw [List.map_append,b1]
                      refine List.nodup_append.2 ⟨hnd,nMk,fun k hk k' hk' he => ?_⟩
                      subst he
                      obtain ⟨p,hp,rfl⟩ := List.mem_map.1 hk'
                      have := (DV hp).2
                      rw [KZ.2 hk] at this; cases this) (fun p hp => by
                      rcases List.mem_append.1 hp with hp | hp
                      · rw [s3.fM]; exact b2 p hp
                      · exact mM p hp)
                    obtain ⟨rZ,pZ⟩ := Z8 (A := (base E J ws S0).Z) (l := S'.Z) s1.nZ nZk mZ
                    have hBV : BV σ ρ E m0 = A.map fun p => (ρ p.1,p.2.2.map (CV.val E.sz σ ρ)) := by rw [← b3]; unfold BV; rw [List.map_map]; rfl
                    have pm : (S'.mm E σ ρ).Perm ((BV σ ρ E m0 ++ (base E J ws S0).mm E σ ρ) ++ rM.map fun p => (ρ p.1,p.2.2.map (CV.val E.sz σ ρ))) := by
                      have := pM.map fun p : Nat × Nat × List CV => (ρ p.1,p.2.2.map (CV.val E.sz σ ρ))
                      rw [List.map_append,List.map_append] at this
                      rw [hBV]; exact this
                    have pz : (its ++ S'.zz ι1).Perm ((its ++ (base E J ws S0).zz ι1) ++ rZ.map fun p => ι1 p.1) := by
                      have := pZ.map fun p : Nat × Nat × ZI E.c => ι1 p.1
                      rw [List.map_append] at this
                      rw [List.append_assoc]
                      exact List.Perm.append_left _ this
                    have hW0 : Stw B (BV σ ρ E m0 ++ (base E J ws S0).mm E σ ρ) (its ++ ([] ++ (base E J ws S0).zz ι1)) w := ((s2.perm pm).permZ pz).sub (List.sublist_append_left _ _) (List.sublist_append_left _ _)
                    have hbl : ∀ g ∈ Aq (BV σ ρ E m0 ++ (base E J ws S0).mm E σ ρ) (its ++ ([] ++ (base E J ws S0).zz ι1)),g ∈ Aq (S'.mm E σ ρ) (its ++ S'.zz ι1) := fun g hg => by
                      have p1 : (Aq (S'.mm E σ ρ) (its ++ S'.zz ι1)).Perm (Aq ((BV σ ρ E m0 ++ (base E J ws S0).mm E σ ρ) ++ rM.map fun p => (ρ p.1,p.2.2.map (CV.val E.sz σ ρ))) ((its ++ (base E J ws S0).zz ι1) ++ rZ.map fun p => ι1 p.1)) := ((pm.map (·.1)).append_right _).trans (He pz)
                      refine p1.mem_iff.2 ?_
                      exact (List.Sublist.append ((List.sublist_append_left _ _).map _) (Hx (List.sublist_append_left _ _))).subset hg
                    have hC0 : StC E B θ (base E J ws S0) σ ρ ι1 := ⟨fun p hp => s1.it p (mZ p hp),fun p hp => h0.wF p (DV hp).1,fun p hp => h0.wM p (DV hp).1,fun p hp => h0.wZ p (DV hp).1,nZk,(fun p hp => nomatch hp),⟨s1.pn.1,h0.pn.2⟩,h0.pi.1,fun p hp hv => s1.pi.2 p (mZ p hp) hv⟩
                    obtain ⟨σ',ι',c0,c1,c2,c3,c4,c5,c6,c7⟩ := StC.inj (Mx := BV σ ρ E m0) (X := []) L hC0 hW0 (g2.mono (fun z v hz => hz.mono hbl) fun z v it hd => hd.2)
                    have hF0 : Fr n ds ((base E J ws S0).ff E σ ρ) a := h.fr.sub fun k v hv => by
                      obtain ⟨y,y1,y2⟩ := Yf (f := fun q => q.2.val E.sz σ ρ) hv
                      obtain ⟨z,z1⟩ := IQ kF y1
                      have q3 := (EJ y1).1
                      have q4 := xx.F _ _ z1 (h0.wF _ (A8 q3)).2
                      rw [q3] at q4
                      have q5 : y = (y.1,z) := Option.some.inj q4
                      rw [← q5,s3.fF] at z1
                      rw [Hw (f := fun q => q.2.val E.sz σ ρ) z1,y2]
                    -- the cells
                    have hlen := hlen0
                    have hcs : ∀ {σ''},(injS (base E J ws S0) L).1.map (CV.val E.sz σ'' ρ) = (xs ++ ys).map (CV.val E.sz σ ρ) → ((injS (base E J ws S0) L).1.drop (Au E (l9 J.s))).map (CV.val E.sz σ'' ρ) = ys.map (CV.val E.sz σ ρ) := fun {σ''} he => by
                      rw [List.map_drop,he,List.map_append,List.drop_left' (by rw [zh]; exact hlen)]
                    have hwd : Bx (CV.wf (injS (base E J ws S0) L).2.nz (injS (base E J ws S0) L).2.nb) ((injS (base E J ws S0) L).1.drop (Au E (l9 J.s))) = true := Ae.2 fun c hc => Ae.1 c4 c (List.mem_of_mem_drop hc)
                    obtain ⟨m1,e1,e2⟩ := V7 hm (hcs c3) (hold c2)
                    rw [hm0] at e1
                    cases e1
                    have hBV2 : BV σ' ρ E m = BV σ ρ E m0 := by
                      have := congrArg (List.map fun p : Nat × List Value => (ρ p.1,p.2)) e2
                      rw [List.map_map,List.map_map] at this
                      exact this
                    obtain ⟨d1,d2,d3,d4,d5,d6⟩ := Zm (l := m) (S := (injS (base E J ws S0) L).2) c0 (by rw [hBV2]; exact c1) (YM hm hwd fun p hp => Dj (fun _ => CV.wf_mono c5 (Nat.le_of_eq c6.symm)) (h0.wM p hp).2.2) (fun p hp => by
                      rw [c6]
                      have hk : p.1 ∈ J.b.map (·.1) := by rw [← (Sn hm).1]; exact List.mem_map.2 ⟨p,hp,rfl⟩
                      obtain ⟨q,hq,hqe⟩ := List.mem_map.1 hk
                      rw [← hqe]
                      exact zf (Ae.1 hnb q hq))
                    have hR : Rel E B θ n ds (N5 m (injS (base E J ws S0) L).2) a w σ' ρ ι' := by
                      refine { toStC := d1,fr := ?_,st := ?_ }
                      · show Fr n ds ((N5 m _).F.map _) a
                        rw [d3,(Fm L _).1]
                        have : (base E J ws S0).ff E σ' ρ = (base E J ws S0).ff E σ ρ := S7 (S := base E J ws S0) hC0.wF c2
                        exact (congrArg (fun l => Fr n ds l a) this).mpr hF0
                      · show Stw B _ ((N5 m _).Z.map _) w
                        rw [d4]; exact d2
                    have hSV := i7 (E := E) (S := S) (σ := σ) (ρ := ρ) (ys.map (CV.val E.sz σ ρ)) hxs
                    rw [← List.map_append, ← c3] at hSV
                    have hfin := Y4 hR h.fr hSV (by rw [d5,d6]; exact c4) hS2'
                    have hfin2 : Rel E B θ n ds { S2' with V := eA E S0 S2'.nv J.b ++ S2'.V,nv := S2'.nv + 1 } a w σ' ρ ι' := { it := hfin.it,wF := fun p hp => ⟨(hfin.wF p hp).1,Nat.lt_succ_of_lt (hfin.wF p hp).2⟩,wM := fun p hp => ⟨(hfin.wM p hp).1,Nat.lt_succ_of_lt (hfin.wM p hp).2.1,(hfin.wM p hp).2.2⟩,wZ := fun p hp => ⟨(hfin.wZ p hp).1,Nat.lt_succ_of_lt (hfin.wZ p hp).2⟩,nZ := hfin.nZ,ca := hfin.ca,pn := hfin.pn,pi := ⟨Nat.le_succ_of_le hfin.pi.1,hfin.pi.2⟩,fr := hfin.fr,st := hfin.st }
                    refine ⟨_,σ',ρ,ι', ?_,hfin2,c2⟩
                    unfold qR
                    simp only [hL,hnd2,hm,hS2']
                  · cases hS2
                · cases hpk
              · cases hpk
            · cases e
          · cases e
        · cases e
      · cases e
    · cases e
  · cases e
def dH {c : Nat → Type} (z k : Nat) (S : St c) : Option (St c) := match CQ S.F k with
  | some (_,.one (.sl z')) => match CQ S.Z z' with
    | some (_,zi) => match Nat.blt z S.nz with
      | true => some { S with Z := (z,S.nv,zi) :: Fy [z,z'] S.Z,F := (k,S.nv,.one (.sl z)) :: S.F,C := [],nv := S.nv + 1 }
      | false => none
    | none => none
  | _ => none
def aM {c : Nat → Type} (S0 : St c) : List Nat → St c → Option (St c)
  | [],S => some S
  | k :: r,S => match CQ S0.F k with
    | some (_,.one (.sl z)) => match dH z k S with | some S' => aM S0 r S' | none => none
    | _ => none
def ZF {c : Nat → Type} (S0 S : St c) : List Nat → Bool
  | [] => true
  | k :: r => match CQ S0.F k with
    | some (_,.one (.sl z)) => match CQ S.F k with
      | some (_,.one (.sl z')) => match Nat.beq z z' with | true => ZF S0 S r | false => false
      | _ => false
    | _ => false
def QX (E : TE) (J : JS) (ws : List Nat) (S0 : St E.c) (t : TT E.c J.ks) : Option (St E.c) := match qR E J ws S0 t with | some S2 => aM S0 J.z S2 | none => none
def O3 (E : TE) (J : JS) (ws : List Nat) (S0 S : St E.c) : Option (TT E.c J.ks) := match ZF S0 S J.z with
  | true => match sI E J ws S0 S with
    | some t => match QX E J ws S0 t with | some _ => some t | none => none
    | none => none
  | false => none
theorem kH {z k : Nat} {S' : St E.c} (h : Rel E B θ n ds S a w σ ρ ι) (hσ : ∀ ver z',CQ S.F k = some (ver,.one (.sl z')) → σ z = σ z') (e : dH z k S = some S') : ∃ ι',Rel E B θ n ds S' a w σ ρ ι' := by
  unfold dH at e
  split at e
  · rename_i ver z' hf
    have hs := hσ _ _ hf
    split at e
    · rename_i ver' zi hz
      split at e
      · rename_i hlt
        have hlt := zf hlt
        cases e
        have hm := A8 hz
        have hnk : ((Fy [z,z'] S.Z).map (·.1)).Nodup := h.nZ.sublist (Ll.map _)
        have hne : ∀ p ∈ Fy [z,z'] S.Z,p.1 ≠ z ∧ p.1 ≠ z' := fun p hp => by
          have := (DV hp).2
          have t1 : H6 z [z,z'] = true := KZ.2 (List.mem_cons_self ..)
          have t2 : H6 z' [z,z'] = true := KZ.2 (zd _ (List.mem_cons_self ..))
          exact ⟨(fun e => by rw [e,t1] at this; cases this),(fun e => by rw [e,t2] at this; cases this)⟩
        obtain ⟨r,hr⟩ := Z8 (A := (z',ver',zi) :: Fy [z,z'] S.Z) (l := S.Z) h.nZ (by
          rw [zj,List.nodup_cons]
          refine ⟨fun hm => ?_,hnk⟩
          obtain ⟨p,hp,e⟩ := List.mem_map.1 hm
          exact (hne p hp).2 e) (fun p hp => by
          rcases List.mem_cons.1 hp with rfl | hp
          · exact hm
          · exact (DV hp).1)
        refine ⟨DH ι z (ι z'), { it := fun p hp => ?_,wF := fun p hp => ?_,wM := fun p hp => ⟨(h.wM p hp).1,Nat.lt_succ_of_lt (h.wM p hp).2.1,(h.wM p hp).2.2⟩,wZ := fun p hp => ?_,nZ := ?_,ca := (fun p hp => nomatch hp),pn := h.pn,pi := ⟨Nat.le_succ_of_le h.pi.1,fun p hp hv => ?_⟩,fr := ?_,st := ?_ }⟩
        · rcases List.mem_cons.1 hp with rfl | hp
          · show Y2 E B (σ z) zi (DH ι z (ι z') z)
            rw [El,hs]; exact h.it _ hm
          · rw [DM (hne p hp).1]; exact h.it p (DV hp).1
        · rcases List.mem_cons.1 hp with rfl | hp
          · exact ⟨Nat.ble_eq_true_of_le hlt,Nat.lt_succ_self _⟩
          · exact ⟨(h.wF p hp).1,Nat.lt_succ_of_lt (h.wF p hp).2⟩
        · rcases List.mem_cons.1 hp with rfl | hp
          · exact ⟨hlt,Nat.lt_succ_self _⟩
          · exact ⟨(h.wZ p (DV hp).1).1,Nat.lt_succ_of_lt (h.wZ p (DV hp).1).2⟩
        · show (z :: (Fy [z,z'] S.Z).map (·.1)).Nodup
          rw [List.nodup_cons]
          refine ⟨fun hm => ?_,hnk⟩
          obtain ⟨p,hp,e⟩ := List.mem_map.1 hm
          exact (hne p hp).1 e
        · rcases List.mem_cons.1 hp with rfl | hp
          · exact absurd (Nat.lt_of_lt_of_le hv h.pi.1) (Nat.lt_irrefl _)
          · rw [DM (hne p hp).1]; exact h.pi.2 p (DV hp).1 hv
        · show Fr n ds ((k,σ z) :: S.ff E σ ρ) a
          refine h.fr.sub fun j v hv => ?_
          by_cases q : k = j
          · subst q
            rw [CX] at hv
            cases hv
            rw [Hw (f := fun q => q.2.val E.sz σ ρ) hf,hs]
            rfl
          · rw [Dh q] at hv; exact hv
        · have pz : (S.zz ι).Perm ((ι z' :: (Fy [z,z'] S.Z).map fun p => ι p.1) ++ r.map fun p => ι p.1) := by
            have := hr.map fun p : Nat × Nat × ZI E.c => ι p.1
            rw [List.map_append,zj] at this
            exact this
          have := (h.st.permZ pz).sub (List.Sublist.refl _) (List.sublist_append_left _ _)
          show Stw B (S.mm E σ ρ) (DH ι z (ι z') z :: (Fy [z,z'] S.Z).map fun p => DH ι z (ι z') p.1) w
          rw [El,show ((Fy [z,z'] S.Z).map fun p => DH ι z (ι z') p.1) = (Fy [z,z'] S.Z).map fun p => ι p.1 from List.map_congr_left fun p hp => DM (hne p hp).1]
          exact this
      · cases e
    · cases e
  · cases e
theorem dE {z k : Nat} {S' : St E.c} (e : dH z k S = some S') : Ext S S' := by
  unfold dH at e
  split at e
  · split at e
    · split at e
      · cases e
        refine ⟨Nat.le_succ _,fun j x hx hl => ?_,fun _ _ h _ => h,fun j x hx hl => ?_,fun _ _ _ h _ => ⟨h,rfl⟩⟩
        · by_cases q : k = j
          · subst q; simp only [DK] at hx; cases hx; exact absurd hl (Nat.lt_irrefl _)
          · simp only [C6 q] at hx; exact hx
        · by_cases q : z = j
          · subst q; simp only [DK] at hx; cases hx; exact absurd hl (Nat.lt_irrefl _)
          · simp only [C6 q] at hx; exact (EJ hx).1
      · cases e
    · cases e
  · cases e
theorem WB : ∀ (l : List Nat) {S S' : St E.c},aM S0 l S = some S' → Ext S S'
  | [],S,S',e => by cases e; exact Ext.refl _
  | k :: r,S,S',e => by
    unfold aM at e
    split at e
    · split at e
      · rename_i h1
        exact (dE h1).trans (WB r e)
      · cases e
    · cases e
theorem Rs {J : JS} {ws : List Nat} {t : TT E.c J.ks} {S' : St E.c} (e : QX E J ws S t = some S') : Ext S S' := by
  unfold QX at e
  split at e
  · rename_i h1; exact (jK h1).trans (WB _ e)
  · cases e
theorem Zp : ∀ (l : List Nat) {S S' : St E.c} {ι : Nat → It},Rel E B θ n ds S a w σ ρ ι → (∀ k ∈ l, ∀ ver z,CQ S0.F k = some (ver,.one (.sl z)) → ∀ v,lk [(k,v)] k = some v → Fr n ds [(k,v)] a → v = σ z) → aM S0 l S = some S' → ∃ ι',Rel E B θ n ds S' a w σ ρ ι'
  | [],S,S',ι,h,H,e => by cases e; exact ⟨ι,h⟩
  | k :: r, S, S', ι, h, H, e => by
    unfold aM at e
    split at e
    · rename_i ver z hz
      split at e
      · rename_i S1 h1
        obtain ⟨ι1,g⟩ := kH h (fun ver' z' hf => by
          refine (H k (List.mem_cons_self ..) ver z hz (σ z') (CX _ _ _) (h.fr.sub fun j v hv => ?_)).symm
          by_cases q : k = j
          · subst q
            rw [CX] at hv
            cases hv
            rw [Hw (f := fun q => q.2.val E.sz σ ρ) hf]
            rfl
          · rw [Dh q] at hv; cases hv) h1
        exact Zp r g (fun k hk => H k (zd _ hk)) e
      · cases e
    · cases e
theorem WR : ∀ {l : List Nat},ZF S0 S l = true → ∀ k ∈ l, ∃ v z v',CQ S0.F k = some (v,.one (.sl z)) ∧ CQ S.F k = some (v',.one (.sl z))
  | [],_,k,hk => nomatch hk
  | j :: r,h,k,hk => by
    unfold ZF at h
    split at h
    · rename_i v z h1
      split at h
      · rename_i v' z' h2
        split at h
        · rename_i hz
          obtain rfl := ze hz
          rcases List.mem_cons.1 hk with rfl | hk
          · exact ⟨v,z,v',h1,h2⟩
          · exact WR h k hk
        · cases h
      · cases h
    · cases h
theorem Pi {J : JS} {ws : List Nat} {t : TT E.c J.ks} (h0 : Rel E B θ n ds S0 a0 w0 σ0 ρ0 ι0) (x : Ext S0 S) (h : Rel E B θ n ds S a w σ ρ ι) (e : O3 E J ws S0 S = some t) :
    ∃ S2 σ' ρ' ι',QX E J ws S0 t = some S2 ∧ Rel E B θ n ds S2 a w σ' ρ' ι' := by
  unfold O3 at e
  split at e
  · rename_i hk
    split at e
    · rename_i t1 h1
      split at e
      · rename_i S3 h3
        cases e
        obtain ⟨S2,σ',ρ',ι',u1,u2,u3⟩ := jV h0 x h h1
        unfold QX at h3 ⊢
        rw [u1] at h3 ⊢
        obtain ⟨ι2,g⟩ := Zp J.z u2 (fun k hk' ver z hz v _ hF => by
          obtain ⟨v1,z1,v2,g1,g2⟩ := WR hk k hk'
          rw [hz] at g1
          cases g1
          have hz0 : z < S0.nz := zf (h0.wF _ (A8 hz)).1
          rw [u3.1 z hz0]
          have q1 := h.fr.slots k _ (Hw (f := fun q => q.2.val E.sz σ ρ) g2)
          have q2 := hF.slots k v (CX _ _ _)
          exact Option.some.inj (q2.symm.trans q1)) h3
        exact ⟨S3,σ',ρ',ι2,h3,g⟩
      · cases e
    · cases e
  · cases e
end
end Go.Proofs.YtkhiflmalgkjiaaGreat
namespace Go.Proofs.YtkhiflmalgkjiaaGreat
section
variable {P : Program} {ops : Array Oper} {md : Region.Mode} {Q' : Exit → Act → World → Prop}
def UC (P : Program) (ops : Array Oper) (Q : Exit → Act → World → Prop) : (Array Bool → World → Prop) → List (Bool × Nat) → Array Bool → Act → World → Prop
  | _,[],_,a,w => Q .normal a w
  | C,(true,k) :: ks,L,a,w => ∃ C' : Array Bool → World → Prop,(∀ L w,C' L w → C L w) ∧ C' (L.setIfInBounds k true) w ∧ ∃ o v R,ops[k]? = some o ∧ NF P ops C' R a o v ∧ VX .any ops L k R = true ∧ (∀ L' w,C' (L'.setIfInBounds k true) w ↔ C' L' w) ∧ UC P ops Q C' ks (L.setIfInBounds k true) (a.put o.dst v) w
  | C,(false,k) :: ks,L,a,w => wpOp P ops Q k (fun a' w' => ∃ C' : Array Bool → World → Prop,(∀ L w,C' L w → C L w) ∧ C' (L.setIfInBounds k true) w' ∧ UC P ops Q C' ks (L.setIfInBounds k true) a' w') a w
theorem Of (hQ : Hu ops Q') (hsel : Region.noSelect ops = true) : ∀ (ks : List (Bool × Nat)) (C : Array Bool → World → Prop) (listed : Array Bool) (a : Act) (w : World),Region.planB .any ops ks listed = true → C listed w → UC P ops Q' C ks listed a w → Ip P .any ops Q' C ks.length listed a w
  | [],C,listed,a,w,hB,hC,h => ⟨hC,by simpa [Region.planB] using hB,h⟩
  | (true,k) :: ks,C,listed,a,w,hB,hC,⟨C',hsub,hC',o,v,R,ho,hs,hR,hins,h⟩ => by
    simp only [Region.planB,zg] at hB
    obtain ⟨⟨hr,hf⟩,hB'⟩ := hB
    have hR2 := PX hR
    exact IK hsub (LN hQ ho (Region.noSelect_spec hsel) (fun L w => (hins L w).1) hR2.2 _ listed a w hs hR2.1 (Region.free_spec ho hf) (by simpa using hr) (Of hQ hsel ks C' _ _ w hB' hC' h))
  | (false,k) :: ks,C,listed,a,w,hB,hC,h => by
    simp only [Region.planB,zg,decide_eq_true_eq] at hB
    obtain ⟨hr,hB'⟩ := hB
    refine ⟨hC,fun h0 => (by rw [h0] at hr; cases hr),fun i hi => ?_⟩
    rw [hr] at hi
    have : i = k := by simpa using hi
    subst this
    exact wpOp_mono' (fun a' w' ⟨C',hc,h1,h2⟩ => IK hc (Of hQ hsel ks C' _ a' w' hB' h1 h2)) h
end
def qU (tb : Tb) : Op → Bool
  | .build t _ => match CQ tb.zr t with | some zc => Bx (fun c => match c with | .nil => false | .sl _ => false | _ => true) zc | none => false
  | .store .. | .alloc _ | .box .. | .makeSlice .. | .buildSlice .. | .slice .. | .panic _ => false
  | .call ⟨.builtin b,_,_⟩ => match b with | .len | .max | .min | .cap => true | _ => false
  | .call _ => false
  | _ => true
def rH {α : Type _} : List α → Bool | [] => true | _ :: _ => false
def kW {E : TE} {P : Program} (G : Hq E P) : Op → Bool
  | .alloc _ | .box .. | .makeSlice .. | .buildSlice .. | .build .. | .slice .. => false
  | .call ⟨.value (.func f),_,_⟩ => match CQ G f with | some C => !(rH (aU C.bs ++ mB (flt C.xs))) | none => true
  | _ => true
def IJ {E : TE} {P : Program} (G : Hq E P) (l : List Oper) : List (Bool × Nat) → Option Nat
  | [] => none
  | (true,_) :: r => IJ G l r
  | (false,j) :: r => match Pl l j with | some o => (match kW G o.op with | true => some j | false => IJ G l r) | none => none
def dsc (k : Nat) : List Oper → Nat → List Nat → List Nat
  | [],_,D => D
  | o :: l,i,D => dsc k l (i + 1) (match o.after.toList.any (fun e => Region.binds .any e && (Nat.beq e.on k || H6 e.on D)) with | true => i :: D | false => D)
def Pz (tb : Tb) (l : List Oper) : Nat → Array Bool → List (Bool × Nat)
  | 0,_ => []
  | m + 1,L => match Region.ready .any l.toArray L with
    | [] => []
    | r => match r.find? (fun k => (match Pl l k with | some o => qU tb o.op | none => false) && Region.free .any l.toArray L k) with
      | some k => (true,k) :: Pz tb l m (L.setIfInBounds k true)
      | none => match r with
        | k :: _ => (false,k) :: Pz tb l m (L.setIfInBounds k true)
        | [] => []
def Uw : List (Bool × Nat) → List Nat
  | [] => []
  | (true,_) :: r => Uw r
  | (false,k) :: r => k :: Uw r
def bare {c : Nat → Type} (S : St c) : St c := { S with M := [],Z := [],C := [] }
def dP {R : Type} (E : TE) {P : Program} (tb : Tb) (G : Hq E P) (n : Nat) (l0 : List Oper) (TL : List Nat) (k : St E.c → Tree R) : List (Bool × Nat) → Array Bool → St E.c → Tree R
  | [],_,S => k S
  | (true, i) :: ks, L, S => match H6 i TL with
    | true => .fail
    | false => match Pl l0 i with
      | some ⟨some d,op,_,_,_,g⟩ => match Nat.blt d n with
        | true => dG l0 S (fun S => match IJ G l0 ks with
            | none => oE E tb op S fun v x S' => dP E tb G n l0 TL k ks (L.setIfInBounds i true) (S'.putC d v x)
            | some j => match H6 j (dsc i l0 0 []) with
              | true => match VX .any l0.toArray L i (dsc i l0 0 []) with
                | true => oE E tb op S fun v x S' => dP E tb G n l0 TL k ks (L.setIfInBounds i true) (S'.putC d v x)
                | false => .fail
              | false => match mX tb (bare S) op with
                | some v => dP E tb G n l0 TL k ks (L.setIfInBounds i true) (S.put d v)
                | none => .fail)
            (fun S => dP E tb G n l0 TL k ks (L.setIfInBounds i true) (S.put d (.tup []))) g
        | false => .fail
      | _ => .fail
  | (false, i) :: ks, L, S => match Pl l0 i with
    | some ⟨dst, op, _, _, _, g⟩ => match (match IJ G l0 ks with | some j => H6 j TL | none => true) with
      | true => dG l0 S (fun S => zB E tb G n S (fun S' => match kW G op with
            | true => dP E tb G n l0 TL k ks (L.setIfInBounds i true) S'
            | false => match Mi S.M S'.M with
              | true => match Mi S.Z S'.Z with
                | true => dP E tb G n l0 TL k ks (L.setIfInBounds i true) S'
                | false => .fail
              | false => .fail) dst op)
          (fun S => match dst with
            | some d => match Nat.blt d n with | true => dP E tb G n l0 TL k ks (L.setIfInBounds i true) (S.put d (.tup [])) | false => .fail
            | none => .fail) g
      | false => .fail
    | none => .fail
def dR {R : Type} (E : TE) {P : Program} (tb : Tb) (G : Hq E P) (n : Nat) (l : List Oper) (k : St E.c → Tree R) (S : St E.c) : Tree R :=
  match (Region.noSelect l.toArray && decide ((Pz tb l l.length (Array.replicate l.length false)).length = l.length)) && (Region.planB .any l.toArray (Pz tb l l.length (Array.replicate l.length false)) (Array.replicate l.toArray.size false) && SI none l) with
  | true => match (match IJ G l (Pz tb l l.length (Array.replicate l.length false)) with | some j => H6 j (Uw (Pz tb l l.length (Array.replicate l.length false))) | none => true) with
    | true => dP E tb G n l (Uw (Pz tb l l.length (Array.replicate l.length false))) k (Pz tb l l.length (Array.replicate l.length false)) (Array.replicate l.toArray.size false) S
    | false => .fail
  | false => .fail
section
variable {E : TE} {P : Program} {B : Bs} {θ : Pin} {n : Nat} {ds : List Deferred} {S : St E.c} {a : Act} {w : World} {σ : Nat → Value} {ρ : Nat → Nat} {ι : Nat → It} {R : Type}
variable {Q : Exit → Act → World → Prop}
abbrev m9 (S : St E.c) (σ : Nat → Value) (ρ : Nat → Nat) (ι : Nat → It) : Pin := ⟨S.nz,S.nb,σ,ρ,S.nv,ι⟩
theorem Rel.repin (h : Rel E B θ n ds S a w σ ρ ι) : Rel E B (m9 S σ ρ ι) n ds S a w σ ρ ι := { it := h.it,wF := h.wF,wM := h.wM,wZ := h.wZ,nZ := h.nZ,ca := h.ca,pn := ⟨Ag.rfl',Nat.le_refl _,Nat.le_refl _⟩,pi := ⟨Nat.le_refl _,fun _ _ _ => rfl⟩,fr := h.fr,st := h.st }
theorem Rel.unpin {S' : St E.c} {a' : Act} {w' : World} {σ' : Nat → Value} {ρ' : Nat → Nat} {ι' : Nat → It} (h : Rel E B θ n ds S a w σ ρ ι) (x : Ext S S') (h' : Rel E B (m9 S σ ρ ι) n ds S' a' w' σ' ρ' ι') : Rel E B θ n ds S' a' w' σ' ρ' ι' :=
  { it := h'.it,wF := h'.wF,wM := h'.wM,wZ := h'.wZ,nZ := h'.nZ,ca := h'.ca,fr := h'.fr,st := h'.st
    pn := ⟨h.pn.1.trans h'.pn.1 h.pn.2.1 h.pn.2.2,Nat.le_trans h.pn.2.1 h'.pn.2.1,Nat.le_trans h.pn.2.2 h'.pn.2.2⟩
    pi := ⟨Nat.le_trans h.pi.1 h'.pi.1,fun p hp hv => by
      have hv' : p.2.1 < S.nv := Nat.lt_of_lt_of_le hv h.pi.1
      rw [h'.pi.2 p hp hv']
      exact h.pi.2 p (A8 (x.Z _ _ (F7 h'.nZ (show (p.1,p.2) ∈ _ from hp)) hv')) hv⟩ }
structure Cl (E : TE) (B : Bs) (S : St E.c) (σ : Nat → Value) (ρ : Nat → Nat) (ι : Nat → It) (L : Array Bool) (t : Option Nat) (TL : List Nat) (N : List (Option Nat × Nat × List Value)) (NZ : List (Option Nat × It)) : Prop where
  m1 : ∀ p ∈ N,KL L p.1 = false → p.2 ∈ S.mm E σ ρ ∧ p.1 = t
  z1 : ∀ p ∈ NZ,KL L p.1 = false → p.2 ∈ S.zz ι ∧ p.1 = t
  m2 : ∀ p ∈ S.mm E σ ρ,(t,p) ∈ N
  z2 : ∀ p ∈ S.zz ι,(t,p) ∈ NZ
  tm : ∀ p ∈ N, ∀ j,p.1 = some j → H6 j TL = true
  tz : ∀ p ∈ NZ, ∀ j,p.1 = some j → H6 j TL = true
variable {L : Array Bool} {t : Option Nat} {TL : List Nat} {N : List (Option Nat × Nat × List Value)} {NZ : List (Option Nat × It)}
theorem Cl.cn (h : Rel E B θ n ds S a w σ ρ ι) (c : Cl E B S σ ρ ι L t TL N NZ) : CN B N NZ L w := ⟨_,_,h.st,fun p hp hr => (c.m1 p hp hr).1,fun p hp hr => (c.z1 p hp hr).1⟩
theorem Cl.off (c : Cl E B S σ ρ ι L t TL N NZ) {i : Nat} (hi : H6 i TL = false) : bE i (N.map (·.1) ++ NZ.map (·.1)) = true := by
  unfold bE
  rw [List.all_eq_true]
  intro x hx
  cases x with
  | none => rfl
  | some j =>
    have hj : H6 j TL = true := by
      rcases List.mem_append.1 hx with hx | hx
      · obtain ⟨p,hp,he⟩ := List.mem_map.1 hx
        exact c.tm p hp j he
      · obtain ⟨p,hp,he⟩ := List.mem_map.1 hx
        exact c.tz p hp j he
    have : j ≠ i := fun e => by subst e; rw [hi] at hj; cases hj
    simp [eX this]
theorem P2 {i : Nat} {x : Option Nat} (h : ∀ j,x = some j → j ≠ i) : KL (L.setIfInBounds i true) x = KL L x := WF h
theorem Cl.set (c : Cl E B S σ ρ ι L t TL N NZ) {i : Nat} (hi : H6 i TL = false) : Cl E B S σ ρ ι (L.setIfInBounds i true) t TL N NZ := by
  have hne : ∀ j,H6 j TL = true → j ≠ i := fun j hj e => by subst e; rw [hi] at hj; cases hj
  exact ⟨fun p hp hr => c.m1 p hp (by rw [← P2 fun j hj => hne j (c.tm p hp j hj)]; exact hr),fun p hp hr => c.z1 p hp (by rw [← P2 fun j hj => hne j (c.tz p hp j hj)]; exact hr),c.m2,c.z2,c.tm,c.tz⟩
theorem CN.grow {N2 : List (Option Nat × Nat × List Value)} {NZ2 : List (Option Nat × It)} : ∀ L w,CN B (N ++ N2) (NZ ++ NZ2) L w → CN B N NZ L w := fun _ _ ⟨M,Z,hW,k1,k2⟩ => ⟨M,Z,hW,fun p hp => k1 p (List.mem_append_left _ hp),fun z hz => k2 z (List.mem_append_left _ hz)⟩
theorem Jk {i : Nat} {x : Option Nat} (h : KL (L.setIfInBounds i true) x = false) : KL L x = false ∧ x ≠ some i := by
  cases x with
  | none => exact ⟨rfl,fun h => nomatch h⟩
  | some j =>
    by_cases hj : j = i
    · subst hj
      have h' : (L.setIfInBounds j true).getD j true = false := h
      simp only [Array.getD_eq_getD_getElem?] at h'
      by_cases hb : j < L.size
      · rw [Array.getElem?_setIfInBounds_self_of_lt hb] at h'; cases h'
      · rw [Array.getElem?_eq_none (by simpa using hb)] at h'; cases h'
    · exact ⟨by rw [← P2 (i := i) (x := some j) (fun q hq => by cases hq; exact hj)]; exact h,fun e => hj (Option.some.inj e)⟩
theorem Rel.bare (h : Rel E B θ n ds S a w σ ρ ι) : Rel E B θ n ds (bare S) a w σ ρ ι :=
  { it := (fun _ h => nomatch h),wF := h.wF,wM := (fun _ h => nomatch h),wZ := (fun _ h => nomatch h),nZ := List.nodup_nil,ca := (fun _ h => nomatch h),pn := h.pn,pi := ⟨h.pi.1,fun _ h => nomatch h⟩,fr := h.fr,st := h.st.sub (List.nil_sublist _) (List.nil_sublist _) }
theorem Cl.again {S' : St E.c} (c : Cl E B S σ ρ ι L t TL N NZ) (hM : S'.M = S.M) (hZ : S'.Z = S.Z) : Cl E B S' σ ρ ι L t TL N NZ := by
  have e1 : S'.mm E σ ρ = S.mm E σ ρ := by show S'.M.map _ = _; rw [hM]
  have e2 : S'.zz ι = S.zz ι := by show S'.Z.map _ = _; rw [hZ]
  exact ⟨by rw [e1]; exact c.m1,by rw [e2]; exact c.z1,by rw [e1]; exact c.m2,by rw [e2]; exact c.z2,c.tm,c.tz⟩
theorem Pc {ops : Array Oper} {k : Nat} {o : Oper} {K : Act → World → Prop} (ho : ops[k]? = some o) (h : wpList P ops (XH Q K) [o] a w) : wpOp P ops Q k K a w := by
  unfold wpOp
  simp only [ho]
  unfold wpList at h
  split
  · rename_i hw
    rw [if_pos hw] at h
    refine h.imp (fun h => ?_) (fun ⟨h1,a',w',h2⟩ => ⟨h1,a',w',h2⟩)
    unfold Oper.wp at h ⊢
    generalize (execOp a.eval o).run P w = res at h ⊢
    cases res with
    | ok nx w2 =>
      cases nx <;> simp only [Oper.upon] at h ⊢ <;> try exact h
    | halt st w2 => cases st <;> first | exact h | exact h.elim
  · rename_i hw
    rw [if_neg hw] at h
    exact h
theorem aF {R : List Nat} {j : Nat} (h : H6 j R = true) : UO R (some j) = true := by
  show R.contains j = true
  simpa using KZ.1 h
theorem Cl.fresh {t' : Option Nat} {i : Nat} {S' : St E.c} {σ' : Nat → Value} {ρ' : Nat → Nat} {ι' : Nat → It} (c : Cl E B S σ ρ ι L t TL N NZ) (ht : ∀ j,t' = some j → H6 j TL = true)
    (hm : ∀ p ∈ N,KL (L.setIfInBounds i true) p.1 = false → p.2 ∈ S'.mm E σ' ρ' ∧ p.1 = t') (hz : ∀ p ∈ NZ,KL (L.setIfInBounds i true) p.1 = false → p.2 ∈ S'.zz ι' ∧ p.1 = t') :
    Cl E B S' σ' ρ' ι' (L.setIfInBounds i true) t' TL (N ++ (S'.mm E σ' ρ').map fun p => (t',p)) (NZ ++ (S'.zz ι').map fun p => (t',p)) := by
  refine ⟨fun p hp hr => ?_,fun p hp hr => ?_,fun p hp => List.mem_append_right _ (List.mem_map.2 ⟨p,hp,rfl⟩),fun p hp => List.mem_append_right _ (List.mem_map.2 ⟨p,hp,rfl⟩),fun p hp j hj => ?_,fun p hp j hj => ?_⟩
  · rcases List.mem_append.1 hp with hp | hp
    · exact hm p hp hr
    · obtain ⟨q,hq,rfl⟩ := List.mem_map.1 hp; exact ⟨hq,rfl⟩
  · rcases List.mem_append.1 hp with hp | hp
    · exact hz p hp hr
    · obtain ⟨q,hq,rfl⟩ := List.mem_map.1 hp; exact ⟨hq,rfl⟩
  · rcases List.mem_append.1 hp with hp | hp
    · exact c.tm p hp j hj
    · obtain ⟨q,hq,rfl⟩ := List.mem_map.1 hp; exact ht j hj
  · rcases List.mem_append.1 hp with hp | hp
    · exact c.tz p hp j hj
    · obtain ⟨q,hq,rfl⟩ := List.mem_map.1 hp; exact ht j hj
theorem UI {tb : Tb} (T : TbOk E P tb) {G : Hq E P} (hG : ConsOk B G) {l0 : List Oper} {TL : List Nat} {k : St E.c → Tree R} {r : R} : ∀ (ks : List (Bool × Nat)) {L : Array Bool} {S : St E.c} {a : Act} {w : World} {σ : Nat → Value} {ρ : Nat → Nat} {ι : Nat → It} {N : List (Option Nat × Nat × List Value)} {NZ : List (Option Nat × It)},
    Rel E B θ n ds S a w σ ρ ι → Cl E B S σ ρ ι L (IJ G l0 ks) TL N NZ → (∀ j,IJ G l0 ks = some j → H6 j TL = true) → (dP E tb G n l0 TL k ks L S).den = some r →
    (∀ S' a' w' σ' ρ' ι',Ext S S' → Rel E B θ n ds S' a' w' σ' ρ' ι' → (k S').den = some r → Q .normal a' w') → UC P l0.toArray Q (CN B N NZ) ks L a w
  | [],L,S,a,w,σ,ρ,ι,N,NZ,h,c,ht,e,K => K S a w σ ρ ι (Ext.refl S) h e
  | (true, i) :: ks, L, S, a, w, σ, ρ, ι, N, NZ, h, c, ht, e, K => by
    have c : Cl E B S σ ρ ι L (IJ G l0 ks) TL N NZ := c
    have ht : ∀ j,IJ G l0 ks = some j → H6 j TL = true := ht
    unfold dP at e
    split at e
    · cases e
    · rename_i hi
      split at e
      · rename_i d op ty pos aft g ho
        have ho' : l0.toArray[i]? = some ⟨some d,op,ty,pos,aft,g⟩ := by rw [List.getElem?_toArray, ← Jg]; exact ho
        split at e
        · rename_i hn
          refine i5 (o := ⟨some d,op,ty,pos,aft,g⟩) h e (fun S' ⟨x,hM,hZ⟩ h' hw e' => ?_) fun S' ⟨x,hM,hZ⟩ h' hw e' => ?_
          · have c' := c.again hM hZ
            have go : ∀ Rl : List Nat,VX .any l0.toArray L i Rl = true → UO Rl (IJ G l0 ks) = true → (oE E tb op S' fun v x S' => dP E tb G n l0 TL k ks (L.setIfInBounds i true) (S'.putC d v x)).den = some r → UC P l0.toArray Q (CN B N NZ) ((true,i) :: ks) L a w := by
              intro Rl hR hRt e'
              obtain ⟨v,y,S2,σ2,ι2,h1,x1,e1,hv,hcc,hag,hz1,hb1,⟨hF2,hM2,hC2,X,hZ2⟩,hι,hy⟩ := dY (dst := some d) (ty := ty) (pos := pos) (aft := aft) (g := g) T h' e'
              have em : S2.mm E σ2 ρ = S'.mm E σ ρ := by
                show S2.M.map _ = _
                rw [hM2]; exact R3 (S := S') h'.wM hag
              have ez : S2.zz ι2 = (X.map fun p => ι2 p.1) ++ S'.zz ι := by
                show S2.Z.map _ = _
                rw [hZ2,List.map_append]
                congr 1
                exact List.map_congr_left fun p hp => hι p.1 (h'.wZ p hp).1
              have c2 : Cl E B S2 σ2 ρ ι2 L (IJ G l0 ks) TL N (NZ ++ (S2.zz ι2).map fun p => (IJ G l0 ks,p)) := by
                refine ⟨by rw [em]; exact c'.m1,fun p hp hr => ?_,by rw [em]; exact c'.m2,fun p hp => List.mem_append_right _ (List.mem_map.2 ⟨p,hp,rfl⟩),c'.tm,fun p hp j hj => ?_⟩
                · rcases List.mem_append.1 hp with hp | hp
                  · obtain ⟨q1,q2⟩ := c'.z1 p hp hr
                    exact ⟨by rw [ez]; exact List.mem_append_right _ q1,q2⟩
                  · obtain ⟨q,hq,rfl⟩ := List.mem_map.1 hp; exact ⟨hq,rfl⟩
                · rcases List.mem_append.1 hp with hp | hp
                  · exact c'.tz p hp j hj
                  · obtain ⟨q,hq,rfl⟩ := List.mem_map.1 hp; exact ht j hj
              have hgrow : ∀ L w,CN B N (NZ ++ (S2.zz ι2).map fun p => (IJ G l0 ks,p)) L w → CN B N NZ L w := fun _ _ ⟨M,Z,hW,k1,k2⟩ => ⟨M,Z,hW,k1,fun z hz => k2 z (List.mem_append_left _ hz)⟩
              refine ⟨_,hgrow,(c2.set hi).cn h1,_,v.val E.sz σ2 ρ,Rl,ho',.inl ⟨hw,yC fun M Z q1 q2 => hy M Z (fun p hp => q1 _ (c2.m2 p hp) hRt) fun p hp => q2 _ (c2.z2 p hp) hRt⟩,hR,R4 (c2.off hi), ?_⟩
              have hf : Fr n ds ((d,v.val E.sz σ2 ρ) :: S2.ff E σ2 ρ) (a.put (some d) (v.val E.sz σ2 ρ)) := h1.fr.put (zf hn) _
              refine UI T hG ks (h1.putC hcc hv hf) ((c2.set hi).again (by cases y <;> rfl) (by cases y <;> rfl)) ht e1 fun S3 a3 w3 σ3 ρ3 ι3 x3 h3 e3 => K S3 a3 w3 σ3 ρ3 ι3 (((x.trans x1).trans (Ext.putC _ _ _ _)).trans x3) h3 e3
            split at e'
            · rename_i htag
              exact go [] rfl (by rw [htag]; rfl) e'
            · rename_i j htag
              split at e'
              · rename_i hmem
                split at e'
                · rename_i hR
                  exact go _ hR (by rw [htag]; exact aF hmem) e'
                · cases e'
              · split at e'
                · rename_i v hv
                  have hb := h'.bare
                  have hev := fun M Z => RN (dst := some d) (ty := ty) (pos := pos) (aft := aft) (g := g) (M := M) (Z := Z) T hb (fun _ h => nomatch h) (fun _ h => nomatch h) hv
                  refine ⟨CN B N NZ,fun _ _ h => h,(c'.set hi).cn h',_,v.val E.sz σ ρ,[],ho',.inl ⟨hw,yC fun M Z _ _ => (hev M Z).1⟩,rfl,R4 (c'.off hi), ?_⟩
                  have hf : Fr n ds ((d,v.val E.sz σ ρ) :: S'.ff E σ ρ) (a.put (some d) (v.val E.sz σ ρ)) := h'.fr.put (zf hn) _
                  exact UI T hG ks (h'.put (hev [] []).2 hf) ((c'.set hi).again rfl rfl) ht e' fun S3 a3 w3 σ3 ρ3 ι3 x3 h3 e3 => K S3 a3 w3 σ3 ρ3 ι3 ((x.trans (Ext.put S' d _)).trans x3) h3 e3
                · cases e'
          · have c' := c.again hM hZ
            refine ⟨CN B N NZ,fun _ _ h => h,(c'.set hi).cn h',_,undef,[],ho',.inr ⟨hw,rfl⟩,rfl,R4 (c'.off hi), ?_⟩
            have hf : Fr n ds ((d,undef) :: S'.ff E σ ρ) (a.put (some d) undef) := h'.fr.put (zf hn) _
            exact UI T hG ks (h'.put (v := .tup []) rfl hf) ((c'.set hi).again rfl rfl) ht e' fun S3 a3 w3 σ3 ρ3 ι3 x3 h3 e3 => K S3 a3 w3 σ3 ρ3 ι3 ((x.trans (Ext.put S' d _)).trans x3) h3 e3
        · cases e
      · cases e
  | (false, i) :: ks, L, S, a, w, σ, ρ, ι, N, NZ, h, c, ht, e, K => by
    unfold dP at e
    split at e
    · rename_i dst op ty pos aft g ho
      have ho' : l0.toArray[i]? = some ⟨dst,op,ty,pos,aft,g⟩ := by rw [List.getElem?_toArray, ← Jg]; exact ho
      split at e
      · rename_i htk
        have ht' : ∀ j,IJ G l0 ks = some j → H6 j TL = true := fun j hj => by rw [hj] at htk; exact htk
        have htag : IJ G l0 ((false,i) :: ks) = match kW G op with | true => some i | false => IJ G l0 ks := by
          show (match Pl l0 i with | some o => (match kW G o.op with | true => some i | false => IJ G l0 ks) | none => none) = _
          rw [ho]
        show wpOp P l0.toArray Q i _ a w
        refine i5 (o := ⟨dst,op,ty,pos,aft,g⟩) h e (fun S' ⟨x,hM,hZ⟩ h' hw e' => ?_) fun S' ⟨x,hM,hZ⟩ h' hw e' => ?_
        · have c' := c.again hM hZ
          refine Pc ho' (YW hw (gV T hG h'.repin e' fun S3 a3 w3 σ3 ρ3 ι3 x3 h3 e3 => ?_))
          have h3u := h'.unpin x3 h3
          show ∃ C' : Array Bool → World → Prop,_
          have fin : ∀ N' NZ',Cl E B S3 σ3 ρ3 ι3 (L.setIfInBounds i true) (IJ G l0 ks) TL (N ++ N') (NZ ++ NZ') → (dP E tb G n l0 TL k ks (L.setIfInBounds i true) S3).den = some r → ∃ C' : Array Bool → World → Prop,(∀ L w,C' L w → CN B N NZ L w) ∧ C' (L.setIfInBounds i true) w3 ∧ UC P l0.toArray Q C' ks (L.setIfInBounds i true) a3 w3 := fun N' NZ' c3 e3 =>
            ⟨_,CN.grow,c3.cn h3u,UI T hG ks h3u c3 ht' e3 fun S4 a4 w4 σ4 ρ4 ι4 x4 h4 e4 => K S4 a4 w4 σ4 ρ4 ι4 ((x.trans x3).trans x4) h4 e4⟩
          split at e3
          · rename_i hmod
            rw [hmod] at htag
            refine fin _ _ (c'.fresh ht' (fun p hp hr => ?_) fun p hp hr => ?_) e3
            · obtain ⟨q1,q2⟩ := Jk hr
              exact absurd ((c'.m1 p hp q1).2.trans htag) q2
            · obtain ⟨q1,q2⟩ := Jk hr
              exact absurd ((c'.z1 p hp q1).2.trans htag) q2
          · rename_i hmod
            rw [hmod] at htag
            split at e3
            · rename_i hsM
              split at e3
              · rename_i hsZ
                refine fin _ _ (c'.fresh ht' (fun p hp hr => ?_) fun p hp hr => ?_) e3
                · obtain ⟨q1,q2⟩ := Jk hr
                  obtain ⟨q3,q4⟩ := c'.m1 p hp q1
                  refine ⟨?_,q4.trans htag⟩
                  obtain ⟨s,hs,hse⟩ := List.mem_map.1 q3
                  have f1 := F7 h'.ndM (show (s.1,s.2) ∈ _ from hs)
                  obtain ⟨y,f2⟩ := IQ hsM f1
                  have f3 := x3.M _ _ f2 (h'.wM s hs).2.1
                  rw [f1] at f3
                  have f4 : s.2 = (s.2.1,y) := Option.some.inj f3
                  rw [← f4] at f2
                  refine List.mem_map.2 ⟨s,A8 f2, ?_⟩
                  rw [← hse]
                  show (ρ3 s.1,s.2.2.map (CV.val E.sz σ3 ρ3)) = _
                  rw [Hl h3.pn.1 (h'.wM s hs).2.2,h3.pn.1.2 s.1 (h'.wM s hs).1]
                · obtain ⟨q1,q2⟩ := Jk hr
                  obtain ⟨q3,q4⟩ := c'.z1 p hp q1
                  refine ⟨?_,q4.trans htag⟩
                  obtain ⟨s,hs,hse⟩ := List.mem_map.1 q3
                  have f1 := F7 h'.nZ (show (s.1,s.2) ∈ _ from hs)
                  obtain ⟨y,f2⟩ := IQ hsZ f1
                  have f3 := x3.Z _ _ f2 (h'.wZ s hs).2
                  rw [f1] at f3
                  have f4 : s.2 = (s.2.1,y) := Option.some.inj f3
                  rw [← f4] at f2
                  refine List.mem_map.2 ⟨s,A8 f2, ?_⟩
                  rw [← hse]
                  exact h3.pi.2 s (A8 f2) (h'.wZ s hs).2
              · cases e3
            · cases e3
        · have c' := c.again hM hZ
          split at e'
          · rename_i d
            split at e'
            · rename_i hn
              refine Pc ho' (VJ h'.fr hw rfl hn fun a' hf => ?_)
              have h3 := h'.put (v := .tup []) rfl hf
              show ∃ C' : Array Bool → World → Prop,_
              have c3 : Cl E B S' σ ρ ι (L.setIfInBounds i true) (IJ G l0 ks) TL (N ++ (S'.mm E σ ρ).map fun p => (IJ G l0 ks,p)) (NZ ++ (S'.zz ι).map fun p => (IJ G l0 ks,p)) := by
                refine c'.fresh ht' (fun p hp hr => ?_) fun p hp hr => ?_
                · obtain ⟨q1,q2⟩ := Jk hr
                  obtain ⟨q3,q4⟩ := c'.m1 p hp q1
                  refine ⟨q3,q4.trans ?_⟩
                  rw [htag]
                  split
                  · rename_i hmod; rw [htag,hmod] at q4; exact absurd q4 q2
                  · rfl
                · obtain ⟨q1,q2⟩ := Jk hr
                  obtain ⟨q3,q4⟩ := c'.z1 p hp q1
                  refine ⟨q3,q4.trans ?_⟩
                  rw [htag]
                  split
                  · rename_i hmod; rw [htag,hmod] at q4; exact absurd q4 q2
                  · rfl
              have c4 : Cl E B (S'.put d (.tup [])) σ ρ ι (L.setIfInBounds i true) (IJ G l0 ks) TL _ _ := c3.again rfl rfl
              exact ⟨_,CN.grow,c4.cn h3,UI T hG ks h3 c4 ht' e' fun S4 a4 w4 σ4 ρ4 ι4 x4 h4 e4 => K S4 a4 w4 σ4 ρ4 ι4 ((x.trans (Ext.put S' d _)).trans x4) h4 e4⟩
            · cases e'
          · cases e'
      · cases e
    · cases e
theorem vV {tb : Tb} (T : TbOk E P tb) {G : Hq E P} (hG : ConsOk B G) {id : Nat} {l : List Oper} {k : St E.c → Tree R} {r : R} (h : Rel E B θ n ds S a w σ ρ ι) (e : (dR E tb G n l k S).den = some r)
    (K : ∀ S' a' w' σ' ρ' ι',Ext S S' → Rel E B θ n ds S' a' w' σ' ρ' ι' → (k S').den = some r → Q .normal a' w') : (Code.region id l.toArray true).wr none P Q a w := by
  unfold dR at e
  split at e
  · rename_i hB
    simp only [zg,decide_eq_true_eq] at hB
    obtain ⟨⟨hsel,hlen⟩,hpl,hd⟩ := hB
    split at e
    · rename_i htag
      refine J9 (Q := fun e a w => match e with | .panic _ => False | e => Q e a w) (fun e a w he => by cases e <;> first | exact he | exact he.elim) ?_
      have hd' : SI none l = true := hd
      refine GY hd' T.mo ?_
      have h1 : Rel E B θ n ds S a { w with drawn := w.drawn + 1 } σ ρ ι := { toStC := h.toStC,fr := h.fr,st := h.st.drew }
      have ht : ∀ j,IJ G l (Pz tb l l.length (Array.replicate l.length false)) = some j → H6 j (Uw (Pz tb l l.length (Array.replicate l.length false))) = true := fun j hj => by rw [hj] at htag; exact htag
      have c : Cl E B S σ ρ ι (Array.replicate l.toArray.size false) (IJ G l (Pz tb l l.length (Array.replicate l.length false))) (Uw (Pz tb l l.length (Array.replicate l.length false))) ((S.mm E σ ρ).map fun p => (IJ G l (Pz tb l l.length (Array.replicate l.length false)),p)) ((S.zz ι).map fun p => (IJ G l (Pz tb l l.length (Array.replicate l.length false)),p)) := by
        refine ⟨fun p hp hr => ?_,fun p hp hr => ?_,fun p hp => List.mem_map.2 ⟨p,hp,rfl⟩,fun p hp => List.mem_map.2 ⟨p,hp,rfl⟩,fun p hp j hj => ?_,fun p hp j hj => ?_⟩
        · obtain ⟨q,hq,rfl⟩ := List.mem_map.1 hp; exact ⟨hq,rfl⟩
        · obtain ⟨q,hq,rfl⟩ := List.mem_map.1 hp; exact ⟨hq,rfl⟩
        · obtain ⟨q,hq,rfl⟩ := List.mem_map.1 hp; exact ht j hj
        · obtain ⟨q,hq,rfl⟩ := List.mem_map.1 hp; exact ht j hj
      have hp := UI (Q := fun e a w => match e with | .panic _ => False | e => Q e a w) T hG _ h1 c ht e fun S' a' w' σ' ρ' ι' x' h' e' => K S' a' w' σ' ρ' ι' x' h' e'
      have := LZ (Of (P := P) (Q' := fun e a w => match e with | .panic _ => False | e => Q e a w) (fun _ _ _ _ _ _ _ h => h.elim) hsel _ _ _ a _ hpl (c.cn h1) hp)
      rw [hlen] at this
      simpa using this
    · cases e
  · cases e
end
end Go.Proofs.YtkhiflmalgkjiaaGreat
