/- Calls, by contracts. Conditions: none. -/
import Derived.Test.YtkhiflmalgkjiaaGreateHM
set_option linter.unusedVariables false
set_option linter.unusedSimpArgs false
open Go Go.RowKit
namespace Go.Proofs.YtkhiflmalgkjiaaGreat
def WU : List (Bool × Nat) → List CV → List (Bool × List CV)
  | [],_ => []
  | (q,k) :: r,cs => (q,cs.take k) :: WU r (cs.drop k)
def jI : List (Bool × Nat) → List (Bool × List CV) → Option (List CV)
  | [],[] => some []
  | (q,k) :: r,(q',l) :: gs => match (match q,q' with | true,true => true | false,false => true | _,_ => false) with
    | true => match Nat.beq l.length k with
      | true => match jI r gs with | some s => some (l ++ s) | none => none
      | false => none
    | false => none
  | _,_ => none
def Yp : List CV → Option (List Nat)
  | [] => some []
  | .ptr b 0 :: r => match Yp r with | some s => some (b :: s) | none => none
  | _ => none
def Im (E : TE) : Sh → List AV → Option (List CV × List Nat)
  | [],[] => some ([],[])
  | (.b true,l) :: r,.agg cs :: vs => match Nat.beq cs.length (Ao E l) with
    | true => match Im E r vs with | some (s,js) => some (cs ++ s,js) | none => none
    | false => none
  | (.b false,l) :: r,.one c :: vs => match Nat.beq 1 (Ao E l) with
    | true => match Im E r vs with | some (s,js) => some (c :: s,js) | none => none
    | false => none
  | (.p,l) :: r,.one (.ptr b 0) :: vs => match Nat.beq 0 (Ao E l) with
    | true => match Im E r vs with | some (s,js) => some (s,b :: js) | none => none
    | false => none
  | (.fn f gs m,l) :: r,.fnv f' gs' ps :: vs => match Nat.beq f f' with
    | true => match jI gs gs' with
      | some cs => match Yp ps with
        | some bs => match Nat.beq bs.length m with
          | true => match Nat.beq cs.length (Ao E l) with
            | true => match Im E r vs with | some (s,js) => some (cs ++ s,bs ++ js) | none => none
            | false => none
          | false => none
        | none => none
      | none => none
    | false => none
  | _,_ => none
def bC (E : TE) : Sh → List CV → Option (List (Bool × List CV))
  | [],_ => some []
  | (.b b,l) :: r,cs => match bC E r (cs.drop (Ao E l)) with | some s => some ((b,cs.take (Ao E l)) :: s) | none => none
  | _ :: _,_ => none
def qW (E : TE) (ys : Sh) (cs : List CV) : Option AV := match bC E ys cs with
  | some [p] => YP p
  | some l => some (.tup l)
  | none => none
def Yk {c : Nat → Type} : List (Leaf c) → Bool
  | [] => true
  | .v _ :: L => Yk L
  | .s z :: L => match z.k with | .rd => false | _ => Yk L
def Rm (E : TE) : List CK → List CV → List CV
  | [],_ => []
  | .d _ u :: r,cs => Rm E r (cs.drop (E.sz u))
  | .o _ _ :: r,c :: cs => c :: Rm E r cs
  | .o _ _ :: r,[] => []
def Tq {c : Nat → Type} : List CV → List CV → St c → Option (St c)
  | [],_,S => some S
  | .sl z :: r,.sl z' :: r',S => match CG S.Z z with
    | some _ => none
    | none => match Xo S.Z z' with
      | some ((_,x),Zr) => Tq r r' { S with Z := (z,S.nv,x) :: Zr,C := [],nv := S.nv + 1 }
      | none => none
  | .nil :: r,_ :: r',S => Tq r r' S
  | _,_,_ => none
def bH {β : Type _} : List (Nat × β) → List Nat → Option (List (Nat × β) × List (Nat × β))
  | M,[] => some ([],M)
  | M,j :: js => match Xo M j with
    | some (x,Mr) => match bH Mr js with | some (es,R) => some ((j,x) :: es,R) | none => none
    | none => none
def bP (E : TE) : Bk → List (Nat × Nat × List CV) → Bool
  | [],[] => true
  | (_,l) :: bs,(_,_,cs) :: es => match Nat.beq cs.length (Ao E l) with | true => bP E bs es | false => false
  | _,_ => false
def I5 : List (Nat × Nat × List CV) → List CV
  | [] => []
  | e :: es => e.2.2 ++ I5 es
def aB (E : TE) : Bk → List Nat → List CV → St E.c → Option (St E.c)
  | [],[],_,S => some S
  | (false,_) :: bs,_ :: js,cs,S => aB E bs js cs S
  | (true,l) :: bs,j :: js,cs,S => match Xo S.M j with
    | some (_,Mr) => aB E bs js (cs.drop (Ao E l)) { S with M := (j,S.nv,cs.take (Ao E l)) :: Mr,V := (j,List.replicate (cs.take (Ao E l)).length S.nv) :: S.V,nv := S.nv + 1 }
    | none => none
  | _,_,_,_ => none
def lQ {R : Type} (E : TE) {P : Program} (C : Con E P) (cs : List CV) (js : List Nat) (S : St E.c) (k : AV → St E.c → Tree R) (r : TT E.c (I0 C.xs C.ys C.bs C.io)) : Tree R :=
  match Re E (I0 C.xs C.ys C.bs C.io) r with
  | some L => match Yk L with
    | true => match injS S L with
      | (cs',S') => match (match C.io with
          | true => Tq (Rm E (flt C.xs) cs) (cs'.drop (Ao E (flt C.ys ++ ZW C.bs))) S'
          | false => some S') with
        | some S'' => match aB E C.bs js (cs'.drop (Ao E (flt C.ys))) S'' with
          | some S3 => match qW E C.ys cs' with
            | some v => k v S3
            | none => .fail
          | none => .fail
        | none => .fail
    | false => .fail
  | none => .fail
def dZ (E : TE) {P : Program} : Hz E P → Nat → List AV → Option (Con E P × List CV × List Nat)
  | [],_,_ => none
  | (j,C) :: r,f,vs => match Nat.beq j f with
    | true => match Im E C.xs vs with
      | some (cs,js) => some (C,cs,js)
      | none => dZ E r f vs
    | false => dZ E r f vs
theorem Vr {E : TE} {P : Program} : ∀ {G : Hz E P} {f : Nat} {vs : List AV} {C : Con E P} {cs : List CV} {js : List Nat},dZ E G f vs = some (C,cs,js) → (f,C) ∈ G ∧ Im E C.xs vs = some (cs,js)
  | [],f,vs,C,cs,js,e => nomatch e
  | (j, D) :: r, f, vs, C, cs, js, e => by
    unfold dZ at e
    split at e
    · rename_i hj
      obtain rfl := Nat.eq_of_beq_eq_true hj
      split at e
      · rename_i cs' js' hc
        cases e
        exact ⟨List.mem_cons_self ..,hc⟩
      · obtain ⟨h1,h2⟩ := Vr e
        exact ⟨List.mem_cons_of_mem _ h1,h2⟩
    · obtain ⟨h1,h2⟩ := Vr e
      exact ⟨List.mem_cons_of_mem _ h1,h2⟩
def UG {R : Type} (E : TE) {P : Program} (G : Hz E P) (f : Nat) (vs : List AV) (S : St E.c) (k : AV → St E.c → Tree R) : Tree R :=
  match dZ E G f vs with
  | some (C, cs, js) => match bH S.M js with
    | some (es,_) => match bP E C.bs es with
      | true => match pk E true (Do C.xs C.bs) S (cs ++ I5 es) with
        | some (x,S') => match Re E (Do C.xs C.bs) x with
          | some _ => match C.pu with
            | some g => lQ E C cs js S' k (g.1 x)
            | none => .bnd (C.tw x) (lQ E C cs js S' k)
          | none => .fail
        | none => .fail
      | false => .fail
    | none => .fail
  | none => .fail
section
variable {E : TE} {P : Program} {B : Bs} {θ : Pin} {n : Nat} {ds : List Deferred} {S : St E.c} {a : Act} {w : World} {σ : Nat → Value} {ρ : Nat → Nat} {ι : Nat → It} {R : Type}
variable {ops : Array Oper} {Q : Exit → Act → World → Prop} {rest : List Oper} {ty : TypeId} {pos : String} {aft : Array Edge}
theorem Yz : ∀ {gs : List (Bool × Nat)} {gs' : List (Bool × List CV)} {cs : List CV},jI gs gs' = some cs → gs'.map (Kh E.sz σ ρ) = UL gs (cs.map (CV.val E.sz σ ρ)) ∧ ∀ nz nb,Bw (fun p => Bw (CV.wf nz nb) p.2) gs' = true → Bw (CV.wf nz nb) cs = true
  | [],[],cs,e => by cases e; exact ⟨rfl,fun _ _ _ => rfl⟩
  | [],_ :: _,cs,e => nomatch e
  | _ :: _,[],cs,e => nomatch e
  | (q, k) :: r, (q', l) :: gs', cs, e => by
    unfold jI at e
    split at e
    · rename_i hq
      split at e
      · rename_i hl
        split at e
        · rename_i s hs
          cases e
          have hl := Nat.eq_of_beq_eq_true hl
          obtain ⟨h1,h2⟩ := Yz hs
          refine ⟨?_,fun nz nb hw => Ac.2 fun c hc => ?_⟩
          · rw [List.map_cons,h1,List.map_append]
            show _ = cG q (List.take k _) :: UL r (List.drop k _)
            rw [← hl,List.take_left' (by rw [List.length_map]),List.drop_left' (by rw [List.length_map])]
            congr 1
            cases q <;> cases q' <;> first | (cases hq; done) | rfl | (cases l <;> rfl)
          · rcases List.mem_append.1 hc with hc | hc
            · exact Ac.1 (Ac.1 hw _ (List.mem_cons_self ..)) c hc
            · exact Ac.1 (h2 nz nb (Ac.2 fun p hp => Ac.1 hw p (List.mem_cons_of_mem _ hp))) c hc
        · cases e
      · cases e
    · cases e
theorem VU : ∀ {ps : List CV} {bs : List Nat},Yp ps = some bs → ps.map (CV.val E.sz σ ρ) = (bs.map ρ).map fun b => .pointer (some ⟨b,0,none⟩)
  | [],bs,e => by cases e; rfl
  | c :: r,bs,e => by
    unfold Yp at e
    split at e
    · rename_i h; cases h
    · rename_i b r' h
      cases h
      split at e
      · rename_i s hs
        cases e
        rw [List.map_cons,VU hs]; rfl
      · cases e
    · cases e
theorem Uy : ∀ {xs : Sh} {vs : List AV} {cs : List CV} {js : List Nat},Im E xs vs = some (cs,js) → vs.map (AV.val E.sz σ ρ) = HD E xs (cs.map (CV.val E.sz σ ρ)) (js.map ρ) ∧ (∀ nz nb,(∀ v ∈ vs,v.wf nz nb = true) → Bw (CV.wf nz nb) cs = true) ∧ cs.length = Ao E (flt xs) := by
  intro xs
  induction xs with
  | nil =>
    intro vs cs js e
    cases vs with
    | nil => cases e; exact ⟨rfl,fun _ _ _ => rfl,rfl⟩
    | cons v vs => cases e
  | cons p r ih =>
    intro vs cs js e
    have HT : ∀ (c1 s : List CV) (l : List CK) (g : GK) (vs : List AV),c1.length = Ao E l → s.length = Ao E (flt r) → (c1 ++ s).length = Ao E (flt ((g,l) :: r)) := fun c1 s l g vs h1 h2 => by
      rw [List.length_append,h1,h2]
      exact (IV l (flt r)).symm
    obtain ⟨g,l⟩ := p
    cases vs with
    | nil => cases g with
      | b q => cases q <;> cases e
      | p => cases e
      | fn f gs m => cases e
    | cons v vs' =>
    cases g with
    | b q =>
      cases q with
      | true =>
        cases v with
        | one c => cases e
        | tup l => cases e
        | fnv f gs ps => cases e
        | agg c1 =>
        unfold Im at e
        split at e
        · rename_i hl
          split at e
          · rename_i s js' hs
            cases e
            obtain ⟨h1,h2,h3⟩ := ih hs
            have hl := Nat.eq_of_beq_eq_true hl
            refine ⟨?_,fun nz nb hw => Ac.2 fun c hc => ?_,HT _ _ _ _ vs' hl h3⟩
            · rw [List.map_cons,h1,List.map_append]
              show _ = cG true (List.take _ _) :: HD E r (List.drop _ _) _
              rw [← hl,List.take_left' (by rw [List.length_map]),List.drop_left' (by rw [List.length_map])]
              rfl
            · rcases List.mem_append.1 hc with hc | hc
              · exact Ac.1 (hw _ (List.mem_cons_self ..)) c hc
              · exact Ac.1 (h2 nz nb fun v hv => hw v (List.mem_cons_of_mem _ hv)) c hc
          · cases e
        · cases e
      | false =>
        cases v with
        | agg c => cases e
        | tup l => cases e
        | fnv f gs ps => cases e
        | one c1 =>
        unfold Im at e
        split at e
        · rename_i hl
          split at e
          · rename_i s js' hs
            cases e
            obtain ⟨h1,h2,h3⟩ := ih hs
            have hl := Nat.eq_of_beq_eq_true hl
            refine ⟨?_,fun nz nb hw => Ac.2 fun c hc => ?_,HT [c1] _ _ _ vs' hl h3⟩
            · rw [List.map_cons,h1,List.map_cons]
              show _ = cG false (List.take _ _) :: HD E r (List.drop _ _) _
              rw [← hl]
              rfl
            · rcases List.mem_cons.1 hc with rfl | hc
              · exact hw _ (List.mem_cons_self ..)
              · exact Ac.1 (h2 nz nb fun v hv => hw v (List.mem_cons_of_mem _ hv)) c hc
          · cases e
        · cases e
    | p =>
      cases v with
      | agg c => cases e
      | tup l => cases e
      | fnv f gs ps => cases e
      | one c1 =>
      cases c1 with
      | ptr b o =>
        cases o with
        | succ o => cases e
        | zero =>
        have e : (match Nat.beq 0 (Ao E l) with | true => (match Im E r vs' with | some (s,js) => some (s,b :: js) | none => none) | false => none) = some (cs,js) := e
        split at e
        · rename_i hl
          split at e
          · rename_i s js' hs
            cases e
            obtain ⟨h1,h2,h3⟩ := ih hs
            have hl := Nat.eq_of_beq_eq_true hl
            refine ⟨?_,fun nz nb hw => Ac.2 fun c hc => ?_,HT [] _ _ _ vs' hl h3⟩
            · rw [List.map_cons,h1]
              show _ = ptV _ :: HD E r (List.drop _ _) _
              rw [← hl]
              rfl
            · exact Ac.1 (h2 nz nb fun v hv => hw v (List.mem_cons_of_mem _ hv)) c hc
          · cases e
        · cases e
      | _ => cases e
    | fn f gs m =>
      cases v with
      | agg c => cases e
      | tup l => cases e
      | one c => cases e
      | fnv f' gs' ps =>
      unfold Im at e
      split at e
      · rename_i hf
        split at e
        · rename_i c1 hg
          split at e
          · rename_i bs hb
            split at e
            · rename_i hm
              split at e
              · rename_i hl
                split at e
                · rename_i s js' hs
                  cases e
                  obtain ⟨h1,h2,h3⟩ := ih hs
                  obtain ⟨k1,k2⟩ := Yz (E := E) (σ := σ) (ρ := ρ) hg
                  have hl := Nat.eq_of_beq_eq_true hl
                  have hm := Nat.eq_of_beq_eq_true hm
                  have hf := Nat.eq_of_beq_eq_true hf
                  refine ⟨?_,fun nz nb hw => Ac.2 fun c hc => ?_,HT _ _ _ _ vs' hl h3⟩
                  · rw [List.map_cons,h1,List.map_append,List.map_append]
                    show Value.func _ _ _ :: _ = Value.func _ (UL gs (List.take _ _)).toArray ((List.take m _).map _).toArray :: HD E r (List.drop _ _) (List.drop m _)
                    rw [← hl, ← hm,List.take_left' (by rw [List.length_map]),List.drop_left' (by rw [List.length_map]),List.take_left' (by rw [List.length_map]),List.drop_left' (by rw [List.length_map]),k1,VU (E := E) (σ := σ) hb,hf]
                  · rcases List.mem_append.1 hc with hc | hc
                    · exact Ac.1 (k2 nz nb (VD (hw _ (List.mem_cons_self ..))).2) c hc
                    · exact Ac.1 (h2 nz nb fun v hv => hw v (List.mem_cons_of_mem _ hv)) c hc
                · cases e
              · cases e
            · cases e
          · cases e
        · cases e
      · cases e
theorem U4 : ∀ (ys : Sh) (cs : List CV) {gs : List (Bool × List CV)},bC E ys cs = some gs → gs.map (Kh E.sz σ ρ) = HD E ys (cs.map (CV.val E.sz σ ρ)) []
  | [],cs,gs,e => by cases e; rfl
  | (.b b,l) :: r,cs,gs,e => by
    unfold bC at e
    split at e
    · rename_i s hs
      cases e
      show Kh E.sz σ ρ (b,cs.take _) :: s.map _ = cG b ((cs.map _).take _) :: HD E r ((cs.map _).drop _) []
      rw [U4 r _ hs, ← List.map_take, ← List.map_drop]
      congr 1
      cases b with
      | true => rfl
      | false => cases cs.take (Ao E l) <;> rfl
    · cases e
  | (.p,l) :: r,cs,gs,e => nomatch e
  | (.fn _ _ _,l) :: r,cs,gs,e => nomatch e
theorem U2 {nz nb : Nat} : ∀ (ys : Sh) (cs : List CV) {gs : List (Bool × List CV)},bC E ys cs = some gs → Bw (CV.wf nz nb) cs = true → ∀ p ∈ gs,Bw (CV.wf nz nb) p.2 = true
  | [],cs,gs,e,h,p,hp => by cases e; cases hp
  | (.b b,l) :: r,cs,gs,e,h,p,hp => by
    unfold bC at e
    split at e
    · rename_i s hs
      cases e
      rcases List.mem_cons.1 hp with rfl | hp
      · exact Ac.2 fun c hc => Ac.1 h c (List.mem_of_mem_take hc)
      · exact U2 r _ hs (Ac.2 fun c hc => Ac.1 h c (List.mem_of_mem_drop hc)) p hp
    · cases e
  | (.p,l) :: r,cs,gs,e,h,p,hp => nomatch e
  | (.fn _ _ _,l) :: r,cs,gs,e,h,p,hp => nomatch e
theorem iV {ys : Sh} {cs : List CV} {v : AV} {nz nb : Nat} (e : qW E ys cs = some v) (hw : Bw (CV.wf nz nb) cs = true) : v.val E.sz σ ρ = Rz E ys (cs.map (CV.val E.sz σ ρ)) ∧ v.wf nz nb = true := by
  unfold qW at e
  unfold Rz
  split at e
  · rename_i p hp
    have h1 := U4 (E := E) (σ := σ) (ρ := ρ) ys cs hp
    have h3 := U2 (E := E) ys cs hp hw p (List.mem_cons_self ..)
    rw [← h1]
    obtain ⟨b,l⟩ := p
    unfold YP at e
    split at e <;> rename_i he
    · cases e; cases he; exact ⟨rfl,h3⟩
    · cases e; cases he; exact ⟨rfl,Ac.1 h3 _ (List.mem_cons_self ..)⟩
    · cases e
  · rename_i l hp hl
    cases e
    have h1 := U4 (E := E) (σ := σ) (ρ := ρ) ys cs hl
    have h2 := U2 (E := E) ys cs hl hw
    rw [← h1]
    refine ⟨?_,Ac.2 fun p hp => h2 p hp⟩
    show Value.tuple _ = _
    split
    · rename_i v hv
      obtain ⟨p,hp',_⟩ := List.map_eq_singleton_iff.1 hv
      exact absurd (by rw [hp']) (hp p)
    · rfl
  · cases e
theorem JN.base {B' : Bs} : ∀ {L : List (Leaf E.c)} {cs : List Value} {its : List It},Yk L = true → JN Za (DI E B) L cs its → JN Za (DI E B') L cs its
  | [],cs,its,_,h => h
  | .v x :: L,cs,its,hn,⟨v,r,e,h1,h2,h⟩ => ⟨v,r,e,h1,h2,JN.base hn h⟩
  | .s z :: L,cs,its,hn,h => by
    obtain ⟨k,u,l⟩ := z
    rcases h with ⟨v,r,e,hi,h⟩ | ⟨v,r,it,its',e1,e2,⟨lx,g1,g2⟩,h⟩
    · exact hi.elim
    · cases k with
      | rd => cases hn
      | own e => exact .inr ⟨v,r,it,its',e1,e2,⟨lx,g1,g2⟩,JN.base hn h⟩
      | frz => exact .inr ⟨v,r,it,its',e1,e2,⟨lx,g1,g2⟩,JN.base hn h⟩
theorem JN.all {M : CQ} : ∀ {L : List (Leaf E.c)} {cs : List Value} {its X : List It},JN (VT E B w (Am M (its ++ X))) (DI E B) L cs its → Stw B M (its ++ X) w → ∃ its',JN Za (DI E B) L cs its' ∧ Stw B M (its' ++ X) w
  | [],cs,its,X,h,hW => ⟨[],⟨h.1,rfl⟩,by rw [h.2] at hW; exact hW⟩
  | .v x :: L,cs,its,X,⟨v,r,e,h1,h2,h⟩,hW => by
    obtain ⟨its',g1,g2⟩ := JN.all h hW
    exact ⟨its',⟨v,r,e,h1,h2,g1⟩,g2⟩
  | .s z :: L,cs,its,X,h,hW => by
    rcases h with ⟨v,r,e,hi,h⟩ | ⟨v,r,it,its',e1,e2,h1,h⟩
    · obtain ⟨it,hb,h1,h2⟩ := hW.note' hi
      have hp : (it :: (its ++ X)).Perm (its ++ it :: X) := List.perm_middle.symm
      obtain ⟨its',g1,g2⟩ := JN.all (X := it :: X) (h.mono (fun y u hy => hy.mono fun g hg => by
        have := ((Hs (M := M) hp).mem_iff (a := g)).2 hg
        rw [Q7 hb] at this
        exact this) fun _ _ _ h => h) (h2.permZ hp)
      exact ⟨it :: its',.inr ⟨v,r,it,its',e,rfl,h1,g1⟩,g2.permZ List.perm_middle⟩
    · subst e2
      have hp : (it :: (its' ++ X)).Perm (its' ++ it :: X) := List.perm_middle.symm
      obtain ⟨its'',g1,g2⟩ := JN.all (X := it :: X) (h.mono (fun y u hy => hy.mono fun g hg => ((Hs (M := M) hp).mem_iff (a := g)).2 hg) fun _ _ _ h => h) (hW.permZ hp)
      exact ⟨it :: its'',.inr ⟨v,r,it,its'',e1,rfl,h1,g1⟩,g2.permZ List.perm_middle⟩
def kS (q : Bool) (A A' : Nat → Prop) : Nat → Prop := match q with | true => A | false => A'
theorem jW {its : List It} {Ml Mr : CQ} (h : StC E B θ S σ ρ ι) (hW : Stw B (Ml ++ Mr) (its ++ S.zz ι) w) (q : Bool) {a : U} {c : CV} {l : List (a.T E.c)} (e : aI true S (qk q) a c = some l) : Sl w (kS q (NX (Am Ml its)) (Fz B (Am (Ml ++ Mr) (its ++ S.zz ι)))) (a.rp E.r) (c.val E.sz σ ρ) l := by
  unfold aI at e
  split at e
  · cases e; exact .nil
  · rename_i z
    split at e
    · rename_i ver k u' l' hz
      split at e
      · rename_i hk
        refine SF e ?_
        have hm := Ba hz
        obtain ⟨lx,e1,e2⟩ := h.it _ hm
        have hin : ι z ∈ S.zz ι := List.mem_map.2 ⟨_,hm,rfl⟩
        have hok := hW.items (ι z) (List.mem_append_right _ hin)
        rw [e2] at hok hin
        refine Sl.hide (Ex.seen (u'.rp E.r)) e1 ?_
        have hsub : ∀ g ∈ Am Ml its,g ∈ Am (Ml ++ Mr) (its ++ S.zz ι) := fun g hg => YV (Ml := Ml) (M := Mr) hg
        cases q with
        | false =>
          cases k with
          | own e => cases hk
          | rd => cases hk
          | frz => exact hok
        | true =>
          cases k with
          | own e0 =>
            obtain ⟨i,hi⟩ := List.mem_iff_getElem?.1 hin
            exact zF (Ml := Ml) (Zl := its) (e := e0) hW i hi
          | frz => exact (show Sl w (Fz B _) _ _ _ from hok).nxF hsub
          | rd => exact hW.roX (show Sl B.w0 (NX B.X) _ _ _ from hok) hsub
      · cases e
    · cases e
  · cases e
theorem XL {Mx : CQ} : ∀ (os ns : List CV) {S S' : St E.c} {ι : Nat → It} {w : World},StC E B θ S σ ρ ι → Stw B Mx (S.zz ι) w → os.map (CV.val E.sz σ ρ) = ns.map (CV.val E.sz σ ρ) → Bw (CV.wf S.nz S.nb) os = true → Tq os ns S = some S' →
    ∃ ι',StC E B θ S' σ ρ ι' ∧ Stw B Mx (S'.zz ι') w ∧ Tk S S'
  | [],ns,S,S',ι,w,h,hW,hv,hw,e => by cases e; exact ⟨ι,h,hW,Tk.refl _⟩
  | .sl z :: r,.sl z' :: r',S,S',ι,w,h,hW,hv,hw,e => by
    unfold Tq at e
    split at e
    · cases e
    · rename_i hno
      split at e
      · rename_i ver x Zr hp
        obtain ⟨n1,n2,n3,n4⟩ := Oz h.nZ hp
        rw [List.map_cons,List.map_cons] at hv
        obtain ⟨hv1,hv2⟩ := List.cons.inj hv
        have hv1 : σ z = σ z' := hv1
        have hwz := Ac.1 hw _ (List.mem_cons_self ..)
        have hzlt : z < S.nz := Nat.le_of_ble_eq_true hwz
        have hnz : ∀ p ∈ S.Z,p.1 ≠ z := fun p hp' he => by
          have := Gh h.nZ (show (p.1,p.2) ∈ S.Z from hp')
          rw [he,hno] at this; cases this
        have hmr : (Zr.map fun p => DL ι z (ι z') p.1) = Zr.map fun p => ι p.1 := List.map_congr_left fun p hp' => DP (hnz p (n2 p hp'))
        have h1 : StC E B θ { S with Z := (z,S.nv,x) :: Zr,C := [],nv := S.nv + 1 } σ ρ (DL ι z (ι z')) := {
          it := fun p hp' => by
            rcases List.mem_cons.1 hp' with rfl | hp'
            · show Y8 E B (σ z) x (DL ι z _ z)
              rw [Em,hv1]; exact h.it _ n3
            · rw [DP (hnz p (n2 p hp'))]; exact h.it p (n2 p hp')
          wF := fun p hp => ⟨(h.wF p hp).1,Nat.lt_succ_of_lt (h.wF p hp).2⟩
          wM := fun p hp => ⟨(h.wM p hp).1,Nat.lt_succ_of_lt (h.wM p hp).2.1,(h.wM p hp).2.2⟩
          wZ := fun p hp' => by
            rcases List.mem_cons.1 hp' with rfl | hp'
            · exact ⟨hzlt,Nat.lt_succ_self _⟩
            · exact ⟨(h.wZ p (n2 p hp')).1,Nat.lt_succ_of_lt (h.wZ p (n2 p hp')).2⟩
          nZ := by
            show (z :: Zr.map (·.1)).Nodup
            rw [List.nodup_cons]
            exact ⟨fun hm => by obtain ⟨p,hp',e⟩ := List.mem_map.1 hm; exact hnz p (n2 p hp') e,n1⟩
          ca := fun p hp' => nomatch hp'
          pn := h.pn
          pi := ⟨Nat.le_succ_of_le h.pi.1,fun p hp' hv => by
            rcases List.mem_cons.1 hp' with rfl | hp'
            · exact absurd (Nat.lt_of_lt_of_le hv h.pi.1) (Nat.lt_irrefl _)
            · rw [DP (hnz p (n2 p hp'))]; exact h.pi.2 p (n2 p hp') hv⟩ }
        have hW1 : Stw B Mx (DL ι z (ι z') z :: Zr.map fun p => DL ι z (ι z') p.1) w := by
          rw [hmr,Em]
          exact hW.permZ ((F3 hp).map fun p => ι p.1)
        obtain ⟨ι',g1,g2,g3⟩ := XL r r' (S := { S with Z := (z,S.nv,x) :: Zr,C := [],nv := S.nv + 1 }) h1 hW1 hv2 (Ac.2 fun c hc => Ac.1 hw c (List.mem_cons_of_mem _ hc)) e
        refine ⟨ι',g1,g2,Tk.trans (S' := { S with Z := (z,S.nv,x) :: Zr,C := [],nv := S.nv + 1 }) ⟨⟨Nat.le_succ _,fun _ _ e _ => e,fun _ _ e _ => e,fun j q hq hl => ?_,fun _ _ _ h _ => ⟨h,rfl⟩⟩,rfl,rfl,rfl,rfl⟩ g3⟩
        by_cases hb : z = j
        · subst hb
          simp only [DK] at hq
          cases hq
          exact absurd hl (Nat.lt_irrefl _)
        · simp only [C4 hb] at hq
          exact PP h.nZ hp hq
      · cases e
  | .nil :: r,_ :: r',S,S',ι,w,h,hW,hv,hw,e => by
    unfold Tq at e
    rw [List.map_cons,List.map_cons] at hv
    exact XL r r' h hW (List.cons.inj hv).2 (Ac.2 fun c hc => Ac.1 hw c (List.mem_cons_of_mem _ hc)) e
  | .nil :: r,[],S,S',ι,w,h,hW,hv,hw,e => nomatch hv
  | .sl z :: r,[],S,S',ι,w,h,hW,hv,hw,e => nomatch hv
  | .int _ _ :: r,_,S,S',ι,w,h,hW,hv,hw,e => by unfold Tq at e; cases e
  | .bool _ :: r,_,S,S',ι,w,h,hW,hv,hw,e => by unfold Tq at e; cases e
  | .str _ :: r,_,S,S',ι,w,h,hW,hv,hw,e => by unfold Tq at e; cases e
  | .flt _ _ :: r,_,S,S',ι,w,h,hW,hv,hw,e => by unfold Tq at e; cases e
  | .ptr _ _ :: r,_,S,S',ι,w,h,hW,hv,hw,e => by unfold Tq at e; cases e
  | .ep _ _ _ _ :: r,_,S,S',ι,w,h,hW,hv,hw,e => by unfold Tq at e; cases e
  | .fn _ :: r,_,S,S',ι,w,h,hW,hv,hw,e => by unfold Tq at e; cases e
  | .sl z :: r,.int _ _ :: _,S,S',ι,w,h,hW,hv,hw,e => by unfold Tq at e; cases e
  | .sl z :: r,.bool _ :: _,S,S',ι,w,h,hW,hv,hw,e => by unfold Tq at e; cases e
  | .sl z :: r,.str _ :: _,S,S',ι,w,h,hW,hv,hw,e => by unfold Tq at e; cases e
  | .sl z :: r,.flt _ _ :: _,S,S',ι,w,h,hW,hv,hw,e => by unfold Tq at e; cases e
  | .sl z :: r,.nil :: _,S,S',ι,w,h,hW,hv,hw,e => by unfold Tq at e; cases e
  | .sl z :: r,.ptr _ _ :: _,S,S',ι,w,h,hW,hv,hw,e => by unfold Tq at e; cases e
  | .sl z :: r,.ep _ _ _ _ :: _,S,S',ι,w,h,hW,hv,hw,e => by unfold Tq at e; cases e
  | .sl z :: r,.fn _ :: _,S,S',ι,w,h,hW,hv,hw,e => by unfold Tq at e; cases e
theorem Ra : ∀ (l : List CK) (cs : List CV),(Rm E l cs).map (CV.val E.sz σ ρ) = NC E l (cs.map (CV.val E.sz σ ρ))
  | [],cs => rfl
  | .d _ u :: r,cs => by
    show (Rm E r (cs.drop _)).map _ = NC E r ((cs.map _).drop _)
    rw [Ra r,List.map_drop]
  | .o _ _ :: r,[] => rfl
  | .o _ _ :: r,c :: cs => by
    show c.val E.sz σ ρ :: (Rm E r cs).map _ = _ :: NC E r (cs.map _)
    rw [Ra r]
theorem VN {nz nb : Nat} : ∀ (l : List CK) (cs : List CV),Bw (CV.wf nz nb) cs = true → Bw (CV.wf nz nb) (Rm E l cs) = true
  | [],cs,h => rfl
  | .d _ u :: r,cs,h => VN r _ (Ac.2 fun c hc => Ac.1 h c (List.mem_of_mem_drop hc))
  | .o _ _ :: r,[],h => rfl
  | .o _ _ :: r,c :: cs,h => by
    show Bw _ (c :: Rm E r cs) = true
    have h1 := VN r cs (Ac.2 fun c' hc => Ac.1 h c' (List.mem_cons_of_mem _ hc))
    refine Ac.2 fun c' hc => ?_
    rcases List.mem_cons.1 hc with rfl | hc
    · exact Ac.1 h _ (List.mem_cons_self ..)
    · exact Ac.1 h1 c' hc
theorem P5 {β : Type _} : ∀ {js : List Nat} {M es R : List (Nat × β)},bH M js = some (es,R) → M.Perm (es ++ R) ∧ es.map (·.1) = js
  | [],M,es,R,e => by cases e; exact ⟨List.Perm.refl _,rfl⟩
  | j :: js,M,es,R,e => by
    unfold bH at e
    split at e
    · rename_i x Mr hp
      split at e
      · rename_i es' R' he
        cases e
        obtain ⟨h1,h2⟩ := P5 he
        exact ⟨(F3 hp).trans (h1.cons _),by rw [List.map_cons,h2]⟩
      · cases e
    · cases e
theorem YW : ∀ {bs : Bk} {es : List (Nat × Nat × List CV)},bP E bs es = true → es.length = bs.length
  | [],[],_ => rfl
  | [],_ :: _,e => nomatch e
  | _ :: _,[],e => nomatch e
  | (_,l) :: bs,(_,_,cs) :: es,e => by
    unfold bP at e
    split at e
    · rw [List.length_cons,List.length_cons,YW e]
    · cases e
abbrev eV (E : TE) (σ : Nat → Value) (ρ : Nat → Nat) (es : List (Nat × Nat × List CV)) : CQ := es.map fun p => (ρ p.1,p.2.2.map (CV.val E.sz σ ρ))
theorem eG : ∀ {bs : Bk} {es : List (Nat × Nat × List CV)},bP E bs es = true → nK E (es.map fun p => ρ p.1) bs ((I5 es).map (CV.val E.sz σ ρ)) = eV E σ ρ es
  | [],[],_ => rfl
  | [],_ :: _,e => nomatch e
  | _ :: _,[],e => nomatch e
  | (_,l) :: bs,(b,ver,cs) :: es,e => by
    unfold bP at e
    split at e
    · rename_i hl
      have hl := Nat.eq_of_beq_eq_true hl
      show (ρ b,List.take (Ao E l) (List.map _ (cs ++ I5 es))) :: nK E (es.map fun p => ρ p.1) bs (List.drop (Ao E l) (List.map _ (cs ++ I5 es))) = _
      rw [List.map_append, ← hl,List.take_left' (by rw [List.length_map]),List.drop_left' (by rw [List.length_map]),eG e]
      rfl
    · cases e
def sF (E : TE) (σ : Nat → Value) (ρ : Nat → Nat) : Bk → List (Nat × Nat × List CV) → List CV → CQ
  | (true,l) :: bs,e :: es,cs => (ρ e.1,(cs.take (Ao E l)).map (CV.val E.sz σ ρ)) :: sF E σ ρ bs es (cs.drop (Ao E l))
  | (false,_) :: bs,e :: es,cs => (ρ e.1,e.2.2.map (CV.val E.sz σ ρ)) :: sF E σ ρ bs es cs
  | _,_,_ => []
theorem Yj : ∀ {bs : Bk} {es : List (Nat × Nat × List CV)} {cs : List CV},bP E bs es = true → bR E (es.map fun p => ρ p.1) bs ((I5 es).map (CV.val E.sz σ ρ)) (cs.map (CV.val E.sz σ ρ)) = sF E σ ρ bs es cs
  | [],[],_,_ => rfl
  | [],_ :: _,_,e => nomatch e
  | _ :: _,[],_,e => nomatch e
  | (q, l) :: bs, (b, ver, c1) :: es, cs, e => by
    unfold bP at e
    split at e
    · rename_i hl
      have hl := Nat.eq_of_beq_eq_true hl
      have h1 : List.take (Ao E l) (List.map (CV.val E.sz σ ρ) (c1 ++ I5 es)) = c1.map (CV.val E.sz σ ρ) := by rw [List.map_append, ← hl,List.take_left' (by rw [List.length_map])]
      have h2 : List.drop (Ao E l) (List.map (CV.val E.sz σ ρ) (c1 ++ I5 es)) = (I5 es).map (CV.val E.sz σ ρ) := by rw [List.map_append, ← hl,List.drop_left' (by rw [List.length_map])]
      cases q with
      | true =>
        show (ρ b,List.take (Ao E l) (List.map _ cs)) :: bR E (es.map fun p => ρ p.1) bs (List.drop (Ao E l) (List.map _ (c1 ++ I5 es))) (List.drop (Ao E l) (List.map _ cs)) = _
        rw [h2, ← List.map_drop,Yj e, ← List.map_take]
        rfl
      | false =>
        show (ρ b,List.take (Ao E l) (List.map _ (c1 ++ I5 es))) :: bR E (es.map fun p => ρ p.1) bs (List.drop (Ao E l) (List.map _ (c1 ++ I5 es))) (List.map _ cs) = _
        rw [h1,h2,Yj e]
        rfl
    · cases e
theorem Ve {Z : List It} : ∀ {bs : Bk} {js : List Nat} {cs : List CV} {S S' : St E.c} {es R : List (Nat × Nat × List CV)},S.M.Perm (es ++ R) → es.map (·.1) = js → (S.M.map (·.1)).Nodup → aB E bs js cs S = some S' → StC E B θ S σ ρ ι → Bw (CV.wf S.nz S.nb) cs = true → Stw B (sF E σ ρ bs es cs ++ eV E σ ρ R) Z w →
    StC E B θ S' σ ρ ι ∧ Stw B (S'.mm E σ ρ) Z w ∧ Ext S S' ∧ S'.F = S.F ∧ S'.Z = S.Z ∧ S'.nz = S.nz ∧ S'.nb = S.nb
  | [],js,cs,S,S',es,R,hp,hj,hn,e,h,hw,hW => by
    cases js with
    | cons j js => cases e
    | nil =>
      cases e
      cases es with
      | cons x es => cases hj
      | nil => exact ⟨h,hW.perm (hp.map _).symm,Ext.refl _,rfl,rfl,rfl,rfl⟩
  | (q,l) :: bs,[],cs,S,S',es,R,hp,hj,hn,e,h,hw,hW => by cases q <;> cases e
  | (q,l) :: bs,j :: js,cs,S,S',[],R,hp,hj,hn,e,h,hw,hW => nomatch hj
  | (false,l) :: bs,j :: js,cs,S,S',x :: es,R,hp,hj,hn,e,h,hw,hW => by
    refine Ve (es := es) (R := x :: R) (hp.trans List.perm_middle.symm) (List.cons.inj hj).2 hn (show aB E bs js cs S = some S' from e) h hw ?_
    exact Stw.perm (show Stw B ((ρ x.1,x.2.2.map (CV.val E.sz σ ρ)) :: (sF E σ ρ bs es cs ++ eV E σ ρ R)) Z w from hW) List.perm_middle.symm
  | (true, l) :: bs, j :: js, cs, S, S', x :: es, R, hp, hj, hn, e, h, hw, hW => by
    unfold aB at e
    split at e
    · rename_i y Mr hk
      have hx1 : x.1 = j := (List.cons.inj hj).1
      have hp1 := F3 hk
      have hy : CG S.M j = some y := (Q3 hk).1
      have hx : CG S.M j = some x.2 := Gh hn (hp.mem_iff.2 (by rw [← hx1]; exact List.mem_cons_self ..))
      have hxy : x.2 = y := Option.some.inj (hx.symm.trans hy)
      have hpr : Mr.Perm (es ++ R) := by
        have : ((j,y) :: Mr).Perm (x :: (es ++ R)) := hp1.symm.trans hp
        rw [show x = (j,y) from by rw [← hx1, ← hxy]] at this
        exact this.cons_inv
      have hwt : Bw (CV.wf S.nz S.nb) (cs.take (Ao E l)) = true := Ac.2 fun c hc => Ac.1 hw c (List.mem_of_mem_take hc)
      have hwd : Bw (CV.wf S.nz S.nb) (cs.drop (Ao E l)) = true := Ac.2 fun c hc => Ac.1 hw c (List.mem_of_mem_drop hc)
      have hsub : ∀ p ∈ Mr,p ∈ S.M := fun p hp' => hp1.mem_iff.2 (List.mem_cons_of_mem _ hp')
      have hnM := (hp1.map (·.1)).nodup_iff.1 hn
      rw [List.map_cons] at hnM
      have hmem : (j,y) ∈ S.M := hp1.mem_iff.2 (List.mem_cons_self ..)
      have hfr : ∀ k,k ≠ j → CG Mr k = CG S.M k := fun k hk' => (Q3 hk).2 k hk'
      have h1 : StC E B θ { S with M := (j,S.nv,cs.take (Ao E l)) :: Mr,V := (j,List.replicate (cs.take (Ao E l)).length S.nv) :: S.V,nv := S.nv + 1 } σ ρ ι := {
        it := h.it,wF := fun p hp => ⟨(h.wF p hp).1,Nat.lt_succ_of_lt (h.wF p hp).2⟩
        wM := fun p hp => by
          rcases List.mem_cons.1 hp with rfl | hp
          · exact ⟨(h.wM _ hmem).1,Nat.lt_succ_self _,hwt⟩
          · exact ⟨(h.wM p (hsub p hp)).1,Nat.lt_succ_of_lt (h.wM p (hsub p hp)).2.1,(h.wM p (hsub p hp)).2.2⟩
        wZ := fun p hp => ⟨(h.wZ p hp).1,Nat.lt_succ_of_lt (h.wZ p hp).2⟩,nZ := h.nZ,ca := h.ca,pn := h.pn,pi := ⟨Nat.le_succ_of_le h.pi.1,h.pi.2⟩ }
      have x1 : Ext S { S with M := (j,S.nv,cs.take (Ao E l)) :: Mr,V := (j,List.replicate (cs.take (Ao E l)).length S.nv) :: S.V,nv := S.nv + 1 } := ⟨Nat.le_succ _,fun _ _ e _ => e,fun k z hz hl => by
        by_cases hb : j = k
        · subst hb; simp only [DK] at hz; cases hz; exact absurd hl (Nat.lt_irrefl _)
        · simp only [C4 hb] at hz; rw [hfr k (Ne.symm hb)] at hz; exact hz,fun _ _ e _ => e,fun k i v hv hl => by
        by_cases hb : j = k
        · subst hb
          unfold UF at hv
          simp only [DK,List.getElem?_replicate] at hv
          split at hv
          · cases hv; exact absurd hl (Nat.lt_irrefl _)
          · cases hv
        · unfold UF iR at *
          simp only [C4 hb] at hv ⊢
          rw [hfr k (Ne.symm hb)]
          exact ⟨hv,rfl⟩⟩
      obtain ⟨g1,g2,g3,g4,g5,g6,g7⟩ := Ve (es := es) (R := (j,S.nv,cs.take (Ao E l)) :: R) ((hpr.cons _).trans List.perm_middle.symm) (List.cons.inj hj).2 (by exact hnM) e h1 hwd (by
        refine Stw.perm (show Stw B ((ρ x.1,(cs.take (Ao E l)).map (CV.val E.sz σ ρ)) :: (sF E σ ρ bs es (cs.drop (Ao E l)) ++ eV E σ ρ R)) Z w from hW) ?_
        rw [hx1]
        exact List.perm_middle.symm)
      exact ⟨g1,g2,x1.trans g3,g4,g5,g6,g7⟩
    · cases e
theorem ndM {S : St E.c} {Z : List It} (h : Stw B (S.mm E σ ρ) Z w) : (S.M.map (·.1)).Nodup := by
  have h1 : (S.M.map fun p => ρ p.1).Nodup := by
    have := (List.nodup_append.1 h.nodup).1
    rw [List.map_map] at this
    exact this
  have h2 : (S.M.map fun p => ρ p.1) = (S.M.map (·.1)).map ρ := by rw [List.map_map]; rfl
  rw [h2] at h1
  exact Jk h1
theorem YN {nz nb : Nat} : ∀ {es : List (Nat × Nat × List CV)},(∀ p ∈ es,Bw (CV.wf nz nb) p.2.2 = true) → Bw (CV.wf nz nb) (I5 es) = true
  | [],_ => rfl
  | e :: es,h => Ac.2 fun c hc => by
    rcases List.mem_append.1 (show c ∈ e.2.2 ++ I5 es from hc) with hc | hc
    · exact Ac.1 (h e (List.mem_cons_self ..)) c hc
    · exact Ac.1 (YN fun p hp => h p (List.mem_cons_of_mem _ hp)) c hc
theorem WP {G : Hz E P} (hG : ConsOk B G) (h : Rel E B θ n ds S a w σ ρ ι) {f : Nat} {vs : List AV} {k : AV → St E.c → Tree R} {r : R} (hvs : ∀ v ∈ vs,v.wf S.nz S.nb = true) (e : (UG E G f vs S k).den = some r) :
    ∃ (Ml Mr : CQ) (Zl Zr : List It) (β : Type) (rv : β → Value) (MM : β → CQ) (ZZ : β → List It),Stw B (Ml ++ Mr) (Zl ++ Zr) w ∧ Has P f ∧
      (Stw ⟨Fz B (Am (Ml ++ Mr) (Zl ++ Zr)),Am Ml Zl,w⟩ Ml Zl w → Calls P f (vs.map (AV.val E.sz σ ρ)).toArray w fun e w' => ∃ x : β,e = .returned (rv x) ∧ Stw ⟨Fz B (Am (Ml ++ Mr) (Zl ++ Zr)),Am Ml Zl,w⟩ (MM x) (ZZ x) w') ∧
      ∀ x w',Stw B (MM x ++ Mr) (ZZ x ++ Zr) w' → ∃ v S' σ' ι',Ext S S' ∧ StC E B θ S' σ' ρ ι' ∧ Stw B (S'.mm E σ' ρ) (S'.zz ι') w' ∧ S'.F = S.F ∧ Ag S.nz S.nb σ σ' ρ ρ ∧ v.wf S'.nz S'.nb = true ∧ v.val E.sz σ' ρ = rv x ∧ (k v S').den = some r := by
  unfold UG at e
  split at e
  · rename_i C cs js hC
    obtain ⟨hin,hcs⟩ := Vr hC
    obtain ⟨hok,hhas⟩ := hG.ok _ hin
    have hok : ∀ (Y : Nat → Prop) (Ml M : CQ) (Zl Z : List It) (w : World),Stw B (Ml ++ M) (Zl ++ Z) w → cC C f Y (Am Ml Zl) w := hok
    obtain ⟨a1,a2,a3⟩ := Uy (σ := σ) (ρ := ρ) hcs
    have hwc := a2 _ _ hvs
    split at e
    · rename_i es R0 hes
      obtain ⟨b1,b2⟩ := P5 hes
      split at e
      · rename_i hsz
        have hwe : Bw (CV.wf S.nz S.nb) (I5 es) = true := YN fun p hp => (h.wM p (b1.mem_iff.2 (List.mem_append_left _ hp))).2.2
        have hwa : Bw (CV.wf S.nz S.nb) (cs ++ I5 es) = true := Ac.2 fun c hc => by
          rcases List.mem_append.1 hc with hc | hc
          · exact Ac.1 hwc c hc
          · exact Ac.1 hwe c hc
        have hpm : (S.mm E σ ρ).Perm (eV E σ ρ es ++ eV E σ ρ R0) := by
          have := b1.map fun p => (ρ p.1,p.2.2.map (CV.val E.sz σ ρ))
          rw [List.map_append] at this
          exact this
        split at e
        · rename_i x S1 hpk
          unfold pk at hpk
          split at hpk
          · rename_i S1' ol h1
            split at hpk
            · rename_i t ht
              cases hpk
              obtain ⟨its,ι1,s1,s2,s3,s4⟩ := Oq (Do C.xs C.bs) (cs ++ I5 es) (X := []) h.toStC h.st h1
              have s2 : Stw B (S1.mm E σ ρ) (its ++ S1.zz ι1) w := s2
              have hmm : S1.mm E σ ρ = S.mm E σ ρ := by
                show S1.M.map _ = S.M.map _
                rw [s3.fM]
              have s2' : Stw B (eV E σ ρ es ++ eV E σ ρ R0) (its ++ S1.zz ι1) w := s2.perm (by rw [hmm]; exact hpm)
              have hrun : ∃ r0,C.tw x = some r0 ∧ (lQ E C cs js S1 k r0).den = some r ∧ ∃ L,Re E (Do C.xs C.bs) x = some L := by
                split at e
                · rename_i L hLx
                  split at e
                  · rename_i g hg
                    exact ⟨g.1 x,g.2 x,e,L,hLx⟩
                  · obtain ⟨r0,q1,q2⟩ := Option.bind_eq_some_iff.1 e
                    exact ⟨r0,q1,q2,L,hLx⟩
                · cases e
              obtain ⟨r0,hr0,hd,L,hLx⟩ := hrun
              unfold lQ at hd
              split at hd
              · rename_i L' hL'
                split at hd
                · rename_i hnr
                  refine ⟨eV E σ ρ es,eV E σ ρ R0,its,S1.zz ι1, { p : List Value × List It // JN Za (DI E ⟨Fz B (Am (eV E σ ρ es ++ eV E σ ρ R0) (its ++ S1.zz ι1)),Am (eV E σ ρ es) its,w⟩) L' p.1 p.2 ∧ (C.io = true → p.1.drop (Ao E (flt C.ys ++ ZW C.bs)) = NC E (flt C.xs) (cs.map (CV.val E.sz σ ρ))) },fun p => Rz E C.ys p.1.1,fun p => bR E (es.map fun p => ρ p.1) C.bs ((I5 es).map (CV.val E.sz σ ρ)) (p.1.1.drop (Ao E (flt C.ys))),fun p => p.1.2,s2',hhas,fun hl => ?_,fun p w' hW' => ?_⟩
                  · -- the callee
                    have key : ∀ L,Re E (Do C.xs C.bs) x = some L → ∃ its',JN Za (DI E ⟨Fz B (Am (eV E σ ρ es ++ eV E σ ρ R0) (its ++ S1.zz ι1)),Am (eV E σ ρ es) its,w⟩) L ((cs ++ I5 es).map (CV.val E.sz σ ρ)) its' ∧ Stw ⟨Fz B (Am (eV E σ ρ es ++ eV E σ ρ R0) (its ++ S1.zz ι1)),Am (eV E σ ρ es) its,w⟩ (eV E σ ρ es) its' w := by
                      intro L hL
                      obtain ⟨cs1,g1,g2⟩ := Te (lax := true) (B := B) (S := S1) (I := fun z v => match z.k with | .own _ => False | .frz => Sl w (Fz B (Am (eV E σ ρ es ++ eV E σ ρ R0) (its ++ S1.zz ι1))) (z.u.rp E.r) v z.l | .rd => Sl w (NX (Am (eV E σ ρ es) its)) (z.u.rp E.r) v z.l)
                        (W := fun _ => w) (A := fun q => kS q (NX (Am (eV E σ ρ es) its)) (Fz B (Am (eV E σ ρ es ++ eV E σ ρ R0) (its ++ S1.zz ι1))))
                        (fun q a c l hh => jW s1 s2' q hh) (fun q u v l hh => by cases q <;> exact hh) (Do C.xs C.bs) ol _ s4 ht hL
                      rw [List.map_nil,List.append_nil] at g1
                      rw [g1]
                      have g3 : JN (VT E ⟨Fz B (Am (eV E σ ρ es ++ eV E σ ρ R0) (its ++ S1.zz ι1)),Am (eV E σ ρ es) its,w⟩ w (Am (eV E σ ρ es) (its ++ []))) (DI E ⟨Fz B (Am (eV E σ ρ es ++ eV E σ ρ R0) (its ++ S1.zz ι1)),Am (eV E σ ρ es) its,w⟩) L cs1 its := g2.mono (fun z v hz => by
                        obtain ⟨k,u,l⟩ := z
                        rw [List.append_nil]
                        cases k with
                        | own e => exact hz
                        | frz => exact hl.old (show Sl w (Fz B (Am (eV E σ ρ es ++ eV E σ ρ R0) (its ++ S1.zz ι1))) (u.rp E.r) v l from hz)
                        | rd => exact hz) fun z v it hz => hz.base.2
                      obtain ⟨its',q1,q2⟩ := JN.all (X := []) g3 (by rw [List.append_nil]; exact hl)
                      exact ⟨its',q1,by rw [List.append_nil] at q2; exact q2⟩
                    obtain ⟨its',q1,q2⟩ := key L hLx
                    have hdr : ((cs ++ I5 es).map (CV.val E.sz σ ρ)).drop (Ao E (flt C.xs)) = (I5 es).map (CV.val E.sz σ ρ) := by rw [List.map_append,List.drop_left' (by rw [List.length_map]; exact a3)]
                    have hmb : js.map ρ = es.map fun p => ρ p.1 := by rw [← b2,List.map_map]; rfl
                    have := hok (Fz B (Am (eV E σ ρ es ++ eV E σ ρ R0) (its ++ S1.zz ι1))) _ _ _ _ w s2' x r0 L _ its' (es.map fun p => ρ p.1) hr0 hLx q1 (by rw [List.length_map]; exact YW hsz) (by rw [hdr,eG hsz]; exact q2)
                    have hg : HD E C.xs ((cs ++ I5 es).map (CV.val E.sz σ ρ)) (es.map fun p => ρ p.1) = vs.map (AV.val E.sz σ ρ) := by rw [List.map_append,Ke _ _ _ _ (by rw [List.length_map]; exact a3), ← hmb, ← a1]
                    rw [hg] at this
                    refine this.mono fun e' w' ⟨L2,cs2,its2,p1,p2,p3,p4,p5⟩ => ?_
                    have : L2 = L' := Option.some.inj (p1.symm.trans hL')
                    subst this
                    rw [hdr] at p3
                    refine ⟨⟨(cs2,its2),p2,fun hio => ?_⟩,p4,p3⟩
                    rw [p5 hio,List.map_append]
                    exact Mz _ _ _ (by rw [List.length_map]; exact a3)
                  · obtain ⟨⟨cs2,its2⟩,p2,p5⟩ := p
                    simp only at hW' p2 p5
                    have p3 : JN Za (DI E B) L' cs2 its2 := JN.base hnr p2
                    obtain ⟨σ',ι',g0,g1,g2,g3,g4,g5,g6,g7⟩ := StC.injM (S := S1) (X := []) L' s1 hW' (p3.mono (fun _ _ h => h.elim) fun _ _ _ h => h)
                    have hAg : Ag S.nz S.nb σ σ' ρ ρ := by
                      have := g2
                      rw [s3.fz,s3.fb] at this
                      exact this
                    have hF1 : (injS S1 L').2.F = S.F := (FA L' S1).1.trans s3.fF
                    have hM1 : (injS S1 L').2.M = S.M := (FA L' S1).2.1.trans s3.fM
                    simp only at hd
                    split at hd
                    · rename_i S2 hS2
                      split at hd
                      · rename_i S3 hS3
                        split at hd
                        · rename_i v hv
                          have hio : ∃ ι2,StC E B θ S2 σ' ρ ι2 ∧ Stw B (bR E (es.map fun p => ρ p.1) C.bs ((I5 es).map (CV.val E.sz σ ρ)) (cs2.drop (Ao E (flt C.ys))) ++ eV E σ ρ R0) (S2.zz ι2) w' ∧ Tk (injS S1 L').2 S2 := by
                            split at hS2
                            · rename_i hio
                              refine XL _ _ g0 g1 ?_ ?_ hS2
                              · rw [Ra,HA hAg hwc, ← p5 hio,List.map_drop,g3]
                              · refine VN _ _ (Di (fun _ => CV.wf_mono ?_ ?_) hwc)
                                · rw [← s3.fz]; exact g5
                                · rw [g6,s3.fb]; exact Nat.le_refl _
                            · cases hS2; exact ⟨ι',g0,g1,Tk.refl _⟩
                          obtain ⟨ι2,k1,k2,k3⟩ := hio
                          have hret := iV (σ := σ') (ρ := ρ) hv g4
                          have hM2 : S2.M = S.M := k3.fM.trans hM1
                          have hwd : Bw (CV.wf S2.nz S2.nb) ((injS S1 L').1.drop (Ao E (flt C.ys))) = true := Ac.2 fun c hc => by
                            rw [k3.fz,k3.fb]; exact Ac.1 g4 c (List.mem_of_mem_drop hc)
                          have heR : eV E σ' ρ R0 = eV E σ ρ R0 := List.map_congr_left fun p hp => by rw [HA hAg (h.wM p (b1.mem_iff.2 (List.mem_append_right _ hp))).2.2]
                          have hee : (I5 es).map (CV.val E.sz σ' ρ) = (I5 es).map (CV.val E.sz σ ρ) := HA hAg hwe
                          rw [← hee, ← heR, ← g3, ← List.map_drop,Yj hsz] at k2
                          obtain ⟨u1,u2,u3,u4,u5,u6,u7⟩ := Ve (by rw [hM2]; exact b1) b2 (by rw [hM2]; exact ndM h.st) hS3 k1 hwd k2
                          refine ⟨v,S3,σ',ι2,((s3.toExt.trans (Ext.injS L' S1)).trans k3.toExt).trans u3,u1, ?_,(u4.trans k3.fF).trans hF1,hAg, ?_,by rw [hret.1,g3],hd⟩
                          · show Stw B _ (S3.Z.map _) w'
                            rw [u5]; exact u2
                          · rw [u6,u7,k3.fz,k3.fb]; exact hret.2
                        · cases hd
                      · cases hd
                    · cases hd
                · cases hd
              · cases hd
            · cases hpk
          · cases hpk
        · cases e
      · cases e
    · cases e
  · cases e
end
end Go.Proofs.YtkhiflmalgkjiaaGreat
