/- Calls, by contracts. Conditions: none. -/
import Derived.Test.YtkhiflmalgkjiaaGreatfHM
set_option linter.unusedVariables false
set_option linter.unusedSimpArgs false
open Go Go.RowKit
namespace Go.Proofs.YtkhiflmalgkjiaaGreat
def WX : List (Bool × Nat) → List CV → List (Bool × List CV)
  | [],_ => []
  | (q,k) :: r,cs => (q,cs.take k) :: WX r (cs.drop k)
def mN : List (Bool × Nat) → List (Bool × List CV) → Option (List CV)
  | [],[] => some []
  | (q,k) :: r,(q',l) :: gs => match (match q,q' with | true,true => true | false,false => true | _,_ => false) with
    | true => match Nat.beq l.length k with
      | true => match mN r gs with | some s => some (l ++ s) | none => none
      | false => none
    | false => none
  | _,_ => none
def Zb : List CV → Option (List Nat)
  | [] => some []
  | .ptr b 0 :: r => match Zb r with | some s => some (b :: s) | none => none
  | _ => none
def Ix (E : TE) : Sh → List AV → Option (List CV × List Nat)
  | [],[] => some ([],[])
  | (.b true,l) :: r,.agg cs :: vs => match Nat.beq cs.length (Au E l) with
    | true => match Ix E r vs with | some (s,js) => some (cs ++ s,js) | none => none
    | false => none
  | (.b false,l) :: r,.one c :: vs => match Nat.beq 1 (Au E l) with
    | true => match Ix E r vs with | some (s,js) => some (c :: s,js) | none => none
    | false => none
  | (.p,l) :: r,.one (.ptr b 0) :: vs => match Nat.beq 0 (Au E l) with
    | true => match Ix E r vs with | some (s,js) => some (s,b :: js) | none => none
    | false => none
  | (.fn f gs m,l) :: r,.fnv f' gs' ps :: vs => match Nat.beq f f' with
    | true => match mN gs gs' with
      | some cs => match Zb ps with
        | some bs => match Nat.beq bs.length m with
          | true => match Nat.beq cs.length (Au E l) with
            | true => match Ix E r vs with | some (s,js) => some (cs ++ s,bs ++ js) | none => none
            | false => none
          | false => none
        | none => none
      | none => none
    | false => none
  | _,_ => none
def bK (E : TE) : Sh → List CV → Option (List (Bool × List CV))
  | [],_ => some []
  | (.b b,l) :: r,cs => match bK E r (cs.drop (Au E l)) with | some s => some ((b,cs.take (Au E l)) :: s) | none => none
  | _ :: _,_ => none
def rB (E : TE) (ys : Sh) (cs : List CV) : Option AV := match bK E ys cs with
  | some [p] => YL p
  | some l => some (.tup l)
  | none => none
def Yh {c : Nat → Type} : List (Leaf c) → Bool
  | [] => true
  | .v _ :: L => Yh L
  | .s z :: L => match z.k with | .rd => false | _ => Yh L
def Si (E : TE) : List CK → List CV → List CV
  | [],_ => []
  | .d _ u :: r,cs => Si E r (cs.drop (E.sz u))
  | .o _ _ :: r,c :: cs => c :: Si E r cs
  | .o _ _ :: r,[] => []
def Ub {c : Nat → Type} : List CV → List CV → St c → Option (St c)
  | [],_,S => some S
  | .sl z :: r,.sl z' :: r',S => match CQ S.Z z with
    | some _ => none
    | none => match Xn S.Z z' with
      | some ((_,x),Zr) => Ub r r' { S with Z := (z,S.nv,x) :: Zr,C := [],nv := S.nv + 1 }
      | none => none
  | .nil :: r,_ :: r',S => Ub r r' S
  | _,_,_ => none
def aT {β : Type _} : List (Nat × β) → List Nat → Option (List (Nat × β) × List (Nat × β))
  | M,[] => some ([],M)
  | M,j :: js => match Xn M j with
    | some (x,Mr) => match aT Mr js with | some (es,R) => some ((j,x) :: es,R) | none => none
    | none => none
def bT (E : TE) : Bk → List (Nat × Nat × List CV) → Bool
  | [],[] => true
  | (_,l) :: bs,(_,_,cs) :: es => match Nat.beq cs.length (Au E l) with | true => bT E bs es | false => false
  | _,_ => false
def I0 : List (Nat × Nat × List CV) → List CV
  | [] => []
  | e :: es => e.2.2 ++ I0 es
def bR (E : TE) : Bk → List Nat → List CV → St E.c → Option (St E.c)
  | [],[],_,S => some S
  | (false,_) :: bs,_ :: js,cs,S => bR E bs js cs S
  | (true,l) :: bs,j :: js,cs,S => match Xn S.M j with
    | some (_,Mr) => bR E bs js (cs.drop (Au E l)) { S with M := (j,S.nv,cs.take (Au E l)) :: Mr,V := (j,List.replicate (cs.take (Au E l)).length S.nv) :: S.V,nv := S.nv + 1 }
    | none => none
  | _,_,_,_ => none
def lR {R : Type} (E : TE) {P : Program} (C : Con E P) (cs : List CV) (js : List Nat) (S : St E.c) (k : AV → St E.c → Tree R) (r : TT E.c (IX C.xs C.ys C.bs C.io)) : Tree R :=
  match Q7 E (IX C.xs C.ys C.bs C.io) r with
  | some L => match Yh L with
    | true => match injS S L with
      | (cs',S') => match (match C.io with
          | true => Ub (Si E (flt C.xs) cs) (cs'.drop (Au E (flt C.ys ++ aU C.bs))) S'
          | false => some S') with
        | some S'' => match bR E C.bs js (cs'.drop (Au E (flt C.ys))) S'' with
          | some S3 => match rB E C.ys cs' with
            | some v => k v S3
            | none => .fail
          | none => .fail
        | none => .fail
    | false => .fail
  | none => .fail
def fD (E : TE) {P : Program} : Hq E P → Nat → List AV → Option (Con E P × List CV × List Nat)
  | [],_,_ => none
  | (j,C) :: r,f,vs => match Nat.beq j f with
    | true => match Ix E C.xs vs with
      | some (cs,js) => some (C,cs,js)
      | none => fD E r f vs
    | false => fD E r f vs
theorem Vw {E : TE} {P : Program} : ∀ {G : Hq E P} {f : Nat} {vs : List AV} {C : Con E P} {cs : List CV} {js : List Nat},fD E G f vs = some (C,cs,js) → (f,C) ∈ G ∧ Ix E C.xs vs = some (cs,js)
  | [],f,vs,C,cs,js,e => nomatch e
  | (j, D) :: r, f, vs, C, cs, js, e => by
    unfold fD at e
    split at e
    · rename_i hj
      obtain rfl := ze hj
      split at e
      · rename_i cs' js' hc
        cases e
        exact ⟨List.mem_cons_self ..,hc⟩
      · obtain ⟨h1,h2⟩ := Vw e
        exact ⟨zd _ h1,h2⟩
    · obtain ⟨h1,h2⟩ := Vw e
      exact ⟨zd _ h1,h2⟩
def Uu {R : Type} (E : TE) {P : Program} (G : Hq E P) (f : Nat) (vs : List AV) (S : St E.c) (k : AV → St E.c → Tree R) : Tree R :=
  match fD E G f vs with
  | some (C, cs, js) => match aT S.M js with
    | some (es,_) => match bT E C.bs es with
      | true => match pk E true (Dp C.xs C.bs) S (cs ++ I0 es) with
        | some (x,S') => match Q7 E (Dp C.xs C.bs) x with
          | some _ => match C.pu with
            | some g => lR E C cs js S' k (g.1 x)
            | none => .bnd (C.tw x) (lR E C cs js S' k)
          | none => .fail
        | none => .fail
      | false => .fail
    | none => .fail
  | none => .fail
section
variable {E : TE} {P : Program} {B : Bs} {θ : Pin} {n : Nat} {ds : List Deferred} {S : St E.c} {a : Act} {w : World} {σ : Nat → Value} {ρ : Nat → Nat} {ι : Nat → It} {R : Type}
variable {ops : Array Oper} {Q : Exit → Act → World → Prop} {rest : List Oper} {ty : TypeId} {pos : String} {aft : Array Edge}
theorem ZX : ∀ {gs : List (Bool × Nat)} {gs' : List (Bool × List CV)} {cs : List CV},mN gs gs' = some cs → gs'.map (Kg E.sz σ ρ) = UW gs (cs.map (CV.val E.sz σ ρ)) ∧ ∀ nz nb,Bx (fun p => Bx (CV.wf nz nb) p.2) gs' = true → Bx (CV.wf nz nb) cs = true
  | [],[],cs,e => by cases e; exact ⟨rfl,fun _ _ _ => rfl⟩
  | [],_ :: _,cs,e => nomatch e
  | _ :: _,[],cs,e => nomatch e
  | (q, k) :: r, (q', l) :: gs', cs, e => by
    unfold mN at e
    split at e
    · rename_i hq
      split at e
      · rename_i hl
        split at e
        · rename_i s hs
          cases e
          have hl := ze hl
          obtain ⟨h1,h2⟩ := ZX hs
          refine ⟨?_,fun nz nb hw => Ae.2 fun c hc => ?_⟩
          · rw [zj,h1,List.map_append]
            show _ = fH q (List.take k _) :: UW r (List.drop k _)
            rw [← hl,List.take_left' (by rw [zh]),List.drop_left' (by rw [zh])]
            congr 1
            cases q <;> cases q' <;> first | (cases hq; done) | rfl | (cases l <;> rfl)
          · rcases List.mem_append.1 hc with hc | hc
            · exact Ae.1 (Ae.1 hw _ (List.mem_cons_self ..)) c hc
            · exact Ae.1 (h2 nz nb (Ae.2 fun p hp => Ae.1 hw p (zd _ hp))) c hc
        · cases e
      · cases e
    · cases e
theorem WN : ∀ {ps : List CV} {bs : List Nat},Zb ps = some bs → ps.map (CV.val E.sz σ ρ) = (bs.map ρ).map fun b => .pointer (some ⟨b,0,none⟩)
  | [],bs,e => by cases e; rfl
  | c :: r,bs,e => by
    unfold Zb at e
    split at e
    · rename_i h; cases h
    · rename_i b r' h
      cases h
      split at e
      · rename_i s hs
        cases e
        rw [zj,WN hs]; rfl
      · cases e
    · cases e
theorem Ux : ∀ {xs : Sh} {vs : List AV} {cs : List CV} {js : List Nat},Ix E xs vs = some (cs,js) → vs.map (AV.val E.sz σ ρ) = Hj E xs (cs.map (CV.val E.sz σ ρ)) (js.map ρ) ∧ (∀ nz nb,(∀ v ∈ vs,v.wf nz nb = true) → Bx (CV.wf nz nb) cs = true) ∧ cs.length = Au E (flt xs) := by
  intro xs
  induction xs with
  | nil =>
    intro vs cs js e
    cases vs with
    | nil => cases e; exact ⟨rfl,fun _ _ _ => rfl,rfl⟩
    | cons v vs => cases e
  | cons p r ih =>
    intro vs cs js e
    have HU : ∀ (c1 s : List CV) (l : List CK) (g : GK) (vs : List AV),c1.length = Au E l → s.length = Au E (flt r) → (c1 ++ s).length = Au E (flt ((g,l) :: r)) := fun c1 s l g vs h1 h2 => by
      rw [List.length_append,h1,h2]
      exact (IU l (flt r)).symm
    obtain ⟨g,l⟩ := p
    cases vs with
    | nil => cases g with
      | b q => cases q <;> cases e
      | p => cases e
      | fn f gs m => cases e
    | cons v vs' =>
    cases g with
    | b q =>
      cases q with
      | true =>
        cases v with
        | one c => cases e
        | tup l => cases e
        | fnv f gs ps => cases e
        | agg c1 =>
        unfold Ix at e
        split at e
        · rename_i hl
          split at e
          · rename_i s js' hs
            cases e
            obtain ⟨h1,h2,h3⟩ := ih hs
            have hl := ze hl
            refine ⟨?_,fun nz nb hw => Ae.2 fun c hc => ?_,HU _ _ _ _ vs' hl h3⟩
            · rw [zj,h1,List.map_append]
              show _ = fH true (List.take _ _) :: Hj E r (List.drop _ _) _
              rw [← hl,List.take_left' (by rw [zh]),List.drop_left' (by rw [zh])]
              rfl
            · rcases List.mem_append.1 hc with hc | hc
              · exact Ae.1 (hw _ (List.mem_cons_self ..)) c hc
              · exact Ae.1 (h2 nz nb fun v hv => hw v (zd _ hv)) c hc
          · cases e
        · cases e
      | false =>
        cases v with
        | agg c => cases e
        | tup l => cases e
        | fnv f gs ps => cases e
        | one c1 =>
        unfold Ix at e
        split at e
        · rename_i hl
          split at e
          · rename_i s js' hs
            cases e
            obtain ⟨h1,h2,h3⟩ := ih hs
            have hl := ze hl
            refine ⟨?_,fun nz nb hw => Ae.2 fun c hc => ?_,HU [c1] _ _ _ vs' hl h3⟩
            · rw [zj,h1,zj]
              show _ = fH false (List.take _ _) :: Hj E r (List.drop _ _) _
              rw [← hl]
              rfl
            · rcases List.mem_cons.1 hc with rfl | hc
              · exact hw _ (List.mem_cons_self ..)
              · exact Ae.1 (h2 nz nb fun v hv => hw v (zd _ hv)) c hc
          · cases e
        · cases e
    | p =>
      cases v with
      | agg c => cases e
      | tup l => cases e
      | fnv f gs ps => cases e
      | one c1 =>
      cases c1 with
      | ptr b o =>
        cases o with
        | succ o => cases e
        | zero =>
        have e : (match Nat.beq 0 (Au E l) with | true => (match Ix E r vs' with | some (s,js) => some (s,b :: js) | none => none) | false => none) = some (cs,js) := e
        split at e
        · rename_i hl
          split at e
          · rename_i s js' hs
            cases e
            obtain ⟨h1,h2,h3⟩ := ih hs
            have hl := ze hl
            refine ⟨?_,fun nz nb hw => Ae.2 fun c hc => ?_,HU [] _ _ _ vs' hl h3⟩
            · rw [zj,h1]
              show _ = ptV _ :: Hj E r (List.drop _ _) _
              rw [← hl]
              rfl
            · exact Ae.1 (h2 nz nb fun v hv => hw v (zd _ hv)) c hc
          · cases e
        · cases e
      | _ => cases e
    | fn f gs m =>
      cases v with
      | agg c => cases e
      | tup l => cases e
      | one c => cases e
      | fnv f' gs' ps =>
      unfold Ix at e
      split at e
      · rename_i hf
        split at e
        · rename_i c1 hg
          split at e
          · rename_i bs hb
            split at e
            · rename_i hm
              split at e
              · rename_i hl
                split at e
                · rename_i s js' hs
                  cases e
                  obtain ⟨h1,h2,h3⟩ := ih hs
                  obtain ⟨k1,k2⟩ := ZX (E := E) (σ := σ) (ρ := ρ) hg
                  have hl := ze hl
                  have hm := ze hm
                  have hf := ze hf
                  refine ⟨?_,fun nz nb hw => Ae.2 fun c hc => ?_,HU _ _ _ _ vs' hl h3⟩
                  · rw [zj,h1,List.map_append,List.map_append]
                    show Value.func _ _ _ :: _ = Value.func _ (UW gs (List.take _ _)).toArray ((List.take m _).map _).toArray :: Hj E r (List.drop _ _) (List.drop m _)
                    rw [← hl, ← hm,List.take_left' (by rw [zh]),List.drop_left' (by rw [zh]),List.take_left' (by rw [zh]),List.drop_left' (by rw [zh]),k1,WN (E := E) (σ := σ) hb,hf]
                  · rcases List.mem_append.1 hc with hc | hc
                    · exact Ae.1 (k2 nz nb (Vr (hw _ (List.mem_cons_self ..))).2) c hc
                    · exact Ae.1 (h2 nz nb fun v hv => hw v (zd _ hv)) c hc
                · cases e
              · cases e
            · cases e
          · cases e
        · cases e
      · cases e
theorem UY : ∀ (ys : Sh) (cs : List CV) {gs : List (Bool × List CV)},bK E ys cs = some gs → gs.map (Kg E.sz σ ρ) = Hj E ys (cs.map (CV.val E.sz σ ρ)) []
  | [],cs,gs,e => by cases e; rfl
  | (.b b,l) :: r,cs,gs,e => by
    unfold bK at e
    split at e
    · rename_i s hs
      cases e
      show Kg E.sz σ ρ (b,cs.take _) :: s.map _ = fH b ((cs.map _).take _) :: Hj E r ((cs.map _).drop _) []
      rw [UY r _ hs, ← List.map_take, ← List.map_drop]
      congr 1
      cases b with
      | true => rfl
      | false => cases cs.take (Au E l) <;> rfl
    · cases e
  | (.p,l) :: r,cs,gs,e => nomatch e
  | (.fn _ _ _,l) :: r,cs,gs,e => nomatch e
theorem VV {nz nb : Nat} : ∀ (ys : Sh) (cs : List CV) {gs : List (Bool × List CV)},bK E ys cs = some gs → Bx (CV.wf nz nb) cs = true → ∀ p ∈ gs,Bx (CV.wf nz nb) p.2 = true
  | [],cs,gs,e,h,p,hp => by cases e; cases hp
  | (.b b,l) :: r,cs,gs,e,h,p,hp => by
    unfold bK at e
    split at e
    · rename_i s hs
      cases e
      rcases List.mem_cons.1 hp with rfl | hp
      · exact Ae.2 fun c hc => Ae.1 h c (List.mem_of_mem_take hc)
      · exact VV r _ hs (Ae.2 fun c hc => Ae.1 h c (List.mem_of_mem_drop hc)) p hp
    · cases e
  | (.p,l) :: r,cs,gs,e,h,p,hp => nomatch e
  | (.fn _ _ _,l) :: r,cs,gs,e,h,p,hp => nomatch e
theorem j1 {ys : Sh} {cs : List CV} {v : AV} {nz nb : Nat} (e : rB E ys cs = some v) (hw : Bx (CV.wf nz nb) cs = true) : v.val E.sz σ ρ = SO E ys (cs.map (CV.val E.sz σ ρ)) ∧ v.wf nz nb = true := by
  unfold rB at e
  unfold SO
  split at e
  · rename_i p hp
    have h1 := UY (E := E) (σ := σ) (ρ := ρ) ys cs hp
    have h3 := VV (E := E) ys cs hp hw p (List.mem_cons_self ..)
    rw [← h1]
    obtain ⟨b,l⟩ := p
    unfold YL at e
    split at e <;> rename_i he
    · cases e; cases he; exact ⟨rfl,h3⟩
    · cases e; cases he; exact ⟨rfl,Ae.1 h3 _ (List.mem_cons_self ..)⟩
    · cases e
  · rename_i l hp hl
    cases e
    have h1 := UY (E := E) (σ := σ) (ρ := ρ) ys cs hl
    have h2 := VV (E := E) ys cs hl hw
    rw [← h1]
    refine ⟨?_,Ae.2 fun p hp => h2 p hp⟩
    show Value.tuple _ = _
    split
    · rename_i v hv
      obtain ⟨p,hp',_⟩ := List.map_eq_singleton_iff.1 hv
      exact absurd (by rw [hp']) (hp p)
    · rfl
  · cases e
theorem JF.base {B' : Bs} : ∀ {L : List (Leaf E.c)} {cs : List Value} {its : List It},Yh L = true → JF ZC (DI E B) L cs its → JF ZC (DI E B') L cs its
  | [],cs,its,_,h => h
  | .v x :: L,cs,its,hn,⟨v,r,e,h1,h2,h⟩ => ⟨v,r,e,h1,h2,JF.base hn h⟩
  | .s z :: L,cs,its,hn,h => by
    obtain ⟨k,u,l⟩ := z
    rcases h with ⟨v,r,e,hi,h⟩ | ⟨v,r,it,its',e1,e2,⟨lx,g1,g2⟩,h⟩
    · exact hi.elim
    · cases k with
      | rd => cases hn
      | own e => exact .inr ⟨v,r,it,its',e1,e2,⟨lx,g1,g2⟩,JF.base hn h⟩
      | frz => exact .inr ⟨v,r,it,its',e1,e2,⟨lx,g1,g2⟩,JF.base hn h⟩
theorem JF.all {M : CU} : ∀ {L : List (Leaf E.c)} {cs : List Value} {its X : List It},JF (W0 E B w (Aq M (its ++ X))) (DI E B) L cs its → Stw B M (its ++ X) w → ∃ its',JF ZC (DI E B) L cs its' ∧ Stw B M (its' ++ X) w
  | [],cs,its,X,h,hW => ⟨[],⟨h.1,rfl⟩,by rw [h.2] at hW; exact hW⟩
  | .v x :: L,cs,its,X,⟨v,r,e,h1,h2,h⟩,hW => by
    obtain ⟨its',g1,g2⟩ := JF.all h hW
    exact ⟨its',⟨v,r,e,h1,h2,g1⟩,g2⟩
  | .s z :: L,cs,its,X,h,hW => by
    rcases h with ⟨v,r,e,hi,h⟩ | ⟨v,r,it,its',e1,e2,h1,h⟩
    · obtain ⟨it,hb,h1,h2⟩ := hW.note' hi
      have hp : (it :: (its ++ X)).Perm (its ++ it :: X) := List.perm_middle.symm
      obtain ⟨its',g1,g2⟩ := JF.all (X := it :: X) (h.mono (fun y u hy => hy.mono fun g hg => by
        have := ((He (M := M) hp).mem_iff (a := g)).2 hg
        rw [Rj hb] at this
        exact this) fun _ _ _ h => h) (h2.permZ hp)
      exact ⟨it :: its',.inr ⟨v,r,it,its',e,rfl,h1,g1⟩,g2.permZ List.perm_middle⟩
    · subst e2
      have hp : (it :: (its' ++ X)).Perm (its' ++ it :: X) := List.perm_middle.symm
      obtain ⟨its'',g1,g2⟩ := JF.all (X := it :: X) (h.mono (fun y u hy => hy.mono fun g hg => ((He (M := M) hp).mem_iff (a := g)).2 hg) fun _ _ _ h => h) (hW.permZ hp)
      exact ⟨it :: its'',.inr ⟨v,r,it,its'',e1,rfl,h1,g1⟩,g2.permZ List.perm_middle⟩
def lA (q : Bool) (A A' : Nat → Prop) : Nat → Prop := match q with | true => A | false => A'
theorem jR {its : List It} {Ml Mr : CU} (h : StC E B θ S σ ρ ι) (hW : Stw B (Ml ++ Mr) (its ++ S.zz ι) w) (q : Bool) {a : U} {c : CV} {l : List (a.T E.c)} (e : aA true S (qk q) a c = some l) : Sl w (lA q (NX (Aq Ml its)) (Fz B (Aq (Ml ++ Mr) (its ++ S.zz ι)))) (a.rp E.r) (c.val E.sz σ ρ) l := by
  unfold aA at e
  split at e
  · cases e; exact .nil
  · rename_i z
    split at e
    · rename_i ver k u' l' hz
      split at e
      · rename_i hk
        refine Sc e ?_
        have hm := A8 hz
        obtain ⟨lx,e1,e2⟩ := h.it _ hm
        have hin : ι z ∈ S.zz ι := List.mem_map.2 ⟨_,hm,rfl⟩
        have hok := hW.items (ι z) (List.mem_append_right _ hin)
        rw [e2] at hok hin
        refine Sl.hide (Ex.seen (u'.rp E.r)) e1 ?_
        have hsub : ∀ g ∈ Aq Ml its,g ∈ Aq (Ml ++ Mr) (its ++ S.zz ι) := fun g hg => YQ (Ml := Ml) (M := Mr) hg
        cases q with
        | false =>
          cases k with
          | own e => cases hk
          | rd => cases hk
          | frz => exact hok
        | true =>
          cases k with
          | own e0 =>
            obtain ⟨i,hi⟩ := List.mem_iff_getElem?.1 hin
            exact Aby (Ml := Ml) (Zl := its) (e := e0) hW i hi
          | frz => exact (show Sl w (Fz B _) _ _ _ from hok).nxF hsub
          | rd => exact hW.roX (show Sl B.w0 (NX B.X) _ _ _ from hok) hsub
      · cases e
    · cases e
  · cases e
theorem X5 {Mx : CU} : ∀ (os ns : List CV) {S S' : St E.c} {ι : Nat → It} {w : World},StC E B θ S σ ρ ι → Stw B Mx (S.zz ι) w → os.map (CV.val E.sz σ ρ) = ns.map (CV.val E.sz σ ρ) → Bx (CV.wf S.nz S.nb) os = true → Ub os ns S = some S' →
    ∃ ι',StC E B θ S' σ ρ ι' ∧ Stw B Mx (S'.zz ι') w ∧ Tk S S'
  | [],ns,S,S',ι,w,h,hW,hv,hw,e => by cases e; exact ⟨ι,h,hW,Tk.refl _⟩
  | .sl z :: r,.sl z' :: r',S,S',ι,w,h,hW,hv,hw,e => by
    unfold Ub at e
    split at e
    · cases e
    · rename_i hno
      split at e
      · rename_i ver x Zr hp
        obtain ⟨n1,n2,n3,n4⟩ := N6 h.nZ hp
        rw [zj,zj] at hv
        obtain ⟨hv1,hv2⟩ := List.cons.inj hv
        have hv1 : σ z = σ z' := hv1
        have hwz := Ae.1 hw _ (List.mem_cons_self ..)
        have hzlt : z < S.nz := zf hwz
        have hnz : ∀ p ∈ S.Z,p.1 ≠ z := fun p hp' he => by
          have := F7 h.nZ (show (p.1,p.2) ∈ S.Z from hp')
          rw [he,hno] at this; cases this
        have hmr : (Zr.map fun p => DH ι z (ι z') p.1) = Zr.map fun p => ι p.1 := List.map_congr_left fun p hp' => DM (hnz p (n2 p hp'))
        have h1 : StC E B θ { S with Z := (z,S.nv,x) :: Zr,C := [],nv := S.nv + 1 } σ ρ (DH ι z (ι z')) := {
          it := fun p hp' => by
            rcases List.mem_cons.1 hp' with rfl | hp'
            · show Y2 E B (σ z) x (DH ι z _ z)
              rw [El,hv1]; exact h.it _ n3
            · rw [DM (hnz p (n2 p hp'))]; exact h.it p (n2 p hp')
          wF := fun p hp => ⟨(h.wF p hp).1,Nat.lt_succ_of_lt (h.wF p hp).2⟩
          wM := fun p hp => ⟨(h.wM p hp).1,Nat.lt_succ_of_lt (h.wM p hp).2.1,(h.wM p hp).2.2⟩
          wZ := fun p hp' => by
            rcases List.mem_cons.1 hp' with rfl | hp'
            · exact ⟨hzlt,Nat.lt_succ_self _⟩
            · exact ⟨(h.wZ p (n2 p hp')).1,Nat.lt_succ_of_lt (h.wZ p (n2 p hp')).2⟩
          nZ := by
            show (z :: Zr.map (·.1)).Nodup
            rw [List.nodup_cons]
            exact ⟨fun hm => by obtain ⟨p,hp',e⟩ := List.mem_map.1 hm; exact hnz p (n2 p hp') e,n1⟩
          ca := fun p hp' => nomatch hp'
          pn := h.pn
          pi := ⟨Nat.le_succ_of_le h.pi.1,fun p hp' hv => by
            rcases List.mem_cons.1 hp' with rfl | hp'
            · exact absurd (Nat.lt_of_lt_of_le hv h.pi.1) (Nat.lt_irrefl _)
            · rw [DM (hnz p (n2 p hp'))]; exact h.pi.2 p (n2 p hp') hv⟩ }
        have hW1 : Stw B Mx (DH ι z (ι z') z :: Zr.map fun p => DH ι z (ι z') p.1) w := by
          rw [hmr,El]
          exact hW.permZ ((FY hp).map fun p => ι p.1)
        obtain ⟨ι',g1,g2,g3⟩ := X5 r r' (S := { S with Z := (z,S.nv,x) :: Zr,C := [],nv := S.nv + 1 }) h1 hW1 hv2 (Ae.2 fun c hc => Ae.1 hw c (zd _ hc)) e
        refine ⟨ι',g1,g2,Tk.trans (S' := { S with Z := (z,S.nv,x) :: Zr,C := [],nv := S.nv + 1 }) ⟨⟨Nat.le_succ _,fun _ _ e _ => e,fun _ _ e _ => e,fun j q hq hl => ?_,fun _ _ _ h _ => ⟨h,rfl⟩⟩,rfl,rfl,rfl,rfl⟩ g3⟩
        by_cases hb : z = j
        · subst hb
          simp only [DK] at hq
          cases hq
          exact absurd hl (Nat.lt_irrefl _)
        · simp only [C6 hb] at hq
          exact Pb h.nZ hp hq
      · cases e
  | .nil :: r,_ :: r',S,S',ι,w,h,hW,hv,hw,e => by
    unfold Ub at e
    rw [zj,zj] at hv
    exact X5 r r' h hW (List.cons.inj hv).2 (Ae.2 fun c hc => Ae.1 hw c (zd _ hc)) e
  | .nil :: r,[],S,S',ι,w,h,hW,hv,hw,e => nomatch hv
  | .sl z :: r,[],S,S',ι,w,h,hW,hv,hw,e => nomatch hv
  | .int _ _ :: r,_,S,S',ι,w,h,hW,hv,hw,e => by unfold Ub at e; cases e
  | .bool _ :: r,_,S,S',ι,w,h,hW,hv,hw,e => by unfold Ub at e; cases e
  | .str _ :: r,_,S,S',ι,w,h,hW,hv,hw,e => by unfold Ub at e; cases e
  | .flt _ _ :: r,_,S,S',ι,w,h,hW,hv,hw,e => by unfold Ub at e; cases e
  | .ptr _ _ :: r,_,S,S',ι,w,h,hW,hv,hw,e => by unfold Ub at e; cases e
  | .ep _ _ _ _ :: r,_,S,S',ι,w,h,hW,hv,hw,e => by unfold Ub at e; cases e
  | .fn _ :: r,_,S,S',ι,w,h,hW,hv,hw,e => by unfold Ub at e; cases e
  | .sl z :: r,.int _ _ :: _,S,S',ι,w,h,hW,hv,hw,e => by unfold Ub at e; cases e
  | .sl z :: r,.bool _ :: _,S,S',ι,w,h,hW,hv,hw,e => by unfold Ub at e; cases e
  | .sl z :: r,.str _ :: _,S,S',ι,w,h,hW,hv,hw,e => by unfold Ub at e; cases e
  | .sl z :: r,.flt _ _ :: _,S,S',ι,w,h,hW,hv,hw,e => by unfold Ub at e; cases e
  | .sl z :: r,.nil :: _,S,S',ι,w,h,hW,hv,hw,e => by unfold Ub at e; cases e
  | .sl z :: r,.ptr _ _ :: _,S,S',ι,w,h,hW,hv,hw,e => by unfold Ub at e; cases e
  | .sl z :: r,.ep _ _ _ _ :: _,S,S',ι,w,h,hW,hv,hw,e => by unfold Ub at e; cases e
  | .sl z :: r,.fn _ :: _,S,S',ι,w,h,hW,hv,hw,e => by unfold Ub at e; cases e
theorem Rh : ∀ (l : List CK) (cs : List CV),(Si E l cs).map (CV.val E.sz σ ρ) = Nx E l (cs.map (CV.val E.sz σ ρ))
  | [],cs => rfl
  | .d _ u :: r,cs => by
    show (Si E r (cs.drop _)).map _ = Nx E r ((cs.map _).drop _)
    rw [Rh r,List.map_drop]
  | .o _ _ :: r,[] => rfl
  | .o _ _ :: r,c :: cs => by
    show c.val E.sz σ ρ :: (Si E r cs).map _ = _ :: Nx E r (cs.map _)
    rw [Rh r]
theorem U2 {nz nb : Nat} : ∀ (l : List CK) (cs : List CV),Bx (CV.wf nz nb) cs = true → Bx (CV.wf nz nb) (Si E l cs) = true
  | [],cs,h => rfl
  | .d _ u :: r,cs,h => U2 r _ (Ae.2 fun c hc => Ae.1 h c (List.mem_of_mem_drop hc))
  | .o _ _ :: r,[],h => rfl
  | .o _ _ :: r,c :: cs,h => by
    show Bx _ (c :: Si E r cs) = true
    have h1 := U2 r cs (Ae.2 fun c' hc => Ae.1 h c' (zd _ hc))
    refine Ae.2 fun c' hc => ?_
    rcases List.mem_cons.1 hc with rfl | hc
    · exact Ae.1 h _ (List.mem_cons_self ..)
    · exact Ae.1 h1 c' hc
theorem Qc {β : Type _} : ∀ {js : List Nat} {M es R : List (Nat × β)},aT M js = some (es,R) → M.Perm (es ++ R) ∧ es.map (·.1) = js
  | [],M,es,R,e => by cases e; exact ⟨List.Perm.refl _,rfl⟩
  | j :: js,M,es,R,e => by
    unfold aT at e
    split at e
    · rename_i x Mr hp
      split at e
      · rename_i es' R' he
        cases e
        obtain ⟨h1,h2⟩ := Qc he
        exact ⟨(FY hp).trans (h1.cons _),by rw [zj,h2]⟩
      · cases e
    · cases e
theorem ZO : ∀ {bs : Bk} {es : List (Nat × Nat × List CV)},bT E bs es = true → es.length = bs.length
  | [],[],_ => rfl
  | [],_ :: _,e => nomatch e
  | _ :: _,[],e => nomatch e
  | (_,l) :: bs,(_,_,cs) :: es,e => by
    unfold bT at e
    split at e
    · rw [List.length_cons,List.length_cons,ZO e]
    · cases e
abbrev eV (E : TE) (σ : Nat → Value) (ρ : Nat → Nat) (es : List (Nat × Nat × List CV)) : CU := es.map fun p => (ρ p.1,p.2.2.map (CV.val E.sz σ ρ))
theorem dS : ∀ {bs : Bk} {es : List (Nat × Nat × List CV)},bT E bs es = true → oG E (es.map fun p => ρ p.1) bs ((I0 es).map (CV.val E.sz σ ρ)) = eV E σ ρ es
  | [],[],_ => rfl
  | [],_ :: _,e => nomatch e
  | _ :: _,[],e => nomatch e
  | (_,l) :: bs,(b,ver,cs) :: es,e => by
    unfold bT at e
    split at e
    · rename_i hl
      have hl := ze hl
      show (ρ b,List.take (Au E l) (List.map _ (cs ++ I0 es))) :: oG E (es.map fun p => ρ p.1) bs (List.drop (Au E l) (List.map _ (cs ++ I0 es))) = _
      rw [List.map_append, ← hl,List.take_left' (by rw [zh]),List.drop_left' (by rw [zh]),dS e]
      rfl
    · cases e
def tR (E : TE) (σ : Nat → Value) (ρ : Nat → Nat) : Bk → List (Nat × Nat × List CV) → List CV → CU
  | (true,l) :: bs,e :: es,cs => (ρ e.1,(cs.take (Au E l)).map (CV.val E.sz σ ρ)) :: tR E σ ρ bs es (cs.drop (Au E l))
  | (false,_) :: bs,e :: es,cs => (ρ e.1,e.2.2.map (CV.val E.sz σ ρ)) :: tR E σ ρ bs es cs
  | _,_,_ => []
theorem XW : ∀ {bs : Bk} {es : List (Nat × Nat × List CV)} {cs : List CV},bT E bs es = true → bX E (es.map fun p => ρ p.1) bs ((I0 es).map (CV.val E.sz σ ρ)) (cs.map (CV.val E.sz σ ρ)) = tR E σ ρ bs es cs
  | [],[],_,_ => rfl
  | [],_ :: _,_,e => nomatch e
  | _ :: _,[],_,e => nomatch e
  | (q, l) :: bs, (b, ver, c1) :: es, cs, e => by
    unfold bT at e
    split at e
    · rename_i hl
      have hl := ze hl
      have h1 : List.take (Au E l) (List.map (CV.val E.sz σ ρ) (c1 ++ I0 es)) = c1.map (CV.val E.sz σ ρ) := by rw [List.map_append, ← hl,List.take_left' (by rw [zh])]
      have h2 : List.drop (Au E l) (List.map (CV.val E.sz σ ρ) (c1 ++ I0 es)) = (I0 es).map (CV.val E.sz σ ρ) := by rw [List.map_append, ← hl,List.drop_left' (by rw [zh])]
      cases q with
      | true =>
        show (ρ b,List.take (Au E l) (List.map _ cs)) :: bX E (es.map fun p => ρ p.1) bs (List.drop (Au E l) (List.map _ (c1 ++ I0 es))) (List.drop (Au E l) (List.map _ cs)) = _
        rw [h2, ← List.map_drop,XW e, ← List.map_take]
        rfl
      | false =>
        show (ρ b,List.take (Au E l) (List.map _ (c1 ++ I0 es))) :: bX E (es.map fun p => ρ p.1) bs (List.drop (Au E l) (List.map _ (c1 ++ I0 es))) (List.map _ cs) = _
        rw [h1,h2,XW e]
        rfl
    · cases e
theorem Vj {Z : List It} : ∀ {bs : Bk} {js : List Nat} {cs : List CV} {S S' : St E.c} {es R : List (Nat × Nat × List CV)},S.M.Perm (es ++ R) → es.map (·.1) = js → (S.M.map (·.1)).Nodup → bR E bs js cs S = some S' → StC E B θ S σ ρ ι → Bx (CV.wf S.nz S.nb) cs = true → Stw B (tR E σ ρ bs es cs ++ eV E σ ρ R) Z w →
    StC E B θ S' σ ρ ι ∧ Stw B (S'.mm E σ ρ) Z w ∧ Ext S S' ∧ S'.F = S.F ∧ S'.Z = S.Z ∧ S'.nz = S.nz ∧ S'.nb = S.nb
  | [],js,cs,S,S',es,R,hp,hj,hn,e,h,hw,hW => by
    cases js with
    | cons j js => cases e
    | nil =>
      cases e
      cases es with
      | cons x es => cases hj
      | nil => exact ⟨h,hW.perm (hp.map _).symm,Ext.refl _,rfl,rfl,rfl,rfl⟩
  | (q,l) :: bs,[],cs,S,S',es,R,hp,hj,hn,e,h,hw,hW => by cases q <;> cases e
  | (q,l) :: bs,j :: js,cs,S,S',[],R,hp,hj,hn,e,h,hw,hW => nomatch hj
  | (false,l) :: bs,j :: js,cs,S,S',x :: es,R,hp,hj,hn,e,h,hw,hW => by
    refine Vj (es := es) (R := x :: R) (hp.trans List.perm_middle.symm) (List.cons.inj hj).2 hn (show bR E bs js cs S = some S' from e) h hw ?_
    exact Stw.perm (show Stw B ((ρ x.1,x.2.2.map (CV.val E.sz σ ρ)) :: (tR E σ ρ bs es cs ++ eV E σ ρ R)) Z w from hW) List.perm_middle.symm
  | (true, l) :: bs, j :: js, cs, S, S', x :: es, R, hp, hj, hn, e, h, hw, hW => by
    unfold bR at e
    split at e
    · rename_i y Mr hk
      have hx1 : x.1 = j := (List.cons.inj hj).1
      have hp1 := FY hk
      have hy : CQ S.M j = some y := (Q8 hk).1
      have hx : CQ S.M j = some x.2 := F7 hn (hp.mem_iff.2 (by rw [← hx1]; exact List.mem_cons_self ..))
      have hxy : x.2 = y := Option.some.inj (hx.symm.trans hy)
      have hpr : Mr.Perm (es ++ R) := by
        have : ((j,y) :: Mr).Perm (x :: (es ++ R)) := hp1.symm.trans hp
        rw [show x = (j,y) from by rw [← hx1, ← hxy]] at this
        exact this.cons_inv
      have hwt : Bx (CV.wf S.nz S.nb) (cs.take (Au E l)) = true := Ae.2 fun c hc => Ae.1 hw c (List.mem_of_mem_take hc)
      have hwd : Bx (CV.wf S.nz S.nb) (cs.drop (Au E l)) = true := Ae.2 fun c hc => Ae.1 hw c (List.mem_of_mem_drop hc)
      have hsub : ∀ p ∈ Mr,p ∈ S.M := fun p hp' => hp1.mem_iff.2 (zd _ hp')
      have hnM := (hp1.map (·.1)).nodup_iff.1 hn
      rw [zj] at hnM
      have hmem : (j,y) ∈ S.M := hp1.mem_iff.2 (List.mem_cons_self ..)
      have hfr : ∀ k,k ≠ j → CQ Mr k = CQ S.M k := fun k hk' => (Q8 hk).2 k hk'
      have h1 : StC E B θ { S with M := (j,S.nv,cs.take (Au E l)) :: Mr,V := (j,List.replicate (cs.take (Au E l)).length S.nv) :: S.V,nv := S.nv + 1 } σ ρ ι := {
        it := h.it,wF := fun p hp => ⟨(h.wF p hp).1,Nat.lt_succ_of_lt (h.wF p hp).2⟩
        wM := fun p hp => by
          rcases List.mem_cons.1 hp with rfl | hp
          · exact ⟨(h.wM _ hmem).1,Nat.lt_succ_self _,hwt⟩
          · exact ⟨(h.wM p (hsub p hp)).1,Nat.lt_succ_of_lt (h.wM p (hsub p hp)).2.1,(h.wM p (hsub p hp)).2.2⟩
        wZ := fun p hp => ⟨(h.wZ p hp).1,Nat.lt_succ_of_lt (h.wZ p hp).2⟩,nZ := h.nZ,ca := h.ca,pn := h.pn,pi := ⟨Nat.le_succ_of_le h.pi.1,h.pi.2⟩ }
      have x1 : Ext S { S with M := (j,S.nv,cs.take (Au E l)) :: Mr,V := (j,List.replicate (cs.take (Au E l)).length S.nv) :: S.V,nv := S.nv + 1 } := ⟨Nat.le_succ _,fun _ _ e _ => e,fun k z hz hl => by
        by_cases hb : j = k
        · subst hb; simp only [DK] at hz; cases hz; exact absurd hl (Nat.lt_irrefl _)
        · simp only [C6 hb] at hz; rw [hfr k (Ne.symm hb)] at hz; exact hz,fun _ _ e _ => e,fun k i v hv hl => by
        by_cases hb : j = k
        · subst hb
          unfold Uz at hv
          simp only [DK,List.getElem?_replicate] at hv
          split at hv
          · cases hv; exact absurd hl (Nat.lt_irrefl _)
          · cases hv
        · unfold Uz i9 at *
          simp only [C6 hb] at hv ⊢
          rw [hfr k (Ne.symm hb)]
          exact ⟨hv,rfl⟩⟩
      obtain ⟨g1,g2,g3,g4,g5,g6,g7⟩ := Vj (es := es) (R := (j,S.nv,cs.take (Au E l)) :: R) ((hpr.cons _).trans List.perm_middle.symm) (List.cons.inj hj).2 (by exact hnM) e h1 hwd (by
        refine Stw.perm (show Stw B ((ρ x.1,(cs.take (Au E l)).map (CV.val E.sz σ ρ)) :: (tR E σ ρ bs es (cs.drop (Au E l)) ++ eV E σ ρ R)) Z w from hW) ?_
        rw [hx1]
        exact List.perm_middle.symm)
      exact ⟨g1,g2,x1.trans g3,g4,g5,g6,g7⟩
    · cases e
theorem ndM {S : St E.c} {Z : List It} (h : Stw B (S.mm E σ ρ) Z w) : (S.M.map (·.1)).Nodup := by
  have h1 : (S.M.map fun p => ρ p.1).Nodup := by
    have := (List.nodup_append.1 h.nodup).1
    rw [List.map_map] at this
    exact this
  have h2 : (S.M.map fun p => ρ p.1) = (S.M.map (·.1)).map ρ := by rw [List.map_map]; rfl
  rw [h2] at h1
  exact Jm h1
theorem ZS {nz nb : Nat} : ∀ {es : List (Nat × Nat × List CV)},(∀ p ∈ es,Bx (CV.wf nz nb) p.2.2 = true) → Bx (CV.wf nz nb) (I0 es) = true
  | [],_ => rfl
  | e :: es,h => Ae.2 fun c hc => by
    rcases List.mem_append.1 (show c ∈ e.2.2 ++ I0 es from hc) with hc | hc
    · exact Ae.1 (h e (List.mem_cons_self ..)) c hc
    · exact Ae.1 (ZS fun p hp => h p (zd _ hp)) c hc
theorem Wc {G : Hq E P} (hG : ConsOk B G) (h : Rel E B θ n ds S a w σ ρ ι) {f : Nat} {vs : List AV} {k : AV → St E.c → Tree R} {r : R} (hvs : ∀ v ∈ vs,v.wf S.nz S.nb = true) (e : (Uu E G f vs S k).den = some r) :
    ∃ (Ml Mr : CU) (Zl Zr : List It) (β : Type) (rv : β → Value) (MM : β → CU) (ZZ : β → List It),Stw B (Ml ++ Mr) (Zl ++ Zr) w ∧ Has P f ∧
      (Stw ⟨Fz B (Aq (Ml ++ Mr) (Zl ++ Zr)),Aq Ml Zl,w⟩ Ml Zl w → Calls P f (vs.map (AV.val E.sz σ ρ)).toArray w fun e w' => ∃ x : β,e = .returned (rv x) ∧ Stw ⟨Fz B (Aq (Ml ++ Mr) (Zl ++ Zr)),Aq Ml Zl,w⟩ (MM x) (ZZ x) w') ∧
      ∀ x w',Stw B (MM x ++ Mr) (ZZ x ++ Zr) w' → ∃ v S' σ' ι',Ext S S' ∧ StC E B θ S' σ' ρ ι' ∧ Stw B (S'.mm E σ' ρ) (S'.zz ι') w' ∧ S'.F = S.F ∧ Ag S.nz S.nb σ σ' ρ ρ ∧ v.wf S'.nz S'.nb = true ∧ v.val E.sz σ' ρ = rv x ∧ (k v S').den = some r := by
  unfold Uu at e
  split at e
  · rename_i C cs js hC
    obtain ⟨hin,hcs⟩ := Vw hC
    obtain ⟨hok,hhas⟩ := hG.ok _ hin
    have hok : ∀ (Y : Nat → Prop) (Ml M : CU) (Zl Z : List It) (w : World),Stw B (Ml ++ M) (Zl ++ Z) w → d7 C f Y (Aq Ml Zl) w := hok
    obtain ⟨a1,a2,a3⟩ := Ux (σ := σ) (ρ := ρ) hcs
    have hwc := a2 _ _ hvs
    split at e
    · rename_i es R0 hes
      obtain ⟨b1,b2⟩ := Qc hes
      split at e
      · rename_i hsz
        have hwe : Bx (CV.wf S.nz S.nb) (I0 es) = true := ZS fun p hp => (h.wM p (b1.mem_iff.2 (List.mem_append_left _ hp))).2.2
        have hwa : Bx (CV.wf S.nz S.nb) (cs ++ I0 es) = true := Ae.2 fun c hc => by
          rcases List.mem_append.1 hc with hc | hc
          · exact Ae.1 hwc c hc
          · exact Ae.1 hwe c hc
        have hpm : (S.mm E σ ρ).Perm (eV E σ ρ es ++ eV E σ ρ R0) := by
          have := b1.map fun p => (ρ p.1,p.2.2.map (CV.val E.sz σ ρ))
          rw [List.map_append] at this
          exact this
        split at e
        · rename_i x S1 hpk
          unfold pk at hpk
          split at hpk
          · rename_i S1' ol h1
            split at hpk
            · rename_i t ht
              cases hpk
              obtain ⟨its,ι1,s1,s2,s3,s4⟩ := Oc (Dp C.xs C.bs) (cs ++ I0 es) (X := []) h.toStC h.st h1
              have s2 : Stw B (S1.mm E σ ρ) (its ++ S1.zz ι1) w := s2
              have hmm : S1.mm E σ ρ = S.mm E σ ρ := by
                show S1.M.map _ = S.M.map _
                rw [s3.fM]
              have s2' : Stw B (eV E σ ρ es ++ eV E σ ρ R0) (its ++ S1.zz ι1) w := s2.perm (by rw [hmm]; exact hpm)
              have hrun : ∃ r0,C.tw x = some r0 ∧ (lR E C cs js S1 k r0).den = some r ∧ ∃ L,Q7 E (Dp C.xs C.bs) x = some L := by
                split at e
                · rename_i L hLx
                  split at e
                  · rename_i g hg
                    exact ⟨g.1 x,g.2 x,e,L,hLx⟩
                  · obtain ⟨r0,q1,q2⟩ := Option.bind_eq_some_iff.1 e
                    exact ⟨r0,q1,q2,L,hLx⟩
                · cases e
              obtain ⟨r0,hr0,hd,L,hLx⟩ := hrun
              unfold lR at hd
              split at hd
              · rename_i L' hL'
                split at hd
                · rename_i hnr
                  refine ⟨eV E σ ρ es,eV E σ ρ R0,its,S1.zz ι1, { p : List Value × List It // JF ZC (DI E ⟨Fz B (Aq (eV E σ ρ es ++ eV E σ ρ R0) (its ++ S1.zz ι1)),Aq (eV E σ ρ es) its,w⟩) L' p.1 p.2 ∧ (C.io = true → p.1.drop (Au E (flt C.ys ++ aU C.bs)) = Nx E (flt C.xs) (cs.map (CV.val E.sz σ ρ))) },fun p => SO E C.ys p.1.1,fun p => bX E (es.map fun p => ρ p.1) C.bs ((I0 es).map (CV.val E.sz σ ρ)) (p.1.1.drop (Au E (flt C.ys))),fun p => p.1.2,s2',hhas,fun hl => ?_,fun p w' hW' => ?_⟩
                  · -- the callee
                    have key : ∀ L,Q7 E (Dp C.xs C.bs) x = some L → ∃ its',JF ZC (DI E ⟨Fz B (Aq (eV E σ ρ es ++ eV E σ ρ R0) (its ++ S1.zz ι1)),Aq (eV E σ ρ es) its,w⟩) L ((cs ++ I0 es).map (CV.val E.sz σ ρ)) its' ∧ Stw ⟨Fz B (Aq (eV E σ ρ es ++ eV E σ ρ R0) (its ++ S1.zz ι1)),Aq (eV E σ ρ es) its,w⟩ (eV E σ ρ es) its' w := by
                      intro L hL
                      obtain ⟨cs1,g1,g2⟩ := Tp (lax := true) (B := B) (S := S1) (I := fun z v => match z.k with | .own _ => False | .frz => Sl w (Fz B (Aq (eV E σ ρ es ++ eV E σ ρ R0) (its ++ S1.zz ι1))) (z.u.rp E.r) v z.l | .rd => Sl w (NX (Aq (eV E σ ρ es) its)) (z.u.rp E.r) v z.l)
                        (W := fun _ => w) (A := fun q => lA q (NX (Aq (eV E σ ρ es) its)) (Fz B (Aq (eV E σ ρ es ++ eV E σ ρ R0) (its ++ S1.zz ι1))))
                        (fun q a c l hh => jR s1 s2' q hh) (fun q u v l hh => by cases q <;> exact hh) (Dp C.xs C.bs) ol _ s4 ht hL
                      rw [List.map_nil,List.append_nil] at g1
                      rw [g1]
                      have g3 : JF (W0 E ⟨Fz B (Aq (eV E σ ρ es ++ eV E σ ρ R0) (its ++ S1.zz ι1)),Aq (eV E σ ρ es) its,w⟩ w (Aq (eV E σ ρ es) (its ++ []))) (DI E ⟨Fz B (Aq (eV E σ ρ es ++ eV E σ ρ R0) (its ++ S1.zz ι1)),Aq (eV E σ ρ es) its,w⟩) L cs1 its := g2.mono (fun z v hz => by
                        obtain ⟨k,u,l⟩ := z
                        rw [List.append_nil]
                        cases k with
                        | own e => exact hz
                        | frz => exact hl.old (show Sl w (Fz B (Aq (eV E σ ρ es ++ eV E σ ρ R0) (its ++ S1.zz ι1))) (u.rp E.r) v l from hz)
                        | rd => exact hz) fun z v it hz => hz.base.2
                      obtain ⟨its',q1,q2⟩ := JF.all (X := []) g3 (by rw [List.append_nil]; exact hl)
                      exact ⟨its',q1,by rw [List.append_nil] at q2; exact q2⟩
                    obtain ⟨its',q1,q2⟩ := key L hLx
                    have hdr : ((cs ++ I0 es).map (CV.val E.sz σ ρ)).drop (Au E (flt C.xs)) = (I0 es).map (CV.val E.sz σ ρ) := by rw [List.map_append,List.drop_left' (by rw [zh]; exact a3)]
                    have hmb : js.map ρ = es.map fun p => ρ p.1 := by rw [← b2,List.map_map]; rfl
                    have := hok (Fz B (Aq (eV E σ ρ es ++ eV E σ ρ R0) (its ++ S1.zz ι1))) _ _ _ _ w s2' x r0 L _ its' (es.map fun p => ρ p.1) hr0 hLx q1 (by rw [zh]; exact ZO hsz) (by rw [hdr,dS hsz]; exact q2)
                    have hg : Hj E C.xs ((cs ++ I0 es).map (CV.val E.sz σ ρ)) (es.map fun p => ρ p.1) = vs.map (AV.val E.sz σ ρ) := by rw [List.map_append,J1 _ _ _ _ (by rw [zh]; exact a3), ← hmb, ← a1]
                    rw [hg] at this
                    refine this.mono fun e' w' ⟨L2,cs2,its2,p1,p2,p3,p4,p5⟩ => ?_
                    have : L2 = L' := Option.some.inj (p1.symm.trans hL')
                    subst this
                    rw [hdr] at p3
                    refine ⟨⟨(cs2,its2),p2,fun hio => ?_⟩,p4,p3⟩
                    rw [p5 hio,List.map_append]
                    exact M7 _ _ _ (by rw [zh]; exact a3)
                  · obtain ⟨⟨cs2,its2⟩,p2,p5⟩ := p
                    simp only at hW' p2 p5
                    have p3 : JF ZC (DI E B) L' cs2 its2 := JF.base hnr p2
                    obtain ⟨σ',ι',g0,g1,g2,g3,g4,g5,g6,g7⟩ := StC.injM (S := S1) (X := []) L' s1 hW' (p3.mono (fun _ _ h => h.elim) fun _ _ _ h => h)
                    have hAg : Ag S.nz S.nb σ σ' ρ ρ := by
                      have := g2
                      rw [s3.fz,s3.fb] at this
                      exact this
                    have hF1 : (injS S1 L').2.F = S.F := (Fm L' S1).1.trans s3.fF
                    have hM1 : (injS S1 L').2.M = S.M := (Fm L' S1).2.1.trans s3.fM
                    simp only at hd
                    split at hd
                    · rename_i S2 hS2
                      split at hd
                      · rename_i S3 hS3
                        split at hd
                        · rename_i v hv
                          have hio : ∃ ι2,StC E B θ S2 σ' ρ ι2 ∧ Stw B (bX E (es.map fun p => ρ p.1) C.bs ((I0 es).map (CV.val E.sz σ ρ)) (cs2.drop (Au E (flt C.ys))) ++ eV E σ ρ R0) (S2.zz ι2) w' ∧ Tk (injS S1 L').2 S2 := by
                            split at hS2
                            · rename_i hio
                              refine X5 _ _ g0 g1 ?_ ?_ hS2
                              · rw [Rh,Hl hAg hwc, ← p5 hio,List.map_drop,g3]
                              · refine U2 _ _ (Dj (fun _ => CV.wf_mono ?_ ?_) hwc)
                                · rw [← s3.fz]; exact g5
                                · rw [g6,s3.fb]; exact Nat.le_refl _
                            · cases hS2; exact ⟨ι',g0,g1,Tk.refl _⟩
                          obtain ⟨ι2,k1,k2,k3⟩ := hio
                          have hret := j1 (σ := σ') (ρ := ρ) hv g4
                          have hM2 : S2.M = S.M := k3.fM.trans hM1
                          have hwd : Bx (CV.wf S2.nz S2.nb) ((injS S1 L').1.drop (Au E (flt C.ys))) = true := Ae.2 fun c hc => by
                            rw [k3.fz,k3.fb]; exact Ae.1 g4 c (List.mem_of_mem_drop hc)
                          have heR : eV E σ' ρ R0 = eV E σ ρ R0 := List.map_congr_left fun p hp => by rw [Hl hAg (h.wM p (b1.mem_iff.2 (List.mem_append_right _ hp))).2.2]
                          have hee : (I0 es).map (CV.val E.sz σ' ρ) = (I0 es).map (CV.val E.sz σ ρ) := Hl hAg hwe
                          rw [← hee, ← heR, ← g3, ← List.map_drop,XW hsz] at k2
                          obtain ⟨u1,u2,u3,u4,u5,u6,u7⟩ := Vj (by rw [hM2]; exact b1) b2 (by rw [hM2]; exact ndM h.st) hS3 k1 hwd k2
                          refine ⟨v,S3,σ',ι2,((s3.toExt.trans (Ext.injS L' S1)).trans k3.toExt).trans u3,u1, ?_,(u4.trans k3.fF).trans hF1,hAg, ?_,by rw [hret.1,g3],hd⟩
                          · show Stw B _ (S3.Z.map _) w'
                            rw [u5]; exact u2
                          · rw [u6,u7,k3.fz,k3.fb]; exact hret.2
                        · cases hd
                      · cases hd
                    · cases hd
                · cases hd
              · cases hd
            · cases hpk
          · cases hpk
        · cases e
      · cases e
    · cases e
  · cases e
end
end Go.Proofs.YtkhiflmalgkjiaaGreat
