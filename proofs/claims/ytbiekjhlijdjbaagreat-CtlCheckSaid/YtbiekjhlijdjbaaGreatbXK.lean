/- A run that is computed: regions in many orders. Conditions: none. -/
import Derived.Test.YtbiekjhlijdjbaaGreatbXM
set_option linter.unusedVariables false
set_option linter.unusedSimpArgs false
open Go Go.RowKit
namespace Go.Proofs.YtbiekjhlijdjbaaGreat
noncomputable section
def aO (p q : BW) : Bool := Nat.beq p.1 q.1 && (Wm p.2.1 q.2.1 && lB CW.same p.2.2 q.2.2)
theorem WI (p q : BW) (h : aO p q = true) : p = q := by
  obtain ⟨a,b,x⟩ := p; obtain ⟨c,d,y⟩ := q
  simp only [aO,zf] at h
  rw [zd h.1,Qz h.2.1,GJ (fun _ _ => CW.same_eq) h.2.2]
def cQ (p q : Value) : Bool := match V9 p,V9 q with | some a,some b => a.same b | _,_ => false
theorem Xu {p q : Value} (h : cQ p q = true) : p = q := by
  unfold cQ at h
  split at h
  · rename_i a b h1 h2
    have := AW.same_eq h
    subst this
    have g1 := Nr h1 e0
    rw [Nr h2 e0] at g1
    exact (Option.some.inj g1).symm
  · cases h
def bP (p q : Value × AW × Nat) : Bool := cQ p.1 q.1 && (p.2.1.same q.2.1 && Nat.beq p.2.2 q.2.2)
theorem Xz (p q : Value × AW × Nat) (h : bP p q = true) : p = q := by
  obtain ⟨a,b,x⟩ := p; obtain ⟨c,d,y⟩ := q
  simp only [bP,zf] at h
  rw [Xu h.1,AW.same_eq h.2.1,zd h.2.2]
def aW : ZK → ZK → Bool
  | .mp c l,.mp c' l' => Nat.beq c c' && lB bP l l'
  | .it m c s,.it m' c' s' => Nat.beq m m' && (Nat.beq c c' && lB Nat.beq s s')
  | _,_ => false
theorem Xw {p q : ZK} (h : aW p q = true) : p = q := by
  unfold aW at h
  split at h
  · rw [zf] at h; rw [zd h.1,GJ Xz h.2]
  · simp only [zf] at h; rw [zd h.1,zd h.2.1,GJ (fun _ _ => zd) h.2.2]
  · cases h
def b6 (p q : ZW) : Bool := Nat.beq p.1 q.1 && aW p.2 q.2
theorem W3 (p q : ZW) (h : b6 p q = true) : p = q := by
  obtain ⟨a,x⟩ := p; obtain ⟨c,y⟩ := q
  simp only [b6,zf] at h
  rw [zd h.1,Xw h.2]
def bI (p q : FW × SW) : Bool := YK p.1 q.1 && (lB aO p.2.M q.2.M && (lB b6 p.2.Z q.2.Z && (lB Nat.beq p.2.us q.2.us && Nat.beq p.2.nx q.2.nx)))
theorem WF {p q : FW × SW} (h : bI p q = true) : p = q := by
  obtain ⟨a,M,Z,us,nx⟩ := p; obtain ⟨b,M',Z',us',nx'⟩ := q
  simp only [bI,zf] at h
  rw [Qv h.1,GJ WI h.2.1,GJ W3 h.2.2.1,GJ (fun _ _ => zd) h.2.2.2.1,zd h.2.2.2.2]
def SW.at (S : SW) (k : Nat) : SW := ⟨S.M,S.Z,S.us,k⟩
section
variable (P : Program) (tb : TB) (cf : Cf)
def Ye (S : SW) (L : Array Bool) : List OO → Bool
  | [] => true
  | (t,F0,op,v) :: r => match GS L t with
    | true => Ye S L r
    | false => match PR P tb F0 S op with
      | some v' => v.same v' && Ye S L r
      | none => false
def SV (k : Nat) : List OO → Bool
  | [] => true
  | (t,_) :: r => match t with | some j => !(Nat.beq j k) && SV k r | none => SV k r
def cE (n : Nat) (ops : List Oper) (k : Nat) (R : List Nat) (t : Option Nat) (ih : List OO → FW → SW → Array Bool → Option (Option (FW × SW))) (N : List OO) (F : FW) (S : SW) (L : Array Bool) : Option (Option (FW × SW)) := match ops[k]?,PF .any ops.toArray L k R && (SV k N && (match t with | some j => R.contains j && !(Nat.beq j k) | none => true)) with
  | some o,true => match Y5 F ops o with
    | some false => match Uw n o.dst none F with | some F' => ih N F' S (L.setIfInBounds k true) | none => none
    | some true => match Zm o.op P tb F S with
      | some (true,v) => match Uw n o.dst (some v) F with | some F' => ih N F' S (L.setIfInBounds k true) | none => none
      | some (false,v) => match Uw n o.dst (some v) F with | some F' => ih (N ++ [(t,F,o.op,v)]) F' S (L.setIfInBounds k true) | none => none
      | none => none
    | none => none
  | _,_ => none
def aN (n : Nat) (ops : List Oper) (sd b0 k : Nat) (ih im : List OO → FW → SW → Array Bool → Option (Option (FW × SW))) (ok : Bool) (N : List OO) (F : FW) (S : SW) (L : Array Bool) : Option (Option (FW × SW)) := match ops[k]? with
  | some o => match Y5 F ops o with
    | some wt => match (match wt with | true => (match dB o.op P tb cf F (S.at (b0 + k * sd)) with | some (v,S') => (Uw n o.dst v F).map fun F' => (F',S') | none => none) | false => (Uw n o.dst none F).map fun F' => (F',S)) with
      | some (F1,S1) => match Ye P tb S1 (L.setIfInBounds k true) N with
        | true => match ih N F1 S1 (L.setIfInBounds k true),(match ok with | true => im N F S L | false => none) with
          | some (some r1),some none => some (some r1)
          | some (some r1),some (some r2) => match bI r1 r2 with | true => some (some r1) | false => none
          | _,_ => none
        | false => none
      | none => none
    | none => none
  | none => none
def PX.al : PX → Bool | .alt .. => true | .stop => true | _ => false
def VQ (n : Nat) (ops : List Oper) (sd b0 : Nat) (px : PX) : List OO → FW → SW → Array Bool → Option (Option (FW × SW)) :=
  PX.rec (fun _ F S _ => some (some (F,S.at 0))) (fun k R t _ ih => cE P tb n ops k R t ih) (fun k _ m ih im => aN P tb cf n ops sd b0 k ih im m.al) (fun _ _ _ _ => some none) px
def bV (sd n : Nat) (ops : List Oper) (px : PX) (F : FW) (S : SW) : Option (FW × SW) := match Region.noSelect ops.toArray && V6 (ops.map (Si ops.toArray)) px ops.length 0 false with
  | true => match VQ P tb cf n ops sd S.nx px [] F S (Array.replicate ops.toArray.size false) with
    | some (some (F',S')) => some (F',S'.at (S.nx + (ops.length + 1) * sd))
    | _ => none
  | false => none
end
section
variable {P : Program} {tb : TB} {cf : Cf} {B : Bs} {e : En} {n : Nat} {ds : List Deferred} {F F' : FW} {S S' : SW} {a : Act} {w : World} {ops : List Oper}
theorem Bx.at (h : Bx B e S w) (k : Nat) : Bx B e (S.at k) w := h
theorem NQ {k : Nat} : ∀ {N : List OO},SV k N = true → ∀ p ∈ N,p.1 ≠ some k
  | [],_,p,hp => nomatch hp
  | (t, x) :: r, h, p, hp => by
    unfold SV at h
    split at h
    · rename_i j
      simp only [zf] at h
      rcases List.mem_cons.1 hp with rfl | hp
      · intro hh
        cases hh
        rw [Nat.beq_refl] at h
        exact absurd h.1 (by decide)
      · exact NQ h.2 p hp
    · rcases List.mem_cons.1 hp with rfl | hp
      · exact fun hh => nomatch hh
      · exact NQ h p hp
def eR (P : Program) (e : En) (n : Nat) (ds : List Deferred) (x : OO) (y : Option Nat × (World → Prop)) : Prop := x.1 = y.1 ∧ ∃ a0 u,FG e n ds x.2.1 a0 ∧ x.2.2.2.dn e = some u ∧ ∀ w,y.2 w ↔ ∀ dst ty pos aft g,(execOp a0.eval ⟨dst,x.2.2.1,ty,pos,aft,g⟩).run P w = .ok (.value u) w
def Qo (P : Program) (e : En) (n : Nat) (ds : List Deferred) : List OO → List (Option Nat × (World → Prop)) → Prop
  | [],[] => True
  | x :: r,y :: r' => eR P e n ds x y ∧ Qo P e n ds r r'
  | _,_ => False
theorem Qo.mono {e' : En} (hx : Xt e e') : ∀ {N : List OO} {N' : List (Option Nat × (World → Prop))},Qo P e n ds N N' → Qo P e' n ds N N'
  | [],[],_ => trivial
  | [],_ :: _,h => h.elim
  | _ :: _,[],h => h.elim
  | _ :: _,_ :: _,⟨⟨h1,a0,u,h2,h3,h4⟩,h⟩ => ⟨⟨h1,a0,u,h2.mono hx,AW.mono hx h3,h4⟩,Qo.mono hx h⟩
theorem Qo.snoc {x : OO} {y : Option Nat × (World → Prop)} (hx : eR P e n ds x y) : ∀ {N : List OO} {N' : List (Option Nat × (World → Prop))},Qo P e n ds N N' → Qo P e n ds (N ++ [x]) (N' ++ [y])
  | [],[],_ => ⟨hx,trivial⟩
  | [],_ :: _,h => h.elim
  | _ :: _,[],h => h.elim
  | _ :: _,_ :: _,⟨h1,h⟩ => ⟨h1,Qo.snoc hx h⟩
theorem Qo.tag : ∀ {N : List OO} {N' : List (Option Nat × (World → Prop))},Qo P e n ds N N' → ∀ {k : Nat},(∀ p ∈ N,p.1 ≠ some k) → ∀ p ∈ N',p.1 ≠ some k
  | [],[],_,_,_,p,hp => nomatch hp
  | [],_ :: _,h,_,_,_,_ => h.elim
  | _ :: _,[],h,_,_,_,_ => h.elim
  | x :: _,y :: _,⟨h1,h⟩,k,hk,p,hp => by
    rcases List.mem_cons.1 hp with rfl | hp
    · rw [← h1.1]; exact hk x (List.mem_cons_self ..)
    · exact Qo.tag h (fun q hq => hk q (zc _ hq)) p hp
theorem Pu (hb : TbO P tb) (hS : Bx B e S w) {L : Array Bool} : ∀ {N : List OO} {N' : List (Option Nat × (World → Prop))},Qo P e n ds N N' → Ye P tb S L N = true → ∀ p ∈ N',GS L p.1 = false → p.2 w
  | [],[],_,_,p,hp,_ => nomatch hp
  | [],_ :: _,h,_,_,_,_ => h.elim
  | _ :: _,[],h,_,_,_,_ => h.elim
  | (t, F0, op, v) :: r, y :: r', ⟨⟨h1, a0, u, h2, h3, h4⟩, h⟩, hn, p, hp, hr => by
    unfold Ye at hn
    split at hn
    · rename_i ht
      rcases List.mem_cons.1 hp with rfl | hp
      · rw [← h1] at hr; rw [ht] at hr; cases hr
      · exact Pu hb hS h hn p hp hr
    · split at hn
      · rename_i v' hv
        rw [zf] at hn
        rcases List.mem_cons.1 hp with rfl | hp
        · have := AW.same_eq hn.1
          subst this
          obtain ⟨u',g1,g2⟩ := Px hb h2 hS hv
          rw [show AW.dn e v = some u from h3] at g1
          cases g1
          exact (h4 w).2 g2
        · exact Pu hb hS h hn.2 p hp hr
      · cases hn
theorem Lm (hb : TbO P tb) (hc : P1 P B cf) {Q : Exit → Act → World → Prop} {sd b0 : Nat} : ∀ (px : PX) {e : En} {N : List OO} {N0 : List (Option Nat × (World → Prop))} {F : FW} {S : SW} {L : Array Bool} {a : Act} {w : World} {r : Option (FW × SW)},FG e n ds F a → Bx B e S w → Qo P e n ds N N0 → VQ P tb cf n ops sd b0 px N F S L = some r →
    (∀ F' S',r = some (F',S') → ∀ e' a' w',Xt e e' → FG e' n ds F' a' → Bx B e' S' w' → Q .normal a' w') →
    ∃ N',(∀ p ∈ N',p.2 w ∧ ∀ j,p.1 = some j → L.getD j true = false) ∧ (match px with | .st .. => True | _ => N' = []) ∧ LU P ops.toArray Q (CX (N0 ++ N')) px.pt L a w
  | .done,e,N,N0,F,S,L,a,w,r,hF,hS,hN,h,k => by
    cases h
    exact ⟨[],fun p hp => (nomatch hp),rfl,k F _ rfl e a w Xt.rfl' hF (hS.at 0)⟩
  | .stop,e,N,N0,F,S,L,a,w,r,hF,hS,hN,h,k => ⟨[],fun p hp => (nomatch hp),rfl,trivial⟩
  | .st i R t p, e, N, N0, F, S, L, a, w, r, hF, hS, hN, h, k => by
    change cE P tb n ops i R t (VQ P tb cf n ops sd b0 p) N F S L = some r at h
    unfold cE at h
    split at h
    · rename_i o ho hchk
      simp only [zf] at hchk
      obtain ⟨hrel,hoff,htag⟩ := hchk
      have hoff := hN.tag (NQ hoff)
      have ho' : ops.toArray[i]? = some o := by simpa using ho
      -- what comes behind
      have behind : ∀ {F1 : FW} {u : Value} {Nx : List OO} {Ny : List (Option Nat × (World → Prop))},FG e n ds F1 (a.put o.dst u) → Qo P e n ds (N ++ Nx) (N0 ++ Ny) → VQ P tb cf n ops sd b0 p (N ++ Nx) F1 S (L.setIfInBounds i true) = some r →
          ((Region.wanted o (yielded ops.toArray a.tmps) = true ∧ ((∀ w,(execOp a.eval o).run P w = .ok (.value u) w) ∨ ∃ y,Ny = [y] ∧ y.1 = t ∧ y.2 w ∧ ∀ w,y.2 w → (execOp a.eval o).run P w = .ok (.value u) w)) ∨ (Region.wanted o (yielded ops.toArray a.tmps) = false ∧ u = undef)) →
          (Ny = [] ∨ ∃ y,Ny = [y] ∧ y.1 = t ∧ y.2 w) →
          ∃ N',(∀ p ∈ N',p.2 w ∧ ∀ j,p.1 = some j → L.getD j true = false) ∧ True ∧ LU P ops.toArray Q (CX (N0 ++ N')) (PX.st i R t p).pt L a w := fun {F1 u Nx Ny} g1 g2 g3 g4 g5 => by
        obtain ⟨N',n1,_,n3⟩ := Lm hb hc p g1 hS g2 g3 k
        have hne : ∀ j,(L.setIfInBounds i true).getD j true = false → j ≠ i ∧ L.getD j true = false := fun j hj => by
          by_cases hji : j = i
          · subst hji
            exfalso
            rw [Array.getD_eq_getD_getElem?,Array.getElem?_setIfInBounds] at hj
            split at hj
            · split at hj <;> simp at hj
            · rename_i hh; exact hh rfl
          · refine ⟨hji, ?_⟩
            rw [Array.getD_eq_getD_getElem?,Array.getElem?_setIfInBounds,if_neg (Ne.symm hji), ← Array.getD_eq_getD_getElem?] at hj
            exact hj
        have hRl := (Jy hrel).1
        have htl : ∀ j,t = some j → L.getD j true = false := fun j hj => by
          subst hj
          simp only [zf] at htag
          exact hRl j (by simpa using htag.1)
        have hti : t ≠ some i := fun hti => by
          subst hti
          simp at htag
        refine ⟨Ny ++ N',fun q hq => ?_,trivial,o,u,R,ho', ?_,hrel,fun L' w' => Ws (fun q hq => ?_) L' w', ?_⟩
        · rcases List.mem_append.1 hq with hq | hq
          · rcases g5 with rfl | ⟨y,rfl,y1,y2⟩
            · cases hq
            · rw [List.mem_singleton.1 hq]
              exact ⟨y2,fun j hj => htl j (by rw [← y1]; exact hj)⟩
          · exact ⟨(n1 q hq).1,fun j hj => (hne j ((n1 q hq).2 j hj)).2⟩
        · rcases g4 with ⟨w1,hh⟩ | ⟨w1,rfl⟩
          · refine .inl ⟨w1,fun L' w' hR hC => ?_⟩
            rcases hh with hh | ⟨y,hy,y1,_,hh⟩
            · exact hh w'
            · refine hh w' (hC y (List.mem_append_right _ (by rw [hy]; simp)) ?_)
              rw [y1]
              cases t with
              | none => rfl
              | some j =>
                simp only [zf] at htag
                exact hR j (by simpa using htag.1)
          · exact .inr ⟨w1,rfl⟩
        · rcases List.mem_append.1 hq with hq | hq
          · exact hoff q hq
          · rcases List.mem_append.1 hq with hq | hq
            · rcases g5 with rfl | ⟨y,rfl,y1,_⟩
              · cases hq
              · rw [List.mem_singleton.1 hq,y1]; exact hti
            · intro hh
              exact (hne i ((n1 q hq).2 i hh)).1 rfl
        · rw [← List.append_assoc]; exact n3
      split at h
      · rename_i hw
        split at h
        · rename_i F1 hp
          exact behind (Nx := []) (Ny := []) (Hb hF hp rfl) (by simpa using hN) (by simpa using h) (.inr ⟨Ir hF hw,rfl⟩) (.inl rfl)
        · cases h
      · rename_i hw
        split at h
        · rename_i v hv
          have hv : Jv P tb F o.op = some v := (Q4 hv).elim (·.2) fun hh => (nomatch hh.1)
          split at h
          · rename_i F1 hp
            obtain ⟨u,d1,d2⟩ := S6 hb hF hv
            exact behind (Nx := []) (Ny := []) (Hb hF hp d1) (by simpa using hN) (by simpa using h) (.inl ⟨Ir hF hw,.inl fun w => d2 _ _ _ _ _ w⟩) (.inl rfl)
          · cases h
        · rename_i v hv
          have hv : PR P tb F S o.op = some v := (Q4 hv).elim (fun hh => (nomatch hh.1)) (·.2)
          · split at h
            · rename_i F1 hp
              obtain ⟨u,d1,d2⟩ := Px hb hF hS hv
              exact behind (Nx := [(t,F,o.op,v)]) (Ny := [(t,fun w => ∀ dst ty pos aft g,(execOp a.eval ⟨dst,o.op,ty,pos,aft,g⟩).run P w = .ok (.value u) w)]) (Hb hF hp d1) (hN.snoc ⟨rfl,a,u,hF,d1,fun _ => Iff.rfl⟩) h (.inl ⟨Ir hF hw,.inr ⟨_,rfl,rfl,d2,fun w hw => hw _ _ _ _ _⟩⟩) (.inr ⟨_,rfl,rfl,d2⟩)
            · cases h
        · cases h
      · cases h
    · cases h
  | .alt i p m, e, N, N0, F, S, L, a, w, r, hF, hS, hN, h, k => by
    change aN P tb cf n ops sd b0 i (VQ P tb cf n ops sd b0 p) (VQ P tb cf n ops sd b0 m) m.al N F S L = some r at h
    unfold aN at h
    split at h
    · rename_i o ho
      have ho' : ops.toArray[i]? = some o := by simpa using ho
      split at h
      · rename_i wt hw
        split at h
        · rename_i F1 S1 hst
          split at h
          · rename_i hnt
            have hboth : ∃ r1 r2,VQ P tb cf n ops sd b0 p N F1 S1 (L.setIfInBounds i true) = some (some r1) ∧ (match m.al with | true => VQ P tb cf n ops sd b0 m N F S L | false => none) = some r2 ∧ r = some r1 ∧ (∀ x,r2 = some x → x = r1) := by
              split at h
              · rename_i r1 h1 h2
                cases h
                exact ⟨r1,none,h1,h2,rfl,fun x hx => nomatch hx⟩
              · rename_i r1 r2 h1 h2
                split at h
                · rename_i hfs
                  cases h
                  exact ⟨r1,some r2,h1,h2,rfl,fun x hx => by cases hx; exact (WF hfs).symm⟩
                · cases h
              · cases h
            obtain ⟨r1,r2,h1,h2,rfl,h3⟩ := hboth
            refine ⟨[],fun q hq => (nomatch hq),rfl, ?_⟩
            rw [List.append_nil]
            have next : ∀ e' a' w',Xt e e' → FG e' n ds F1 a' → Bx B e' S1 w' → ∃ C',(∀ L w,C' L w → CX N0 L w) ∧ C' (L.setIfInBounds i true) w' ∧ LU P ops.toArray Q C' p.pt (L.setIfInBounds i true) a' w' := fun e' a' w' g1 g2 g3 => by
              obtain ⟨N',n1,_,n3⟩ := Lm hb hc p g2 g3 (hN.mono g1) h1 fun F' S' hr e2 a2 w2 q1 => k F' S' (by rw [hr]) e2 a2 w2 (g1.trans q1)
              refine ⟨_,fun L w hh q hq => hh q (List.mem_append_left _ hq),fun q hq hr => ?_,n3⟩
              rcases List.mem_append.1 hq with hq | hq
              · exact Pu hb g3 (hN.mono g1) hnt q hq hr
              · exact (n1 q hq).1
            refine ⟨?_, ?_⟩
            · unfold wpOp
              simp only [ho']
              cases wt with
              | true =>
                rw [if_pos (Ir hF hw)]
                simp only at hst
                split at hst
                · rename_i v S' hv
                  obtain ⟨F2,hp,hst⟩ := map_some hst
                  cases hst
                  exact .inl (Q0 hb hc hF (hS.at _) (TF hv) hp next)
                · cases hst
              | false =>
                rw [if_neg (by rw [Ir hF hw]; decide)]
                obtain ⟨F2,hp,hst⟩ := map_some hst
                cases hst
                exact next e _ w Xt.rfl' (Hb hF hp rfl) hS
            · have hm : ∃ N',(∀ p ∈ N',p.2 w ∧ ∀ j,p.1 = some j → L.getD j true = false) ∧ (match m with | .st .. => True | _ => N' = []) ∧ LU P ops.toArray Q (CX (N0 ++ N')) m.pt L a w := by
                cases m with
                | st _ _ _ _ => cases h2
                | done => cases h2
                | stop => exact Lm hb hc .stop hF hS hN h2 fun F' S' hr => k F' S' (by rw [h3 _ hr])
                | alt i2 p2 m2 => exact Lm hb hc (.alt i2 p2 m2) hF hS hN h2 fun F' S' hr => k F' S' (by rw [h3 _ hr])
              obtain ⟨N',n1,n2,n3⟩ := hm
              cases m with
              | st _ _ _ _ => cases h2
              | done => cases h2
              | stop => trivial
              | alt i2 p2 m2 =>
                have n2 : N' = [] := n2
                rw [n2,List.append_nil] at n3
                exact n3
          · cases h
        · cases h
      · cases h
    · cases h
end
end
end Go.Proofs.YtbiekjhlijdjbaaGreat
