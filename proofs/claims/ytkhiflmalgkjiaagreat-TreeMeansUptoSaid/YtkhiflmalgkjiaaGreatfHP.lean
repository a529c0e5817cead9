/- Operations that leave memory as it is, some of which may fail; a slot gets what comes of it. Conditions: none. -/
import Derived.Test.YtkhiflmalgkjiaaGreatfHA
set_option linter.unusedVariables false
set_option linter.unusedSimpArgs false
open Go Go.RowKit
namespace Go.Proofs.YtkhiflmalgkjiaaGreat
def ZK.sub : ZK → ZK | .rd => .rd | _ => .frz
abbrev Y5 (c : Nat → Type) := Option (Nat × ((u : U) × u.T c))
def yX (E : TE) (tb : Tb) {R : Type} (t o : Nat) (q : ZK) (u : U) (x : u.T E.c) (S : St E.c) (k : AV → Y5 E.c → St E.c → Tree R) : Tree R :=
  match tQ E q.sub u x with
  | some L => match TX tb.tt.2 t with
    | some (agg,m + 1) => match agg with
      | true => match YI (m + 1) (YJ o L) with
        | some L' => match injS S L' with | (cs,S') => k (.agg cs) none S'
        | none => .fail
      | false => match YI 1 (YJ o L) with
        | some L' => match injS S L' with
          | (cs,S') => match cs with | [c] => k (.one c) none S' | _ => .fail
        | none => .fail
    | _ => .fail
  | none => .fail
def oM (E : TE) (tb : Tb) {R : Type} (op : Op) (S : St E.c) (k : AV → Y5 E.c → St E.c → Tree R) : Tree R :=
  match mX tb S op with
  | some v => k v none S
  | none => match op with
    | .indexAddr t s i => match F2 S s with
      | some (.one (.sl z)) => match F2 S i with
        | some (.one (.int .i64 q)) => match CQ S.Z z with
          | some (ver,⟨_,u,l⟩) => match CQ tb.sl t with
            | some (_,u',_) => match u.same u' with
              | true => .bnd (ix l q) fun x => k (.one (.ep z u q 0)) (some (ver,⟨u,x⟩)) S
              | false => .fail
            | none => .fail
          | none => .fail
        | _ => .fail
      | _ => .fail
    | .load t (.tmp p) => match CQ S.F p with
      | some (_,.one (.ep z u q o)) => match CQ S.C p with
        | some (ver,⟨u',x⟩) => match CQ S.Z z with
          | some (ver',⟨kk,u2,l⟩) => match Nat.beq ver ver' with
            | true => yX E tb t o kk u' x S k
            | false => .fail
          | none => .fail
        | none => match CQ S.Z z with
          | some (ver',⟨kk,u2,l⟩) => match u2.same u with
            | true => .bnd (ix l q) fun x => yX E tb t o kk u2 x S k
            | false => .fail
          | none => .fail
      | _ => .fail
    | .binOp .quo _ x y _ => match F2 S x with
      | some (.one (.int kk p)) => match F2 S y with
        | some (.one (.int j q)) => match Nat.beq (ki kk) (ki j) with
          | true => .bnd (dvI kk p q) fun r => k (.one (.int kk r)) none S
          | false => .fail
        | _ => .fail
      | _ => .fail
    | .binOp .rem _ x y _ => match F2 S x with
      | some (.one (.int kk p)) => match F2 S y with
        | some (.one (.int j q)) => match Nat.beq (ki kk) (ki j) with
          | true => .bnd (rmI p q) fun r => k (.one (.int kk r)) none S
          | false => .fail
        | _ => .fail
      | _ => .fail
    | .binOp .add _ x y _ => match F2 S x with
      | some (.one (.str p)) => match F2 S y with
        | some (.one (.str q)) => .bnd (HU p q) fun r => k (.one (.str r)) none S
        | _ => .fail
      | _ => .fail
    | .binOp .shl _ x y _ => match F2 S x with
      | some (.one (.int kk p)) => match F2 S y with
        | some (.one (.int _ q)) => match (match y with | .const _ => true | _ => false) with
          | true => match q with
            | .ofNat m => k (.one (.int kk (JT kk p (.ofNat m)))) none S
            | _ => .fail
          | false => .bnd (lM (JT kk p q) q) fun r => k (.one (.int kk r)) none S
        | _ => .fail
      | _ => .fail
    | .binOp .shr _ x y _ => match F2 S x with
      | some (.one (.int kk p)) => match F2 S y with
        | some (.one (.int _ q)) => match (match y with | .const _ => true | _ => false) with
          | true => match q with
            | .ofNat m => k (.one (.int kk (Mm kk p (.ofNat m)))) none S
            | _ => .fail
          | false => .bnd (lM (Mm kk p q) q) fun r => k (.one (.int kk r)) none S
        | _ => .fail
      | _ => .fail
    | .index t x y => match F2 S x with
      | some (.one (.str l)) => match F2 S y with
        | some (.one (.int _ i)) => match CQ tb.st t with
          | some _ => .bnd (ix l i) fun c => k (.one (.int .u8 (c.toNat : Int))) none S
          | none => .fail
        | _ => .fail
      | _ => .fail
    | _ => .fail
section
variable {E : TE} {P : Program} {B : Bs} {θ : Pin} {n : Nat} {ds : List Deferred} {S : St E.c} {a : Act} {w : World} {σ : Nat → Value} {ρ : Nat → Nat} {ι : Nat → It} {R : Type}
variable {dst : Option Tmp} {ty : TypeId} {pos : String} {aft : Array Edge} {g : Option (Nat × Bool)}
def YP (S : St E.c) (v : AV) (x : Y5 E.c) : Prop := ∀ q,x = some q → ∃ z i o k l,v = .one (.ep z q.2.1 i o) ∧ (z,q.1,(⟨k,q.2.1,l⟩ : ZI E.c)) ∈ S.Z ∧ ix l i = some q.2.2
def Nr (P : Program) (E : TE) (B : Bs) (θ : Pin) (n : Nat) (ds : List Deferred) (S : St E.c) (a : Act) (w : World) (σ : Nat → Value) (ρ : Nat → Nat) (ι : Nat → It) (o : Oper) (k : AV → Y5 E.c → St E.c → Tree R) (r : R) : Prop :=
  ∃ v x S' σ' ι',Rel E B θ n ds S' a w σ' ρ ι' ∧ Ext S S' ∧ (k v x S').den = some r ∧ v.wf S'.nz S'.nb = true ∧ YP S' v x ∧ Ag S.nz S.nb σ σ' ρ ρ ∧ S.nz ≤ S'.nz ∧ S.nb ≤ S'.nb ∧ (S'.F = S.F ∧ S'.M = S.M ∧ S.C = S'.C ∧ ∃ X,S'.Z = X ++ S.Z) ∧ (∀ j,j < S.nz → ι' j = ι j) ∧
    ∀ M Z,(∀ p ∈ S'.mm E σ' ρ,p ∈ M) → (∀ z ∈ S'.zz ι',z ∈ Z) → Yx P B M Z a o (v.val E.sz σ' ρ)
theorem Nr.here {o : Oper} {k : AV → Y5 E.c → St E.c → Tree R} {r : R} {v : AV} {x : Y5 E.c} (h : Rel E B θ n ds S a w σ ρ ι) (e : (k v x S).den = some r) (hv : v.wf S.nz S.nb = true) (hx : YP S v x)
    (hy : ∀ M Z,(∀ p ∈ S.mm E σ ρ,p ∈ M) → (∀ z ∈ S.zz ι,z ∈ Z) → Yx P B M Z a o (v.val E.sz σ ρ)) : Nr P E B θ n ds S a w σ ρ ι o k r :=
  ⟨v,x,S,σ,ι,h,Ext.refl _,e,hv,hx,Ag.rfl',Nat.le_refl _,Nat.le_refl _,⟨rfl,rfl,rfl,[],rfl⟩,fun _ _ => rfl,hy⟩
theorem Fm : ∀ (L : List (Leaf E.c)) (S : St E.c),(injS S L).2.F = S.F ∧ (injS S L).2.M = S.M ∧ S.C = (injS S L).2.C ∧ ∃ X,(injS S L).2.Z = X ++ S.Z
  | [],S => ⟨rfl,rfl,rfl,[],rfl⟩
  | .v x :: L,S => Fm L S
  | .s z :: L,S => by
    obtain ⟨h1,h2,h3,X,h4⟩ := Fm L (S.addZ z)
    exact ⟨h1,h2,h3,X ++ [(S.nz,S.nv,z)],by rw [show (injS S (.s z :: L)).2 = (injS (S.addZ z) L).2 from rfl,h4]; simp [St.addZ]⟩
theorem Rel.cells (h : Rel E B θ n ds S a w σ ρ ι) {z ver : Nat} {kk : ZK} {u : U} {l : List (u.T E.c)} {i : Int} {x : u.T E.c} (hz : (z,ver,(⟨kk,u,l⟩ : ZI E.c)) ∈ S.Z) (hx : ix l i = some x) :
    ∃ lx cs,ι z = P9 E B (σ z) kk u lx ∧ lx.map Prod.snd = l ∧ ix lx i = some (cs,x) ∧ ∀ {L : List (Leaf E.c)},tQ E kk.sub u x = some L → LR (W0 E B w (Aq (S.mm E σ ρ) (S.zz ι))) L cs := by
  obtain ⟨lx,h1,h2⟩ := h.it _ hz
  obtain ⟨⟨cs,x'⟩,h3,h4⟩ := XD h1 hx
  simp only at h2 h4
  subst h4
  have hin : ι z ∈ S.zz ι := List.mem_map.2 ⟨_,hz,rfl⟩
  have hok := h.st.items _ hin
  rw [h2] at hok
  refine ⟨lx,cs,h2,h1,h3,fun {L} hL => ?_⟩
  cases kk with
  | own e =>
    rcases (show H5 w _ e (u.rp E.r).seen (σ z) lx from hok) with ⟨ad,_,rfl⟩ | ⟨g,off,cap,cur,xs,_,_,_,_,_,_,_,hr⟩
    · obtain ⟨_,hk,_⟩ := IM h3; simp at hk
    · obtain ⟨cs',e',hr'⟩ := hr.at_ h3
      obtain rfl : cs' = cs := e'
      have hr' : (u.rp E.r).rep _ _ cs' x' := hr'
      exact VC (u := u) (q := .frz) (x := x') (fun u v l hs => hs) hr' hL
  | frz =>
    rcases (show Sl w _ (u.rp E.r).seen (σ z) lx from hok) with ⟨ad,cap,_,rfl⟩ | ⟨b,off,cap,xs,_,_,_,_,_,hr⟩
    · obtain ⟨_,hk,_⟩ := IM h3; simp at hk
    · obtain ⟨cs',e',hr'⟩ := hr.at_ h3
      obtain rfl : cs' = cs := e'
      have hr' : (u.rp E.r).rep _ _ cs' x' := hr'
      exact VC (u := u) (q := .frz) (x := x') (fun u v l hs => hs) hr' hL
  | rd =>
    rcases (show Sl B.w0 _ (u.rp E.r).seen (σ z) lx from hok) with ⟨ad,cap,_,rfl⟩ | ⟨b,off,cap,xs,_,_,_,_,_,hr⟩
    · obtain ⟨_,hk,_⟩ := IM h3; simp at hk
    · obtain ⟨cs',e',hr'⟩ := hr.at_ h3
      obtain rfl : cs' = cs := e'
      have hr' : (u.rp E.r).rep _ _ cs' x' := hr'
      exact VC (u := u) (q := .rd) (x := x') (fun u v l hs => hs) hr' hL
theorem oS {M : CU} {Z : List It} {it : It} {v : Value} {kk : ZK} {u : U} {lx : List (List Value × u.T E.c)} (e : it = P9 E B v kk u lx) (hin : it ∈ Z) : T9 B M Z (u.rp E.r).seen v lx := by
  subst e
  cases kk with
  | own e => exact XB hin
  | frz => exact Wa hin
  | rd => exact fun w hw => Ek (hw.items _ hin : Sl B.w0 (NX B.X) _ _ _) w hw
theorem LR.one {I : ZI E.c → Value → Prop} {L : List (Leaf E.c)} {cs : List Value} (h : LR I L cs) (hl : L.length = 1) : ∃ v,cs = [v] := by
  have := h.len
  rw [hl] at this
  exact List.length_eq_one_iff.1 this
theorem d8 {tb : Tb} (T : TbOk E P tb) (h : Rel E B θ n ds S a w σ ρ ι) {t o p : Nat} {kk : ZK} {z ver ver' : Nat} {u : U} {l : List (u.T E.c)} {i : Int} {x : u.T E.c} {k : AV → Y5 E.c → St E.c → Tree R} {r : R}
    (hz : (z,ver,(⟨kk,u,l⟩ : ZI E.c)) ∈ S.Z) (hx : ix l i = some x) (hp : CQ S.F p = some (ver',.one (.ep z u i o))) (e : (yX E tb t o kk u x S k).den = some r) : Nr P E B θ n ds S a w σ ρ ι ⟨dst,.load t (.tmp p),ty,pos,aft,g⟩ k r := by
  obtain ⟨lx,cs,h1,h2,h3,h4⟩ := h.cells hz hx
  have hpv := (h.op (x := .tmp p) (v := .one (.ep z u i o)) (by simp only [F2,hp])).1
  have hzlt := (h.wZ _ hz).1
  have hF := h.fr
  unfold yX at e
  split at e
  · rename_i L hL
    have hLR := h4 hL
    have hlen := hLR.len
    have hsz : ∀ {ι' : Nat → It} {L' : List (Leaf E.c)} {M : CU} {Z : List It},(∀ j,j < S.nz → ι' j = ι j) → (∀ y ∈ (injS S L').2.zz ι',y ∈ Z) → T9 B M Z (u.rp E.r).seen (σ z) lx := fun {ι' L' M Z} hι hZ => by
      obtain ⟨X,hX⟩ := (Fm L' S).2.2.2
      have := hZ (ι' z) (List.mem_map.2 ⟨(z,ver,⟨kk,u,l⟩),by rw [hX]; exact List.mem_append_right _ hz,rfl⟩)
      rw [hι z hzlt] at this
      exact oS h1 this
    split at e
    · rename_i agg m ht
      have TT := Tl T.tt ht
      split at e
      · split at e
        · rename_i L' hL'
          obtain ⟨k1,k2⟩ := I7 hL'
          rw [I1] at k1 k2
          have hsel : LR (W0 E B w (Aq (S.mm E σ ρ) (S.zz ι))) L' ((cs.drop o).take (m + 1)) := by rw [← k2]; exact (hLR.drop o).take (m + 1)
          obtain ⟨σ',ι',g1,g2,g3,g4,g5,g6,g7⟩ := Rel.inj L' h hsel
          refine ⟨.agg (injS S L').1,none,(injS S L').2,σ',ι',g1,Ext.injS L' S,e,g4,(by intro q hq; cases hq),g2,g5,Nat.le_of_eq g6.symm,Fm L' S,g7,fun M Z hM hZ => ?_⟩
          refine Fq (r := (u.rp E.r).seen) (v := σ z) (l := lx) (x := (cs,x)) hF hpv rfl (hsz g7 hZ) h3 (GS.seen _) TT ?_
          rw [List.length_drop] at k1
          simp only [AV.val,g3,RP,if_true]
          rw [if_pos (by omega)]
        · cases e
      · split at e
        · rename_i L' hL'
          obtain ⟨k1,k2⟩ := I7 hL'
          rw [I1] at k1 k2
          have hsel : LR (W0 E B w (Aq (S.mm E σ ρ) (S.zz ι))) L' ((cs.drop o).take 1) := by rw [← k2]; exact (hLR.drop o).take 1
          obtain ⟨σ',ι',g1,g2,g3,g4,g5,g6,g7⟩ := Rel.inj L' h hsel
          simp only at e
          split at e
          · rename_i c hc
            rw [hc] at g3 g4
            refine ⟨.one c,none,(injS S L').2,σ',ι',g1,Ext.injS L' S,e,Ae.1 g4 c (List.mem_cons_self ..),(by intro q hq; cases hq),g2,g5,Nat.le_of_eq g6.symm,Fm L' S,g7,fun M Z hM hZ => ?_⟩
            refine Fq (r := (u.rp E.r).seen) (v := σ z) (l := lx) (x := (cs,x)) hF hpv rfl (hsz g7 hZ) h3 (GS.seen _) TT ?_
            simp only [RP,Bool.false_eq_true,if_false]
            have := congrArg (fun l : List Value => l[0]?) g3
            simp at this
            simpa [AV.val] using this.symm
          · cases e
        · cases e
    · cases e
  · cases e
theorem mL {tb : Tb} (T : TbOk E P tb) (h : Rel E B θ n ds S a w σ ρ ι) {op : Op} {k : AV → Y5 E.c → St E.c → Tree R} {r : R} (e : (oM E tb op S k).den = some r) : Nr P E B θ n ds S a w σ ρ ι ⟨dst,op,ty,pos,aft,g⟩ k r := by
  have hF := h.fr
  unfold oM at e
  split at e
  · rename_i v hv
    exact Nr.here h e (RN (dst := dst) (ty := ty) (pos := pos) (aft := aft) (g := g) (M := S.mm E σ ρ) (Z := S.zz ι) T h (fun _ h => h) (fun _ h => h) hv).2 (by intro q hq; cases hq) fun M Z hM hZ => (RN T h hM hZ hv).1
  · split at e
    · split at e
      · rename_i z hs
        split at e
        · rename_i q hi
          split at e
          · rename_i ver kk u l hz
            split at e
            · rename_i e' u' b' ht
              split at e
              · rename_i hu
                obtain rfl := U.same_eq hu
                obtain ⟨x,hx,e⟩ := Option.bind_eq_some_iff.1 e
                have h1 := h.op hs
                have h2 := h.op hi
                refine Nr.here h e h1.2 (fun p hp => ?_) fun M Z hM hZ => ?_
                · cases hp
                  exact ⟨z,q,0,kk,l,rfl,A8 hz,hx⟩
                · obtain ⟨lx,g1,_,g2⟩ := h.rdc (M := M) hZ hz
                  obtain ⟨x',g3,_⟩ := XD g1 hx
                  exact H2 (r := (u.rp E.r).seen) (v := σ z) (l := lx) (T.et ht) hF h1.1 h2.1 g2 g3
              · cases e
            · cases e
          · cases e
        · cases e
      · cases e
    · split at e
      · rename_i ver0 z u i o hp
        split at e
        · rename_i ver u' x hc
          split at e
          · rename_i ver' kk u2 l hz
            split at e
            · rename_i hv
              obtain rfl := ze hv
              obtain ⟨v',z',i',o',k',l',c1,c2,c3⟩ := h.ca _ (A8 hc)
              simp only at c1 c2 c3
              rw [hp] at c1
              cases c1
              have c4 := F7 h.nZ c2
              rw [hz] at c4
              cases c4
              exact d8 T h c2 c3 hp e
            · cases e
          · cases e
        · split at e
          · rename_i ver' kk u2 l hz
            split at e
            · rename_i hu
              obtain rfl := U.same_eq hu
              obtain ⟨x,hx,e⟩ := Option.bind_eq_some_iff.1 e
              exact d8 T h (A8 hz) hx hp e
            · cases e
          · cases e
      · cases e
    · split at e
      · rename_i kk p hx
        split at e
        · rename_i j q hy
          split at e
          · rename_i hk
            obtain rfl := Me hk
            obtain ⟨x,hd,e⟩ := Option.bind_eq_some_iff.1 e
            obtain ⟨d1,d2⟩ := cN hd
            exact Nr.here h e rfl (by intro q hq; cases hq) fun M Z hM hZ => yG hF (h.op hx).1 (h.op hy).1 d1 d2
          · cases e
        · cases e
      · cases e
    · split at e
      · rename_i kk p hx
        split at e
        · rename_i j q hy
          split at e
          · rename_i hk
            obtain rfl := Me hk
            obtain ⟨x,hd,e⟩ := Option.bind_eq_some_iff.1 e
            obtain ⟨d1,d2⟩ := gH hd
            exact Nr.here h e rfl (by intro q hq; cases hq) fun M Z hM hZ => xR hF (h.op hx).1 (h.op hy).1 d1 d2
          · cases e
        · cases e
      · cases e
    · split at e
      · rename_i p hx
        split at e
        · rename_i q hy
          obtain ⟨x,hd,e⟩ := Option.bind_eq_some_iff.1 e
          exact Nr.here h e rfl (by intro q hq; cases hq) fun M Z hM hZ => oL hF (h.op hx).1 (h.op hy).1 hd
        · cases e
      · cases e
    · split at e
      · rename_i kk p hx
        split at e
        · rename_i j q hy
          split at e
          · split at e
            · rename_i m
              exact Nr.here h e rfl (by intro q hq; cases hq) fun M Z hM hZ => n6 hF (h.op hx).1 (h.op hy).1 (Int.natCast_nonneg m)
            · cases e
          · obtain ⟨x,hd,e⟩ := Option.bind_eq_some_iff.1 e
            obtain ⟨d1,d2⟩ := Xc hd
            exact Nr.here h e rfl (by intro q hq; cases hq) fun M Z hM hZ => nT d2 (n6 hF (h.op hx).1 (h.op hy).1 d1)
        · cases e
      · cases e
    · split at e
      · rename_i kk p hx
        split at e
        · rename_i j q hy
          split at e
          · split at e
            · rename_i m
              exact Nr.here h e rfl (by intro q hq; cases hq) fun M Z hM hZ => mW hF (h.op hx).1 (h.op hy).1 (Int.natCast_nonneg m)
            · cases e
          · obtain ⟨x,hd,e⟩ := Option.bind_eq_some_iff.1 e
            obtain ⟨d1,d2⟩ := Xc hd
            exact Nr.here h e rfl (by intro q hq; cases hq) fun M Z hM hZ => nT d2 (mW hF (h.op hx).1 (h.op hy).1 d1)
        · cases e
      · cases e
    · split at e
      · rename_i l hx
        split at e
        · rename_i j q hy
          split at e
          · rename_i ht
            obtain ⟨x,hd,e⟩ := Option.bind_eq_some_iff.1 e
            exact Nr.here h e rfl (by intro q hq; cases hq) fun M Z hM hZ => cH (T.str ht) hF (h.op hx).1 (h.op hy).1 hd
          · cases e
        · cases e
      · cases e
    · cases e
def qW {c : Nat → Type} (S : St c) : Op → Y5 c
  | .fieldAddr _ (.tmp p) _ => CQ S.C p
  | .indexAddr _ (.tmp p) _ => CQ S.C p
  | _ => none
def oE (E : TE) (tb : Tb) {R : Type} (op : Op) (S : St E.c) (k : AV → Y5 E.c → St E.c → Tree R) : Tree R :=
  match qW S op with
  | some q => match mX tb S op with
    | some v => k v (some q) S
    | none => .fail
  | none => oM E tb op S k
theorem jH {tb : Tb} (h : Rel E B θ n ds S a w σ ρ ι) {op : Op} {q : Nat × ((u : U) × u.T E.c)} {v : AV} (e : qW S op = some q) (hv : mX tb S op = some v) : YP S v (some q) := by
  unfold qW at e
  split at e
  · rename_i t p i
    obtain ⟨v',z,j,o,k,l,h1,h2,h3⟩ := h.ca _ (A8 e)
    have h1 : CQ S.F p = some (v',.one (.ep z q.2.1 j o)) := h1
    have hx : F2 S (.tmp p) = some (.one (.ep z q.2.1 j o)) := by unfold F2; simp only [h1]
    unfold mX at hv
    simp only [hx] at hv
    split at hv
    · cases hv
      intro q' hq'
      cases hq'
      exact ⟨z,j,_,k,l,rfl,h2,h3⟩
    · cases hv
  · rename_i t p i
    obtain ⟨v',z,j,o,k,l,h1,h2,h3⟩ := h.ca _ (A8 e)
    have h1 : CQ S.F p = some (v',.one (.ep z q.2.1 j o)) := h1
    have hx : F2 S (.tmp p) = some (.one (.ep z q.2.1 j o)) := by unfold F2; simp only [h1]
    unfold mX at hv
    simp only [hx] at hv
    split at hv
    · split at hv
      · split at hv
        · cases hv
          intro q' hq'
          cases hq'
          exact ⟨z,j,_,k,l,rfl,h2,h3⟩
        · cases hv
      · cases hv
    · cases hv
  · cases e
theorem dY {tb : Tb} (T : TbOk E P tb) (h : Rel E B θ n ds S a w σ ρ ι) {op : Op} {k : AV → Y5 E.c → St E.c → Tree R} {r : R} (e : (oE E tb op S k).den = some r) : Nr P E B θ n ds S a w σ ρ ι ⟨dst,op,ty,pos,aft,g⟩ k r := by
  unfold oE at e
  split at e
  · rename_i q hq
    split at e
    · rename_i v hv
      exact Nr.here h e (RN (dst := dst) (ty := ty) (pos := pos) (aft := aft) (g := g) (M := S.mm E σ ρ) (Z := S.zz ι) T h (fun _ h => h) (fun _ h => h) hv).2 (jH h hq hv) fun M Z hM hZ => (RN T h hM hZ hv).1
    · cases e
  · exact mL T h e
end
end Go.Proofs.YtkhiflmalgkjiaaGreat
namespace Go.Proofs.YtkhiflmalgkjiaaGreat
inductive CK where | d (rd : Bool) (u : U) | o (e : TypeId) (u : U)
def qk : Bool → ZK | true => .rd | false => .frz
def CK.T (c : Nat → Type) : CK → Type | .d _ u => u.T c | .o _ u => List (u.T c)
def TQ (c : Nat → Type) (A : Type) : List CK → Type | [] => A | b :: r => A × TQ c (b.T c) r
def TT (c : Nat → Type) : List CK → Type | [] => Unit | a :: r => TQ c (a.T c) r
def Qu {c : Nat → Type} {A : Type} (x : A) : (r : List CK) → TT c r → TQ c A r | [],_ => x | _ :: _,y => (x,y)
def yO {c : Nat → Type} {A : Type} : (r : List CK) → TQ c A r → A | [],x => x | _ :: _,p => p.1
def vN {c : Nat → Type} {A : Type} : (r : List CK) → TQ c A r → TT c r | [],_ => () | _ :: _,p => p.2
theorem Wn {c : Nat → Type} {A : Type} (x : A) : ∀ (r : List CK) (y : TT c r),yO r (Qu x r y) = x | [],_ => rfl | _ :: _,_ => rfl
theorem W4 {c : Nat → Type} {A : Type} (x : A) : ∀ (r : List CK) (y : TT c r),vN r (Qu x r y) = y | [],_ => rfl | _ :: _,_ => rfl
def Q7 (E : TE) : (l : List CK) → TT E.c l → Option (List (Leaf E.c))
  | [],_ => some []
  | .d q u :: r,t => match tQ E (qk q) u (yO r t),Q7 E r (vN r t) with | some p,some s => some (p ++ s) | _,_ => none
  | .o e u :: r,t => match Q7 E r (vN r t) with | some s => some (.s ⟨.own e,u,yO r t⟩ :: s) | none => none
def okK (lax : Bool) : ZK → ZK → Bool
  | .frz,.frz => true
  | .rd,.rd => true
  | .rd,_ => lax
  | _,_ => false
def Lc {c : Nat → Type} (u a : U) (l : List (u.T c)) : Option (List (a.T c)) := if h : u.same a = true then some (U.same_eq h ▸ l) else none
def aA {c : Nat → Type} (lax : Bool) (S : St c) (q : ZK) (a : U) : CV → Option (List (a.T c))
  | .nil => some []
  | .sl z => match CQ S.Z z with
    | some (_,⟨k,u,l⟩) => match okK lax q k with | true => Lc u a l | false => none
    | none => none
  | _ => none
def pP (k : IntKind) : List CV → Option (Int × List CV)
  | .int j i :: r => match Nat.beq (ki k) (ki j) with | true => some (i,r) | false => none
  | _ => none
def b6 : List CV → Option (Bool × List CV) | .bool b :: r => some (b.v,r) | _ => none
def tD : List CV → Option (List UInt8 × List CV) | .str s :: r => some (s,r) | _ => none
def pC (k : FloatKind) : List CV → Option (Nat × List CV)
  | .flt j i :: r => match Nat.beq (fk k) (fk j) with | true => some (i,r) | false => none
  | _ => none
def gFn (f : Nat) : List CV → Option (Unit × List CV)
  | .fn g :: r => match Nat.beq f g with | true => some ((),r) | false => none
  | _ => none
def fK {c : Nat → Type} (lax : Bool) (S : St c) (q : ZK) (f : ∀ i,List CV → Option (c i × List CV)) : (u : U) → List CV → Option (u.T c × List CV)
  | .int k => pP k
  | .bool => b6
  | .str => tD
  | .flt k => pC k
  | .unit => fun cs => some ((),cs)
  | .fn f => gFn f
  | .pr a b => fun cs => match fK lax S q f a cs with
    | some (x,r) => match fK lax S q f b r with | some (y,r') => some ((x,y),r') | none => none
    | none => none
  | .sl a => fun cs => match cs with
    | c :: r => match aA lax S q a c with | some l => some (l,r) | none => none
    | [] => none
  | .tr i => f i
def nJ (E : TE) (lax : Bool) (S : St E.c) (q : ZK) : Nat → ∀ i,List CV → Option (E.c i × List CV)
  | 0,_,_ => none
  | n + 1,i,cs => match fK lax S q (nJ E lax S q n) (E.u i) cs with | some (x,r) => some (E.of i x,r) | none => none
section
variable {E : TE} {lax : Bool} {S : St E.c} {q : ZK} {w : World} {A : Nat → Prop} {sz : U → Nat} {σ : Nat → Value} {ρ : Nat → Nat}
theorem Sc {c : Nat → Type} {r : ∀ i,Rp (c i)} {u a : U} {l : List (u.T c)} {l' : List (a.T c)} {v : Value} (h : Lc u a l = some l') (hs : Sl w A (u.rp r) v l) : Sl w A (a.rp r) v l' := by
  unfold Lc at h
  split at h
  · rename_i hu
    have := U.same_eq hu
    subst this
    cases h
    exact hs
  · cases h
theorem U1 (hS : ∀ (a : U) (c : CV) (l : List (a.T E.c)),aA lax S q a c = some l → Sl w A (a.rp E.r) (c.val sz σ ρ) l) {f : ∀ i,List CV → Option (E.c i × List CV)}
    (hf : ∀ i cs x r,f i cs = some (x,r) → ∃ c1,cs.map (CV.val sz σ ρ) = c1 ++ r.map (CV.val sz σ ρ) ∧ (E.r i).rep w A c1 x) :
    ∀ {u : U} {cs : List CV} {x : u.T E.c} {r : List CV},fK lax S q f u cs = some (x,r) → ∃ c1,cs.map (CV.val sz σ ρ) = c1 ++ r.map (CV.val sz σ ρ) ∧ (u.rp E.r).rep w A c1 x := by
  intro u
  induction u with
  | int k =>
    intro cs x r h
    have h : pP k cs = some (x,r) := h
    unfold pP at h
    split at h
    · split at h
      · rename_i hk
        cases h
        rw [Me hk]
        exact ⟨_,rfl,rfl⟩
      · cases h
    · cases h
  | bool =>
    intro cs x r h
    have h : b6 cs = some (x,r) := h
    unfold b6 at h
    split at h
    · cases h; exact ⟨_,rfl,rfl⟩
    · cases h
  | str =>
    intro cs x r h
    have h : tD cs = some (x,r) := h
    unfold tD at h
    split at h
    · cases h; exact ⟨_,rfl,rfl⟩
    · cases h
  | flt k =>
    intro cs x r h
    have h : pC k cs = some (x,r) := h
    unfold pC at h
    split at h
    · split at h
      · rename_i hk
        cases h
        rw [nB hk]
        exact ⟨_,rfl,rfl⟩
      · cases h
    · cases h
  | unit =>
    intro cs x r h
    cases h
    exact ⟨[],rfl,rfl⟩
  | fn f =>
    intro cs x r h
    have h : gFn f cs = some (x,r) := h
    unfold gFn at h
    split at h
    · split at h
      · rename_i hk
        cases h
        rw [ze hk]
        exact ⟨_,rfl,rfl⟩
      · cases h
    · cases h
  | pr a b iha ihb =>
    intro cs x r h
    unfold fK at h
    split at h
    · rename_i x1 r1 e1
      split at h
      · rename_i y r' e2
        cases h
        obtain ⟨c1,g1,g2⟩ := iha e1
        obtain ⟨c2,g3,g4⟩ := ihb e2
        exact ⟨c1 ++ c2,by rw [g1,g3,List.append_assoc],c1,c2,rfl,g2,g4⟩
      · cases h
    · cases h
  | sl a ih =>
    intro cs x r h
    unfold fK at h
    split at h
    · split at h
      · rename_i l e
        cases h
        exact ⟨_,rfl,_,rfl,hS _ _ _ e⟩
      · cases h
    · cases h
  | tr i =>
    intro cs x r h
    exact hf i cs x r h
theorem VP (hS : ∀ (a : U) (c : CV) (l : List (a.T E.c)),aA lax S q a c = some l → Sl w A (a.rp E.r) (c.val sz σ ρ) l) : ∀ (n i : Nat) (cs : List CV) (x : E.c i) (r : List CV),nJ E lax S q n i cs = some (x,r) → ∃ c1,cs.map (CV.val sz σ ρ) = c1 ++ r.map (CV.val sz σ ρ) ∧ (E.r i).rep w A c1 x
  | 0,i,cs,x,r,h => nomatch h
  | n + 1,i,cs,x,r,h => by
    unfold nJ at h
    split at h
    · rename_i y r' e
      cases h
      obtain ⟨c1,g1,g2⟩ := U1 hS (VP hS n) e
      exact ⟨c1,g1,(E.hr i w A c1 _).2 (by rw [E.unof]; exact g2)⟩
    · cases h
end
def X4 {c : Nat → Type} (S : St c) : CV → St c
  | .sl z => match Xn S.Z z with
    | some ((_,⟨.own _,u,l⟩),Zr) => { S with Z := (z,S.nv,⟨.frz,u,l⟩) :: Zr,C := [],nv := S.nv + 1 }
    | _ => S
  | _ => S
def OS {c : Nat → Type} : Nat → List CV → St c → St c
  | 0,_,S => S
  | _ + 1,[],S => S
  | m + 1,c :: cs,S => OS m cs (X4 S c)
def r8 (E : TE) : List CK → List CV → St E.c → Option (St E.c × List (ZI E.c))
  | [],_,S => some (S,[])
  | .d q u :: r,cs,S => r8 E r (YJ (E.sz u) cs) (match q with | true => S | false => OS (E.sz u) cs S)
  | .o e u :: r,c :: cs,S => match c with
    | .sl z => match Xn S.Z z with
      | some ((_,⟨.own e',u',l⟩),Zr) => match Nat.beq e' e with
        | true => match r8 E r cs { S with Z := Zr,C := [] } with
          | some (S',ol) => some (S',⟨.own e',u',l⟩ :: ol)
          | none => none
        | false => none
      | _ => none
    | .nil => match r8 E r cs S with
      | some (S',ol) => some (S',⟨.own e,u,[]⟩ :: ol)
      | none => none
    | _ => none
  | .o _ _ :: _,[],_ => none
def tM (E : TE) (lax : Bool) (S : St E.c) : (l : List CK) → List (ZI E.c) → List CV → Option (TT E.c l × List CV)
  | [],_,cs => some ((),cs)
  | .d q u :: r,ol,cs => match YI (E.sz u) cs with
    | some c1 => match fK lax S (qk q) (nJ E lax S (qk q) 4) u c1 with
      | some (x,[]) => match tM E lax S r ol (YJ (E.sz u) cs) with | some (y,s) => some (Qu x r y,s) | none => none
      | _ => none
    | none => none
  | .o e u :: r,ol,_ :: cs => match ol with
    | ⟨k,u',l⟩ :: ol => match Lc u' u l with
      | some x => match tM E lax S r ol cs with | some (y,s) => some (Qu x r y,s) | none => none
      | none => none
    | [] => none
  | .o _ _ :: _,_,[] => none
def pk (E : TE) (lax : Bool) (l : List CK) (S : St E.c) (cs : List CV) : Option (TT E.c l × St E.c) := match r8 E l cs S with
  | some (S',ol) => match tM E lax S' l ol cs with
    | some (t,[]) => some (t,S')
    | _ => none
  | none => none
section
variable {E : TE} {B : Bs} {θ : Pin} {S : St E.c} {w : World} {σ : Nat → Value} {ρ : Nat → Nat} {ι : Nat → It}
def OW (E : TE) (B : Bs) (σ : Nat → Value) (ρ : Nat → Nat) : List CK → List CV → List (ZI E.c) → List It → Prop
  | [],_,ol,its => ol = [] ∧ its = []
  | .d _ u :: r,cs,ol,its => OW E B σ ρ r (YJ (E.sz u) cs) ol its
  | .o e _ :: r,cs,ol,its => ∃ c cs' z ol' it its',cs = c :: cs' ∧ ol = z :: ol' ∧ its = it :: its' ∧ z.k = .own e ∧ Y2 E B (c.val E.sz σ ρ) z it ∧ OW E B σ ρ r cs' ol' its'
def JF {c : Nat → Type} (I : ZI c → Value → Prop) (D : ZI c → Value → It → Prop) : List (Leaf c) → List Value → List It → Prop
  | [],cs,its => cs = [] ∧ its = []
  | .v x :: L,cs,its => ∃ v r,cs = v :: r ∧ (∀ sz σ ρ,x.val sz σ ρ = v) ∧ (x.wf 0 0 = true ∧ JF I D L r its)
  | .s z :: L,cs,its => (∃ v r,cs = v :: r ∧ I z v ∧ JF I D L r its) ∨ ∃ v r it its',cs = v :: r ∧ its = it :: its' ∧ D z v it ∧ JF I D L r its'
section
variable {c : Nat → Type} {I J : ZI c → Value → Prop} {D D' : ZI c → Value → It → Prop}
theorem LR.o : ∀ {L : List (Leaf c)} {cs : List Value},LR I L cs → ∀ {L' : List (Leaf c)} {cs' : List Value} {its : List It},JF I D L' cs' its → JF I D (L ++ L') (cs ++ cs') its
  | [],cs,h,L',cs',its,h' => by rw [show cs = [] from h]; exact h'
  | .v x :: L,cs,⟨v,r,e,h1,h2,h⟩,L',cs',its,h' => by subst e; exact ⟨v,r ++ cs',rfl,h1,h2,LR.o h h'⟩
  | .s z :: L,cs,⟨v,r,e,hi,h⟩,L',cs',its,h' => by subst e; exact .inl ⟨v,r ++ cs',rfl,hi,LR.o h h'⟩
theorem JF.mono (hij : ∀ z v,I z v → J z v) (hd : ∀ z v it,D z v it → D' z v it) : ∀ {L : List (Leaf c)} {cs : List Value} {its : List It},JF I D L cs its → JF J D' L cs its
  | [],cs,its,h => h
  | .v x :: L,cs,its,⟨v,r,e,h1,h2,h⟩ => ⟨v,r,e,h1,h2,JF.mono hij hd h⟩
  | .s z :: L,cs,its,h => by
    rcases h with ⟨v,r,e,hi,h⟩ | ⟨v,r,it,its',e1,e2,h1,h⟩
    · exact .inl ⟨v,r,e,hij z v hi,JF.mono hij hd h⟩
    · exact .inr ⟨v,r,it,its',e1,e2,hd _ _ _ h1,JF.mono hij hd h⟩
end
abbrev DO (E : TE) (B : Bs) (z : ZI E.c) (v : Value) (it : It) : Prop := (∃ e,z.k = .own e) ∧ Y2 E B v z it
abbrev DI (E : TE) (B : Bs) (z : ZI E.c) (v : Value) (it : It) : Prop := Y2 E B v z it
theorem DO.base {E : TE} {B B' : Bs} {z : ZI E.c} {v : Value} {it : It} (h : DO E B z v it) : DO E B' z v it := by
  obtain ⟨⟨e,he⟩,lx,h1,h2⟩ := h
  refine ⟨⟨e,he⟩,lx,h1, ?_⟩
  rw [h2,he]; rfl
theorem W0.mono {l l' : List Nat} {z : ZI E.c} {v : Value} (hs : ∀ g ∈ l',g ∈ l) (h : W0 E B w l z v) : W0 E B w l' z v := by
  obtain ⟨k,u,x⟩ := z
  cases k with
  | own e => exact h
  | frz => exact (show Sl w _ (u.rp E.r) v x from h).stab fun b hb _ => ⟨hb.mono hs,rfl⟩
  | rd => exact h
theorem Stw.note' {z : ZI E.c} {v : Value} {M : CU} {Z : List It} (h : Stw B M Z w) (hi : W0 E B w (Aq M Z) z v) : ∃ it,it.bl = [] ∧ Y2 E B v z it ∧ Stw B M (it :: Z) w := by
  obtain ⟨k,u,l⟩ := z
  cases k with
  | own e => exact hi.elim
  | frz =>
    obtain ⟨lx,e1,h1⟩ := Sl.ex (Ex.seen (u.rp E.r)) (show Sl w _ (u.rp E.r) v l from hi)
    exact ⟨frz v _ lx,rfl,⟨lx,e1,rfl⟩,h.note h1⟩
  | rd =>
    obtain ⟨lx,e1,h1⟩ := Sl.ex (Ex.seen (u.rp E.r)) (show Sl B.w0 _ (u.rp E.r) v l from hi)
    exact ⟨Z7 B v _ lx,rfl,⟨lx,e1,rfl⟩,h.oldNote h1⟩
theorem He {M : CU} {Z Z' : List It} (h : Z.Perm Z') : (Aq M Z).Perm (Aq M Z') := List.Perm.append_left _ (h.flatMap_right _)
theorem StC.injM : ∀ (L : List (Leaf E.c)) {S : St E.c} {σ : Nat → Value} {ι : Nat → It} {cs : List Value} {its X : List It} {Mx : CU},StC E B θ S σ ρ ι → Stw B (Mx) (its ++ (X ++ S.zz ι)) w → JF (W0 E B w (Aq (Mx) (its ++ (X ++ S.zz ι)))) (DI E B) L cs its →
    ∃ σ' ι',StC E B θ (injS S L).2 σ' ρ ι' ∧ Stw B (Mx) (X ++ (injS S L).2.zz ι') w ∧ Ag S.nz S.nb σ σ' ρ ρ ∧ (injS S L).1.map (CV.val E.sz σ' ρ) = cs ∧ Bx (CV.wf (injS S L).2.nz (injS S L).2.nb) (injS S L).1 = true ∧ S.nz ≤ (injS S L).2.nz ∧ (injS S L).2.nb = S.nb ∧ ∀ j,j < S.nz → ι' j = ι j
  | [],S,σ,ι,cs,its,X,Mx,h,hW,hL => by
    obtain ⟨rfl,rfl⟩ := hL
    exact ⟨σ,ι,h,hW,Ag.rfl',rfl,rfl,Nat.le_refl _,rfl,fun _ _ => rfl⟩
  | .v x :: L,S,σ,ι,cs,its,X,Mx,h,hW,⟨v,r,e,h1,h2,hL⟩ => by
    obtain ⟨σ',ι',g0,g1,g2,g3,g4,g5,g6,g7⟩ := StC.injM L h hW hL
    refine ⟨σ',ι',g0,g1,g2, ?_, ?_,g5,g6,g7⟩
    · show x.val E.sz σ' ρ :: _ = _
      rw [h1,e, ← g3]
    · show Bx _ (x :: (injS S L).1) = true
      unfold Bx
      rw [show CV.wf (injS S (.v x :: L)).2.nz (injS S (.v x :: L)).2.nb x = true from CV.wf_mono (Nat.zero_le _) (Nat.zero_le _) h2]
      exact g4
  | .s z :: L,S,σ,ι,cs,its,X,Mx,h,hW,hh => by
    have step : ∀ (v : Value) (r : List Value) (it : It) (its' : List It),cs = v :: r → Y2 E B v z it → Stw B (Mx) (its' ++ (X ++ it :: S.zz ι)) w → JF (W0 E B w (Aq (Mx) (its' ++ (X ++ it :: S.zz ι)))) (DI E B) L r its' →
        ∃ σ' ι',StC E B θ (injS S (.s z :: L)).2 σ' ρ ι' ∧ Stw B (Mx) (X ++ (injS S (.s z :: L)).2.zz ι') w ∧ Ag S.nz S.nb σ σ' ρ ρ ∧ (injS S (.s z :: L)).1.map (CV.val E.sz σ' ρ) = cs ∧ Bx (CV.wf (injS S (.s z :: L)).2.nz (injS S (.s z :: L)).2.nb) (injS S (.s z :: L)).1 = true ∧ S.nz ≤ (injS S (.s z :: L)).2.nz ∧ (injS S (.s z :: L)).2.nb = S.nb ∧ ∀ j,j < S.nz → ι' j = ι j := by
      intro v r it its' e hi hW' hL
      have e3 : (S.addZ z).zz (DH ι S.nz it) = it :: S.zz ι := h.zz_addZ
      obtain ⟨σ',ι',g0,g1,g2,g3,g4,g5,g6,g7⟩ := StC.injM L (X := X) (its := its') (Mx := Mx) (h.addZ (z := z) hi) (by rw [e3]; exact hW') (by rw [e3]; exact hL)
      have hn : (S.addZ z).nz = S.nz + 1 := rfl
      refine ⟨σ',ι',g0,g1,(Nf (v := v)).trans g2 (by omega) (Nat.le_refl _), ?_, ?_,Nat.le_trans (Nat.le_succ _) g5,g6,fun j hj => (g7 j (by omega)).trans (DM (by omega))⟩
      · show σ' S.nz :: _ = _
        rw [g2.1 S.nz (by omega),El,e, ← g3]
      · show Bx _ (.sl S.nz :: (injS (S.addZ z) L).1) = true
        unfold Bx
        rw [show CV.wf (injS S (.s z :: L)).2.nz (injS S (.s z :: L)).2.nb (.sl S.nz) = true from Nat.ble_eq_true_of_le (by rw [hn] at g5; exact g5)]
        exact g4
    rcases hh with ⟨v,r,e,hi,hL⟩ | ⟨v,r,it,its',e1,e2,h2,hL⟩
    · obtain ⟨it,hb,h1,h2⟩ := hW.note' hi
      have hp : (it :: (its ++ (X ++ S.zz ι))).Perm (its ++ (X ++ it :: S.zz ι)) := by
        refine List.perm_middle.symm.trans (List.Perm.append_left _ ?_)
        exact List.perm_middle.symm
      refine step v r it its e h1 (h2.permZ hp) (hL.mono (fun y u hy => hy.mono fun g hg => ?_) fun _ _ _ h => h)
      have := ((He (M := Mx) hp).mem_iff (a := g)).2 hg
      rw [Rj hb] at this
      exact this
    · subst e2
      have hp : (it :: (its' ++ (X ++ S.zz ι))).Perm (its' ++ (X ++ it :: S.zz ι)) := by
        refine List.perm_middle.symm.trans (List.Perm.append_left _ ?_)
        exact List.perm_middle.symm
      refine step v r it its' e1 h2 (hW.permZ hp) (hL.mono (fun y u hy => hy.mono fun g hg => ?_) fun _ _ _ h => h)
      exact ((He (M := Mx) hp).mem_iff (a := g)).2 hg
theorem j9 (L : List (Leaf E.c)) {S : St E.c} {σ σ' : Nat → Value} (h : ∀ p ∈ S.M,p.1 < S.nb ∧ p.2.1 < S.nv ∧ Bx (CV.wf S.nz S.nb) p.2.2 = true) (g : Ag S.nz S.nb σ σ' ρ ρ) : (injS S L).2.mm E σ' ρ = S.mm E σ ρ := by
  have : ∀ (L : List (Leaf E.c)) (S : St E.c),(injS S L).2.M = S.M := by
    intro L
    induction L with
    | nil => intro S; rfl
    | cons x L ih =>
      intro S
      cases x with
      | v x => exact ih S
      | s z => exact ih (S.addZ z)
  show (injS S L).2.M.map _ = _
  rw [this]
  exact R3 (S := S) h g
theorem StC.inj (L : List (Leaf E.c)) {S : St E.c} {σ : Nat → Value} {ι : Nat → It} {cs : List Value} {its X : List It} {Mx : CU} (h : StC E B θ S σ ρ ι) (hW : Stw B (Mx ++ S.mm E σ ρ) (its ++ (X ++ S.zz ι)) w) (hL : JF (W0 E B w (Aq (Mx ++ S.mm E σ ρ) (its ++ (X ++ S.zz ι)))) (DI E B) L cs its) :
    ∃ σ' ι',StC E B θ (injS S L).2 σ' ρ ι' ∧ Stw B (Mx ++ (injS S L).2.mm E σ' ρ) (X ++ (injS S L).2.zz ι') w ∧ Ag S.nz S.nb σ σ' ρ ρ ∧ (injS S L).1.map (CV.val E.sz σ' ρ) = cs ∧ Bx (CV.wf (injS S L).2.nz (injS S L).2.nb) (injS S L).1 = true ∧ S.nz ≤ (injS S L).2.nz ∧ (injS S L).2.nb = S.nb ∧ ∀ j,j < S.nz → ι' j = ι j := by
  obtain ⟨σ',ι',g0,g1,g2,g3⟩ := StC.injM L h hW hL
  exact ⟨σ',ι',g0,by rw [j9 L h.wM g2]; exact g1,g2,g3⟩
theorem N6 {S : St E.c} (hn : (S.Z.map (·.1)).Nodup) {z : Nat} {x : Nat × ZI E.c} {Zr : List (Nat × Nat × ZI E.c)} (e : Xn S.Z z = some (x,Zr)) : (Zr.map (·.1)).Nodup ∧ (∀ p ∈ Zr,p ∈ S.Z) ∧ (z,x) ∈ S.Z ∧ (∀ p ∈ Zr,p.1 ≠ z) := by
  have hp := FY e
  have h1 := (hp.map (·.1)).nodup_iff.1 hn
  rw [zj,List.nodup_cons] at h1
  exact ⟨h1.2,fun p hp' => hp.mem_iff.2 (zd _ hp'),hp.mem_iff.2 (List.mem_cons_self ..),fun p hp' he => h1.1 (List.mem_map.2 ⟨p,hp',he⟩)⟩
theorem Pb {S : St E.c} (hn : (S.Z.map (·.1)).Nodup) {z : Nat} {x : Nat × ZI E.c} {Zr : List (Nat × Nat × ZI E.c)} (e : Xn S.Z z = some (x,Zr)) {j : Nat} {y : Nat × ZI E.c} (h : CQ Zr j = some y) : CQ S.Z j = some y :=
  F7 hn ((N6 hn e).2.1 _ (A8 h))
structure Tk {c : Nat → Type} (S S' : St c) : Prop extends Ext S S' where
  fF : S'.F = S.F
  fM : S'.M = S.M
  fz : S'.nz = S.nz
  fb : S'.nb = S.nb
theorem Tk.refl {c : Nat → Type} (S : St c) : Tk S S := { toExt := Ext.refl S,fF := rfl,fM := rfl,fz := rfl,fb := rfl }
theorem Tk.trans {c : Nat → Type} {S S' S'' : St c} (h : Tk S S') (h' : Tk S' S'') : Tk S S'' := { toExt := h.toExt.trans h'.toExt,fF := h'.fF.trans h.fF,fM := h'.fM.trans h.fM,fz := h'.fz.trans h.fz,fb := h'.fb.trans h.fb }
theorem l8 {X : List It} (h : StC E B θ S σ ρ ι) (hW : Stw B (S.mm E σ ρ) (X ++ S.zz ι) w) (c : CV) : ∃ ι',StC E B θ (X4 S c) σ ρ ι' ∧ Stw B ((X4 S c).mm E σ ρ) (X ++ (X4 S c).zz ι') w ∧ Tk S (X4 S c) := by
  have triv : ∃ ι',StC E B θ S σ ρ ι' ∧ Stw B (S.mm E σ ρ) (X ++ S.zz ι') w ∧ Tk S S := ⟨ι,h,hW,Tk.refl S⟩
  cases c with
  | sl z =>
    unfold X4
    simp only
    split
    · rename_i ver e u l Zr hp
      obtain ⟨n1,n2,n3,n4⟩ := N6 h.nZ hp
      obtain ⟨lx,e1,e2⟩ := h.it _ n3
      have hperm : (X ++ S.zz ι).Perm (ι z :: (X ++ Zr.map fun p => ι p.1)) := ((List.Perm.append_left X ((FY hp).map fun p => ι p.1)).trans List.perm_middle)
      have hW1 := hW.permZ hperm
      rw [show ι z = row (σ z) e (u.rp E.r).seen lx from e2] at hW1
      have hW2 := hW1.freeze
      have hz : (Zr.map fun p => DH ι z (frz (σ z) (u.rp E.r).seen lx) p.1) = Zr.map fun p => ι p.1 := List.map_congr_left fun p hp' => DM (n4 p hp')
      have fr : ∀ k x,CQ ((z,S.nv,(⟨.frz,u,l⟩ : ZI E.c)) :: Zr) k = some x → x.1 < S.nv → CQ S.Z k = some x := fun k x hx hl => by
        by_cases hk : z = k
        · subst hk; rw [DK] at hx; cases hx; exact absurd hl (Nat.lt_irrefl _)
        · rw [C6 hk] at hx; exact Pb h.nZ hp hx
      refine ⟨DH ι z (frz (σ z) (u.rp E.r).seen lx),⟨fun p hp' => ?_,fun p hp' => ⟨(h.wF p hp').1,Nat.lt_succ_of_lt (h.wF p hp').2⟩,fun p hp' => ⟨(h.wM p hp').1,Nat.lt_succ_of_lt (h.wM p hp').2.1,(h.wM p hp').2.2⟩,fun p hp' => ?_, ?_,(fun p hp' => nomatch hp'),h.pn,Nat.le_succ_of_le h.pi.1,fun p hp' hv => by
        rcases List.mem_cons.1 hp' with rfl | hp'
        · exact absurd (Nat.lt_of_lt_of_le hv h.pi.1) (Nat.lt_irrefl _)
        · rw [DM (n4 p hp')]; exact h.pi.2 p (n2 p hp') hv⟩, ?_,⟨⟨Nat.le_succ _,fun _ _ e _ => e,fun _ _ e _ => e,fr,fun _ _ _ h _ => ⟨h,rfl⟩⟩,rfl,rfl,rfl,rfl⟩⟩
      · rcases List.mem_cons.1 hp' with rfl | hp'
        · show Y2 E B (σ z) ⟨.frz,u,l⟩ (DH ι z _ z)
          rw [El]; exact ⟨lx,e1,rfl⟩
        · rw [DM (n4 p hp')]; exact h.it p (n2 p hp')
      · rcases List.mem_cons.1 hp' with rfl | hp'
        · exact ⟨(h.wZ _ n3).1,Nat.lt_succ_self _⟩
        · exact ⟨(h.wZ p (n2 p hp')).1,Nat.lt_succ_of_lt (h.wZ p (n2 p hp')).2⟩
      · show (z :: Zr.map (·.1)).Nodup
        rw [List.nodup_cons]
        exact ⟨fun hm => by obtain ⟨p,hp',e⟩ := List.mem_map.1 hm; exact n4 p hp' e,n1⟩
      · show Stw B (S.mm E σ ρ) (X ++ (DH ι z (frz (σ z) (u.rp E.r).seen lx) z :: Zr.map fun p => DH ι z (frz (σ z) (u.rp E.r).seen lx) p.1)) w
        rw [hz,El]
        exact hW2.permZ List.perm_middle.symm
    · exact triv
  | _ => exact triv
theorem Vi {X : List It} : ∀ (m : Nat) (cs : List CV) {S : St E.c} {ι : Nat → It},StC E B θ S σ ρ ι → Stw B (S.mm E σ ρ) (X ++ S.zz ι) w → ∃ ι',StC E B θ (OS m cs S) σ ρ ι' ∧ Stw B ((OS m cs S).mm E σ ρ) (X ++ (OS m cs S).zz ι') w ∧ Tk S (OS m cs S)
  | 0,cs,S,ι,h,hW => ⟨ι,h,hW,Tk.refl S⟩
  | _ + 1,[],S,ι,h,hW => ⟨ι,h,hW,Tk.refl S⟩
  | m + 1,c :: cs,S,ι,h,hW => by
    obtain ⟨ι1,h1,hW1,t1⟩ := l8 h hW c
    obtain ⟨ι2,h2,hW2,t2⟩ := Vi m cs h1 hW1
    exact ⟨ι2,h2,hW2,t1.trans t2⟩
theorem Oc : ∀ (l : List CK) (cs : List CV) {S S' : St E.c} {ol : List (ZI E.c)} {ι : Nat → It} {X : List It},StC E B θ S σ ρ ι → Stw B (S.mm E σ ρ) (X ++ S.zz ι) w → r8 E l cs S = some (S',ol) →
    ∃ its ι',StC E B θ S' σ ρ ι' ∧ Stw B (S'.mm E σ ρ) (its ++ (X ++ S'.zz ι')) w ∧ Tk S S' ∧ OW E B σ ρ l cs ol its
  | [],cs,S,S',ol,ι,X,h,hW,e => by cases e; exact ⟨[],ι,h,hW,Tk.refl _,rfl,rfl⟩
  | .d q u :: r,cs,S,S',ol,ι,X,h,hW,e => by
    unfold r8 at e
    cases q with
    | true =>
      obtain ⟨its,ι',h1,hW1,t1,o1⟩ := Oc r _ h hW e
      exact ⟨its,ι',h1,hW1,t1,o1⟩
    | false =>
      obtain ⟨ι1,h1,hW1,t1⟩ := Vi (E.sz u) cs h hW
      obtain ⟨its,ι',h2,hW2,t2,o2⟩ := Oc r _ h1 hW1 e
      exact ⟨its,ι',h2,hW2,t1.trans t2,o2⟩
  | .o e0 u :: r,[],S,S',ol,ι,X,h,hW,e => nomatch e
  | .o e0 u :: r,c :: cs,S,S',ol,ι,X,h,hW,e => by
    unfold r8 at e
    split at e
    · rename_i z
      split at e
      · rename_i ver e' u' l Zr hp
        split at e
        · rename_i he
          obtain rfl := ze he
          split at e
          · rename_i S1 ol1 e1
            cases e
            obtain ⟨n1,n2,n3,n4⟩ := N6 h.nZ hp
            have hperm : (X ++ S.zz ι).Perm ((ι z :: X) ++ Zr.map fun p => ι p.1) := ((List.Perm.append_left X ((FY hp).map fun p => ι p.1)).trans List.perm_middle)
            have h0 : StC E B θ { S with Z := Zr,C := [] } σ ρ ι := ⟨fun p hp' => h.it p (n2 p hp'),h.wF,h.wM,fun p hp' => h.wZ p (n2 p hp'),n1,(fun p hp' => nomatch hp'),h.pn,h.pi.1,fun p hp' hv => h.pi.2 p (n2 p hp') hv⟩
            have t0 : Tk S { S with Z := Zr,C := [] } := ⟨⟨Nat.le_refl _,fun _ _ e _ => e,fun _ _ e _ => e,fun k x hx _ => Pb h.nZ hp hx,fun _ _ _ h _ => ⟨h,rfl⟩⟩,rfl,rfl,rfl,rfl⟩
            obtain ⟨its,ι',h1,hW1,t1,o1⟩ := Oc r cs (X := ι z :: X) h0 (hW.permZ hperm) e1
            refine ⟨ι z :: its,ι',h1,hW1.permZ ?_,t0.trans t1,_,_,_,_,_,_,rfl,rfl,rfl,rfl,h.it _ n3,o1⟩
            exact List.perm_middle
          · cases e
        · cases e
      · cases e
    · split at e
      · rename_i S1 ol1 e1
        cases e
        have hW1 := hW.nilRow e0 (u.rp E.r).seen
        obtain ⟨its,ι',h1,hW2,t1,o1⟩ := Oc r cs (X := row (.slice none 0 0) e0 (u.rp E.r).seen [] :: X) h hW1 e1
        exact ⟨_ :: its,ι',h1,hW2.permZ List.perm_middle,t1,_,_,_,_,_,_,rfl,rfl,rfl,rfl,⟨[],rfl,rfl⟩,o1⟩
      · cases e
    · cases e
theorem Zc {α β : Type _} (f : α → β) {m : Nat} {l r : List α} (h : YI m l = some r) : l.map f = r.map f ++ (YJ m l).map f := by
  obtain ⟨_,h2⟩ := I7 h
  rw [I1, ← h2, ← List.map_append,List.take_append_drop]
theorem Tp {lax : Bool} {I : ZI E.c → Value → Prop} {W : Bool → World} {A : Bool → Nat → Prop} (hS : ∀ q (a : U) (c : CV) (l : List (a.T E.c)),aA lax S (qk q) a c = some l → Sl (W q) (A q) (a.rp E.r) (c.val E.sz σ ρ) l) (hI : ∀ q (u : U) (v : Value) (l : List (u.T E.c)),Sl (W q) (A q) (u.rp E.r) v l → I ⟨qk q,u,l⟩ v) :
    ∀ (l : List CK) (ol : List (ZI E.c)) (cs : List CV) {t : TT E.c l} {rest : List CV} {its : List It} {L : List (Leaf E.c)},OW E B σ ρ l cs ol its → tM E lax S l ol cs = some (t,rest) → Q7 E l t = some L → ∃ cs1,cs.map (CV.val E.sz σ ρ) = cs1 ++ rest.map (CV.val E.sz σ ρ) ∧ JF I (DO E B) L cs1 its
  | [],ol,cs,t,rest,its,L,ho,e,hL => by
    cases e
    cases hL
    exact ⟨[],rfl,rfl,ho.2⟩
  | .d q u :: r,ol,cs,t,rest,its,L,ho,e,hL => by
    unfold tM at e
    split at e
    · rename_i c1 h1
      split at e
      · rename_i x h2
        split at e
        · rename_i y s h3
          cases e
          have hL : (match tQ E (qk q) u (yO r (Qu x r y)),Q7 E r (vN r (Qu x r y)) with | some p,some s => some (p ++ s) | _,_ => none) = some L := hL
          rw [Wn,W4] at hL
          split at hL
          · rename_i p s' e1 e2
            cases hL
            obtain ⟨cs2,g1,g2⟩ := Tp hS hI r ol _ ho h3 e2
            obtain ⟨c3,g3,g4⟩ := U1 (hS q) (VP (hS q) 4) h2
            refine ⟨c3 ++ cs2, ?_,(VC (hI q) g4 e1).o g2⟩
            rw [Zc _ h1,g1,g3]; simp
          · cases hL
        · cases e
      · cases e
    · cases e
  | .o e0 u :: r,ol,[],t,rest,its,L,ho,e,hL => nomatch e
  | .o e0 u :: r,ol,c :: cs,t,rest,its,L,ho,e,hL => by
    obtain ⟨c',cs',z,ol',it,its',q1,rfl,rfl,q2,q3,q4⟩ := ho
    cases q1
    obtain ⟨k,u',l⟩ := z
    unfold tM at e
    simp only at e q2
    split at e
    · rename_i x hx
      split at e
      · rename_i y s h3
        cases e
        unfold Lc at hx
        split at hx
        · rename_i hu
          have := U.same_eq hu
          subst this
          cases hx
          have hL : (match Q7 E r (vN r (Qu l r y)) with | some s => some (.s ⟨.own e0,u',yO r (Qu l r y)⟩ :: s) | none => none) = some L := hL
          rw [Wn,W4] at hL
          split at hL
          · rename_i s' e2
            cases hL
            obtain ⟨cs2,g1,g2⟩ := Tp hS hI r ol' cs q4 h3 e2
            refine ⟨_ :: cs2,by rw [zj,g1]; rfl,.inr ⟨_,cs2,it,its',rfl,rfl,⟨⟨e0,rfl⟩,by subst q2; exact q3⟩,g2⟩⟩
          · cases hL
        · cases hx
      · cases e
    · cases e
end
end Go.Proofs.YtkhiflmalgkjiaaGreat
namespace Go.Proofs.YtkhiflmalgkjiaaGreat
def Au (E : TE) : List CK → Nat
  | [] => 0
  | .d _ u :: r => E.sz u + Au E r
  | .o _ _ :: r => Au E r + 1
theorem IU {E : TE} : ∀ (u v : List CK),Au E (u ++ v) = Au E u + Au E v
  | [],v => by simp [Au]
  | q :: u,v => by cases q <;> simp only [List.cons_append,Au,IU u v] <;> omega
def fH : Bool → List Value → Value
  | true,cs => .agg cs.toArray
  | false,c :: _ => c
  | false,[] => undef
def w7 : Bool → List CV → Option AV
  | true,cs => some (.agg cs)
  | false,[c] => some (.one c)
  | false,_ => none
inductive GK where | b (q : Bool) | p | fn (f : Nat) (gs : List (Bool × Nat)) (m : Nat)
abbrev Sh := List (GK × List CK)
def flt : Sh → List CK
  | [] => []
  | p :: r => p.2 ++ flt r
def ptV : List Nat → Value | b :: _ => .pointer (some ⟨b,0,none⟩) | [] => undef
def UW : List (Bool × Nat) → List Value → List Value
  | [],_ => []
  | (q,k) :: r,cs => fH q (cs.take k) :: UW r (cs.drop k)
def Hj (E : TE) : Sh → List Value → List Nat → List Value
  | [],_,_ => []
  | (.b q,l) :: r,cs,mb => fH q (cs.take (Au E l)) :: Hj E r (cs.drop (Au E l)) mb
  | (.p,l) :: r,cs,mb => ptV (mb.take 1) :: Hj E r (cs.drop (Au E l)) (mb.drop 1)
  | (.fn f gs m,l) :: r,cs,mb => .func (.func f) (UW gs (cs.take (Au E l))).toArray ((mb.take m).map fun b => .pointer (some ⟨b,0,none⟩)).toArray :: Hj E r (cs.drop (Au E l)) (mb.drop m)
def SO (E : TE) (ys : Sh) (cs : List Value) : Value := match Hj E ys cs [] with | [v] => v | l => .tuple l.toArray
def Nx (E : TE) : List CK → List Value → List Value
  | [],_ => []
  | .d _ u :: r,cs => Nx E r (cs.drop (E.sz u))
  | .o _ _ :: r,c :: cs => c :: Nx E r cs
  | .o _ _ :: r,[] => []
theorem M7 {E : TE} : ∀ (l : List CK) (u v : List Value),u.length = Au E l → Nx E l (u ++ v) = Nx E l u
  | [],u,v,h => rfl
  | .d _ a :: r,u,v,h => by
    have h : u.length = E.sz a + Au E r := h
    show Nx E r (List.drop _ _) = Nx E r (List.drop _ _)
    rw [List.drop_append_of_le_length (by omega),M7 r _ _ (by rw [List.length_drop]; omega)]
  | .o _ _ :: r,[],v,h => by
    have h : 0 = Au E r + 1 := h
    omega
  | .o _ _ :: r,c :: u,v,h => by
    have h : u.length + 1 = Au E r + 1 := h
    show c :: Nx E r (u ++ v) = c :: Nx E r u
    rw [M7 r u v (by omega)]
def mB : List CK → List CK
  | [] => []
  | .d _ _ :: r => mB r
  | .o e u :: r => .o e u :: mB r
def ZC {c : Nat → Type} : ZI c → Value → Prop := fun _ _ => False
abbrev Bk := List (Bool × List CK)
def bsK : Bk → List CK
  | [] => []
  | p :: r => p.2 ++ bsK r
def aU : Bk → List CK
  | [] => []
  | (true,l) :: r => l ++ aU r
  | (false,_) :: r => aU r
abbrev Dp (xs : Sh) (bs : Bk) : List CK := flt xs ++ bsK bs
def IX (xs ys : Sh) (bs : Bk) : Bool → List CK
  | true => flt ys ++ (aU bs ++ mB (flt xs))
  | false => flt ys ++ aU bs
theorem J1 {E : TE} : ∀ (xs : Sh) (u v : List Value) (mb : List Nat),u.length = Au E (flt xs) → Hj E xs (u ++ v) mb = Hj E xs u mb
  | [],u,v,mb,h => rfl
  | (g,l) :: r,u,v,mb,h => by
    have h' : u.length = Au E (l ++ flt r) := h
    rw [IU] at h'
    have h1 : (u ++ v).take (Au E l) = u.take (Au E l) := List.take_append_of_le_length (by omega)
    have h2 : (u ++ v).drop (Au E l) = u.drop (Au E l) ++ v := List.drop_append_of_le_length (by omega)
    have h3 : ∀ mb,Hj E r (u.drop (Au E l) ++ v) mb = Hj E r (u.drop (Au E l)) mb := fun mb => J1 r _ _ mb (by rw [List.length_drop]; omega)
    cases g with
    | b q => show fH q (List.take _ _) :: Hj E r (List.drop _ _) mb = fH q _ :: Hj E r _ mb; rw [h1,h2,h3]
    | p => show _ :: Hj E r (List.drop _ _) _ = _ :: Hj E r _ _; rw [h2,h3]
    | fn f gs m => show Value.func _ (UW gs (List.take _ _)).toArray _ :: Hj E r (List.drop _ _) _ = Value.func _ (UW gs _).toArray _ :: Hj E r _ _; rw [h1,h2,h3]
def oG (E : TE) : List Nat → Bk → List Value → CU
  | [],_,_ => []
  | _ :: _,[],_ => []
  | b :: mb,(_,l) :: bs,cs => (b,cs.take (Au E l)) :: oG E mb bs (cs.drop (Au E l))
def bX (E : TE) : List Nat → Bk → List Value → List Value → CU
  | [],_,_,_ => []
  | _ :: _,[],_,_ => []
  | b :: mb,(true,l) :: bs,cs,cs' => (b,cs'.take (Au E l)) :: bX E mb bs (cs.drop (Au E l)) (cs'.drop (Au E l))
  | b :: mb,(false,l) :: bs,cs,cs' => (b,cs.take (Au E l)) :: bX E mb bs (cs.drop (Au E l)) cs'
structure Con (E : TE) (P : Program) where
  xs : Sh
  ys : Sh
  bs : Bk
  io : Bool
  tw : TT E.c (Dp xs bs) → Option (TT E.c (IX xs ys bs io))
  pu : Option { g : TT E.c (Dp xs bs) → TT E.c (IX xs ys bs io) // ∀ x,tw x = some (g x) }
def d7 {E : TE} {P : Program} (C : Con E P) (f : FuncId) (Y : Nat → Prop) (X : List Nat) (w0 : World) : Prop := ∀ (x : TT E.c (Dp C.xs C.bs)) r (L : List (Leaf E.c)) (cs : List Value) (its : List It) (mb : List Nat),C.tw x = some r → Q7 E (Dp C.xs C.bs) x = some L → JF ZC (DI E ⟨Y,X,w0⟩) L cs its → mb.length = C.bs.length → Stw ⟨Y,X,w0⟩ (oG E mb C.bs (cs.drop (Au E (flt C.xs)))) its w0 →
  Calls P f (Hj E C.xs cs mb).toArray w0 fun e w' => ∃ L' cs' its',Q7 E _ r = some L' ∧ JF ZC (DI E ⟨Y,X,w0⟩) L' cs' its' ∧ Stw ⟨Y,X,w0⟩ (bX E mb C.bs (cs.drop (Au E (flt C.xs))) (cs'.drop (Au E (flt C.ys)))) its' w' ∧ e = .returned (SO E C.ys cs') ∧ (C.io = true → cs'.drop (Au E (flt C.ys ++ aU C.bs)) = Nx E (flt C.xs) cs)
def Zu {E : TE} {P : Program} (C : Con E P) (f : FuncId) : Prop := ∀ (Y : Nat → Prop) (X : List Nat) (w0 : World),E.gk X w0 → d7 C f Y X w0
abbrev Hq (E : TE) (P : Program) := List (Nat × Con E P)
structure ConsOk {E : TE} {P : Program} (B : Bs) (G : Hq E P) : Prop where
  ok : ∀ p ∈ G,(∀ (Y : Nat → Prop) (Ml M : CU) (Zl Z : List It) (w : World),Stw B (Ml ++ M) (Zl ++ Z) w → d7 p.2 p.1 Y (Aq Ml Zl) w) ∧ Has P p.1
section
variable {E : TE} {P : Program} {B : Bs} {θ : Pin} {n : Nat} {ds : List Deferred} {S : St E.c} {a : Act} {w : World} {σ : Nat → Value} {ρ : Nat → Nat} {ι : Nat → It} {R : Type}
variable {ops : Array Oper} {Q : Exit → Act → World → Prop} {rest : List Oper} {ty : TypeId} {pos : String} {aft : Array Edge}
theorem fL {w' : World} {A : Nat → Prop} {v : Value} {k : ZK} {u : U} {lx : List (List Value × u.T E.c)} (h : (P9 E B v k u lx).ok w' A) : v.oneCell' = true := by
  cases k with
  | own e => exact H5.one (show H5 w' A e (u.rp E.r).seen v lx from h)
  | frz => exact Sl.one (show Sl w' A (u.rp E.r).seen v lx from h)
  | rd => exact Sl.one (show Sl B.w0 _ (u.rp E.r).seen v lx from h)
theorem Rel.cells1 (h : Rel E B θ n ds S a w σ ρ ι) {v : AV} {cs : List CV} (hc : v.cells = some cs) (hk : Bx (fun c => match c with | .sl z => (CQ S.Z z).isSome | _ => true) cs = true) :
    (v.val E.sz σ ρ).cells.toList = cs.map (CV.val E.sz σ ρ) ∧ (cs.map (CV.val E.sz σ ρ)).all (·.oneCell') = true := by
  have h1 : ∀ c ∈ cs,(c.val E.sz σ ρ).oneCell' = true := fun c hm => YB _ _ _ c fun z e => by
    subst e
    have := Ae.1 hk _ hm
    simp only at this
    obtain ⟨⟨ver,x⟩,hx⟩ := Option.isSome_iff_exists.1 this
    obtain ⟨lx,e1,e2⟩ := h.it _ (A8 hx)
    have := h.st.items (ι z) (List.mem_map.2 ⟨_,A8 hx,rfl⟩)
    rw [e2] at this
    exact fL this
  have h2 : (cs.map (CV.val E.sz σ ρ)).all (·.oneCell') = true := List.all_eq_true.2 fun v hv => by
    obtain ⟨c,hm,rfl⟩ := List.mem_map.1 hv
    exact h1 c hm
  refine ⟨?_,h2⟩
  cases v with
  | one c => cases hc; exact Nd (h1 c (List.mem_cons_self ..))
  | agg l => cases hc; rfl
  | tup l => cases hc
  | fnv f gs ps => cases hc
def St.addM {c : Nat → Type} (S : St c) (cs : List CV) : St c := { S with M := (S.nb,S.nv,cs) :: S.M,V := (S.nb,List.replicate cs.length S.nv) :: S.V,nb := S.nb + 1,nv := S.nv + 1 }
theorem Ext.addM {c : Nat → Type} (S : St c) (cs : List CV) : Ext S (S.addM cs) :=
  ⟨Nat.le_succ _,fun _ _ e _ => e,fun k x e l => by
    by_cases hk : S.nb = k
    · subst hk
      rw [show (S.addM cs).M = (S.nb,S.nv,cs) :: S.M from rfl,DK] at e
      cases e
      exact absurd l (Nat.lt_irrefl _)
    · rw [show (S.addM cs).M = (S.nb,S.nv,cs) :: S.M from rfl,C6 hk] at e
      exact e,fun _ _ e _ => e,fun b i v e l => by
    by_cases hk : S.nb = b
    · subst hk
      unfold Uz at e
      rw [show (S.addM cs).V = (S.nb,List.replicate cs.length S.nv) :: S.V from rfl,DK] at e
      simp only [List.getElem?_replicate] at e
      split at e
      · cases e; exact absurd l (Nat.lt_irrefl _)
      · cases e
    · unfold Uz i9 at *
      rw [show (S.addM cs).V = (S.nb,List.replicate cs.length S.nv) :: S.V from rfl,C6 hk] at e
      rw [show (S.addM cs).M = (S.nb,S.nv,cs) :: S.M from rfl,C6 hk]
      exact ⟨e,rfl⟩⟩
theorem Rel.addM (h : Rel E B θ n ds S a w σ ρ ι) {cs : List CV} {b : Nat} {w' : World} (hc : Bx (CV.wf S.nz S.nb) cs = true) (hW : Stw B ((b,cs.map (CV.val E.sz σ ρ)) :: S.mm E σ ρ) (S.zz ι) w') : Rel E B θ n ds (S.addM cs) a w' σ (DH ρ S.nb b) ι := by
  have g : Ag S.nz S.nb σ σ ρ (DH ρ S.nb b) := ⟨fun _ _ => rfl,fun j hj => DM (by omega)⟩
  have e1 : (S.addM cs).ff E σ (DH ρ S.nb b) = S.ff E σ ρ := S7 (S := S) h.wF g
  have e2 : (S.addM cs).mm E σ (DH ρ S.nb b) = (b,cs.map (CV.val E.sz σ ρ)) :: S.mm E σ ρ := by
    show (DH ρ S.nb b S.nb,cs.map _) :: S.M.map _ = _
    rw [El,Hl g hc]
    congr 1
    exact R3 (S := S) h.wM g
  exact { it := h.it,wF := fun p hp => ⟨AV.wf_mono (Nat.le_refl _) (Nat.le_succ _) (h.wF p hp).1,Nat.lt_succ_of_lt (h.wF p hp).2⟩,wM := fun p hp => by
            rcases List.mem_cons.1 hp with rfl | hp
            · exact ⟨Nat.lt_succ_self _,Nat.lt_succ_self _,Dj (fun _ => CV.wf_mono (Nat.le_refl _) (Nat.le_succ _)) hc⟩
            · exact ⟨Nat.lt_succ_of_lt (h.wM p hp).1,Nat.lt_succ_of_lt (h.wM p hp).2.1,Dj (fun _ => CV.wf_mono (Nat.le_refl _) (Nat.le_succ _)) (h.wM p hp).2.2⟩
          wZ := fun p hp => ⟨(h.wZ p hp).1,Nat.lt_succ_of_lt (h.wZ p hp).2⟩,nZ := h.nZ,ca := h.ca,pn := ⟨h.pn.1.trans g h.pn.2.1 h.pn.2.2,h.pn.2.1,Nat.le_succ_of_le h.pn.2.2⟩,pi := ⟨Nat.le_succ_of_le h.pi.1,h.pi.2⟩,fr := by rw [e1]; exact h.fr,st := by rw [e2]; exact hW }
abbrev RS (E : TE) (P : Program) (B : Bs) (θ : Pin) (n : Nat) (ds : List Deferred) (S : St E.c) (k : St E.c → Tree R) (r : R) (ops : Array Oper) (Q : Exit → Act → World → Prop) (rest : List Oper) : Prop :=
  ∀ S' a' w' σ' ρ' ι',Ext S S' → Rel E B θ n ds S' a' w' σ' ρ' ι' → (k S').den = some r → wpList P ops Q rest a' w'
def sA {c : Nat → Type} (S : St c) (d : Nat) (cs : List CV) (k : St c → Tree R) : Tree R := k ((S.addM cs).put d (.one (.ptr S.nb 0)))
theorem Y6 {cs : List CV} {d : Nat} {k : St E.c → Tree R} {r : R} {b : Nat} {a' : Act} {w' : World} (h : Rel E B θ n ds S a w σ ρ ι) (hc : Bx (CV.wf S.nz S.nb) cs = true) (e : (sA S d cs k).den = some r) (K : RS E P B θ n ds S k r ops Q rest)
    (hF : Fr n ds ((d,.pointer (some ⟨b,0,none⟩)) :: S.ff E σ ρ) a') (hW : Stw B ((b,cs.map (CV.val E.sz σ ρ)) :: S.mm E σ ρ) (S.zz ι) w') : wpList P ops Q rest a' w' := by
  have h1 := h.addM hc hW
  have g : Ag S.nz S.nb σ σ ρ (DH ρ S.nb b) := ⟨fun _ _ => rfl,fun j hj => DM (by omega)⟩
  have e1 : (S.addM cs).ff E σ (DH ρ S.nb b) = S.ff E σ ρ := S7 (S := S) h.wF g
  refine K _ a' w' σ (DH ρ S.nb b) ι ((Ext.addM S cs).trans (Ext.put _ d _)) (h1.put (v := .one (.ptr S.nb 0)) (Nat.ble_eq_true_of_le (Nat.lt_succ_self _)) ?_) e
  rw [e1]
  show Fr n ds ((d,.pointer (some ⟨DH ρ S.nb b S.nb,0,none⟩)) :: _) a'
  rw [El]
  exact hF
def tS (o m nv : Nat) : Nat → List Nat → List Nat
  | _,[] => []
  | i,x :: r => (match Nat.ble o i && Nat.blt i (o + m) with | true => nv | false => x) :: tS o m nv (i + 1) r
def eR (b o m nv : Nat) (V : List (Nat × List Nat)) : List (Nat × List Nat) := match CQ V b with
  | some l => (b,tS o m nv 0 l) :: V
  | none => V
theorem gT {o m nv : Nat} : ∀ {l : List Nat} {j i v : Nat},(tS o m nv j l)[i]? = some v → v = nv ∨ (l[i]? = some v ∧ (j + i < o ∨ o + m ≤ j + i))
  | [],j,i,v,h => by simp [tS] at h
  | x :: r,j,0,v,h => by
    unfold tS at h
    simp only [List.getElem?_cons_zero,Option.some.injEq] at h
    split at h
    · exact .inl h.symm
    · rename_i hc
      refine .inr ⟨by simp [h], ?_⟩
      simp only [Nat.blt,Bool.and_eq_false_iff] at hc
      rcases hc with hc | hc
      · have : ¬ o ≤ j := fun h => by rw [Nat.ble_eq_true_of_le h] at hc; cases hc
        omega
      · have : ¬ j + 1 ≤ o + m := fun h => by rw [Nat.ble_eq_true_of_le h] at hc; cases hc
        omega
  | x :: r,j,i + 1,v,h => by
    unfold tS at h
    rw [List.getElem?_cons_succ] at h
    rcases gT h with h | ⟨h1,h2⟩
    · exact .inl h
    · exact .inr ⟨by rw [List.getElem?_cons_succ]; exact h1,by omega⟩
theorem Yv : ∀ {vs : List CV} {cs : List CV} {o i : Nat},(i < o ∨ o + vs.length ≤ i) → (QI cs o vs)[i]? = cs[i]?
  | [],cs,o,i,h => rfl
  | v :: r,cs,o,i,h => by
    show (QI (cs.set o v) (o + 1) r)[i]? = _
    simp only [List.length_cons] at h
    rw [Yv (by omega),List.getElem?_set_ne (by omega)]
def rA {c : Nat → Type} (S : St c) (b o : Nat) (vs : List CV) (k : St c → Tree R) : Tree R := match Xn S.M b with
  | some ((_,cs),Mr) => match Nat.ble (o + vs.length) cs.length with
    | true => k { S with M := (b,S.nv,QI cs o vs) :: Mr,V := eR b o vs.length S.nv S.V,nv := S.nv + 1 }
    | false => .fail
  | none => .fail
theorem Jm {α β : Type _} {f : α → β} : ∀ {l : List α},(l.map f).Nodup → l.Nodup
  | [],_ => List.nodup_nil
  | x :: l,h => by
    rw [zj,List.nodup_cons] at h
    exact List.nodup_cons.2 ⟨fun hm => h.1 (List.mem_map.2 ⟨x,hm,rfl⟩),Jm h.2⟩
theorem cK {S : St E.c} (h : Rel E B θ n ds S a w σ ρ ι) {b : Nat} {x : Nat × List CV} {Mr : List (Nat × Nat × List CV)} (e : Xn S.M b = some (x,Mr)) : (S.mm E σ ρ).Perm ((ρ b,x.2.map (CV.val E.sz σ ρ)) :: Mr.map fun p => (ρ p.1,p.2.2.map (CV.val E.sz σ ρ))) ∧ (b,x) ∈ S.M ∧ (∀ p ∈ Mr,p ∈ S.M) ∧ ∀ j y,CQ Mr j = some y → CQ S.M j = some y := by
  have hp := FY e
  have hnd : (S.M.map (·.1)).Nodup := by
    have h1 : (S.M.map fun p => ρ p.1).Nodup := by
      have := (List.nodup_append.1 h.st.nodup).1
      rw [List.map_map] at this
      exact this
    have h2 : (S.M.map fun p => ρ p.1) = (S.M.map (·.1)).map ρ := by rw [List.map_map]; rfl
    rw [h2] at h1
    exact Jm h1
  have h3 : ∀ p ∈ Mr,p ∈ S.M := fun p hp' => hp.mem_iff.2 (zd _ hp')
  exact ⟨hp.map _,hp.mem_iff.2 (List.mem_cons_self ..),h3,fun j y hy => F7 hnd (h3 _ (A8 hy))⟩
theorem jL {b o t : Nat} {vs : List CV} {v : AV} {x y : Operand} {agg : Bool} {m : Nat} {k : St E.c → Tree R} {r : R} (h : Rel E B θ n ds S a w σ ρ ι) (hx : F2 S x = some (.one (.ptr b o))) (hy : F2 S y = some v) (hc : v.cells = some vs) (hk : Bx (fun c => match c with | .sl z => (CQ S.Z z).isSome | _ => true) vs = true)
    (T : Ty P t agg m) (hm : vs.length = m) (e : (rA S b o vs k).den = some r) (K : RS E P B θ n ds S k r ops Q rest) : wpList P ops Q (⟨none,.store t x y,ty,pos,aft,none⟩ :: rest) a w := by
  unfold rA at e
  split at e
  · rename_i ver cs Mr hp
    split at e
    · rename_i hle
      obtain ⟨p1,p2,p3,p4⟩ := cK h hp
      have hox := h.op hx
      have hoy := h.op hy
      obtain ⟨c1,c2⟩ := h.cells1 hc hk
      have hwv : Bx (CV.wf S.nz S.nb) vs = true := by
        cases v with
        | one c => cases hc; exact Ae.2 fun z hz => by rcases List.mem_singleton.1 hz with rfl; exact hoy.2
        | agg l => cases hc; exact hoy.2
        | tup l => cases hc
        | fnv f gs ps => cases hc
      refine OE (M' := (ρ b,Gv (cs.map (CV.val E.sz σ ρ)) o (vs.map (CV.val E.sz σ ρ))) :: Mr.map fun p => (ρ p.1,p.2.2.map (CV.val E.sz σ ρ))) 0 h.fr (h.st.perm p1) hox.1 hoy.1 rfl T c1 (by rw [zh]; exact hm) (by simpa using hle) c2 rfl fun w' hW' => ?_
      have hwM := h.wM _ p2
      refine K { S with M := (b,S.nv,QI cs o vs) :: Mr,V := eR b o vs.length S.nv S.V,nv := S.nv + 1 } a w' σ ρ ι ⟨Nat.le_succ _,fun _ _ e _ => e,fun j q hq hl => ?_,fun _ _ e _ => e,fun j i v he hl => ?_⟩ { it := h.it,wF := fun p hp => ⟨(h.wF p hp).1,Nat.lt_succ_of_lt (h.wF p hp).2⟩,wM := fun p hp => ?_,wZ := fun p hp => ⟨(h.wZ p hp).1,Nat.lt_succ_of_lt (h.wZ p hp).2⟩,nZ := h.nZ,ca := h.ca,pn := h.pn,pi := ⟨Nat.le_succ_of_le h.pi.1,h.pi.2⟩,fr := h.fr,st := ?_ } e
      · by_cases hb : b = j
        · subst hb
          simp only [DK] at hq
          cases hq
          exact absurd hl (Nat.lt_irrefl _)
        · simp only [C6 hb] at hq
          exact p4 _ _ hq
      · have hbs : CQ S.M b = some (ver,cs) := F7 (Jm (f := ρ) (by
          have := (List.nodup_append.1 h.st.nodup).1
          rw [List.map_map] at this ⊢
          exact this)) p2
        by_cases hb : b = j
        · subst hb
          unfold Uz eR at he
          simp only at he
          cases hv : CQ S.V b with
          | none => rw [hv] at he; simp only [hv] at he; cases he
          | some l =>
            rw [hv] at he
            simp only [DK] at he
            rcases gT he with rfl | ⟨g1,g2⟩
            · exact absurd hl (Nat.lt_irrefl _)
            · refine ⟨by unfold Uz; rw [hv]; exact g1, ?_⟩
              unfold i9
              simp only [DK,hbs]
              exact Yv (by omega)
        · have hV : CQ (eR b o vs.length S.nv S.V) j = CQ S.V j := by
            unfold eR
            split
            · exact C6 hb
            · rfl
          unfold Uz at he
          simp only [hV] at he
          refine ⟨he, ?_⟩
          unfold i9
          simp only [C6 hb]
          cases hm : CQ S.M j with
          | none =>
            cases hr : CQ Mr j with
            | none => rfl
            | some y => rw [p4 _ _ hr] at hm; cases hm
          | some y =>
            have hmem := (FY hp).mem_iff.1 (A8 hm)
            rcases List.mem_cons.1 hmem with he' | hmem
            · exact absurd (congrArg Prod.fst he').symm hb
            · have hnd : (Mr.map (·.1)).Nodup := by
                have h1 : (S.M.map (·.1)).Nodup := Jm (f := ρ) (by
                  have := (List.nodup_append.1 h.st.nodup).1
                  rw [List.map_map] at this ⊢
                  exact this)
                have := ((FY hp).map (·.1)).nodup_iff.1 h1
                rw [zj,List.nodup_cons] at this
                exact this.2
              rw [F7 hnd hmem]
      · rcases List.mem_cons.1 hp with rfl | hp
        · exact ⟨hwM.1,Nat.lt_succ_self _,U0 _ _ _ hwv hwM.2.2⟩
        · have := h.wM p (p3 p hp)
          exact ⟨this.1,Nat.lt_succ_of_lt this.2.1,this.2.2⟩
      · show Stw B ((ρ b,(QI cs o vs).map (CV.val E.sz σ ρ)) :: _) (S.zz ι) w'
        rw [KT]
        exact hW'
    · cases e
  · cases e
end
end Go.Proofs.YtkhiflmalgkjiaaGreat
