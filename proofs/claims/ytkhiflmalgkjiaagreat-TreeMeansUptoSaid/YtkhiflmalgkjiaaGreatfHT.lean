/- One operation, a list of them. Conditions: none. -/
import Derived.Test.YtkhiflmalgkjiaaGreatfHQ
set_option linter.unusedVariables false
set_option linter.unusedSimpArgs false
open Go Go.RowKit
namespace Go.Proofs.YtkhiflmalgkjiaaGreat
def Zs (m : Nat) : List CV → List (Nat × AV) → Option (List CV)
  | cs,[] => some cs
  | cs, (i, v) :: r => match v.cells with
    | some vs => match Nat.beq vs.length m with
      | true => match Nat.ble (i * m + vs.length) cs.length with
        | true => Zs m (QI cs (i * m) vs) r
        | false => none
      | false => none
    | none => none
def y8 (E : TE) (S : St E.c) (u : U) : Nat → List CV → Option (List (u.T E.c))
  | 0,[] => some []
  | 0,_ :: _ => none
  | m + 1,cs => match YI (E.sz u) cs with
    | some c1 => match fK false S .frz (nJ E false S .frz 4) u c1 with
      | some (x,[]) => match y8 E S u m (YJ (E.sz u) cs) with | some r => some (x :: r) | none => none
      | _ => none
    | none => none
def Mj {c : Nat → Type} (S : St c) (cs : List CV) : Bool := Bx (fun c => match c with | .sl z => (CQ S.Z z).isSome | _ => true) cs
def SL {c : Nat → Type} : List (Nat × AV) → St c → St c
  | [],S => S
  | (_,v) :: r,S => SL r (match v.cells with | some cs => OS cs.length cs S | none => S)
def MJ {c : Nat → Type} (S : St c) : List (Nat × AV) → Bool
  | [] => true
  | (_,v) :: r => match v.cells with | some cs => (match Mj S cs with | true => MJ S r | false => false) | none => false
def vB {c : Nat → Type} (S : St c) (ps : List (Nat × AV)) : List (Nat × AV) := ps.filter fun p => match p.2 with
  | .one (.sl z) => match CQ S.Z z with
    | some (_,⟨_,.tr _,_⟩) => true
    | _ => false
  | _ => false
def gO (m sz : Nat) (zc : List CV) : List CV := (List.range (m * sz)).map fun i => (zc[i % sz]?).getD .nil
def sL {R : Type} (E : TE) (tb : Tb) (t m : Nat) (ps : List (Nat × AV)) (S : St E.c) (k : AV → St E.c → Tree R) : Tree R := match CQ tb.sl t with
  | some (e, u, _) => match CQ tb.zr e with
    | some zc => match Nat.beq zc.length (E.sz u) with
      | true => match Nat.ble (m * E.sz u) 16777216 with
        | true => match Zs (E.sz u) (gO m (E.sz u) zc) ps with
          | some cs => match y8 E S u m cs with
            | some l => k (.one (.sl S.nz)) ({ S with C := [] }.addZ ⟨.own e,u,l⟩)
            | none => .fail
          | none => .fail
        | false => .fail
      | false => .fail
    | none => .fail
  | none => .fail
def eB {c : Nat → Type} (S : St c) (dflt : Int) : Option Operand → Option Int
  | none => some dflt
  | some q => match F2 S q with | some (.one (.int .i64 p)) => some p | _ => none
def oH {R : Type} (E : TE) (tb : Tb) (t z : Nat) (lo hi : Option Operand) (S : St E.c) (k : AV → St E.c → Tree R) : Tree R := match CQ S.Z z with
  | some (_, ⟨kk, u, l⟩) => match CQ tb.sl t with
    | some (_,u',_) => match u.same u' with
      | true => match eB S 0 lo with
        | some a => match eB S (l.length : Int) hi with
          | some b => match kk with
            | .own _ => .fail
            | kk => .bnd (JV l a b) fun l2 => k (.one (.sl S.nz)) (S.addZ ⟨kk,u,l2⟩)
          | none => .fail
        | none => .fail
      | false => .fail
    | none => .fail
  | none => .fail
def St.putC {c : Nat → Type} (S : St c) (d : Nat) (v : AV) (x : Y5 c) : St c := match x with
  | none => S.put d v
  | some q => { S.put d v with C := (d,q) :: (S.put d v).C }
def dEp {R : Type} (E : TE) (z : Nat) (u : U) (i : Int) (o : Nat) (p : Nat) (vs : List CV) (S : St E.c) (k : St E.c → Tree R) : Tree R :=
  match CQ S.Z z with
  | some (ver',⟨.own e,u2,l⟩) => match CQ S.C p with
    | some (ver,⟨u',x⟩) => match Nat.beq ver ver' with
      | true => kT E z u' i o x vs S k
      | false => .fail
    | none => match u2.same u with
      | true => .bnd (ix l i) fun x => kT E z u2 i o x vs S k
      | false => .fail
  | _ => .fail
def wV : Bool × List CV → AV
  | (true,l) => .agg l
  | (false,c :: _) => .one c
  | (false,[]) => .tup []
def pL {c : Nat → Type} (S : St c) (x : Operand) : Option (Nat × List AV × List AV) := match F2 S x with
  | some (.one (.fn f)) => some (f,[],[])
  | some (.fnv f gs ps) => match Bx (fun p => match p with | (false,[]) => false | _ => true) gs with
    | true => some (f,gs.map wV,ps.map .one)
    | false => none
  | _ => none
def zB {R : Type} (E : TE) {P : Program} (tb : Tb) (G : Hq E P) (n : Nat) (S : St E.c) (k : St E.c → Tree R) : Option Tmp → Op → Tree R
  | some d, op => match Nat.blt d n with
    | false => .fail
    | true => match op with
      | .alloc t => match CQ tb.zr t with | some zc => sA S d zc k | none => .fail
      | .box _ x => match F2 S x with
        | some v => match v.cells with
          | some cs => match Mj S cs with | true => sA S d cs k | false => .fail
          | none => .fail
        | none => .fail
      | .makeSlice t lo co => match X3 lo co with
        | true => match F2 S lo with
          | some (.one (.int _ nn)) => gY E tb t nn S fun v S' => k (S'.put d v)
          | _ => .fail
        | false => .fail
      | .buildSlice t m ⟨ps⟩ => match TV S ps with
        | some ps => match MJ (SL ps S) ps with
          | true => sL E tb t m ps (SL ps S) fun v S' => k (S'.put d v)
          | false => .fail
        | none => .fail
      | .build t ⟨ps0⟩ => match TV S ps0 with
        | some ps => match MJ (SL (vB S ps) S) ps with
          | true => match CQ tb.bt t with
            | some (zc,pl) => match NT pl zc ps with
              | some cs => k ((SL (vB S ps) S).put d (.agg cs))
              | none => .fail
            | none => oE E tb (.build t ⟨ps0⟩) S fun v x S' => k (S'.putC d v x)
          | false => .fail
        | none => .fail
      | .slice t s lo hi none => match F2 S s with
        | some (.one (.sl z)) => oH E tb t z lo hi (X4 S (.sl z)) fun v S' => k (S'.put d v)
        | some (.one (.str l)) => match CQ tb.st t with
          | some _ => match eB S 0 lo with
            | some a => match eB S (l.length : Int) hi with
              | some b => .bnd (JV l a b) fun l2 => k (S.put d (.one (.str l2)))
              | none => .fail
            | none => .fail
          | none => .fail
        | _ => .fail
      | .call ⟨.builtin .append,⟨[s,q]⟩,⟨[t,t']⟩⟩ => match Nat.beq t t' with
        | true => match F2 S s with
          | some s => match F2 S q with
            | some q => s9 E tb t s q S fun v S' => k (S'.put d v)
            | none => .fail
          | none => .fail
        | false => .fail
      | .call ⟨.value fo,⟨xs⟩,_⟩ => match pL S fo with
        | some (f,us,ps) => match Uc S xs with
          | some vs => Uu E G f (us ++ vs ++ ps) S fun v S' => k (S'.put d v)
          | none => .fail
        | none => .fail
      | op => oE E tb op S fun v x S' => k (S'.putC d v x)
  | none, .store t x y => match TX tb.tt.2 t with
    | some (_, m) => match F2 S y with
      | some v => match v.cells with
        | some vs => match Nat.beq vs.length m with
          | true => match Mj S vs with
            | true => match F2 S x with
              | some (.one (.ptr b o)) => rA S b o vs k
              | some (.one (.ep z u i o)) => match x with
                | .tmp p => match Nat.ble (o + vs.length) (E.sz u) with
                  | true => match Mj (OS vs.length vs S) vs with
                    | true => dEp E z u i o p vs (OS vs.length vs S) k
                    | false => .fail
                  | false => .fail
                | _ => .fail
              | _ => .fail
            | false => .fail
          | false => .fail
        | none => .fail
      | none => .fail
    | none => .fail
  | none,.call ⟨.value fo,⟨xs⟩,_⟩ => match pL S fo with
    | some (f,us,ps) => match Uc S xs with
      | some vs => Uu E G f (us ++ vs ++ ps) S fun _ S' => k S'
      | none => .fail
    | none => .fail
  | _,_ => .fail
def dG {R : Type} {c : Nat → Type} (l0 : List Oper) (S : St c) (yes no : St c → Tree R) : Option (Nat × Bool) → Tree R
  | none => yes S
  | some (i,t) => match Wb l0 i with
    | some d => match CQ S.F d with
      | some (_,.one (.bool b)) => match b with
        | .lit b => match b,t with | true,true => yes S | false,false => yes S | true,false => no S | false,true => no S
        | b => .ite b (match t with | true => yes (S.put d (.one (.bool (.lit true)))) | false => no (S.put d (.one (.bool (.lit true))))) (match t with | true => no (S.put d (.one (.bool (.lit false)))) | false => yes (S.put d (.one (.bool (.lit false)))))
      | some (_,.tup []) => no S
      | _ => .fail
    | none => .fail
def dL {R : Type} (E : TE) {P : Program} (tb : Tb) (G : Hq E P) (n : Nat) (l0 : List Oper) (k : St E.c → Tree R) : List Oper → St E.c → Tree R
  | [],S => k S
  | o :: l,S => dG l0 S (fun S => zB E tb G n S (dL E tb G n l0 k l) o.dst o.op) (fun S => match o.dst with
    | some d => match Nat.blt d n with | true => dL E tb G n l0 k l (S.put d (.tup [])) | false => .fail
    | none => .fail) o.guard
section
variable {E : TE} {P : Program} {B : Bs} {θ : Pin} {n : Nat} {ds : List Deferred} {S : St E.c} {a : Act} {w : World} {σ : Nat → Value} {ρ : Nat → Nat} {ι : Nat → It} {R : Type}
variable {ops : Array Oper} {Q : Exit → Act → World → Prop} {rest : List Oper} {ty : TypeId} {pos : String} {aft : Array Edge}
theorem eE (h : Rel E B θ n ds S a w σ ρ ι) {u : U} : ∀ {m : Nat} {cs : List CV} {l : List (u.T E.c)},y8 E S u m cs = some l → l.length = m ∧ ∃ lx,lx.map Prod.snd = l ∧ B1 (u.rp E.r).seen w (Fz B (Aq (S.mm E σ ρ) (S.zz ι))) (cs.map (CV.val E.sz σ ρ)) lx
  | 0,[],l,e => by cases e; exact ⟨rfl,[],rfl,rfl⟩
  | 0,_ :: _,l,e => nomatch e
  | m + 1, cs, l, e => by
    unfold y8 at e
    split at e
    · rename_i c1 h1
      split at e
      · rename_i x hx
        split at e
        · rename_i r hr
          cases e
          obtain ⟨g1,lx,g2,g3⟩ := eE h hr
          refine ⟨by simp [g1],(c1.map (CV.val E.sz σ ρ),x) :: lx,by simp [g2], ?_⟩
          rw [Zc _ h1]
          exact ⟨_,_,rfl,⟨rfl,cC h.toStC (fun _ h => h) h.st (fun _ h => h) hx⟩,g3⟩
        · cases e
      · cases e
    · cases e
theorem WM (h : Rel E B θ n ds S a w σ ρ ι) {m : Nat} : ∀ {ps : List (Nat × AV)} {cs cs' : List CV},MJ S ps = true → Zs m cs ps = some cs' → HJ (fun i => some (i * m,m)) (cs.map (CV.val E.sz σ ρ)) (ps.map fun p => (p.1,p.2.val E.sz σ ρ)) = some (cs'.map (CV.val E.sz σ ρ))
  | [],cs,cs',_,e => by cases e; rfl
  | (i, v) :: r, cs, cs', hk, e => by
    unfold MJ at hk
    unfold Zs at e
    split at e
    · rename_i vs hv
      rw [hv] at hk
      simp only at hk
      split at hk
      · rename_i hk1
        obtain ⟨c1,_⟩ := h.cells1 hv hk1
        split at e
        · rename_i hl
          split at e
          · rename_i hle
            have := WM h hk e
            rw [KT] at this
            show (match (fun i => some (i * m,m)) i with | none => none | some (off,size) => if (v.val E.sz σ ρ).cells.toList.length = size ∧ off + (v.val E.sz σ ρ).cells.toList.length ≤ (cs.map (CV.val E.sz σ ρ)).length then HJ (fun i => some (i * m,m)) (Gv (cs.map (CV.val E.sz σ ρ)) off (v.val E.sz σ ρ).cells.toList) (r.map fun p : Nat × AV => (p.1,p.2.val E.sz σ ρ)) else none) = _
            simp only
            rw [c1,if_pos ⟨by rw [zh]; exact ze hl,by rw [zh,zh]; exact zf hle⟩]
            exact this
          · cases e
        · cases e
      · cases hk
    · cases e
theorem Wj (h : Rel E B θ n ds S a w σ ρ ι) {pl : List (Nat × Nat)} : ∀ {ps : List (Nat × AV)} {cs cs' : List CV},MJ S ps = true → NT pl cs ps = some cs' → HJ (fun i => pl[i]?) (cs.map (CV.val E.sz σ ρ)) (ps.map fun p => (p.1,p.2.val E.sz σ ρ)) = some (cs'.map (CV.val E.sz σ ρ))
  | [],cs,cs',_,e => by cases e; rfl
  | (i, v) :: r, cs, cs', hk, e => by
    unfold MJ at hk
    unfold NT at e
    split at e
    · rename_i off m hp
      rw [Jg] at hp
      split at e
      · rename_i vs hv
        rw [hv] at hk
        simp only at hk
        split at hk
        · rename_i hk1
          obtain ⟨c1,_⟩ := h.cells1 hv hk1
          split at e
          · rename_i hl
            split at e
            · rename_i hle
              have := Wj h hk e
              rw [KT] at this
              show (match pl[i]? with | none => none | some (off,size) => if (v.val E.sz σ ρ).cells.toList.length = size ∧ off + (v.val E.sz σ ρ).cells.toList.length ≤ (cs.map (CV.val E.sz σ ρ)).length then HJ (fun i => pl[i]?) (Gv (cs.map (CV.val E.sz σ ρ)) off (v.val E.sz σ ρ).cells.toList) (r.map fun p : Nat × AV => (p.1,p.2.val E.sz σ ρ)) else none) = _
              rw [hp]
              simp only
              rw [c1,if_pos ⟨by rw [zh]; exact ze hl,by rw [zh,zh]; exact zf hle⟩]
              exact this
            · cases e
          · cases e
        · cases hk
      · cases e
    · cases e
theorem bH {m sz : Nat} {zc : List CV} {f : CV → Value} (h : zc.length = sz) (h0 : 0 < sz) : (gO m sz zc).map f = (List.range (m * sz)).map fun i => (zc.map f)[i % sz]! := by
  unfold gO
  rw [List.map_map]
  refine List.map_congr_left fun i _ => ?_
  have hlt : i % sz < zc.length := by rw [h]; exact Nat.mod_lt _ h0
  simp only [Function.comp,zb hlt,Option.getD_some]
  rw [List.getElem!_eq_getElem?_getD,zb (by rw [zh]; exact hlt)]
  simp
theorem kP {tb : Tb} (T : TbOk E P tb) (h : Rel E B θ n ds S a w σ ρ ι) {t m d : Nat} {l : List (Nat × Operand)} {ps : List (Nat × AV)} {k : AV → St E.c → Tree R} {r : R} (hn : Nat.blt d n = true) (hp : TV S l = some ps) (hk : MJ S ps = true) (e : (sL E tb t m ps S k).den = some r) (K : SJ E P B θ n ds S k r ops Q rest d) :
    wpList P ops Q (⟨some d,.buildSlice t m l.toArray,ty,pos,aft,none⟩ :: rest) a w := by
  unfold sL at e
  split at e
  · rename_i e0 u by_ ht
    split at e
    · rename_i zc hz
      split at e
      · rename_i hzl
        have hzl := ze hzl
        split at e
        · rename_i hm
          split at e
          · rename_i cs hf
            split at e
            · rename_i l' hl
              obtain ⟨z,g1,g2,_⟩ := T.zr _ (A8 hz)
              obtain ⟨q1,q2⟩ := OA h hp
              obtain ⟨p1,lx,p2,p3⟩ := eE h hl
              have E1 := T.et ht
              refine Ut (z := z) (u.rp E.r).seen lx h.fr h.st hn E1 g1 hm q1 (by rw [g2 E.sz σ ρ,zh]; exact hzl) ?_ rfl (by rw [← p1, ← p2,zh]) p3 fun v' a' w' hf' hW' => ?_
              · rw [g2 E.sz σ ρ, ← bH hzl E1.pos]
                exact WM h hk hf
              · obtain ⟨c1,c2⟩ := h.toStC.noC
                exact newRow (S0 := { S with C := [] }) (zi := ⟨.own e0,u,l'⟩) h c1 c2 rfl rfl rfl ⟨_,p2,rfl⟩ hW' hf' e K
            · cases e
          · cases e
        · cases e
      · cases e
    · cases e
  · cases e
theorem mH {M : CU} {Z : List It} {F : List (Nat × Value)} {o : Oper} {d : Nat} {v : Value} (hF : Fr n ds F a) (hW : Stw B M Z w) (hwt : Region.wanted o (yielded ops a.tmps) = true) (hd : o.dst = some d) (hn : Nat.blt d n = true) (y : Yx P B M Z a o v) (k : ∀ a',Fr n ds ((d,v) :: F) a' → wpList P ops Q rest a' w) : wpList P ops Q (o :: rest) a w := by
  unfold wpList
  rw [if_pos hwt]
  refine .inl ?_
  unfold Oper.wp
  rw [y w hW]
  exact k _ (by rw [hd]; exact hF.put (zf hn) v)
theorem Rb (h : Rel E B θ n ds S a w σ ρ ι) {dflt p : Int} {q : Option Operand} : eB S dflt q = some p → match q with | none => p = dflt | some q => C7 (S.ff E σ ρ) q = some (.int .i64 p) := by
  intro e
  cases q with
  | none => cases e; rfl
  | some q =>
    have e : (match F2 S q with | some (.one (.int .i64 p)) => some p | _ => none) = some p := e
    show C7 (S.ff E σ ρ) q = _
    split at e
    · rename_i hq
      cases e
      exact (h.op hq).1
    · cases e
theorem jS {tb : Tb} (T : TbOk E P tb) (h : Rel E B θ n ds S a w σ ρ ι) {t z d : Nat} {s : Operand} {lo hi : Option Operand} {k : AV → St E.c → Tree R} {r : R} (hn : Nat.blt d n = true) (hs : F2 S s = some (.one (.sl z))) (e : (oH E tb t z lo hi S k).den = some r) (K : SJ E P B θ n ds S k r ops Q rest d) :
    wpList P ops Q (⟨some d,.slice t s lo hi none,ty,pos,aft,none⟩ :: rest) a w := by
  unfold oH at e
  split at e
  · rename_i ver kk u l hz
    split at e
    · rename_i e0 u' b' ht
      split at e
      · rename_i hu
        obtain rfl := U.same_eq hu
        split at e
        · rename_i lo' hlo
          split at e
          · rename_i hi' hhi
            have hm := A8 hz
            obtain ⟨lx,e1,e2,e3⟩ := h.rdc (M := S.mm E σ ρ) (fun _ h => h) hz
            have hok := h.st.items (ι z) (List.mem_map.2 ⟨_,hm,rfl⟩)
            rw [e2] at hok
            have hlen : (lx.length : Int) = (l.length : Int) := by
              have := congrArg List.length e1
              simp at this
              omega
            have go : ∀ l2,JV l lo' hi' = some l2 → W0 E B w (Aq (S.mm E σ ρ) (S.zz ι)) ⟨kk,u,l2⟩ (Ep (σ z) lo' hi' (E.sz u)) → (k (.one (.sl S.nz)) (S.addZ ⟨kk,u,l2⟩)).den = some r → wpList P ops Q (⟨some d,.slice t s lo hi none,ty,pos,aft,none⟩ :: rest) a w := by
              intro l2 hs2 hI e
              obtain ⟨lx2,g1,g2⟩ := kV e1 hs2
              refine mH h.fr h.st (BN rfl) rfl hn (Rn (r := (u.rp E.r).seen) (v := σ z) (l := lx) (lo := lo') (hi := hi') (T.et ht) h.fr (h.op hs).1 (Rb h hlo) ?_ e3 g1) fun a' hf => ?_
              · have := Rb h hhi
                cases hi with
                | none => simp only at this ⊢; rw [hlen]; exact this
                | some q => exact this
              · obtain ⟨it,hb,h1,ga⟩ := h.noteZ hI
                exact K _ _ a' w _ _ _ (Ext.addZ S _) (h.put' (v := .one (.sl S.nz)) h1.toStC rfl ga h1.st (Nat.ble_eq_true_of_le (Nat.lt_succ_self S.nz)) El hf) e
            split at e
            · cases e
            · rename_i hk
              obtain ⟨l2,hs2,e⟩ := Option.bind_eq_some_iff.1 e
              refine go l2 hs2 ?_ e
              cases kk with
              | own q9 => exact absurd rfl (hk q9)
              | frz =>
                have hh : Sl w (Fz B (Aq (S.mm E σ ρ) (S.zz ι))) (u.rp E.r).seen (σ z) lx := hok
                exact (hh.hide (Ex.seen _) e1).sub hs2
              | rd =>
                have hh : Sl B.w0 (NX B.X) (u.rp E.r).seen (σ z) lx := hok
                exact (hh.hide (Ex.seen _) e1).sub hs2
          · cases e
        · cases e
      · cases e
    · cases e
  · cases e
end
end Go.Proofs.YtkhiflmalgkjiaaGreat
namespace Go.Proofs.YtkhiflmalgkjiaaGreat
section
variable {E : TE} {P : Program} {B : Bs} {θ : Pin} {n : Nat} {ds : List Deferred} {S : St E.c} {a : Act} {w : World} {σ : Nat → Value} {ρ : Nat → Nat} {ι : Nat → It} {R : Type}
variable {ops : Array Oper} {Q : Exit → Act → World → Prop} {rest : List Oper} {ty : TypeId} {pos : String} {aft : Array Edge}
theorem Ext.putC {c : Nat → Type} (S : St c) (d : Nat) (v : AV) (x : Y5 c) : Ext S (S.putC d v x) := by
  cases x with
  | none => exact Ext.put S d v
  | some q => exact ⟨(Ext.put S d v).v,(Ext.put S d v).F,(Ext.put S d v).M,(Ext.put S d v).Z,(Ext.put S d v).V⟩
theorem Rel.putC (h : Rel E B θ n ds S a w σ ρ ι) {d : Nat} {v : AV} {x : Y5 E.c} {a' : Act} (hx : YP S v x) (hv : v.wf S.nz S.nb = true) (hF : Fr n ds ((d,v.val E.sz σ ρ) :: S.ff E σ ρ) a') : Rel E B θ n ds (S.putC d v x) a' w σ ρ ι := by
  have h1 := h.put hv hF
  cases x with
  | none => exact h1
  | some q =>
    obtain ⟨z,i,o,k,l,e1,e2,e3⟩ := hx q rfl
    have hca : ∀ p ∈ (d,q) :: (S.put d v).C,w5 (S.put d v) p := fun p hp => by
      rcases List.mem_cons.1 hp with rfl | hp
      · refine ⟨S.nv,z,i,o,k,l, ?_,e2,e3⟩
        show CQ ((d,S.nv,v) :: S.F) d = _
        rw [DK,e1]
      · exact h1.ca p hp
    exact { it := h1.it,wF := h1.wF,wM := h1.wM,wZ := h1.wZ,nZ := h1.nZ,pn := h1.pn,pi := h1.pi,fr := h1.fr,st := h1.st,ca := hca }
theorem Rel.rests (h : Rel E B θ n ds S a w σ ρ ι) (m : Nat) (cs : List CV) : ∃ ι',Rel E B θ n ds (OS m cs S) a w σ ρ ι' ∧ Tk S (OS m cs S) := by
  obtain ⟨ι',h1,h2,h3⟩ := Vi (X := []) m cs h.toStC h.st
  refine ⟨ι', { toStC := h1,fr := ?_,st := h2 },h3⟩
  show Fr n ds ((OS m cs S).F.map _) a
  rw [h3.fF]; exact h.fr
theorem Rel.restA : ∀ (ps : List (Nat × AV)) {S : St E.c} {ι : Nat → It},Rel E B θ n ds S a w σ ρ ι → ∃ ι',Rel E B θ n ds (SL ps S) a w σ ρ ι' ∧ Tk S (SL ps S)
  | [],S,ι,h => ⟨ι,h,Tk.refl S⟩
  | (i,v) :: r,S,ι,h => by
    show ∃ ι',Rel E B θ n ds (SL r (match v.cells with | some cs => OS cs.length cs S | none => S)) a w σ ρ ι' ∧ Tk S (SL r (match v.cells with | some cs => OS cs.length cs S | none => S))
    cases v.cells with
    | none => exact Rel.restA r h
    | some cs =>
      obtain ⟨ι1,h1,t1⟩ := h.rests cs.length cs
      obtain ⟨ι2,h2,t2⟩ := Rel.restA r h1
      exact ⟨ι2,h2,t1.trans t2⟩
theorem VR {S' : St E.c} (t : Tk S S') (x : Operand) : F2 S' x = F2 S x := by
  cases x with
  | tmp i => show (match CQ S'.F i with | some x => some x.2 | none => none) = _; rw [t.fF]; rfl
  | _ => rfl
theorem VQ {S' : St E.c} (t : Tk S S') : ∀ l : List (Nat × Operand),TV S' l = TV S l
  | [] => rfl
  | (i,x) :: l => by unfold TV; rw [VR t,VQ t l]
theorem bI {x y : Operand} {k : IntKind} {p : Int} (h : X3 x y = true) (e : F2 S x = some (.one (.int k p))) : ∃ k',F2 S y = some (.one (.int k' p)) := by
  unfold X3 at h
  split at h
  · rw [← ze h]; exact ⟨k,e⟩
  · rename_i k1 p1 k2 q
    obtain rfl := of_decide_eq_true h
    cases e
    exact ⟨k2,rfl⟩
  · cases h
theorem YW {o : Oper} (hw : Region.wanted o (yielded ops a.tmps) = true) (h : wpList P ops Q (⟨o.dst,o.op,o.type,o.pos,o.after,none⟩ :: rest) a w) : wpList P ops Q (o :: rest) a w := by
  obtain ⟨dst,op,t,pos,aft,g⟩ := o
  unfold wpList at h ⊢
  rw [if_pos hw]
  rw [if_pos (BN rfl)] at h
  exact h
theorem cS : ∀ {gs : List (Bool × List CV)},Bx (fun p => match p with | (false,[]) => false | _ => true) gs = true → (gs.map wV).map (AV.val E.sz σ ρ) = gs.map (Kg E.sz σ ρ) := fun {gs} h => by
  rw [List.map_map]
  refine List.map_congr_left fun p hp => ?_
  have := Ae.1 h p hp
  obtain ⟨q,l⟩ := p
  cases q with
  | true => rfl
  | false =>
    cases l with
    | nil => cases this
    | cons c l => rfl
theorem sO (h : Rel E B θ n ds S a w σ ρ ι) {fo : Operand} {f : Nat} {us ps : List AV} (e : pL S fo = some (f,us,ps)) : (∃ gs fs : List Value,C7 (S.ff E σ ρ) fo = some (.func (.func f) gs.toArray fs.toArray) ∧ us.map (AV.val E.sz σ ρ) = gs ∧ ps.map (AV.val E.sz σ ρ) = fs) ∧ (∀ v ∈ us,v.wf S.nz S.nb = true) ∧ ∀ v ∈ ps,v.wf S.nz S.nb = true := by
  unfold pL at e
  split at e
  · rename_i f' hf
    cases e
    exact ⟨⟨[],[],(h.op hf).1,rfl,rfl⟩,(fun _ h => nomatch h),(fun _ h => nomatch h)⟩
  · rename_i f' gs ps' hf
    split at e
    · rename_i hg
      cases e
      obtain ⟨w1,w2⟩ := Vr (h.op hf).2
      refine ⟨⟨_,_,(h.op hf).1,cS hg,by rw [List.map_map]; rfl⟩,fun v hv => ?_,fun v hv => ?_⟩
      · obtain ⟨p,hp,rfl⟩ := List.mem_map.1 hv
        have hp1 := Ae.1 w2 p hp
        have hp2 := Ae.1 hg p hp
        obtain ⟨q,l⟩ := p
        cases q with
        | true => exact hp1
        | false =>
          cases l with
          | nil => cases hp2
          | cons c l => exact Ae.1 hp1 c (List.mem_cons_self ..)
      · obtain ⟨c,hc,rfl⟩ := List.mem_map.1 hv
        exact Ae.1 w1 c hc
    · cases e
  · cases e
theorem cV (h : Rel E B θ n ds S a w σ ρ ι) {fo : Operand} {xs : List Operand} {f : Nat} {us vs ps : List AV} (e : pL S fo = some (f,us,ps)) (hx : Uc S xs = some vs) : nQ (S.ff E σ ρ) fo xs = some (f,(us ++ vs ++ ps).map (AV.val E.sz σ ρ)) ∧ ∀ v ∈ us ++ vs ++ ps,v.wf S.nz S.nb = true := by
  obtain ⟨⟨gs,fs,h1,h2,h3⟩,h4,h5⟩ := sO h e
  obtain ⟨k1,k2⟩ := h.ops hx
  refine ⟨?_,fun v hv => ?_⟩
  · unfold nQ
    rw [h1,k1]
    subst h2 h3
    simp
  · rcases List.mem_append.1 hv with hv | hv
    · rcases List.mem_append.1 hv with hv | hv
      · exact h4 v hv
      · exact k2 v hv
    · exact h5 v hv
theorem iV {G : Hq E P} (hG : ConsOk B G) (h : Rel E B θ n ds S a w σ ρ ι) {f d : Nat} {fo : Operand} {xs : List Operand} {us vs ps : List AV} {ts : Array TypeId} {k : AV → St E.c → Tree R} {r : R} (hn : Nat.blt d n = true) (hf : pL S fo = some (f,us,ps)) (hx : Uc S xs = some vs) (e : (Uu E G f (us ++ vs ++ ps) S k).den = some r) (K : SJ E P B θ n ds S k r ops Q rest d) :
    wpList P ops Q (⟨some d,.call ⟨.value fo,xs.toArray,ts⟩,ty,pos,aft,none⟩ :: rest) a w := by
  obtain ⟨h1,h2⟩ := cV h hf hx
  obtain ⟨Ml,Mr,Zl,Zr,β,rv,MM,ZZ,hW,hP,hc,hk⟩ := Wc hG h h2 e
  refine gW (Ml := Ml) (M := Mr) (Zl := Zl) (Z := Zr) (rv := rv) (MM := MM) (ZZ := ZZ) h.fr hW hP h1 hn hc fun x a' w' hf' hW' => ?_
  obtain ⟨v,S',σ',ι',x1,s1,s2,s3,s4,s5,s6,s7⟩ := hk x w' hW'
  exact K v S' a' w' σ' ρ ι' x1 (h.put' s1 s3 s4 s2 s5 s6 hf') s7
theorem cW {G : Hq E P} (hG : ConsOk B G) (h : Rel E B θ n ds S a w σ ρ ι) {f : Nat} {fo : Operand} {xs : List Operand} {us vs ps : List AV} {ts : Array TypeId} {k : AV → St E.c → Tree R} {r : R} (hf : pL S fo = some (f,us,ps)) (hx : Uc S xs = some vs) (e : (Uu E G f (us ++ vs ++ ps) S k).den = some r) (K : ∀ v S' w' σ' ι',Ext S S' → Rel E B θ n ds S' a w' σ' ρ ι' → (k v S').den = some r → wpList P ops Q rest a w') :
    wpList P ops Q (⟨none,.call ⟨.value fo,xs.toArray,ts⟩,ty,pos,aft,none⟩ :: rest) a w := by
  obtain ⟨h1,h2⟩ := cV h hf hx
  obtain ⟨Ml,Mr,Zl,Zr,β,rv,MM,ZZ,hW,hP,hc,hk⟩ := Wc hG h h2 e
  refine bO (Ml := Ml) (M := Mr) (Zl := Zl) (Z := Zr) (rv := rv) (MM := MM) (ZZ := ZZ) h.fr hW hP h1 hc fun x w' hW' => ?_
  obtain ⟨v,S',σ',ι',x1,s1,s2,s3,s4,s5,s6,s7⟩ := hk x w' hW'
  exact K v S' w' σ' ι' x1 (h.of s1 s3 s4 s2) s7
theorem RS.toV {k : St E.c → Tree R} {r : R} {d : Nat} (K : RS E P B θ n ds S k r ops Q rest) : SJ E P B θ n ds S (fun v S' => k (S'.put d v)) r ops Q rest d :=
  fun v S' a' w' σ' ρ' ι' x h e => K _ a' w' σ' ρ' ι' (x.trans (Ext.put S' d v)) h e
theorem RS.ext {k : St E.c → Tree R} {r : R} {S0 : St E.c} (x : Ext S S0) (K : RS E P B θ n ds S k r ops Q rest) : RS E P B θ n ds S0 k r ops Q rest :=
  fun S' a' w' σ' ρ' ι' x' h e => K S' a' w' σ' ρ' ι' (x.trans x') h e
theorem qI {tb : Tb} {t z o p m : Nat} {agg : Bool} {u : U} {i : Int} {vs : List CV} {v : AV} {py : Operand} {k : St E.c → Tree R} {r : R} (h : Rel E B θ n ds S a w σ ρ ι) (hx : F2 S (.tmp p) = some (.one (.ep z u i o))) (hy : F2 S py = some v) (hc : v.cells = some vs) (hk : Mj S vs = true)
    (T : Ty P t agg m) (hm : vs.length = m) (hle : Nat.ble (o + vs.length) (E.sz u) = true) (e : (dEp E z u i o p vs S k).den = some r) (K : RS E P B θ n ds S k r ops Q rest) : wpList P ops Q (⟨none,.store t (.tmp p) py,ty,pos,aft,none⟩ :: rest) a w := by
  unfold dEp at e
  split at e
  · rename_i ver' e0 u2 l hz
    have hzm := A8 hz
    have hp : ∃ ver0,CQ S.F p = some (ver0,.one (.ep z u i o)) := by
      have hx' : (match CQ S.F p with | some x => some x.2 | none => none) = some (AV.one (.ep z u i o)) := hx
      split at hx'
      · rename_i x hx2
        obtain ⟨q1,q2⟩ := x
        cases hx'
        exact ⟨q1,hx2⟩
      · cases hx'
    obtain ⟨ver0,hp⟩ := hp
    split at e
    · rename_i ver u' x hcc
      split at e
      · rename_i hv
        obtain rfl := ze hv
        obtain ⟨v',z',i',o',k',l',c1,c2,c3⟩ := h.ca _ (A8 hcc)
        simp only at c1 c2 c3
        rw [hp] at c1
        cases c1
        have c4 := F7 h.nZ c2
        rw [hz] at c4
        cases c4
        exact ZH h hx hy hc hk T hm hle c2 c3 e K
      · cases e
    · split at e
      · rename_i hu
        obtain rfl := U.same_eq hu
        obtain ⟨x,hix,e⟩ := Option.bind_eq_some_iff.1 e
        exact ZH h hx hy hc hk T hm hle hzm hix e K
      · cases e
  · cases e
theorem Y0 {tb : Tb} (T : TbOk E P tb) (h : Rel E B θ n ds S a w σ ρ ι) {d : Nat} {op : Op} {k : St E.c → Tree R} {r : R} (hn : Nat.blt d n = true) (e : (oE E tb op S fun v x S' => k (S'.putC d v x)).den = some r) (K : RS E P B θ n ds S k r ops Q rest) :
    wpList P ops Q (⟨some d,op,ty,pos,aft,none⟩ :: rest) a w := by
  obtain ⟨v,x,S',σ',ι',h1,x1,e1,hv,hcc,hag,_,_,⟨hF,_⟩,_,hy⟩ := dY (dst := some d) (ty := ty) (pos := pos) (aft := aft) (g := none) T h e
  exact mH h1.fr h1.st (BN rfl) rfl hn (hy _ _ (fun _ h => h) (fun _ h => h)) fun a' hf => K _ a' w σ' ρ ι' (x1.trans (Ext.putC S' d v x)) (h1.putC hcc hv hf) e1
theorem gV {tb : Tb} (T : TbOk E P tb) {G : Hq E P} (hG : ConsOk B G) (h : Rel E B θ n ds S a w σ ρ ι) {dst : Option Tmp} {op : Op} {k : St E.c → Tree R} {r : R} (e : (zB E tb G n S k dst op).den = some r) (K : RS E P B θ n ds S k r ops Q rest) :
    wpList P ops Q (⟨dst,op,ty,pos,aft,none⟩ :: rest) a w := by
  unfold zB at e
  split at e
  · rename_i d op
    split at e
    · cases e
    · rename_i hn
      split at e
      · rename_i t
        split at e
        · rename_i zc hz
          obtain ⟨z,g1,g2,g3⟩ := T.zr _ (A8 hz)
          have hwz : Bx (CV.wf S.nz S.nb) zc = true := Dj (fun _ => CV.wf_mono (Nat.zero_le _) (Nat.zero_le _)) g3
          exact Hb h.fr h.st hn g1 (g2 E.sz σ ρ) fun b a' w' hf hW => Y6 h hwz e K hf hW
        · cases e
      · split at e
        · rename_i v hv
          split at e
          · rename_i cs hcs
            split at e
            · rename_i hkn
              have o1 := h.op hv
              obtain ⟨c1,c2⟩ := h.cells1 hcs hkn
              have hwz : Bx (CV.wf S.nz S.nb) cs = true := by
                cases v with
                | one c => cases hcs; exact Ae.2 fun z hz => by rcases List.mem_singleton.1 hz with rfl; exact o1.2
                | agg l => cases hcs; exact o1.2
                | tup l => cases hcs
                | fnv f gs ps => cases hcs
              exact IR h.fr h.st hn o1.1 c1 fun b a' w' hf hW => Y6 h hwz e K hf hW
            · cases e
          · cases e
        · cases e
      · split at e
        · rename_i hs
          split at e
          · rename_i kk nn hl
            obtain ⟨k',hc⟩ := bI hs hl
            exact fU T h hn hl hc e K.toV
          · cases e
        · cases e
      · split at e
        · rename_i ps hps
          split at e
          · rename_i hkn
            obtain ⟨ι1,h1,t1⟩ := Rel.restA ps h
            exact kP T h1 hn (by rw [VQ t1]; exact hps) hkn e (K.ext t1.toExt).toV
          · cases e
        · cases e
      · split at e
        · rename_i ps hps
          split at e
          · rename_i hkn
            split at e
            · rename_i zc pl hb
              split at e
              · rename_i cs hf
                obtain ⟨ι1,h0,t1⟩ := Rel.restA (vB S ps) h
                obtain ⟨q1,q2⟩ := OA h0 (by rw [VQ t1]; exact hps)
                obtain ⟨b1,b2⟩ := T.bt.mem _ (A8 hb)
                have hwz : Bx (CV.wf (SL (vB S ps) S).nz (SL (vB S ps) S).nb) zc = true := Dj (fun _ => CV.wf_mono (Nat.zero_le _) (Nat.zero_le _)) b2
                have hwf := Pm q2 hwz hf
                exact mH h0.fr h0.st (BN rfl) rfl hn (IC (b1 E.sz σ ρ) h0.fr q1 (Wj h0 hkn hf) rfl) fun a' hf => K _ a' w σ ρ ι1 (t1.toExt.trans (Ext.put _ _ _)) (h0.put (v := .agg cs) hwf hf) e
              · cases e
            · exact Y0 T h hn e K
          · cases e
        · cases e
      · split at e
        · rename_i z hs
          obtain ⟨ι1,h1,t1⟩ := h.rests 1 [.sl z]
          exact jS T h1 hn (by rw [VR t1]; exact hs) e (K.ext t1.toExt).toV
        · rename_i l hs
          split at e
          · rename_i ht
            split at e
            · rename_i lo' hlo
              split at e
              · rename_i hi' hhi
                obtain ⟨l2,hl2,e⟩ := Option.bind_eq_some_iff.1 e
                exact mH h.fr h.st (BN rfl) rfl hn (iX (T.str ht) h.fr (h.op hs).1 (Rb h hlo) (Rb h hhi) hl2) fun a' hf => K _ a' w σ ρ ι (Ext.put S _ _) (h.put (v := .one (.str l2)) rfl hf) e
              · cases e
            · cases e
          · cases e
        · cases e
      · split at e
        · rename_i ht
          have ht := ze ht
          subst ht
          split at e
          · rename_i s hs
            split at e
            · rename_i q hq
              exact kC T h hn hs hq e K.toV
            · cases e
          · cases e
        · cases e
      · split at e
        · rename_i f hf
          split at e
          · rename_i vs hx
            exact iV hG h hn hf hx e K.toV
          · cases e
        · cases e
      · exact Y0 T h hn e K
  · split at e
    · rename_i t x y _ agg m ht
      have TT := Tl T.tt ht
      split at e
      · rename_i v hv
        split at e
        · rename_i vs hvs
          split at e
          · rename_i hm
            have hm := ze hm
            split at e
            · rename_i hkn
              split at e
              · rename_i b o hx
                exact jL h hx hv hvs hkn TT hm e K
              · rename_i z u i o hx
                split at e
                · rename_i p
                  split at e
                  · rename_i hle
                    split at e
                    · rename_i hk2
                      obtain ⟨ι1,h1,t1⟩ := h.rests vs.length vs
                      exact qI (tb := tb) h1 (by rw [VR t1]; exact hx) (by rw [VR t1]; exact hv) hvs hk2 TT hm hle e (K.ext t1.toExt)
                    · cases e
                  · cases e
                · cases e
              · cases e
            · cases e
          · cases e
        · cases e
      · cases e
    · cases e
  · split at e
    · rename_i f hf
      split at e
      · rename_i vs hx
        exact cW hG h hf hx e fun v S' w' σ' ι' x h' e' => K S' a w' σ' ρ ι' x h' e'
      · cases e
    · cases e
  · cases e
end
end Go.Proofs.YtkhiflmalgkjiaaGreat
namespace Go.Proofs.YtkhiflmalgkjiaaGreat
def TH : List (Option CK) → List CK
  | [] => []
  | none :: l => TH l
  | some q :: l => q :: TH l
def Tx (E : TE) : List (Option CK) → List CV → Option (List CV)
  | [],[] => some []
  | [],_ :: _ => none
  | none :: l,_ :: cs => Tx E l cs
  | none :: _,[] => none
  | some q :: l,cs => match YI (Au E [q]) cs with
    | some c1 => match Tx E l (YJ (Au E [q]) cs) with | some r => some (c1 ++ r) | none => none
    | none => none
def KN (E : TE) {α : Type _} : List (Option CK) → List α → List α → List α
  | [],_,_ => []
  | none :: l,o :: old,new => o :: KN E l old new
  | none :: l,[],new => KN E l [] new
  | some q :: l,old,new => new.take (Au E [q]) ++ KN E l (old.drop (Au E [q])) (new.drop (Au E [q]))
def Wx (E : TE) {c : Nat → Type} (S0 S : St c) (k : Nat) : List (Option CK) → Nat → Bool
  | [],_ => true
  | none :: l,i => match Uz S0 k i with
    | some v => match Uz S k i with
      | some v' => match Nat.beq v v' && Nat.blt v S0.nv with | true => Wx E S0 S k l (i + 1) | false => false
      | none => false
    | none => false
  | some q :: l,i => Wx E S0 S k l (i + Au E [q])
def Q1 (E : TE) (f : Nat → Option Nat) (nv : Nat) : List (Option CK) → Nat → List Nat
  | [],_ => []
  | none :: l,i => (f i).getD nv :: Q1 E f nv l (i + 1)
  | some q :: l,i => List.replicate (Au E [q]) nv ++ Q1 E f nv l (i + Au E [q])
def X0 (E : TE) : List (Option CK) → Nat
  | [] => 0
  | none :: l => 1 + X0 E l
  | some q :: l => Au E [q] + X0 E l
def MA (E : TE) {c : Nat → Type} (S0 : St c) : List (Nat × List (Option CK)) → List CV → Option (List (Nat × List CV))
  | [],_ => some []
  | (k, l) :: r, new => match CQ S0.M k with
    | some (_,cs) => match Nat.beq cs.length (X0 E l) with
      | true => match YI (Au E (TH l)) new with
        | some c1 => match MA E S0 r (YJ (Au E (TH l)) new) with
          | some m => some ((k,KN E l cs c1) :: m)
          | none => none
        | none => none
      | false => none
    | none => none
def eA (E : TE) {c : Nat → Type} (S0 : St c) (nv : Nat) : List (Nat × List (Option CK)) → List (Nat × List Nat)
  | [] => []
  | (k,l) :: r => (k,Q1 E (Uz S0 k) nv l 0) :: eA E S0 nv r
def Vg (E : TE) {c : Nat → Type} (S0 S : St c) : List (Nat × List (Option CK)) → Bool
  | [] => true
  | (k,l) :: r => match Wx E S0 S k l 0 with | true => Vg E S0 S r | false => false
section
variable {E : TE}
theorem Rz {f : Nat → Option Nat} {nv : Nat} : ∀ (l : List (Option CK)) (j : Nat),(Q1 E f nv l j).length = X0 E l
  | [],j => rfl
  | none :: l,j => by simp only [Q1,List.length_cons,Rz l,X0]; omega
  | some q :: l,j => by simp only [Q1,List.length_append,List.length_replicate,Rz l,X0]
theorem My {α β : Type _} (f : α → β) : ∀ (l : List (Option CK)) (old new : List α),(KN E l old new).map f = KN E l (old.map f) (new.map f)
  | [],_,_ => rfl
  | none :: l,o :: old,new => by simp only [KN,zj,My f l]
  | none :: l,[],new => by simp only [KN,List.map_nil]; exact My f l [] new
  | some q :: l,old,new => by simp only [KN,List.map_append,My f l,List.map_take,List.map_drop]
theorem Pr {α : Type _} {x : α} : ∀ {l : List (Option CK)} {old new : List α},x ∈ KN E l old new → x ∈ old ∨ x ∈ new
  | [],_,_,h => nomatch h
  | none :: l,o :: old,new,h => by
    rcases List.mem_cons.1 h with rfl | h
    · exact .inl (List.mem_cons_self ..)
    · rcases Pr (l := l) h with h | h
      · exact .inl (zd _ h)
      · exact .inr h
  | none :: l,[],new,h => Pr (l := l) (old := []) h
  | some q :: l,old,new,h => by
    rcases List.mem_append.1 h with h | h
    · exact .inr (List.mem_of_mem_take h)
    · rcases Pr (l := l) h with h | h
      · exact .inl (List.mem_of_mem_drop h)
      · exact .inr (List.mem_of_mem_drop h)
theorem RF {S0 S : St E.c} (x : Ext S0 S) {k v0 v1 : Nat} {cs0 cs : List CV} (h0 : CQ S0.M k = some (v0,cs0)) (h1 : CQ S.M k = some (v1,cs)) : ∀ (l : List (Option CK)) (i : Nat) (y : List CV),Wx E S0 S k l i = true → Tx E l (cs.drop i) = some y → KN E l (cs0.drop i) y = cs.drop i
  | [],i,y,hk,hp => by
    cases hd : cs.drop i with
    | nil => rfl
    | cons a r => rw [hd] at hp; cases hp
  | none :: l, i, y, hk, hp => by
    cases hd : cs.drop i with
    | nil => rw [hd] at hp; cases hp
    | cons a r =>
      rw [hd] at hp
      unfold Wx at hk
      split at hk
      · rename_i v hv
        split at hk
        · rename_i v' hv'
          split at hk
          · rename_i hb
            simp only [zg] at hb
            obtain rfl := ze hb.1
            have hlt := zf hb.2
            have e1 := (x.V k i v hv' hlt).2
            unfold i9 at e1
            rw [h0,h1] at e1
            simp only at e1
            have ha : cs[i]? = some a := by
              have := congrArg (·[0]?) hd
              simpa using this
            rw [ha] at e1
            have hi : i < cs0.length := by
              rcases Nat.lt_or_ge i cs0.length with h | h
              · exact h
              · rw [List.getElem?_eq_none h] at e1; cases e1
            have h2 : cs0.drop i = a :: cs0.drop (i + 1) := by
              rw [List.drop_eq_getElem_cons hi]
              rw [zb hi] at e1
              rw [Option.some.inj e1]
            have h3 : r = cs.drop (i + 1) := by
              have := congrArg List.tail hd
              simpa using this.symm
            rw [h2]
            show a :: KN E l (cs0.drop (i + 1)) y = a :: r
            rw [h3] at hp ⊢
            rw [RF x h0 h1 l (i + 1) y hk hp]
          · cases hk
        · cases hk
      · cases hk
  | some q :: l,i,y,hk,hp => by
    unfold Tx at hp
    split at hp
    · rename_i c1 hc
      split at hp
      · rename_i r hr
        cases hp
        obtain ⟨t1,t2⟩ := I7 hc
        rw [I1,List.drop_drop] at hr
        have hl : c1.length = Au E [q] := by rw [← t2,List.length_take]; omega
        have := RF x h0 h1 l (i + Au E [q]) r hk (by rw [Nat.add_comm] at hr ⊢; first | exact hr | (rw [Nat.add_comm]; exact hr))
        unfold KN
        rw [List.take_left' hl,List.drop_left' hl,List.drop_drop,this, ← t2]
        rw [show cs.drop (i + Au E [q]) = (cs.drop i).drop (Au E [q]) by rw [List.drop_drop]]
        exact List.take_append_drop _ _
      · cases hp
    · cases hp
theorem Vl {f : Nat → Option Nat} {nv : Nat} : ∀ (l : List (Option CK)) (j i v : Nat) (old new : List CV),(Q1 E f nv l j)[i]? = some v → Au E (TH l) ≤ new.length → v = nv ∨ (f (j + i) = some v ∧ ∀ a,old[i]? = some a → (KN E l old new)[i]? = some a)
  | [],j,i,v,old,new,h,hn => by simp [Q1] at h
  | none :: l,j,0,v,old,new,h,hn => by
    simp only [Q1,List.getElem?_cons_zero,Option.some.injEq] at h
    cases hf : f j with
    | none => rw [hf] at h; exact .inl h.symm
    | some u =>
      rw [hf] at h
      refine .inr ⟨congrArg some h,fun a ha => ?_⟩
      cases old with
      | nil => simp at ha
      | cons o old => simpa [KN] using ha
  | none :: l,j,i + 1,v,old,new,h,hn => by
    simp only [Q1,List.getElem?_cons_succ] at h
    rcases Vl l (j + 1) i v old.tail new h hn with h | ⟨h1,h2⟩
    · exact .inl h
    · refine .inr ⟨by rw [show j + (i + 1) = j + 1 + i by omega]; exact h1,fun a ha => ?_⟩
      cases old with
      | nil => simp at ha
      | cons o old => simpa [KN] using h2 a (by simpa using ha)
  | some q :: l,j,i,v,old,new,h,hn => by
    simp only [Q1] at h
    have hc : Au E (TH (some q :: l)) = Au E [q] + Au E (TH l) := by cases q <;> simp [TH,Au] <;> omega
    rw [hc] at hn
    rcases Nat.lt_or_ge i (Au E [q]) with hi | hi
    · rw [List.getElem?_append_left (by rw [List.length_replicate]; exact hi),List.getElem?_replicate,if_pos hi] at h
      exact .inl (Option.some.inj h).symm
    · rw [List.getElem?_append_right (by rw [List.length_replicate]; exact hi),List.length_replicate] at h
      rcases Vl l (j + Au E [q]) (i - Au E [q]) v (old.drop (Au E [q])) (new.drop (Au E [q])) h (by rw [List.length_drop]; omega) with h | ⟨h1,h2⟩
      · exact .inl h
      · refine .inr ⟨by rw [show j + i = j + Au E [q] + (i - Au E [q]) by omega]; exact h1,fun a ha => ?_⟩
        unfold KN
        rw [List.getElem?_append_right (by rw [List.length_take]; omega),List.length_take,show i - min (Au E [q]) new.length = i - Au E [q] by omega]
        refine h2 a ?_
        rw [List.getElem?_drop,show Au E [q] + (i - Au E [q]) = i by omega]
        exact ha
end
end Go.Proofs.YtkhiflmalgkjiaaGreat
