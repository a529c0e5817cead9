/- One operation, a list of them. Conditions: none. -/
import Derived.Test.YtkhiflmalgkjiaaGreateHQ
set_option linter.unusedVariables false
set_option linter.unusedSimpArgs false
open Go Go.RowKit
namespace Go.Proofs.YtkhiflmalgkjiaaGreat
def Yv (m : Nat) : List CV → List (Nat × AV) → Option (List CV)
  | cs,[] => some cs
  | cs, (i, v) :: r => match v.cells with
    | some vs => match Nat.beq vs.length m with
      | true => match Nat.ble (i * m + vs.length) cs.length with
        | true => Yv m (QF cs (i * m) vs) r
        | false => none
      | false => none
    | none => none
def xV (E : TE) (S : St E.c) (u : U) : Nat → List CV → Option (List (u.T E.c))
  | 0,[] => some []
  | 0,_ :: _ => none
  | m + 1,cs => match YT (E.sz u) cs with
    | some c1 => match eT false S .frz (mK E false S .frz 4) u c1 with
      | some (x,[]) => match xV E S u m (Zz (E.sz u) cs) with | some r => some (x :: r) | none => none
      | _ => none
    | none => none
def Mn {c : Nat → Type} (S : St c) (cs : List CV) : Bool := Bw (fun c => match c with | .sl z => (CG S.Z z).isSome | _ => true) cs
def Sc {c : Nat → Type} : List (Nat × AV) → St c → St c
  | [],S => S
  | (_,v) :: r,S => Sc r (match v.cells with | some cs => OZ cs.length cs S | none => S)
def MD {c : Nat → Type} (S : St c) : List (Nat × AV) → Bool
  | [] => true
  | (_,v) :: r => match v.cells with | some cs => (match Mn S cs with | true => MD S r | false => false) | none => false
def tO {c : Nat → Type} (S : St c) (ps : List (Nat × AV)) : List (Nat × AV) := ps.filter fun p => match p.2 with
  | .one (.sl z) => match CG S.Z z with
    | some (_,⟨_,.tr _,_⟩) => true
    | _ => false
  | _ => false
def eO (m sz : Nat) (zc : List CV) : List CV := (List.range (m * sz)).map fun i => (zc[i % sz]?).getD .nil
def rC {R : Type} (E : TE) (tb : Tb) (t m : Nat) (ps : List (Nat × AV)) (S : St E.c) (k : AV → St E.c → Tree R) : Tree R := match CG tb.sl t with
  | some (e, u, _) => match CG tb.zr e with
    | some zc => match Nat.beq zc.length (E.sz u) with
      | true => match Nat.ble (m * E.sz u) 16777216 with
        | true => match Yv (E.sz u) (eO m (E.sz u) zc) ps with
          | some cs => match xV E S u m cs with
            | some l => k (.one (.sl S.nz)) ({ S with C := [] }.addZ ⟨.own e,u,l⟩)
            | none => .fail
          | none => .fail
        | false => .fail
      | false => .fail
    | none => .fail
  | none => .fail
def dU {c : Nat → Type} (S : St c) (dflt : Int) : Option Operand → Option Int
  | none => some dflt
  | some q => match Ge S q with | some (.one (.int .i64 p)) => some p | _ => none
def rN {R : Type} (E : TE) (tb : Tb) (t z : Nat) (lo hi : Option Operand) (S : St E.c) (k : AV → St E.c → Tree R) : Tree R := match CG S.Z z with
  | some (_, ⟨kk, u, l⟩) => match CG tb.sl t with
    | some (_,u',_) => match u.same u' with
      | true => match dU S 0 lo with
        | some a => match dU S (l.length : Int) hi with
          | some b => match kk with
            | .own _ => .fail
            | kk => .bnd (JY l a b) fun l2 => k (.one (.sl S.nz)) (S.addZ ⟨kk,u,l2⟩)
          | none => .fail
        | none => .fail
      | false => .fail
    | none => .fail
  | none => .fail
def St.putC {c : Nat → Type} (S : St c) (d : Nat) (v : AV) (x : Y5 c) : St c := match x with
  | none => S.put d v
  | some q => { S.put d v with C := (d,q) :: (S.put d v).C }
def yK {R : Type} (E : TE) (z : Nat) (u : U) (i : Int) (o : Nat) (p : Nat) (vs : List CV) (S : St E.c) (k : St E.c → Tree R) : Tree R :=
  match CG S.Z z with
  | some (ver',⟨.own e,u2,l⟩) => match CG S.C p with
    | some (ver,⟨u',x⟩) => match Nat.beq ver ver' with
      | true => i7 E z u' i o x vs S k
      | false => .fail
    | none => match u2.same u with
      | true => .bnd (ix l i) fun x => i7 E z u2 i o x vs S k
      | false => .fail
  | _ => .fail
def tE : Bool × List CV → AV
  | (true,l) => .agg l
  | (false,c :: _) => .one c
  | (false,[]) => .tup []
def oP {c : Nat → Type} (S : St c) (x : Operand) : Option (Nat × List AV × List AV) := match Ge S x with
  | some (.one (.fn f)) => some (f,[],[])
  | some (.fnv f gs ps) => match Bw (fun p => match p with | (false,[]) => false | _ => true) gs with
    | true => some (f,gs.map tE,ps.map .one)
    | false => none
  | _ => none
def xL {R : Type} (E : TE) {P : Program} (tb : Tb) (G : Hz E P) (n : Nat) (S : St E.c) (k : St E.c → Tree R) : Option Tmp → Op → Tree R
  | some d, op => match Nat.blt d n with
    | false => .fail
    | true => match op with
      | .alloc t => match CG tb.zr t with | some zc => qM S d zc k | none => .fail
      | .box _ x => match Ge S x with
        | some v => match v.cells with
          | some cs => match Mn S cs with | true => qM S d cs k | false => .fail
          | none => .fail
        | none => .fail
      | .makeSlice t lo co => match Yd lo co with
        | true => match Ge S lo with
          | some (.one (.int _ nn)) => fH E tb t nn S fun v S' => k (S'.put d v)
          | _ => .fail
        | false => .fail
      | .buildSlice t m ⟨ps⟩ => match Tr S ps with
        | some ps => match MD (Sc ps S) ps with
          | true => rC E tb t m ps (Sc ps S) fun v S' => k (S'.put d v)
          | false => .fail
        | none => .fail
      | .build t ⟨ps0⟩ => match Tr S ps0 with
        | some ps => match MD (Sc (tO S ps) S) ps with
          | true => match CG tb.bt t with
            | some (zc,pl) => match NO pl zc ps with
              | some cs => k ((Sc (tO S ps) S).put d (.agg cs))
              | none => .fail
            | none => mN E tb (.build t ⟨ps0⟩) S fun v x S' => k (S'.putC d v x)
          | false => .fail
        | none => .fail
      | .slice t s lo hi none => match Ge S s with
        | some (.one (.sl z)) => rN E tb t z lo hi (XR S (.sl z)) fun v S' => k (S'.put d v)
        | some (.one (.str l)) => match CG tb.st t with
          | some _ => match dU S 0 lo with
            | some a => match dU S (l.length : Int) hi with
              | some b => .bnd (JY l a b) fun l2 => k (S.put d (.one (.str l2)))
              | none => .fail
            | none => .fail
          | none => .fail
        | _ => .fail
      | .call ⟨.builtin .append,⟨[s,q]⟩,⟨[t,t']⟩⟩ => match Nat.beq t t' with
        | true => match Ge S s with
          | some s => match Ge S q with
            | some q => qC E tb t s q S fun v S' => k (S'.put d v)
            | none => .fail
          | none => .fail
        | false => .fail
      | .call ⟨.value fo,⟨xs⟩,_⟩ => match oP S fo with
        | some (f,us,ps) => match TK S xs with
          | some vs => UG E G f (us ++ vs ++ ps) S fun v S' => k (S'.put d v)
          | none => .fail
        | none => .fail
      | op => mN E tb op S fun v x S' => k (S'.putC d v x)
  | none, .store t x y => match TD tb.tt.2 t with
    | some (_, m) => match Ge S y with
      | some v => match v.cells with
        | some vs => match Nat.beq vs.length m with
          | true => match Mn S vs with
            | true => match Ge S x with
              | some (.one (.ptr b o)) => qA S b o vs k
              | some (.one (.ep z u i o)) => match x with
                | .tmp p => match Nat.ble (o + vs.length) (E.sz u) with
                  | true => match Mn (OZ vs.length vs S) vs with
                    | true => yK E z u i o p vs (OZ vs.length vs S) k
                    | false => .fail
                  | false => .fail
                | _ => .fail
              | _ => .fail
            | false => .fail
          | false => .fail
        | none => .fail
      | none => .fail
    | none => .fail
  | none,.call ⟨.value fo,⟨xs⟩,_⟩ => match oP S fo with
    | some (f,us,ps) => match TK S xs with
      | some vs => UG E G f (us ++ vs ++ ps) S fun _ S' => k S'
      | none => .fail
    | none => .fail
  | _,_ => .fail
def dG {R : Type} {c : Nat → Type} (l0 : List Oper) (S : St c) (yes no : St c → Tree R) : Option (Nat × Bool) → Tree R
  | none => yes S
  | some (i,t) => match Wl l0 i with
    | some d => match CG S.F d with
      | some (_,.one (.bool b)) => match b with
        | .lit b => match b,t with | true,true => yes S | false,false => yes S | true,false => no S | false,true => no S
        | b => .ite b (match t with | true => yes (S.put d (.one (.bool (.lit true)))) | false => no (S.put d (.one (.bool (.lit true))))) (match t with | true => no (S.put d (.one (.bool (.lit false)))) | false => yes (S.put d (.one (.bool (.lit false)))))
      | some (_,.tup []) => no S
      | _ => .fail
    | none => .fail
def dL {R : Type} (E : TE) {P : Program} (tb : Tb) (G : Hz E P) (n : Nat) (l0 : List Oper) (k : St E.c → Tree R) : List Oper → St E.c → Tree R
  | [],S => k S
  | o :: l,S => dG l0 S (fun S => xL E tb G n S (dL E tb G n l0 k l) o.dst o.op) (fun S => match o.dst with
    | some d => match Nat.blt d n with | true => dL E tb G n l0 k l (S.put d (.tup [])) | false => .fail
    | none => .fail) o.guard
section
variable {E : TE} {P : Program} {B : Bs} {θ : Pin} {n : Nat} {ds : List Deferred} {S : St E.c} {a : Act} {w : World} {σ : Nat → Value} {ρ : Nat → Nat} {ι : Nat → It} {R : Type}
variable {ops : Array Oper} {Q : Exit → Act → World → Prop} {rest : List Oper} {ty : TypeId} {pos : String} {aft : Array Edge}
theorem gU (h : Rel E B θ n ds S a w σ ρ ι) {u : U} : ∀ {m : Nat} {cs : List CV} {l : List (u.T E.c)},xV E S u m cs = some l → l.length = m ∧ ∃ lx,lx.map Prod.snd = l ∧ B1 (u.rp E.r).seen w (Fz B (Am (S.mm E σ ρ) (S.zz ι))) (cs.map (CV.val E.sz σ ρ)) lx
  | 0,[],l,e => by cases e; exact ⟨rfl,[],rfl,rfl⟩
  | 0,_ :: _,l,e => nomatch e
  | m + 1, cs, l, e => by
    unfold xV at e
    split at e
    · rename_i c1 h1
      split at e
      · rename_i x hx
        split at e
        · rename_i r hr
          cases e
          obtain ⟨g1,lx,g2,g3⟩ := gU h hr
          refine ⟨by simp [g1],(c1.map (CV.val E.sz σ ρ),x) :: lx,by simp [g2], ?_⟩
          rw [ZF _ h1]
          exact ⟨_,_,rfl,⟨rfl,gN h.toStC (fun _ h => h) h.st (fun _ h => h) hx⟩,g3⟩
        · cases e
      · cases e
    · cases e
theorem Xz (h : Rel E B θ n ds S a w σ ρ ι) {m : Nat} : ∀ {ps : List (Nat × AV)} {cs cs' : List CV},MD S ps = true → Yv m cs ps = some cs' → HO (fun i => some (i * m,m)) (cs.map (CV.val E.sz σ ρ)) (ps.map fun p => (p.1,p.2.val E.sz σ ρ)) = some (cs'.map (CV.val E.sz σ ρ))
  | [],cs,cs',_,e => by cases e; rfl
  | (i, v) :: r, cs, cs', hk, e => by
    unfold MD at hk
    unfold Yv at e
    split at e
    · rename_i vs hv
      rw [hv] at hk
      simp only at hk
      split at hk
      · rename_i hk1
        obtain ⟨c1,_⟩ := h.cells1 hv hk1
        split at e
        · rename_i hl
          split at e
          · rename_i hle
            have := Xz h hk e
            rw [Lg] at this
            show (match (fun i => some (i * m,m)) i with | none => none | some (off,size) => if (v.val E.sz σ ρ).cells.toList.length = size ∧ off + (v.val E.sz σ ρ).cells.toList.length ≤ (cs.map (CV.val E.sz σ ρ)).length then HO (fun i => some (i * m,m)) (GL (cs.map (CV.val E.sz σ ρ)) off (v.val E.sz σ ρ).cells.toList) (r.map fun p : Nat × AV => (p.1,p.2.val E.sz σ ρ)) else none) = _
            simp only
            rw [c1,if_pos ⟨by rw [List.length_map]; exact Nat.eq_of_beq_eq_true hl,by rw [List.length_map,List.length_map]; exact Nat.le_of_ble_eq_true hle⟩]
            exact this
          · cases e
        · cases e
      · cases hk
    · cases e
theorem Wn (h : Rel E B θ n ds S a w σ ρ ι) {pl : List (Nat × Nat)} : ∀ {ps : List (Nat × AV)} {cs cs' : List CV},MD S ps = true → NO pl cs ps = some cs' → HO (fun i => pl[i]?) (cs.map (CV.val E.sz σ ρ)) (ps.map fun p => (p.1,p.2.val E.sz σ ρ)) = some (cs'.map (CV.val E.sz σ ρ))
  | [],cs,cs',_,e => by cases e; rfl
  | (i, v) :: r, cs, cs', hk, e => by
    unfold MD at hk
    unfold NO at e
    split at e
    · rename_i off m hp
      rw [Je] at hp
      split at e
      · rename_i vs hv
        rw [hv] at hk
        simp only at hk
        split at hk
        · rename_i hk1
          obtain ⟨c1,_⟩ := h.cells1 hv hk1
          split at e
          · rename_i hl
            split at e
            · rename_i hle
              have := Wn h hk e
              rw [Lg] at this
              show (match pl[i]? with | none => none | some (off,size) => if (v.val E.sz σ ρ).cells.toList.length = size ∧ off + (v.val E.sz σ ρ).cells.toList.length ≤ (cs.map (CV.val E.sz σ ρ)).length then HO (fun i => pl[i]?) (GL (cs.map (CV.val E.sz σ ρ)) off (v.val E.sz σ ρ).cells.toList) (r.map fun p : Nat × AV => (p.1,p.2.val E.sz σ ρ)) else none) = _
              rw [hp]
              simp only
              rw [c1,if_pos ⟨by rw [List.length_map]; exact Nat.eq_of_beq_eq_true hl,by rw [List.length_map,List.length_map]; exact Nat.le_of_ble_eq_true hle⟩]
              exact this
            · cases e
          · cases e
        · cases hk
      · cases e
    · cases e
theorem bG {m sz : Nat} {zc : List CV} {f : CV → Value} (h : zc.length = sz) (h0 : 0 < sz) : (eO m sz zc).map f = (List.range (m * sz)).map fun i => (zc.map f)[i % sz]! := by
  unfold eO
  rw [List.map_map]
  refine List.map_congr_left fun i _ => ?_
  have hlt : i % sz < zc.length := by rw [h]; exact Nat.mod_lt _ h0
  simp only [Function.comp,List.getElem?_eq_getElem hlt,Option.getD_some]
  rw [List.getElem!_eq_getElem?_getD,List.getElem?_eq_getElem (by rw [List.length_map]; exact hlt)]
  simp
theorem j6 {tb : Tb} (T : TbOk E P tb) (h : Rel E B θ n ds S a w σ ρ ι) {t m d : Nat} {l : List (Nat × Operand)} {ps : List (Nat × AV)} {k : AV → St E.c → Tree R} {r : R} (hn : Nat.blt d n = true) (hp : Tr S l = some ps) (hk : MD S ps = true) (e : (rC E tb t m ps S k).den = some r) (K : RY E P B θ n ds S k r ops Q rest d) :
    wpList P ops Q (⟨some d,.buildSlice t m l.toArray,ty,pos,aft,none⟩ :: rest) a w := by
  unfold rC at e
  split at e
  · rename_i e0 u by_ ht
    split at e
    · rename_i zc hz
      split at e
      · rename_i hzl
        have hzl := Nat.eq_of_beq_eq_true hzl
        split at e
        · rename_i hm
          split at e
          · rename_i cs hf
            split at e
            · rename_i l' hl
              obtain ⟨z,g1,g2,_⟩ := T.zr _ (Ba hz)
              obtain ⟨q1,q2⟩ := Pc h hp
              obtain ⟨p1,lx,p2,p3⟩ := gU h hl
              have E1 := T.et ht
              refine Ub (z := z) (u.rp E.r).seen lx h.fr h.st hn E1 g1 hm q1 (by rw [g2 E.sz σ ρ,List.length_map]; exact hzl) ?_ rfl (by rw [← p1, ← p2,List.length_map]) p3 fun v' a' w' hf' hW' => ?_
              · rw [g2 E.sz σ ρ, ← bG hzl E1.pos]
                exact Xz h hk hf
              · obtain ⟨c1,c2⟩ := h.toStC.noC
                exact newRow (S0 := { S with C := [] }) (zi := ⟨.own e0,u,l'⟩) h c1 c2 rfl rfl rfl ⟨_,p2,rfl⟩ hW' hf' e K
            · cases e
          · cases e
        · cases e
      · cases e
    · cases e
  · cases e
theorem jO {M : CQ} {Z : List It} {F : List (Nat × Value)} {o : Oper} {d : Nat} {v : Value} (hF : Fr n ds F a) (hW : Stw B M Z w) (hwt : Region.wanted o (yielded ops a.tmps) = true) (hd : o.dst = some d) (hn : Nat.blt d n = true) (y : Yx P B M Z a o v) (k : ∀ a',Fr n ds ((d,v) :: F) a' → wpList P ops Q rest a' w) : wpList P ops Q (o :: rest) a w := by
  unfold wpList
  rw [if_pos hwt]
  refine .inl ?_
  unfold Oper.wp
  rw [y w hW]
  exact k _ (by rw [hd]; exact hF.put (Nat.le_of_ble_eq_true hn) v)
theorem Rd (h : Rel E B θ n ds S a w σ ρ ι) {dflt p : Int} {q : Option Operand} : dU S dflt q = some p → match q with | none => p = dflt | some q => C6 (S.ff E σ ρ) q = some (.int .i64 p) := by
  intro e
  cases q with
  | none => cases e; rfl
  | some q =>
    have e : (match Ge S q with | some (.one (.int .i64 p)) => some p | _ => none) = some p := e
    show C6 (S.ff E σ ρ) q = _
    split at e
    · rename_i hq
      cases e
      exact (h.op hq).1
    · cases e
theorem jL {tb : Tb} (T : TbOk E P tb) (h : Rel E B θ n ds S a w σ ρ ι) {t z d : Nat} {s : Operand} {lo hi : Option Operand} {k : AV → St E.c → Tree R} {r : R} (hn : Nat.blt d n = true) (hs : Ge S s = some (.one (.sl z))) (e : (rN E tb t z lo hi S k).den = some r) (K : RY E P B θ n ds S k r ops Q rest d) :
    wpList P ops Q (⟨some d,.slice t s lo hi none,ty,pos,aft,none⟩ :: rest) a w := by
  unfold rN at e
  split at e
  · rename_i ver kk u l hz
    split at e
    · rename_i e0 u' b' ht
      split at e
      · rename_i hu
        obtain rfl := U.same_eq hu
        split at e
        · rename_i lo' hlo
          split at e
          · rename_i hi' hhi
            have hm := Ba hz
            obtain ⟨lx,e1,e2,e3⟩ := h.rdc (M := S.mm E σ ρ) (fun _ h => h) hz
            have hok := h.st.items (ι z) (List.mem_map.2 ⟨_,hm,rfl⟩)
            rw [e2] at hok
            have hlen : (lx.length : Int) = (l.length : Int) := by
              have := congrArg List.length e1
              simp at this
              omega
            have go : ∀ l2,JY l lo' hi' = some l2 → VT E B w (Am (S.mm E σ ρ) (S.zz ι)) ⟨kk,u,l2⟩ (Eo (σ z) lo' hi' (E.sz u)) → (k (.one (.sl S.nz)) (S.addZ ⟨kk,u,l2⟩)).den = some r → wpList P ops Q (⟨some d,.slice t s lo hi none,ty,pos,aft,none⟩ :: rest) a w := by
              intro l2 hs2 hI e
              obtain ⟨lx2,g1,g2⟩ := jR e1 hs2
              refine jO h.fr h.st (BN rfl) rfl hn (Ri (r := (u.rp E.r).seen) (v := σ z) (l := lx) (lo := lo') (hi := hi') (T.et ht) h.fr (h.op hs).1 (Rd h hlo) ?_ e3 g1) fun a' hf => ?_
              · have := Rd h hhi
                cases hi with
                | none => simp only at this ⊢; rw [hlen]; exact this
                | some q => exact this
              · obtain ⟨it,hb,h1,ga⟩ := h.noteZ hI
                exact K _ _ a' w _ _ _ (Ext.addZ S _) (h.put' (v := .one (.sl S.nz)) h1.toStC rfl ga h1.st (Nat.ble_eq_true_of_le (Nat.lt_succ_self S.nz)) Em hf) e
            split at e
            · cases e
            · rename_i hk
              obtain ⟨l2,hs2,e⟩ := Option.bind_eq_some_iff.1 e
              refine go l2 hs2 ?_ e
              cases kk with
              | own q9 => exact absurd rfl (hk q9)
              | frz =>
                have hh : Sl w (Fz B (Am (S.mm E σ ρ) (S.zz ι))) (u.rp E.r).seen (σ z) lx := hok
                exact (hh.hide (Ex.seen _) e1).sub hs2
              | rd =>
                have hh : Sl B.w0 (NX B.X) (u.rp E.r).seen (σ z) lx := hok
                exact (hh.hide (Ex.seen _) e1).sub hs2
          · cases e
        · cases e
      · cases e
    · cases e
  · cases e
end
end Go.Proofs.YtkhiflmalgkjiaaGreat
namespace Go.Proofs.YtkhiflmalgkjiaaGreat
section
variable {E : TE} {P : Program} {B : Bs} {θ : Pin} {n : Nat} {ds : List Deferred} {S : St E.c} {a : Act} {w : World} {σ : Nat → Value} {ρ : Nat → Nat} {ι : Nat → It} {R : Type}
variable {ops : Array Oper} {Q : Exit → Act → World → Prop} {rest : List Oper} {ty : TypeId} {pos : String} {aft : Array Edge}
theorem Ext.putC {c : Nat → Type} (S : St c) (d : Nat) (v : AV) (x : Y5 c) : Ext S (S.putC d v x) := by
  cases x with
  | none => exact Ext.put S d v
  | some q => exact ⟨(Ext.put S d v).v,(Ext.put S d v).F,(Ext.put S d v).M,(Ext.put S d v).Z,(Ext.put S d v).V⟩
theorem Rel.putC (h : Rel E B θ n ds S a w σ ρ ι) {d : Nat} {v : AV} {x : Y5 E.c} {a' : Act} (hx : Y1 S v x) (hv : v.wf S.nz S.nb = true) (hF : Fr n ds ((d,v.val E.sz σ ρ) :: S.ff E σ ρ) a') : Rel E B θ n ds (S.putC d v x) a' w σ ρ ι := by
  have h1 := h.put hv hF
  cases x with
  | none => exact h1
  | some q =>
    obtain ⟨z,i,o,k,l,e1,e2,e3⟩ := hx q rfl
    have hca : ∀ p ∈ (d,q) :: (S.put d v).C,wW (S.put d v) p := fun p hp => by
      rcases List.mem_cons.1 hp with rfl | hp
      · refine ⟨S.nv,z,i,o,k,l, ?_,e2,e3⟩
        show CG ((d,S.nv,v) :: S.F) d = _
        rw [DK,e1]
      · exact h1.ca p hp
    exact { it := h1.it,wF := h1.wF,wM := h1.wM,wZ := h1.wZ,nZ := h1.nZ,pn := h1.pn,pi := h1.pi,fr := h1.fr,st := h1.st,ca := hca }
theorem Rel.rests (h : Rel E B θ n ds S a w σ ρ ι) (m : Nat) (cs : List CV) : ∃ ι',Rel E B θ n ds (OZ m cs S) a w σ ρ ι' ∧ Tk S (OZ m cs S) := by
  obtain ⟨ι',h1,h2,h3⟩ := U6 (X := []) m cs h.toStC h.st
  refine ⟨ι', { toStC := h1,fr := ?_,st := h2 },h3⟩
  show Fr n ds ((OZ m cs S).F.map _) a
  rw [h3.fF]; exact h.fr
theorem Rel.restA : ∀ (ps : List (Nat × AV)) {S : St E.c} {ι : Nat → It},Rel E B θ n ds S a w σ ρ ι → ∃ ι',Rel E B θ n ds (Sc ps S) a w σ ρ ι' ∧ Tk S (Sc ps S)
  | [],S,ι,h => ⟨ι,h,Tk.refl S⟩
  | (i,v) :: r,S,ι,h => by
    show ∃ ι',Rel E B θ n ds (Sc r (match v.cells with | some cs => OZ cs.length cs S | none => S)) a w σ ρ ι' ∧ Tk S (Sc r (match v.cells with | some cs => OZ cs.length cs S | none => S))
    cases v.cells with
    | none => exact Rel.restA r h
    | some cs =>
      obtain ⟨ι1,h1,t1⟩ := h.rests cs.length cs
      obtain ⟨ι2,h2,t2⟩ := Rel.restA r h1
      exact ⟨ι2,h2,t1.trans t2⟩
theorem VI {S' : St E.c} (t : Tk S S') (x : Operand) : Ge S' x = Ge S x := by
  cases x with
  | tmp i => show (match CG S'.F i with | some x => some x.2 | none => none) = _; rw [t.fF]; rfl
  | _ => rfl
theorem Vz {S' : St E.c} (t : Tk S S') : ∀ l : List (Nat × Operand),Tr S' l = Tr S l
  | [] => rfl
  | (i,x) :: l => by unfold Tr; rw [VI t,Vz t l]
theorem ZT {x y : Operand} {k : IntKind} {p : Int} (h : Yd x y = true) (e : Ge S x = some (.one (.int k p))) : ∃ k',Ge S y = some (.one (.int k' p)) := by
  unfold Yd at h
  split at h
  · rw [← Nat.eq_of_beq_eq_true h]; exact ⟨k,e⟩
  · rename_i k1 p1 k2 q
    obtain rfl := of_decide_eq_true h
    cases e
    exact ⟨k2,rfl⟩
  · cases h
theorem ZB {o : Oper} (hw : Region.wanted o (yielded ops a.tmps) = true) (h : wpList P ops Q (⟨o.dst,o.op,o.type,o.pos,o.after,none⟩ :: rest) a w) : wpList P ops Q (o :: rest) a w := by
  obtain ⟨dst,op,t,pos,aft,g⟩ := o
  unfold wpList at h ⊢
  rw [if_pos hw]
  rw [if_pos (BN rfl)] at h
  exact h
theorem iI : ∀ {gs : List (Bool × List CV)},Bw (fun p => match p with | (false,[]) => false | _ => true) gs = true → (gs.map tE).map (AV.val E.sz σ ρ) = gs.map (Kh E.sz σ ρ) := fun {gs} h => by
  rw [List.map_map]
  refine List.map_congr_left fun p hp => ?_
  have := Ac.1 h p hp
  obtain ⟨q,l⟩ := p
  cases q with
  | true => rfl
  | false =>
    cases l with
    | nil => cases this
    | cons c l => rfl
theorem pS (h : Rel E B θ n ds S a w σ ρ ι) {fo : Operand} {f : Nat} {us ps : List AV} (e : oP S fo = some (f,us,ps)) : (∃ gs fs : List Value,C6 (S.ff E σ ρ) fo = some (.func (.func f) gs.toArray fs.toArray) ∧ us.map (AV.val E.sz σ ρ) = gs ∧ ps.map (AV.val E.sz σ ρ) = fs) ∧ (∀ v ∈ us,v.wf S.nz S.nb = true) ∧ ∀ v ∈ ps,v.wf S.nz S.nb = true := by
  unfold oP at e
  split at e
  · rename_i f' hf
    cases e
    exact ⟨⟨[],[],(h.op hf).1,rfl,rfl⟩,(fun _ h => nomatch h),(fun _ h => nomatch h)⟩
  · rename_i f' gs ps' hf
    split at e
    · rename_i hg
      cases e
      obtain ⟨w1,w2⟩ := VD (h.op hf).2
      refine ⟨⟨_,_,(h.op hf).1,iI hg,by rw [List.map_map]; rfl⟩,fun v hv => ?_,fun v hv => ?_⟩
      · obtain ⟨p,hp,rfl⟩ := List.mem_map.1 hv
        have hp1 := Ac.1 w2 p hp
        have hp2 := Ac.1 hg p hp
        obtain ⟨q,l⟩ := p
        cases q with
        | true => exact hp1
        | false =>
          cases l with
          | nil => cases hp2
          | cons c l => exact Ac.1 hp1 c (List.mem_cons_self ..)
      · obtain ⟨c,hc,rfl⟩ := List.mem_map.1 hv
        exact Ac.1 w1 c hc
    · cases e
  · cases e
theorem cU (h : Rel E B θ n ds S a w σ ρ ι) {fo : Operand} {xs : List Operand} {f : Nat} {us vs ps : List AV} (e : oP S fo = some (f,us,ps)) (hx : TK S xs = some vs) : mG (S.ff E σ ρ) fo xs = some (f,(us ++ vs ++ ps).map (AV.val E.sz σ ρ)) ∧ ∀ v ∈ us ++ vs ++ ps,v.wf S.nz S.nb = true := by
  obtain ⟨⟨gs,fs,h1,h2,h3⟩,h4,h5⟩ := pS h e
  obtain ⟨k1,k2⟩ := h.ops hx
  refine ⟨?_,fun v hv => ?_⟩
  · unfold mG
    rw [h1,k1]
    subst h2 h3
    simp
  · rcases List.mem_append.1 hv with hv | hv
    · rcases List.mem_append.1 hv with hv | hv
      · exact h4 v hv
      · exact k2 v hv
    · exact h5 v hv
theorem d7 {G : Hz E P} (hG : ConsOk B G) (h : Rel E B θ n ds S a w σ ρ ι) {f d : Nat} {fo : Operand} {xs : List Operand} {us vs ps : List AV} {ts : Array TypeId} {k : AV → St E.c → Tree R} {r : R} (hn : Nat.blt d n = true) (hf : oP S fo = some (f,us,ps)) (hx : TK S xs = some vs) (e : (UG E G f (us ++ vs ++ ps) S k).den = some r) (K : RY E P B θ n ds S k r ops Q rest d) :
    wpList P ops Q (⟨some d,.call ⟨.value fo,xs.toArray,ts⟩,ty,pos,aft,none⟩ :: rest) a w := by
  obtain ⟨h1,h2⟩ := cU h hf hx
  obtain ⟨Ml,Mr,Zl,Zr,β,rv,MM,ZZ,hW,hP,hc,hk⟩ := WP hG h h2 e
  refine cE (Ml := Ml) (M := Mr) (Zl := Zl) (Z := Zr) (rv := rv) (MM := MM) (ZZ := ZZ) h.fr hW hP h1 hn hc fun x a' w' hf' hW' => ?_
  obtain ⟨v,S',σ',ι',x1,s1,s2,s3,s4,s5,s6,s7⟩ := hk x w' hW'
  exact K v S' a' w' σ' ρ ι' x1 (h.put' s1 s3 s4 s2 s5 s6 hf') s7
theorem eE {G : Hz E P} (hG : ConsOk B G) (h : Rel E B θ n ds S a w σ ρ ι) {f : Nat} {fo : Operand} {xs : List Operand} {us vs ps : List AV} {ts : Array TypeId} {k : AV → St E.c → Tree R} {r : R} (hf : oP S fo = some (f,us,ps)) (hx : TK S xs = some vs) (e : (UG E G f (us ++ vs ++ ps) S k).den = some r) (K : ∀ v S' w' σ' ι',Ext S S' → Rel E B θ n ds S' a w' σ' ρ ι' → (k v S').den = some r → wpList P ops Q rest a w') :
    wpList P ops Q (⟨none,.call ⟨.value fo,xs.toArray,ts⟩,ty,pos,aft,none⟩ :: rest) a w := by
  obtain ⟨h1,h2⟩ := cU h hf hx
  obtain ⟨Ml,Mr,Zl,Zr,β,rv,MM,ZZ,hW,hP,hc,hk⟩ := WP hG h h2 e
  refine aO (Ml := Ml) (M := Mr) (Zl := Zl) (Z := Zr) (rv := rv) (MM := MM) (ZZ := ZZ) h.fr hW hP h1 hc fun x w' hW' => ?_
  obtain ⟨v,S',σ',ι',x1,s1,s2,s3,s4,s5,s6,s7⟩ := hk x w' hW'
  exact K v S' w' σ' ι' x1 (h.of s1 s3 s4 s2) s7
theorem S7.toV {k : St E.c → Tree R} {r : R} {d : Nat} (K : S7 E P B θ n ds S k r ops Q rest) : RY E P B θ n ds S (fun v S' => k (S'.put d v)) r ops Q rest d :=
  fun v S' a' w' σ' ρ' ι' x h e => K _ a' w' σ' ρ' ι' (x.trans (Ext.put S' d v)) h e
theorem S7.ext {k : St E.c → Tree R} {r : R} {S0 : St E.c} (x : Ext S S0) (K : S7 E P B θ n ds S k r ops Q rest) : S7 E P B θ n ds S0 k r ops Q rest :=
  fun S' a' w' σ' ρ' ι' x' h e => K S' a' w' σ' ρ' ι' (x.trans x') h e
theorem rD {tb : Tb} {t z o p m : Nat} {agg : Bool} {u : U} {i : Int} {vs : List CV} {v : AV} {py : Operand} {k : St E.c → Tree R} {r : R} (h : Rel E B θ n ds S a w σ ρ ι) (hx : Ge S (.tmp p) = some (.one (.ep z u i o))) (hy : Ge S py = some v) (hc : v.cells = some vs) (hk : Mn S vs = true)
    (T : Ty P t agg m) (hm : vs.length = m) (hle : Nat.ble (o + vs.length) (E.sz u) = true) (e : (yK E z u i o p vs S k).den = some r) (K : S7 E P B θ n ds S k r ops Q rest) : wpList P ops Q (⟨none,.store t (.tmp p) py,ty,pos,aft,none⟩ :: rest) a w := by
  unfold yK at e
  split at e
  · rename_i ver' e0 u2 l hz
    have hzm := Ba hz
    have hp : ∃ ver0,CG S.F p = some (ver0,.one (.ep z u i o)) := by
      have hx' : (match CG S.F p with | some x => some x.2 | none => none) = some (AV.one (.ep z u i o)) := hx
      split at hx'
      · rename_i x hx2
        obtain ⟨q1,q2⟩ := x
        cases hx'
        exact ⟨q1,hx2⟩
      · cases hx'
    obtain ⟨ver0,hp⟩ := hp
    split at e
    · rename_i ver u' x hcc
      split at e
      · rename_i hv
        obtain rfl := Nat.eq_of_beq_eq_true hv
        obtain ⟨v',z',i',o',k',l',c1,c2,c3⟩ := h.ca _ (Ba hcc)
        simp only at c1 c2 c3
        rw [hp] at c1
        cases c1
        have c4 := Gh h.nZ c2
        rw [hz] at c4
        cases c4
        exact YB h hx hy hc hk T hm hle c2 c3 e K
      · cases e
    · split at e
      · rename_i hu
        obtain rfl := U.same_eq hu
        obtain ⟨x,hix,e⟩ := Option.bind_eq_some_iff.1 e
        exact YB h hx hy hc hk T hm hle hzm hix e K
      · cases e
  · cases e
theorem YU {tb : Tb} (T : TbOk E P tb) (h : Rel E B θ n ds S a w σ ρ ι) {d : Nat} {op : Op} {k : St E.c → Tree R} {r : R} (hn : Nat.blt d n = true) (e : (mN E tb op S fun v x S' => k (S'.putC d v x)).den = some r) (K : S7 E P B θ n ds S k r ops Q rest) :
    wpList P ops Q (⟨some d,op,ty,pos,aft,none⟩ :: rest) a w := by
  obtain ⟨v,x,S',σ',ι',h1,x1,e1,hv,hcc,hag,_,_,⟨hF,_⟩,_,hy⟩ := gE (dst := some d) (ty := ty) (pos := pos) (aft := aft) (g := none) T h e
  exact jO h1.fr h1.st (BN rfl) rfl hn (hy _ _ (fun _ h => h) (fun _ h => h)) fun a' hf => K _ a' w σ' ρ ι' (x1.trans (Ext.putC S' d v x)) (h1.putC hcc hv hf) e1
theorem iD {tb : Tb} (T : TbOk E P tb) {G : Hz E P} (hG : ConsOk B G) (h : Rel E B θ n ds S a w σ ρ ι) {dst : Option Tmp} {op : Op} {k : St E.c → Tree R} {r : R} (e : (xL E tb G n S k dst op).den = some r) (K : S7 E P B θ n ds S k r ops Q rest) :
    wpList P ops Q (⟨dst,op,ty,pos,aft,none⟩ :: rest) a w := by
  unfold xL at e
  split at e
  · rename_i d op
    split at e
    · cases e
    · rename_i hn
      split at e
      · rename_i t
        split at e
        · rename_i zc hz
          obtain ⟨z,g1,g2,g3⟩ := T.zr _ (Ba hz)
          have hwz : Bw (CV.wf S.nz S.nb) zc = true := Di (fun _ => CV.wf_mono (Nat.zero_le _) (Nat.zero_le _)) g3
          exact Hm h.fr h.st hn g1 (g2 E.sz σ ρ) fun b a' w' hf hW => Zu h hwz e K hf hW
        · cases e
      · split at e
        · rename_i v hv
          split at e
          · rename_i cs hcs
            split at e
            · rename_i hkn
              have o1 := h.op hv
              obtain ⟨c1,c2⟩ := h.cells1 hcs hkn
              have hwz : Bw (CV.wf S.nz S.nb) cs = true := by
                cases v with
                | one c => cases hcs; exact Ac.2 fun z hz => by rcases List.mem_singleton.1 hz with rfl; exact o1.2
                | agg l => cases hcs; exact o1.2
                | tup l => cases hcs
                | fnv f gs ps => cases hcs
              exact Ig h.fr h.st hn o1.1 c1 fun b a' w' hf hW => Zu h hwz e K hf hW
            · cases e
          · cases e
        · cases e
      · split at e
        · rename_i hs
          split at e
          · rename_i kk nn hl
            obtain ⟨k',hc⟩ := ZT hs hl
            exact dI T h hn hl hc e K.toV
          · cases e
        · cases e
      · split at e
        · rename_i ps hps
          split at e
          · rename_i hkn
            obtain ⟨ι1,h1,t1⟩ := Rel.restA ps h
            exact j6 T h1 hn (by rw [Vz t1]; exact hps) hkn e (K.ext t1.toExt).toV
          · cases e
        · cases e
      · split at e
        · rename_i ps hps
          split at e
          · rename_i hkn
            split at e
            · rename_i zc pl hb
              split at e
              · rename_i cs hf
                obtain ⟨ι1,h0,t1⟩ := Rel.restA (tO S ps) h
                obtain ⟨q1,q2⟩ := Pc h0 (by rw [Vz t1]; exact hps)
                obtain ⟨b1,b2⟩ := T.bt.mem _ (Ba hb)
                have hwz : Bw (CV.wf (Sc (tO S ps) S).nz (Sc (tO S ps) S).nb) zc = true := Di (fun _ => CV.wf_mono (Nat.zero_le _) (Nat.zero_le _)) b2
                have hwf := O6 q2 hwz hf
                exact jO h0.fr h0.st (BN rfl) rfl hn (H8 (b1 E.sz σ ρ) h0.fr q1 (Wn h0 hkn hf) rfl) fun a' hf => K _ a' w σ ρ ι1 (t1.toExt.trans (Ext.put _ _ _)) (h0.put (v := .agg cs) hwf hf) e
              · cases e
            · exact YU T h hn e K
          · cases e
        · cases e
      · split at e
        · rename_i z hs
          obtain ⟨ι1,h1,t1⟩ := h.rests 1 [.sl z]
          exact jL T h1 hn (by rw [VI t1]; exact hs) e (K.ext t1.toExt).toV
        · rename_i l hs
          split at e
          · rename_i ht
            split at e
            · rename_i lo' hlo
              split at e
              · rename_i hi' hhi
                obtain ⟨l2,hl2,e⟩ := Option.bind_eq_some_iff.1 e
                exact jO h.fr h.st (BN rfl) rfl hn (cB (T.str ht) h.fr (h.op hs).1 (Rd h hlo) (Rd h hhi) hl2) fun a' hf => K _ a' w σ ρ ι (Ext.put S _ _) (h.put (v := .one (.str l2)) rfl hf) e
              · cases e
            · cases e
          · cases e
        · cases e
      · split at e
        · rename_i ht
          have ht := Nat.eq_of_beq_eq_true ht
          subst ht
          split at e
          · rename_i s hs
            split at e
            · rename_i q hq
              exact lN T h hn hs hq e K.toV
            · cases e
          · cases e
        · cases e
      · split at e
        · rename_i f hf
          split at e
          · rename_i vs hx
            exact d7 hG h hn hf hx e K.toV
          · cases e
        · cases e
      · exact YU T h hn e K
  · split at e
    · rename_i t x y _ agg m ht
      have TT := RZ T.tt ht
      split at e
      · rename_i v hv
        split at e
        · rename_i vs hvs
          split at e
          · rename_i hm
            have hm := Nat.eq_of_beq_eq_true hm
            split at e
            · rename_i hkn
              split at e
              · rename_i b o hx
                exact lM h hx hv hvs hkn TT hm e K
              · rename_i z u i o hx
                split at e
                · rename_i p
                  split at e
                  · rename_i hle
                    split at e
                    · rename_i hk2
                      obtain ⟨ι1,h1,t1⟩ := h.rests vs.length vs
                      exact rD (tb := tb) h1 (by rw [VI t1]; exact hx) (by rw [VI t1]; exact hv) hvs hk2 TT hm hle e (K.ext t1.toExt)
                    · cases e
                  · cases e
                · cases e
              · cases e
            · cases e
          · cases e
        · cases e
      · cases e
    · cases e
  · split at e
    · rename_i f hf
      split at e
      · rename_i vs hx
        exact eE hG h hf hx e fun v S' w' σ' ι' x h' e' => K S' a w' σ' ρ ι' x h' e'
      · cases e
    · cases e
  · cases e
end
end Go.Proofs.YtkhiflmalgkjiaaGreat
namespace Go.Proofs.YtkhiflmalgkjiaaGreat
def TF : List (Option CK) → List CK
  | [] => []
  | none :: l => TF l
  | some q :: l => q :: TF l
def SJ (E : TE) : List (Option CK) → List CV → Option (List CV)
  | [],[] => some []
  | [],_ :: _ => none
  | none :: l,_ :: cs => SJ E l cs
  | none :: _,[] => none
  | some q :: l,cs => match YT (Ao E [q]) cs with
    | some c1 => match SJ E l (Zz (Ao E [q]) cs) with | some r => some (c1 ++ r) | none => none
    | none => none
def Ku (E : TE) {α : Type _} : List (Option CK) → List α → List α → List α
  | [],_,_ => []
  | none :: l,o :: old,new => o :: Ku E l old new
  | none :: l,[],new => Ku E l [] new
  | some q :: l,old,new => new.take (Ao E [q]) ++ Ku E l (old.drop (Ao E [q])) (new.drop (Ao E [q]))
def Xx (E : TE) {c : Nat → Type} (S0 S : St c) (k : Nat) : List (Option CK) → Nat → Bool
  | [],_ => true
  | none :: l,i => match UF S0 k i with
    | some v => match UF S k i with
      | some v' => match Nat.beq v v' && Nat.blt v S0.nv with | true => Xx E S0 S k l (i + 1) | false => false
      | none => false
    | none => false
  | some q :: l,i => Xx E S0 S k l (i + Ao E [q])
def QQ (E : TE) (f : Nat → Option Nat) (nv : Nat) : List (Option CK) → Nat → List Nat
  | [],_ => []
  | none :: l,i => (f i).getD nv :: QQ E f nv l (i + 1)
  | some q :: l,i => List.replicate (Ao E [q]) nv ++ QQ E f nv l (i + Ao E [q])
def X0 (E : TE) : List (Option CK) → Nat
  | [] => 0
  | none :: l => 1 + X0 E l
  | some q :: l => Ao E [q] + X0 E l
def MU (E : TE) {c : Nat → Type} (S0 : St c) : List (Nat × List (Option CK)) → List CV → Option (List (Nat × List CV))
  | [],_ => some []
  | (k, l) :: r, new => match CG S0.M k with
    | some (_,cs) => match Nat.beq cs.length (X0 E l) with
      | true => match YT (Ao E (TF l)) new with
        | some c1 => match MU E S0 r (Zz (Ao E (TF l)) new) with
          | some m => some ((k,Ku E l cs c1) :: m)
          | none => none
        | none => none
      | false => none
    | none => none
def gJ (E : TE) {c : Nat → Type} (S0 : St c) (nv : Nat) : List (Nat × List (Option CK)) → List (Nat × List Nat)
  | [] => []
  | (k,l) :: r => (k,QQ E (UF S0 k) nv l 0) :: gJ E S0 nv r
def VA (E : TE) {c : Nat → Type} (S0 S : St c) : List (Nat × List (Option CK)) → Bool
  | [] => true
  | (k,l) :: r => match Xx E S0 S k l 0 with | true => VA E S0 S r | false => false
section
variable {E : TE}
theorem Sb {f : Nat → Option Nat} {nv : Nat} : ∀ (l : List (Option CK)) (j : Nat),(QQ E f nv l j).length = X0 E l
  | [],j => rfl
  | none :: l,j => by simp only [QQ,List.length_cons,Sb l,X0]; omega
  | some q :: l,j => by simp only [QQ,List.length_append,List.length_replicate,Sb l,X0]
theorem MC {α β : Type _} (f : α → β) : ∀ (l : List (Option CK)) (old new : List α),(Ku E l old new).map f = Ku E l (old.map f) (new.map f)
  | [],_,_ => rfl
  | none :: l,o :: old,new => by simp only [Ku,List.map_cons,MC f l]
  | none :: l,[],new => by simp only [Ku,List.map_nil]; exact MC f l [] new
  | some q :: l,old,new => by simp only [Ku,List.map_append,MC f l,List.map_take,List.map_drop]
theorem PL {α : Type _} {x : α} : ∀ {l : List (Option CK)} {old new : List α},x ∈ Ku E l old new → x ∈ old ∨ x ∈ new
  | [],_,_,h => nomatch h
  | none :: l,o :: old,new,h => by
    rcases List.mem_cons.1 h with rfl | h
    · exact .inl (List.mem_cons_self ..)
    · rcases PL (l := l) h with h | h
      · exact .inl (List.mem_cons_of_mem _ h)
      · exact .inr h
  | none :: l,[],new,h => PL (l := l) (old := []) h
  | some q :: l,old,new,h => by
    rcases List.mem_append.1 h with h | h
    · exact .inr (List.mem_of_mem_take h)
    · rcases PL (l := l) h with h | h
      · exact .inl (List.mem_of_mem_drop h)
      · exact .inr (List.mem_of_mem_drop h)
theorem Tc {S0 S : St E.c} (x : Ext S0 S) {k v0 v1 : Nat} {cs0 cs : List CV} (h0 : CG S0.M k = some (v0,cs0)) (h1 : CG S.M k = some (v1,cs)) : ∀ (l : List (Option CK)) (i : Nat) (y : List CV),Xx E S0 S k l i = true → SJ E l (cs.drop i) = some y → Ku E l (cs0.drop i) y = cs.drop i
  | [],i,y,hk,hp => by
    cases hd : cs.drop i with
    | nil => rfl
    | cons a r => rw [hd] at hp; cases hp
  | none :: l, i, y, hk, hp => by
    cases hd : cs.drop i with
    | nil => rw [hd] at hp; cases hp
    | cons a r =>
      rw [hd] at hp
      unfold Xx at hk
      split at hk
      · rename_i v hv
        split at hk
        · rename_i v' hv'
          split at hk
          · rename_i hb
            simp only [Bool.and_eq_true] at hb
            obtain rfl := Nat.eq_of_beq_eq_true hb.1
            have hlt := Nat.le_of_ble_eq_true hb.2
            have e1 := (x.V k i v hv' hlt).2
            unfold iR at e1
            rw [h0,h1] at e1
            simp only at e1
            have ha : cs[i]? = some a := by
              have := congrArg (·[0]?) hd
              simpa using this
            rw [ha] at e1
            have hi : i < cs0.length := by
              rcases Nat.lt_or_ge i cs0.length with h | h
              · exact h
              · rw [List.getElem?_eq_none h] at e1; cases e1
            have h2 : cs0.drop i = a :: cs0.drop (i + 1) := by
              rw [List.drop_eq_getElem_cons hi]
              rw [List.getElem?_eq_getElem hi] at e1
              rw [Option.some.inj e1]
            have h3 : r = cs.drop (i + 1) := by
              have := congrArg List.tail hd
              simpa using this.symm
            rw [h2]
            show a :: Ku E l (cs0.drop (i + 1)) y = a :: r
            rw [h3] at hp ⊢
            rw [Tc x h0 h1 l (i + 1) y hk hp]
          · cases hk
        · cases hk
      · cases hk
  | some q :: l,i,y,hk,hp => by
    unfold SJ at hp
    split at hp
    · rename_i c1 hc
      split at hp
      · rename_i r hr
        cases hp
        obtain ⟨t1,t2⟩ := I8 hc
        rw [I4,List.drop_drop] at hr
        have hl : c1.length = Ao E [q] := by rw [← t2,List.length_take]; omega
        have := Tc x h0 h1 l (i + Ao E [q]) r hk (by rw [Nat.add_comm] at hr ⊢; first | exact hr | (rw [Nat.add_comm]; exact hr))
        unfold Ku
        rw [List.take_left' hl,List.drop_left' hl,List.drop_drop,this, ← t2]
        rw [show cs.drop (i + Ao E [q]) = (cs.drop i).drop (Ao E [q]) by rw [List.drop_drop]]
        exact List.take_append_drop _ _
      · cases hp
    · cases hp
theorem U0 {f : Nat → Option Nat} {nv : Nat} : ∀ (l : List (Option CK)) (j i v : Nat) (old new : List CV),(QQ E f nv l j)[i]? = some v → Ao E (TF l) ≤ new.length → v = nv ∨ (f (j + i) = some v ∧ ∀ a,old[i]? = some a → (Ku E l old new)[i]? = some a)
  | [],j,i,v,old,new,h,hn => by simp [QQ] at h
  | none :: l,j,0,v,old,new,h,hn => by
    simp only [QQ,List.getElem?_cons_zero,Option.some.injEq] at h
    cases hf : f j with
    | none => rw [hf] at h; exact .inl h.symm
    | some u =>
      rw [hf] at h
      refine .inr ⟨congrArg some h,fun a ha => ?_⟩
      cases old with
      | nil => simp at ha
      | cons o old => simpa [Ku] using ha
  | none :: l,j,i + 1,v,old,new,h,hn => by
    simp only [QQ,List.getElem?_cons_succ] at h
    rcases U0 l (j + 1) i v old.tail new h hn with h | ⟨h1,h2⟩
    · exact .inl h
    · refine .inr ⟨by rw [show j + (i + 1) = j + 1 + i by omega]; exact h1,fun a ha => ?_⟩
      cases old with
      | nil => simp at ha
      | cons o old => simpa [Ku] using h2 a (by simpa using ha)
  | some q :: l,j,i,v,old,new,h,hn => by
    simp only [QQ] at h
    have hc : Ao E (TF (some q :: l)) = Ao E [q] + Ao E (TF l) := by cases q <;> simp [TF,Ao] <;> omega
    rw [hc] at hn
    rcases Nat.lt_or_ge i (Ao E [q]) with hi | hi
    · rw [List.getElem?_append_left (by rw [List.length_replicate]; exact hi),List.getElem?_replicate,if_pos hi] at h
      exact .inl (Option.some.inj h).symm
    · rw [List.getElem?_append_right (by rw [List.length_replicate]; exact hi),List.length_replicate] at h
      rcases U0 l (j + Ao E [q]) (i - Ao E [q]) v (old.drop (Ao E [q])) (new.drop (Ao E [q])) h (by rw [List.length_drop]; omega) with h | ⟨h1,h2⟩
      · exact .inl h
      · refine .inr ⟨by rw [show j + i = j + Ao E [q] + (i - Ao E [q]) by omega]; exact h1,fun a ha => ?_⟩
        unfold Ku
        rw [List.getElem?_append_right (by rw [List.length_take]; omega),List.length_take,show i - min (Ao E [q]) new.length = i - Ao E [q] by omega]
        refine h2 a ?_
        rw [List.getElem?_drop,show Ao E [q] + (i - Ao E [q]) = i by omega]
        exact ha
end
end Go.Proofs.YtkhiflmalgkjiaaGreat
