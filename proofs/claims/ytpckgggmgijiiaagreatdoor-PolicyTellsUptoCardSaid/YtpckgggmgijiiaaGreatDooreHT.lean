/- One operation, a list of them. Conditions: none. -/
import Derived.Test.YtpckgggmgijiiaaGreatDooreHQ
namespace Go.Proofs.YtpckgggmgijiiaaGreatDoor
set_option linter.unusedVariables false
set_option linter.unusedSimpArgs false
open Go Go.RowKit
def Yl (m : Nat) : List CV → List (Nat × AV) → Option (List CV)
  | cs,[] => some cs
  | cs, (i, v) :: r => match v.cells with
    | some vs => match Nat.beq vs.length m with
      | true => match Nat.ble (i * m + vs.length) cs.length with
        | true => Yl m (PP cs (i * m) vs) r
        | false => none
      | false => none
    | none => none
def TA (pl : List (Nat × Nat)) : List CV → List (Nat × AV) → Option (List CV)
  | cs,[] => some cs
  | cs, (i, v) :: r => match O5 pl i with
    | some (off,m) => match v.cells with
      | some vs => match Nat.beq vs.length m with
        | true => match Nat.ble (off + vs.length) cs.length with
          | true => TA pl (PP cs off vs) r
          | false => none
        | false => none
      | none => none
    | none => none
def uQ (E : TE) (S : St E.c) (u : U) : Nat → List CV → Option (List (u.T E.c))
  | 0,[] => some []
  | 0,_ :: _ => none
  | m + 1,cs => match YI (E.sz u) cs with
    | some c1 => match fS false S .frz (lR E false S .frz 4) u c1 with
      | some (x,[]) => match uQ E S u m (Yi (E.sz u) cs) with | some r => some (x :: r) | none => none
      | _ => none
    | none => none
def T9 {c : Nat → Type} (S : St c) : List (Nat × Operand) → Option (List (Nat × AV))
  | [] => some []
  | (i,x) :: l => match Gp S x with | some v => (match T9 S l with | some r => some ((i,v) :: r) | none => none) | none => none
def KV {c : Nat → Type} (S : St c) (cs : List CV) : Bool := Bl (fun c => match c with | .sl z => (Cw S.Z z).isSome | _ => true) cs
def Q5 {c : Nat → Type} : List (Nat × AV) → St c → St c
  | [],S => S
  | (_,v) :: r,S => Q5 r (match v.cells with | some cs => Nt cs.length cs S | none => S)
def LW {c : Nat → Type} (S : St c) : List (Nat × AV) → Bool
  | [] => true
  | (_,v) :: r => match v.cells with | some cs => (match KV S cs with | true => LW S r | false => false) | none => false
def tH {c : Nat → Type} (S : St c) (ps : List (Nat × AV)) : List (Nat × AV) := ps.filter fun p => match p.2 with
  | .one (.sl z) => match Cw S.Z z with
    | some (_,⟨_,.tr _,_⟩) => true
    | _ => false
  | _ => false
def fA (m sz : Nat) (zc : List CV) : List CV := (List.range (m * sz)).map fun i => (zc[i % sz]?).getD .nil
def o0 {R : Type} (E : TE) (tb : Tb) (t m : Nat) (ps : List (Nat × AV)) (S : St E.c) (k : AV → St E.c → Tree R) : Tree R := match Cw tb.sl t with
  | some (e, u, _) => match Cw tb.zr e with
    | some zc => match Nat.beq zc.length (E.sz u) with
      | true => match Nat.ble (m * E.sz u) 16777216 with
        | true => match Yl (E.sz u) (fA m (E.sz u) zc) ps with
          | some cs => match uQ E S u m cs with
            | some l => k (.one (.sl S.nz)) ({ S with C := [] }.addZ ⟨.own e,u,l⟩)
            | none => .fail
          | none => .fail
        | false => .fail
      | false => .fail
    | none => .fail
  | none => .fail
def aO {c : Nat → Type} (S : St c) (dflt : Int) : Option Operand → Option Int
  | none => some dflt
  | some q => match Gp S q with | some (.one (.int .i64 p)) => some p | _ => none
def pH {R : Type} (E : TE) (tb : Tb) (t z : Nat) (lo hi : Option Operand) (S : St E.c) (k : AV → St E.c → Tree R) : Tree R := match Cw S.Z z with
  | some (_, ⟨kk, u, l⟩) => match Cw tb.sl t with
    | some (_,u',_) => match u.same u' with
      | true => match aO S 0 lo with
        | some a => match aO S (l.length : Int) hi with
          | some b => match kk with
            | .own _ => .fail
            | kk => .bnd (K0 l a b) fun l2 => k (.one (.sl S.nz)) (S.addZ ⟨kk,u,l2⟩)
          | none => .fail
        | none => .fail
      | false => .fail
    | none => .fail
  | none => .fail
def St.putC {c : Nat → Type} (S : St c) (d : Nat) (v : AV) (x : X2 c) : St c := match x with
  | none => S.put d v
  | some q => { S.put d v with C := (d,q) :: (S.put d v).C }
def xK {R : Type} (E : TE) (z : Nat) (u : U) (i : Int) (o : Nat) (p : Nat) (vs : List CV) (S : St E.c) (k : St E.c → Tree R) : Tree R :=
  match Cw S.Z z with
  | some (ver',⟨.own e,u2,l⟩) => match Cw S.C p with
    | some (ver,⟨u',x⟩) => match Nat.beq ver ver' with
      | true => kQ E z u' i o x vs S k
      | false => .fail
    | none => match u2.same u with
      | true => .bnd (ix l i) fun x => kQ E z u2 i o x vs S k
      | false => .fail
  | _ => .fail
def sC : Bool × List CV → AV
  | (true,l) => .agg l
  | (false,c :: _) => .one c
  | (false,[]) => .tup []
def oX {c : Nat → Type} (S : St c) (x : Operand) : Option (Nat × List AV × List AV) := match Gp S x with
  | some (.one (.fn f)) => some (f,[],[])
  | some (.fnv f gs ps) => match Bl (fun p => match p with | (false,[]) => false | _ => true) gs with
    | true => some (f,gs.map sC,ps.map .one)
    | false => none
  | _ => none
def vA {R : Type} (E : TE) {P : Program} (tb : Tb) (G : GC E P) (n : Nat) (S : St E.c) (k : St E.c → Tree R) : Option Tmp → Op → Tree R
  | some d, op => match Nat.blt d n with
    | false => .fail
    | true => match op with
      | .alloc t => match Cw tb.zr t with | some zc => oS S d zc k | none => .fail
      | .box _ x => match Gp S x with
        | some v => match v.cells with
          | some cs => match KV S cs with | true => oS S d cs k | false => .fail
          | none => .fail
        | none => .fail
      | .makeSlice t lo co => match Xw lo co with
        | true => match Gp S lo with
          | some (.one (.int _ nn)) => dS E tb t nn S fun v S' => k (S'.put d v)
          | _ => .fail
        | false => .fail
      | .buildSlice t m ⟨ps⟩ => match T9 S ps with
        | some ps => match LW (Q5 ps S) ps with
          | true => o0 E tb t m ps (Q5 ps S) fun v S' => k (S'.put d v)
          | false => .fail
        | none => .fail
      | .build t ⟨ps⟩ => match T9 S ps with
        | some ps => match LW (Q5 (tH S ps) S) ps with
          | true => match Cw tb.bt t with
            | some (zc,pl) => match TA pl zc ps with
              | some cs => k ((Q5 (tH S ps) S).put d (.agg cs))
              | none => .fail
            | none => .fail
          | false => .fail
        | none => .fail
      | .slice t s lo hi none => match Gp S s with
        | some (.one (.sl z)) => pH E tb t z lo hi (Xg S (.sl z)) fun v S' => k (S'.put d v)
        | some (.one (.str l)) => match Cw tb.st t with
          | some _ => match aO S 0 lo with
            | some a => match aO S (l.length : Int) hi with
              | some b => .bnd (K0 l a b) fun l2 => k (S.put d (.one (.str l2)))
              | none => .fail
            | none => .fail
          | none => .fail
        | _ => .fail
      | .call ⟨.builtin .append,⟨[s,q]⟩,⟨[t,t']⟩⟩ => match Nat.beq t t' with
        | true => match Gp S s with
          | some s => match Gp S q with
            | some q => p7 E tb t s q S fun v S' => k (S'.put d v)
            | none => .fail
          | none => .fail
        | false => .fail
      | .call ⟨.value fo,⟨xs⟩,_⟩ => match oX S fo with
        | some (f,us,ps) => match S9 S xs with
          | some vs => TN E G f (us ++ vs ++ ps) S fun v S' => k (S'.put d v)
          | none => .fail
        | none => .fail
      | op => qC E tb op S fun v x S' => k (S'.putC d v x)
  | none, .store t x y => match UX tb.tt.2 t with
    | some (_, m) => match Gp S y with
      | some v => match v.cells with
        | some vs => match Nat.beq vs.length m with
          | true => match KV S vs with
            | true => match Gp S x with
              | some (.one (.ptr b o)) => nM S b o vs k
              | some (.one (.ep z u i o)) => match x with
                | .tmp p => match Nat.ble (o + vs.length) (E.sz u) with
                  | true => match KV (Nt vs.length vs S) vs with
                    | true => xK E z u i o p vs (Nt vs.length vs S) k
                    | false => .fail
                  | false => .fail
                | _ => .fail
              | _ => .fail
            | false => .fail
          | false => .fail
        | none => .fail
      | none => .fail
    | none => .fail
  | none,.call ⟨.value fo,⟨xs⟩,_⟩ => match oX S fo with
    | some (f,us,ps) => match S9 S xs with
      | some vs => TN E G f (us ++ vs ++ ps) S fun _ S' => k S'
      | none => .fail
    | none => .fail
  | _,_ => .fail
def dG {R : Type} {c : Nat → Type} (l0 : List Oper) (S : St c) (yes no : St c → Tree R) : Option (Nat × Bool) → Tree R
  | none => yes S
  | some (i,t) => match Wi l0 i with
    | some d => match Cw S.F d with
      | some (_,.one (.bool b)) => match b with
        | .lit b => match b,t with | true,true => yes S | false,false => yes S | true,false => no S | false,true => no S
        | b => .ite b (match t with | true => yes (S.put d (.one (.bool (.lit true)))) | false => no (S.put d (.one (.bool (.lit true))))) (match t with | true => no (S.put d (.one (.bool (.lit false)))) | false => yes (S.put d (.one (.bool (.lit false)))))
      | some (_,.tup []) => no S
      | _ => .fail
    | none => .fail
def dL {R : Type} (E : TE) {P : Program} (tb : Tb) (G : GC E P) (n : Nat) (l0 : List Oper) (k : St E.c → Tree R) : List Oper → St E.c → Tree R
  | [],S => k S
  | o :: l,S => dG l0 S (fun S => vA E tb G n S (dL E tb G n l0 k l) o.dst o.op) (fun S => match o.dst with
    | some d => match Nat.blt d n with | true => dL E tb G n l0 k l (S.put d (.tup [])) | false => .fail
    | none => .fail) o.guard
section
variable {E : TE} {P : Program} {B : Bs} {θ : Pin} {n : Nat} {ds : List Deferred} {S : St E.c} {a : Act} {w : World} {σ : Nat → Value} {ρ : Nat → Nat} {ι : Nat → It} {R : Type}
variable {ops : Array Oper} {Q : Exit → Act → World → Prop} {rest : List Oper} {ty : TypeId} {pos : String} {aft : Array Edge}
theorem fH (h : Rel E B θ n ds S a w σ ρ ι) {u : U} : ∀ {m : Nat} {cs : List CV} {l : List (u.T E.c)},uQ E S u m cs = some l → l.length = m ∧ ∃ lx,lx.map Prod.snd = l ∧ BO (u.rp E.r).seen w (Fz B (Am (S.mm E σ ρ) (S.zz ι))) (cs.map (CV.val E.sz σ ρ)) lx
  | 0,[],l,e => by cases e; exact ⟨rfl,[],rfl,rfl⟩
  | 0,_ :: _,l,e => nomatch e
  | m + 1, cs, l, e => by
    unfold uQ at e
    split at e
    · rename_i c1 h1
      split at e
      · rename_i x hx
        split at e
        · rename_i r hr
          cases e
          obtain ⟨g1,lx,g2,g3⟩ := fH h hr
          refine ⟨by simp [g1],(c1.map (CV.val E.sz σ ρ),x) :: lx,by simp [g2], ?_⟩
          rw [XV _ h1]
          exact ⟨_,_,rfl,⟨rfl,aW h.toStC (fun _ h => h) h.st (fun _ h => h) hx⟩,g3⟩
        · cases e
      · cases e
    · cases e
theorem UL (h : Rel E B θ n ds S a w σ ρ ι) : ∀ {l : List (Nat × Operand)} {ps : List (Nat × AV)},T9 S l = some ps → jA (S.ff E σ ρ) l = some (ps.map fun p => (p.1,p.2.val E.sz σ ρ)) ∧ ∀ p ∈ ps,p.2.wf S.nz S.nb = true
  | [],ps,e => by cases e; exact ⟨rfl,fun _ h => nomatch h⟩
  | (i, x) :: l, ps, e => by
    unfold T9 at e
    split at e
    · rename_i v e1
      split at e
      · rename_i r e2
        cases e
        have h1 := h.op e1
        have h2 := UL h e2
        exact ⟨by simp only [jA,h1.1,h2.1,List.map_cons],fun y hy => by
          rcases List.mem_cons.1 hy with rfl | hy
          · exact h1.2
          · exact h2.2 y hy⟩
      · cases e
    · cases e
theorem VG (h : Rel E B θ n ds S a w σ ρ ι) {m : Nat} : ∀ {ps : List (Nat × AV)} {cs cs' : List CV},LW S ps = true → Yl m cs ps = some cs' → Ja (fun i => some (i * m,m)) (cs.map (CV.val E.sz σ ρ)) (ps.map fun p => (p.1,p.2.val E.sz σ ρ)) = some (cs'.map (CV.val E.sz σ ρ))
  | [],cs,cs',_,e => by cases e; rfl
  | (i, v) :: r, cs, cs', hk, e => by
    unfold LW at hk
    unfold Yl at e
    split at e
    · rename_i vs hv
      rw [hv] at hk
      simp only at hk
      split at hk
      · rename_i hk1
        obtain ⟨c1,_⟩ := h.cells1 hv hk1
        split at e
        · rename_i hl
          split at e
          · rename_i hle
            have := VG h hk e
            rw [LC] at this
            show (match (fun i => some (i * m,m)) i with | none => none | some (off,size) => if (v.val E.sz σ ρ).cells.toList.length = size ∧ off + (v.val E.sz σ ρ).cells.toList.length ≤ (cs.map (CV.val E.sz σ ρ)).length then Ja (fun i => some (i * m,m)) (GR (cs.map (CV.val E.sz σ ρ)) off (v.val E.sz σ ρ).cells.toList) (r.map fun p : Nat × AV => (p.1,p.2.val E.sz σ ρ)) else none) = _
            simp only
            rw [c1,if_pos ⟨by rw [List.length_map]; exact Nat.eq_of_beq_eq_true hl,by rw [List.length_map,List.length_map]; exact Nat.le_of_ble_eq_true hle⟩]
            exact this
          · cases e
        · cases e
      · cases hk
    · cases e
theorem Wo (h : Rel E B θ n ds S a w σ ρ ι) {pl : List (Nat × Nat)} : ∀ {ps : List (Nat × AV)} {cs cs' : List CV},LW S ps = true → TA pl cs ps = some cs' → Ja (fun i => pl[i]?) (cs.map (CV.val E.sz σ ρ)) (ps.map fun p => (p.1,p.2.val E.sz σ ρ)) = some (cs'.map (CV.val E.sz σ ρ))
  | [],cs,cs',_,e => by cases e; rfl
  | (i, v) :: r, cs, cs', hk, e => by
    unfold LW at hk
    unfold TA at e
    split at e
    · rename_i off m hp
      rw [KC] at hp
      split at e
      · rename_i vs hv
        rw [hv] at hk
        simp only at hk
        split at hk
        · rename_i hk1
          obtain ⟨c1,_⟩ := h.cells1 hv hk1
          split at e
          · rename_i hl
            split at e
            · rename_i hle
              have := Wo h hk e
              rw [LC] at this
              show (match pl[i]? with | none => none | some (off,size) => if (v.val E.sz σ ρ).cells.toList.length = size ∧ off + (v.val E.sz σ ρ).cells.toList.length ≤ (cs.map (CV.val E.sz σ ρ)).length then Ja (fun i => pl[i]?) (GR (cs.map (CV.val E.sz σ ρ)) off (v.val E.sz σ ρ).cells.toList) (r.map fun p : Nat × AV => (p.1,p.2.val E.sz σ ρ)) else none) = _
              rw [hp]
              simp only
              rw [c1,if_pos ⟨by rw [List.length_map]; exact Nat.eq_of_beq_eq_true hl,by rw [List.length_map,List.length_map]; exact Nat.le_of_ble_eq_true hle⟩]
              exact this
            · cases e
          · cases e
        · cases hk
      · cases e
    · cases e
theorem Vw {nz nb : Nat} {pl : List (Nat × Nat)} : ∀ {ps : List (Nat × AV)} {cs cs' : List CV},(∀ p ∈ ps,p.2.wf nz nb = true) → Bl (CV.wf nz nb) cs = true → TA pl cs ps = some cs' → Bl (CV.wf nz nb) cs' = true
  | [],cs,cs',_,hc,e => by cases e; exact hc
  | (i, v) :: r, cs, cs', hw, hc, e => by
    unfold TA at e
    split at e
    · rename_i off m hp
      split at e
      · rename_i vs hv
        split at e
        · split at e
          · refine Vw (fun p hp => hw p (List.mem_cons_of_mem _ hp)) (Up vs cs off ?_ hc) e
            have h1 := hw (i,v) (List.mem_cons_self ..)
            cases v with
            | one c => cases hv; exact Ac.2 fun z hz => by rcases List.mem_singleton.1 hz with rfl; exact h1
            | agg l => cases hv; exact h1
            | tup l => cases hv
            | fnv f gs ps => cases hv
          · cases e
        · cases e
      · cases e
    · cases e
theorem Zb {m sz : Nat} {zc : List CV} {f : CV → Value} (h : zc.length = sz) (h0 : 0 < sz) : (fA m sz zc).map f = (List.range (m * sz)).map fun i => (zc.map f)[i % sz]! := by
  unfold fA
  rw [List.map_map]
  refine List.map_congr_left fun i _ => ?_
  have hlt : i % sz < zc.length := by rw [h]; exact Nat.mod_lt _ h0
  simp only [Function.comp,List.getElem?_eq_getElem hlt,Option.getD_some]
  rw [List.getElem!_eq_getElem?_getD,List.getElem?_eq_getElem (by rw [List.length_map]; exact hlt)]
  simp
theorem j4 {tb : Tb} (T : TbOk E P tb) (h : Rel E B θ n ds S a w σ ρ ι) {t m d : Nat} {l : List (Nat × Operand)} {ps : List (Nat × AV)} {k : AV → St E.c → Tree R} {r : R} (hn : Nat.blt d n = true) (hp : T9 S l = some ps) (hk : LW S ps = true) (e : (o0 E tb t m ps S k).den = some r) (K : Qu E P B θ n ds S k r ops Q rest d) :
    wpList P ops Q (⟨some d,.buildSlice t m l.toArray,ty,pos,aft,none⟩ :: rest) a w := by
  unfold o0 at e
  split at e
  · rename_i e0 u by_ ht
    split at e
    · rename_i zc hz
      split at e
      · rename_i hzl
        have hzl := Nat.eq_of_beq_eq_true hzl
        split at e
        · rename_i hm
          split at e
          · rename_i cs hf
            split at e
            · rename_i l' hl
              obtain ⟨z,g1,g2,_⟩ := T.zr _ (A9 hz)
              obtain ⟨q1,q2⟩ := UL h hp
              obtain ⟨p1,lx,p2,p3⟩ := fH h hl
              have E1 := T.et ht
              refine Ps (z := z) (u.rp E.r).seen lx h.fr h.st hn E1 g1 hm q1 (by rw [g2 E.sz σ ρ,List.length_map]; exact hzl) ?_ rfl (by rw [← p1, ← p2,List.length_map]) p3 fun v' a' w' hf' hW' => ?_
              · rw [g2 E.sz σ ρ, ← Zb hzl E1.pos]
                exact VG h hk hf
              · obtain ⟨c1,c2⟩ := h.toStC.noC
                exact newRow (S0 := { S with C := [] }) (zi := ⟨.own e0,u,l'⟩) h c1 c2 rfl rfl rfl ⟨_,p2,rfl⟩ hW' hf' e K
            · cases e
          · cases e
        · cases e
      · cases e
    · cases e
  · cases e
theorem jK {M : Cn} {Z : List It} {F : List (Nat × Value)} {o : Oper} {d : Nat} {v : Value} (hF : Fr n ds F a) (hW : Stw B M Z w) (hwt : Region.wanted o (yielded ops a.tmps) = true) (hd : o.dst = some d) (hn : Nat.blt d n = true) (y : Yx P B M Z a o v) (k : ∀ a',Fr n ds ((d,v) :: F) a' → wpList P ops Q rest a' w) : wpList P ops Q (o :: rest) a w := by
  unfold wpList
  rw [if_pos hwt]
  refine .inl ?_
  unfold Oper.wp
  rw [y w hW]
  exact k _ (by rw [hd]; exact hF.put (Nat.le_of_ble_eq_true hn) v)
theorem Qi (h : Rel E B θ n ds S a w σ ρ ι) {dflt p : Int} {q : Option Operand} : aO S dflt q = some p → match q with | none => p = dflt | some q => CM (S.ff E σ ρ) q = some (.int .i64 p) := by
  intro e
  cases q with
  | none => cases e; rfl
  | some q =>
    have e : (match Gp S q with | some (.one (.int .i64 p)) => some p | _ => none) = some p := e
    show CM (S.ff E σ ρ) q = _
    split at e
    · rename_i hq
      cases e
      exact (h.op hq).1
    · cases e
theorem gX {tb : Tb} (T : TbOk E P tb) (h : Rel E B θ n ds S a w σ ρ ι) {t z d : Nat} {s : Operand} {lo hi : Option Operand} {k : AV → St E.c → Tree R} {r : R} (hn : Nat.blt d n = true) (hs : Gp S s = some (.one (.sl z))) (e : (pH E tb t z lo hi S k).den = some r) (K : Qu E P B θ n ds S k r ops Q rest d) :
    wpList P ops Q (⟨some d,.slice t s lo hi none,ty,pos,aft,none⟩ :: rest) a w := by
  unfold pH at e
  split at e
  · rename_i ver kk u l hz
    split at e
    · rename_i e0 u' b' ht
      split at e
      · rename_i hu
        obtain rfl := U.same_eq hu
        split at e
        · rename_i lo' hlo
          split at e
          · rename_i hi' hhi
            have hm := A9 hz
            obtain ⟨lx,e1,e2,e3⟩ := h.rdc (M := S.mm E σ ρ) (fun _ h => h) hz
            have hok := h.st.items (ι z) (List.mem_map.2 ⟨_,hm,rfl⟩)
            rw [e2] at hok
            have hlen : (lx.length : Int) = (l.length : Int) := by
              have := congrArg List.length e1
              simp at this
              omega
            have go : ∀ l2,K0 l lo' hi' = some l2 → WU E B w (Am (S.mm E σ ρ) (S.zz ι)) ⟨kk,u,l2⟩ (H0 (σ z) lo' hi' (E.sz u)) → (k (.one (.sl S.nz)) (S.addZ ⟨kk,u,l2⟩)).den = some r → wpList P ops Q (⟨some d,.slice t s lo hi none,ty,pos,aft,none⟩ :: rest) a w := by
              intro l2 hs2 hI e
              obtain ⟨lx2,g1,g2⟩ := iZ e1 hs2
              refine jK h.fr h.st (BA rfl) rfl hn (iV (r := (u.rp E.r).seen) (v := σ z) (l := lx) (lo := lo') (hi := hi') (T.et ht) h.fr (h.op hs).1 (Qi h hlo) ?_ e3 g1) fun a' hf => ?_
              · have := Qi h hhi
                cases hi with
                | none => simp only at this ⊢; rw [hlen]; exact this
                | some q => exact this
              · obtain ⟨it,hb,h1,ga⟩ := h.noteZ hI
                exact K _ _ a' w _ _ _ (Ext.addZ S _) (h.put' (v := .one (.sl S.nz)) h1.toStC rfl ga h1.st (Nat.ble_eq_true_of_le (Nat.lt_succ_self S.nz)) DX hf) e
            split at e
            · cases e
            · rename_i hk
              obtain ⟨l2,hs2,e⟩ := Option.bind_eq_some_iff.1 e
              refine go l2 hs2 ?_ e
              cases kk with
              | own q9 => exact absurd rfl (hk q9)
              | frz =>
                have hh : Sl w (Fz B (Am (S.mm E σ ρ) (S.zz ι))) (u.rp E.r).seen (σ z) lx := hok
                exact (hh.hide (Ex.seen _) e1).sub hs2
              | rd =>
                have hh : Sl B.w0 (NX B.X) (u.rp E.r).seen (σ z) lx := hok
                exact (hh.hide (Ex.seen _) e1).sub hs2
          · cases e
        · cases e
      · cases e
    · cases e
  · cases e
end
end Go.Proofs.YtpckgggmgijiiaaGreatDoor
namespace Go.Proofs.YtpckgggmgijiiaaGreatDoor
set_option linter.unusedVariables false
set_option linter.unusedSimpArgs false
open Go Go.RowKit
section
variable {E : TE} {P : Program} {B : Bs} {θ : Pin} {n : Nat} {ds : List Deferred} {S : St E.c} {a : Act} {w : World} {σ : Nat → Value} {ρ : Nat → Nat} {ι : Nat → It} {R : Type}
variable {ops : Array Oper} {Q : Exit → Act → World → Prop} {rest : List Oper} {ty : TypeId} {pos : String} {aft : Array Edge}
theorem Ext.putC {c : Nat → Type} (S : St c) (d : Nat) (v : AV) (x : X2 c) : Ext S (S.putC d v x) := by
  cases x with
  | none => exact Ext.put S d v
  | some q => exact ⟨(Ext.put S d v).v,(Ext.put S d v).F,(Ext.put S d v).M,(Ext.put S d v).Z,(Ext.put S d v).V⟩
theorem Rel.putC (h : Rel E B θ n ds S a w σ ρ ι) {d : Nat} {v : AV} {x : X2 E.c} {a' : Act} (hx : Ys S v x) (hv : v.wf S.nz S.nb = true) (hF : Fr n ds ((d,v.val E.sz σ ρ) :: S.ff E σ ρ) a') : Rel E B θ n ds (S.putC d v x) a' w σ ρ ι := by
  have h1 := h.put hv hF
  cases x with
  | none => exact h1
  | some q =>
    obtain ⟨z,i,o,k,l,e1,e2,e3⟩ := hx q rfl
    have hca : ∀ p ∈ (d,q) :: (S.put d v).C,rO (S.put d v) p := fun p hp => by
      rcases List.mem_cons.1 hp with rfl | hp
      · refine ⟨S.nv,z,i,o,k,l, ?_,e2,e3⟩
        show Cw ((d,S.nv,v) :: S.F) d = _
        rw [Dm,e1]
      · exact h1.ca p hp
    exact { it := h1.it,wF := h1.wF,wM := h1.wM,wZ := h1.wZ,nZ := h1.nZ,pn := h1.pn,pi := h1.pi,fr := h1.fr,st := h1.st,ca := hca }
theorem Rel.rests (h : Rel E B θ n ds S a w σ ρ ι) (m : Nat) (cs : List CV) : ∃ ι',Rel E B θ n ds (Nt m cs S) a w σ ρ ι' ∧ Tk S (Nt m cs S) := by
  obtain ⟨ι',h1,h2,h3⟩ := UI (X := []) m cs h.toStC h.st
  refine ⟨ι', { toStC := h1,fr := ?_,st := h2 },h3⟩
  show Fr n ds ((Nt m cs S).F.map _) a
  rw [h3.fF]; exact h.fr
theorem Rel.restA : ∀ (ps : List (Nat × AV)) {S : St E.c} {ι : Nat → It},Rel E B θ n ds S a w σ ρ ι → ∃ ι',Rel E B θ n ds (Q5 ps S) a w σ ρ ι' ∧ Tk S (Q5 ps S)
  | [],S,ι,h => ⟨ι,h,Tk.refl S⟩
  | (i,v) :: r,S,ι,h => by
    show ∃ ι',Rel E B θ n ds (Q5 r (match v.cells with | some cs => Nt cs.length cs S | none => S)) a w σ ρ ι' ∧ Tk S (Q5 r (match v.cells with | some cs => Nt cs.length cs S | none => S))
    cases v.cells with
    | none => exact Rel.restA r h
    | some cs =>
      obtain ⟨ι1,h1,t1⟩ := h.rests cs.length cs
      obtain ⟨ι2,h2,t2⟩ := Rel.restA r h1
      exact ⟨ι2,h2,t1.trans t2⟩
theorem US {S' : St E.c} (t : Tk S S') (x : Operand) : Gp S' x = Gp S x := by
  cases x with
  | tmp i => show (match Cw S'.F i with | some x => some x.2 | none => none) = _; rw [t.fF]; rfl
  | _ => rfl
theorem Un {S' : St E.c} (t : Tk S S') : ∀ l : List (Nat × Operand),T9 S' l = T9 S l
  | [] => rfl
  | (i,x) :: l => by unfold T9; rw [US t,Un t l]
theorem Y8 {x y : Operand} {k : IntKind} {p : Int} (h : Xw x y = true) (e : Gp S x = some (.one (.int k p))) : ∃ k',Gp S y = some (.one (.int k' p)) := by
  unfold Xw at h
  split at h
  · rw [← Nat.eq_of_beq_eq_true h]; exact ⟨k,e⟩
  · rename_i k1 p1 k2 q
    obtain rfl := of_decide_eq_true h
    cases e
    exact ⟨k2,rfl⟩
  · cases h
theorem X8 {o : Oper} (hw : Region.wanted o (yielded ops a.tmps) = true) (h : wpList P ops Q (⟨o.dst,o.op,o.type,o.pos,o.after,none⟩ :: rest) a w) : wpList P ops Q (o :: rest) a w := by
  obtain ⟨dst,op,t,pos,aft,g⟩ := o
  unfold wpList at h ⊢
  rw [if_pos hw]
  rw [if_pos (BA rfl)] at h
  exact h
theorem eR : ∀ {gs : List (Bool × List CV)},Bl (fun p => match p with | (false,[]) => false | _ => true) gs = true → (gs.map sC).map (AV.val E.sz σ ρ) = gs.map (Jr E.sz σ ρ) := fun {gs} h => by
  rw [List.map_map]
  refine List.map_congr_left fun p hp => ?_
  have := Ac.1 h p hp
  obtain ⟨q,l⟩ := p
  cases q with
  | true => rfl
  | false =>
    cases l with
    | nil => cases this
    | cons c l => rfl
theorem mO (h : Rel E B θ n ds S a w σ ρ ι) {fo : Operand} {f : Nat} {us ps : List AV} (e : oX S fo = some (f,us,ps)) : (∃ gs fs : List Value,CM (S.ff E σ ρ) fo = some (.func (.func f) gs.toArray fs.toArray) ∧ us.map (AV.val E.sz σ ρ) = gs ∧ ps.map (AV.val E.sz σ ρ) = fs) ∧ (∀ v ∈ us,v.wf S.nz S.nb = true) ∧ ∀ v ∈ ps,v.wf S.nz S.nb = true := by
  unfold oX at e
  split at e
  · rename_i f' hf
    cases e
    exact ⟨⟨[],[],(h.op hf).1,rfl,rfl⟩,(fun _ h => nomatch h),(fun _ h => nomatch h)⟩
  · rename_i f' gs ps' hf
    split at e
    · rename_i hg
      cases e
      obtain ⟨w1,w2⟩ := U4 (h.op hf).2
      refine ⟨⟨_,_,(h.op hf).1,eR hg,by rw [List.map_map]; rfl⟩,fun v hv => ?_,fun v hv => ?_⟩
      · obtain ⟨p,hp,rfl⟩ := List.mem_map.1 hv
        have hp1 := Ac.1 w2 p hp
        have hp2 := Ac.1 hg p hp
        obtain ⟨q,l⟩ := p
        cases q with
        | true => exact hp1
        | false =>
          cases l with
          | nil => cases hp2
          | cons c l => exact Ac.1 hp1 c (List.mem_cons_self ..)
      · obtain ⟨c,hc,rfl⟩ := List.mem_map.1 hv
        exact Ac.1 w1 c hc
    · cases e
  · cases e
theorem dY (h : Rel E B θ n ds S a w σ ρ ι) {fo : Operand} {xs : List Operand} {f : Nat} {us vs ps : List AV} (e : oX S fo = some (f,us,ps)) (hx : S9 S xs = some vs) : mD (S.ff E σ ρ) fo xs = some (f,(us ++ vs ++ ps).map (AV.val E.sz σ ρ)) ∧ ∀ v ∈ us ++ vs ++ ps,v.wf S.nz S.nb = true := by
  obtain ⟨⟨gs,fs,h1,h2,h3⟩,h4,h5⟩ := mO h e
  obtain ⟨k1,k2⟩ := h.ops hx
  refine ⟨?_,fun v hv => ?_⟩
  · unfold mD
    rw [h1,k1]
    subst h2 h3
    simp
  · rcases List.mem_append.1 hv with hv | hv
    · rcases List.mem_append.1 hv with hv | hv
      · exact h4 v hv
      · exact k2 v hv
    · exact h5 v hv
theorem dJ {G : GC E P} (hG : ConsOk B G) (h : Rel E B θ n ds S a w σ ρ ι) {f d : Nat} {fo : Operand} {xs : List Operand} {us vs ps : List AV} {ts : Array TypeId} {k : AV → St E.c → Tree R} {r : R} (hn : Nat.blt d n = true) (hf : oX S fo = some (f,us,ps)) (hx : S9 S xs = some vs) (e : (TN E G f (us ++ vs ++ ps) S k).den = some r) (K : Qu E P B θ n ds S k r ops Q rest d) :
    wpList P ops Q (⟨some d,.call ⟨.value fo,xs.toArray,ts⟩,ty,pos,aft,none⟩ :: rest) a w := by
  obtain ⟨h1,h2⟩ := dY h hf hx
  obtain ⟨Ml,Mr,Zl,Zr,β,rv,MM,ZZ,hW,hP,hc,hk⟩ := Ws hG h h2 e
  refine dQ (Ml := Ml) (M := Mr) (Zl := Zl) (Z := Zr) (rv := rv) (MM := MM) (ZZ := ZZ) h.fr hW hP h1 hn hc fun x a' w' hf' hW' => ?_
  obtain ⟨v,S',σ',ι',x1,s1,s2,s3,s4,s5,s6,s7⟩ := hk x w' hW'
  exact K v S' a' w' σ' ρ ι' x1 (h.put' s1 s3 s4 s2 s5 s6 hf') s7
theorem bD {G : GC E P} (hG : ConsOk B G) (h : Rel E B θ n ds S a w σ ρ ι) {f : Nat} {fo : Operand} {xs : List Operand} {us vs ps : List AV} {ts : Array TypeId} {k : AV → St E.c → Tree R} {r : R} (hf : oX S fo = some (f,us,ps)) (hx : S9 S xs = some vs) (e : (TN E G f (us ++ vs ++ ps) S k).den = some r) (K : ∀ v S' w' σ' ι',Ext S S' → Rel E B θ n ds S' a w' σ' ρ ι' → (k v S').den = some r → wpList P ops Q rest a w') :
    wpList P ops Q (⟨none,.call ⟨.value fo,xs.toArray,ts⟩,ty,pos,aft,none⟩ :: rest) a w := by
  obtain ⟨h1,h2⟩ := dY h hf hx
  obtain ⟨Ml,Mr,Zl,Zr,β,rv,MM,ZZ,hW,hP,hc,hk⟩ := Ws hG h h2 e
  refine Z6 (Ml := Ml) (M := Mr) (Zl := Zl) (Z := Zr) (rv := rv) (MM := MM) (ZZ := ZZ) h.fr hW hP h1 hc fun x w' hW' => ?_
  obtain ⟨v,S',σ',ι',x1,s1,s2,s3,s4,s5,s6,s7⟩ := hk x w' hW'
  exact K v S' w' σ' ι' x1 (h.of s1 s3 s4 s2) s7
theorem Qq.toV {k : St E.c → Tree R} {r : R} {d : Nat} (K : Qq E P B θ n ds S k r ops Q rest) : Qu E P B θ n ds S (fun v S' => k (S'.put d v)) r ops Q rest d :=
  fun v S' a' w' σ' ρ' ι' x h e => K _ a' w' σ' ρ' ι' (x.trans (Ext.put S' d v)) h e
theorem Qq.ext {k : St E.c → Tree R} {r : R} {S0 : St E.c} (x : Ext S S0) (K : Qq E P B θ n ds S k r ops Q rest) : Qq E P B θ n ds S0 k r ops Q rest :=
  fun S' a' w' σ' ρ' ι' x' h e => K S' a' w' σ' ρ' ι' (x.trans x') h e
theorem mU {tb : Tb} {t z o p m : Nat} {agg : Bool} {u : U} {i : Int} {vs : List CV} {v : AV} {py : Operand} {k : St E.c → Tree R} {r : R} (h : Rel E B θ n ds S a w σ ρ ι) (hx : Gp S (.tmp p) = some (.one (.ep z u i o))) (hy : Gp S py = some v) (hc : v.cells = some vs) (hk : KV S vs = true)
    (T : Ty P t agg m) (hm : vs.length = m) (hle : Nat.ble (o + vs.length) (E.sz u) = true) (e : (xK E z u i o p vs S k).den = some r) (K : Qq E P B θ n ds S k r ops Q rest) : wpList P ops Q (⟨none,.store t (.tmp p) py,ty,pos,aft,none⟩ :: rest) a w := by
  unfold xK at e
  split at e
  · rename_i ver' e0 u2 l hz
    have hzm := A9 hz
    have hp : ∃ ver0,Cw S.F p = some (ver0,.one (.ep z u i o)) := by
      have hx' : (match Cw S.F p with | some x => some x.2 | none => none) = some (AV.one (.ep z u i o)) := hx
      split at hx'
      · rename_i x hx2
        obtain ⟨q1,q2⟩ := x
        cases hx'
        exact ⟨q1,hx2⟩
      · cases hx'
    obtain ⟨ver0,hp⟩ := hp
    split at e
    · rename_i ver u' x hcc
      split at e
      · rename_i hv
        obtain rfl := Nat.eq_of_beq_eq_true hv
        obtain ⟨v',z',i',o',k',l',c1,c2,c3⟩ := h.ca _ (A9 hcc)
        simp only at c1 c2 c3
        rw [hp] at c1
        cases c1
        have c4 := FR h.nZ c2
        rw [hz] at c4
        cases c4
        exact X6 h hx hy hc hk T hm hle c2 c3 e K
      · cases e
    · split at e
      · rename_i hu
        obtain rfl := U.same_eq hu
        obtain ⟨x,hix,e⟩ := Option.bind_eq_some_iff.1 e
        exact X6 h hx hy hc hk T hm hle hzm hix e K
      · cases e
  · cases e
theorem jE {tb : Tb} (T : TbOk E P tb) (h : Rel E B θ n ds S a w σ ρ ι) {d : Nat} {op : Op} {k : St E.c → Tree R} {r : R} (hn : Nat.blt d n = true) (e : (qC E tb op S fun v x S' => k (S'.putC d v x)).den = some r) (K : Qq E P B θ n ds S k r ops Q rest) :
    wpList P ops Q (⟨some d,op,ty,pos,aft,none⟩ :: rest) a w := by
  obtain ⟨v,x,S',σ',ι',h1,x1,e1,hv,hcc,hag,_,_,⟨hF,_⟩,_,hy⟩ := bT (dst := some d) (ty := ty) (pos := pos) (aft := aft) (g := none) T h e
  exact jK h1.fr h1.st (BA rfl) rfl hn (hy _ _ (fun _ h => h) (fun _ h => h)) fun a' hf => K _ a' w σ' ρ ι' (x1.trans (Ext.putC S' d v x)) (h1.putC hcc hv hf) e1
theorem cA {tb : Tb} (T : TbOk E P tb) {G : GC E P} (hG : ConsOk B G) (h : Rel E B θ n ds S a w σ ρ ι) {dst : Option Tmp} {op : Op} {k : St E.c → Tree R} {r : R} (e : (vA E tb G n S k dst op).den = some r) (K : Qq E P B θ n ds S k r ops Q rest) :
    wpList P ops Q (⟨dst,op,ty,pos,aft,none⟩ :: rest) a w := by
  unfold vA at e
  split at e
  · rename_i d op
    split at e
    · cases e
    · rename_i hn
      split at e
      · rename_i t
        split at e
        · rename_i zc hz
          obtain ⟨z,g1,g2,g3⟩ := T.zr _ (A9 hz)
          have hwz : Bl (CV.wf S.nz S.nb) zc = true := DA (fun _ => CV.wf_mono (Nat.zero_le _) (Nat.zero_le _)) g3
          exact GM h.fr h.st hn g1 (g2 E.sz σ ρ) fun b a' w' hf hW => XQ h hwz e K hf hW
        · cases e
      · split at e
        · rename_i v hv
          split at e
          · rename_i cs hcs
            split at e
            · rename_i hkn
              have o1 := h.op hv
              obtain ⟨c1,c2⟩ := h.cells1 hcs hkn
              have hwz : Bl (CV.wf S.nz S.nb) cs = true := by
                cases v with
                | one c => cases hcs; exact Ac.2 fun z hz => by rcases List.mem_singleton.1 hz with rfl; exact o1.2
                | agg l => cases hcs; exact o1.2
                | tup l => cases hcs
                | fnv f gs ps => cases hcs
              exact H7 h.fr h.st hn o1.1 c1 fun b a' w' hf hW => XQ h hwz e K hf hW
            · cases e
          · cases e
        · cases e
      · split at e
        · rename_i hs
          split at e
          · rename_i kk nn hl
            obtain ⟨k',hc⟩ := Y8 hs hl
            exact aZ T h hn hl hc e K.toV
          · cases e
        · cases e
      · split at e
        · rename_i ps hps
          split at e
          · rename_i hkn
            obtain ⟨ι1,h1,t1⟩ := Rel.restA ps h
            exact j4 T h1 hn (by rw [Un t1]; exact hps) hkn e (K.ext t1.toExt).toV
          · cases e
        · cases e
      · split at e
        · rename_i ps hps
          split at e
          · rename_i hkn
            split at e
            · rename_i zc pl hb
              split at e
              · rename_i cs hf
                obtain ⟨ι1,h0,t1⟩ := Rel.restA (tH S ps) h
                obtain ⟨q1,q2⟩ := UL h0 (by rw [Un t1]; exact hps)
                obtain ⟨b1,b2⟩ := T.bt.mem _ (A9 hb)
                have hwz : Bl (CV.wf (Q5 (tH S ps) S).nz (Q5 (tH S ps) S).nb) zc = true := DA (fun _ => CV.wf_mono (Nat.zero_le _) (Nat.zero_le _)) b2
                have hwf := Vw q2 hwz hf
                exact jK h0.fr h0.st (BA rfl) rfl hn (Gh (b1 E.sz σ ρ) h0.fr q1 (Wo h0 hkn hf) rfl) fun a' hf => K _ a' w σ ρ ι1 (t1.toExt.trans (Ext.put _ _ _)) (h0.put (v := .agg cs) hwf hf) e
              · cases e
            · cases e
          · cases e
        · cases e
      · split at e
        · rename_i z hs
          obtain ⟨ι1,h1,t1⟩ := h.rests 1 [.sl z]
          exact gX T h1 hn (by rw [US t1]; exact hs) e (K.ext t1.toExt).toV
        · rename_i l hs
          split at e
          · rename_i ht
            split at e
            · rename_i lo' hlo
              split at e
              · rename_i hi' hhi
                obtain ⟨l2,hl2,e⟩ := Option.bind_eq_some_iff.1 e
                exact jK h.fr h.st (BA rfl) rfl hn (QQ (T.str ht) h.fr (h.op hs).1 (Qi h hlo) (Qi h hhi) hl2) fun a' hf => K _ a' w σ ρ ι (Ext.put S _ _) (h.put (v := .one (.str l2)) rfl hf) e
              · cases e
            · cases e
          · cases e
        · cases e
      · split at e
        · rename_i ht
          have ht := Nat.eq_of_beq_eq_true ht
          subst ht
          split at e
          · rename_i s hs
            split at e
            · rename_i q hq
              exact jU T h hn hs hq e K.toV
            · cases e
          · cases e
        · cases e
      · split at e
        · rename_i f hf
          split at e
          · rename_i vs hx
            exact dJ hG h hn hf hx e K.toV
          · cases e
        · cases e
      · exact jE T h hn e K
  · split at e
    · rename_i t x y _ agg m ht
      have TT := T1 T.tt ht
      split at e
      · rename_i v hv
        split at e
        · rename_i vs hvs
          split at e
          · rename_i hm
            have hm := Nat.eq_of_beq_eq_true hm
            split at e
            · rename_i hkn
              split at e
              · rename_i b o hx
                exact jO h hx hv hvs hkn TT hm e K
              · rename_i z u i o hx
                split at e
                · rename_i p
                  split at e
                  · rename_i hle
                    split at e
                    · rename_i hk2
                      obtain ⟨ι1,h1,t1⟩ := h.rests vs.length vs
                      exact mU (tb := tb) h1 (by rw [US t1]; exact hx) (by rw [US t1]; exact hv) hvs hk2 TT hm hle e (K.ext t1.toExt)
                    · cases e
                  · cases e
                · cases e
              · cases e
            · cases e
          · cases e
        · cases e
      · cases e
    · cases e
  · split at e
    · rename_i f hf
      split at e
      · rename_i vs hx
        exact bD hG h hf hx e fun v S' w' σ' ι' x h' e' => K S' a w' σ' ρ ι' x h' e'
      · cases e
    · cases e
  · cases e
end
end Go.Proofs.YtpckgggmgijiiaaGreatDoor
namespace Go.Proofs.YtpckgggmgijiiaaGreatDoor
set_option linter.unusedVariables false
set_option linter.unusedSimpArgs false
open Go Go.RowKit
def Sw : List (Option CK) → List CK
  | [] => []
  | none :: l => Sw l
  | some q :: l => q :: Sw l
def QA (E : TE) : List (Option CK) → List CV → Option (List CV)
  | [],[] => some []
  | [],_ :: _ => none
  | none :: l,_ :: cs => QA E l cs
  | none :: _,[] => none
  | some q :: l,cs => match YI (Ap E [q]) cs with
    | some c1 => match QA E l (Yi (Ap E [q]) cs) with | some r => some (c1 ++ r) | none => none
    | none => none
def JI (E : TE) {α : Type _} : List (Option CK) → List α → List α → List α
  | [],_,_ => []
  | none :: l,o :: old,new => o :: JI E l old new
  | none :: l,[],new => JI E l [] new
  | some q :: l,old,new => new.take (Ap E [q]) ++ JI E l (old.drop (Ap E [q])) (new.drop (Ap E [q]))
def VX (E : TE) {c : Nat → Type} (S0 S : St c) (k : Nat) : List (Option CK) → Nat → Bool
  | [],_ => true
  | none :: l,i => match TK S0 k i with
    | some v => match TK S k i with
      | some v' => match Nat.beq v v' && Nat.blt v S0.nv with | true => VX E S0 S k l (i + 1) | false => false
      | none => false
    | none => false
  | some q :: l,i => VX E S0 S k l (i + Ap E [q])
def PW (E : TE) (f : Nat → Option Nat) (nv : Nat) : List (Option CK) → Nat → List Nat
  | [],_ => []
  | none :: l,i => (f i).getD nv :: PW E f nv l (i + 1)
  | some q :: l,i => List.replicate (Ap E [q]) nv ++ PW E f nv l (i + Ap E [q])
def XL (E : TE) : List (Option CK) → Nat
  | [] => 0
  | none :: l => 1 + XL E l
  | some q :: l => Ap E [q] + XL E l
def Lt (E : TE) {c : Nat → Type} (S0 : St c) : List (Nat × List (Option CK)) → List CV → Option (List (Nat × List CV))
  | [],_ => some []
  | (k, l) :: r, new => match Cw S0.M k with
    | some (_,cs) => match Nat.beq cs.length (XL E l) with
      | true => match YI (Ap E (Sw l)) new with
        | some c1 => match Lt E S0 r (Yi (Ap E (Sw l)) new) with
          | some m => some ((k,JI E l cs c1) :: m)
          | none => none
        | none => none
      | false => none
    | none => none
def eW (E : TE) {c : Nat → Type} (S0 : St c) (nv : Nat) : List (Nat × List (Option CK)) → List (Nat × List Nat)
  | [] => []
  | (k,l) :: r => (k,PW E (TK S0 k) nv l 0) :: eW E S0 nv r
def UP (E : TE) {c : Nat → Type} (S0 S : St c) : List (Nat × List (Option CK)) → Bool
  | [] => true
  | (k,l) :: r => match VX E S0 S k l 0 with | true => UP E S0 S r | false => false
section
variable {E : TE}
theorem QZ {f : Nat → Option Nat} {nv : Nat} : ∀ (l : List (Option CK)) (j : Nat),(PW E f nv l j).length = XL E l
  | [],j => rfl
  | none :: l,j => by simp only [PW,List.length_cons,QZ l,XL]; omega
  | some q :: l,j => by simp only [PW,List.length_append,List.length_replicate,QZ l,XL]
theorem LY {α β : Type _} (f : α → β) : ∀ (l : List (Option CK)) (old new : List α),(JI E l old new).map f = JI E l (old.map f) (new.map f)
  | [],_,_ => rfl
  | none :: l,o :: old,new => by simp only [JI,List.map_cons,LY f l]
  | none :: l,[],new => by simp only [JI,List.map_nil]; exact LY f l [] new
  | some q :: l,old,new => by simp only [JI,List.map_append,LY f l,List.map_take,List.map_drop]
theorem Ox {α : Type _} {x : α} : ∀ {l : List (Option CK)} {old new : List α},x ∈ JI E l old new → x ∈ old ∨ x ∈ new
  | [],_,_,h => nomatch h
  | none :: l,o :: old,new,h => by
    rcases List.mem_cons.1 h with rfl | h
    · exact .inl (List.mem_cons_self ..)
    · rcases Ox (l := l) h with h | h
      · exact .inl (List.mem_cons_of_mem _ h)
      · exact .inr h
  | none :: l,[],new,h => Ox (l := l) (old := []) h
  | some q :: l,old,new,h => by
    rcases List.mem_append.1 h with h | h
    · exact .inr (List.mem_of_mem_take h)
    · rcases Ox (l := l) h with h | h
      · exact .inl (List.mem_of_mem_drop h)
      · exact .inr (List.mem_of_mem_drop h)
theorem RX {S0 S : St E.c} (x : Ext S0 S) {k v0 v1 : Nat} {cs0 cs : List CV} (h0 : Cw S0.M k = some (v0,cs0)) (h1 : Cw S.M k = some (v1,cs)) : ∀ (l : List (Option CK)) (i : Nat) (y : List CV),VX E S0 S k l i = true → QA E l (cs.drop i) = some y → JI E l (cs0.drop i) y = cs.drop i
  | [],i,y,hk,hp => by
    cases hd : cs.drop i with
    | nil => rfl
    | cons a r => rw [hd] at hp; cases hp
  | none :: l, i, y, hk, hp => by
    cases hd : cs.drop i with
    | nil => rw [hd] at hp; cases hp
    | cons a r =>
      rw [hd] at hp
      unfold VX at hk
      split at hk
      · rename_i v hv
        split at hk
        · rename_i v' hv'
          split at hk
          · rename_i hb
            simp only [Bool.and_eq_true] at hb
            obtain rfl := Nat.eq_of_beq_eq_true hb.1
            have hlt := Nat.le_of_ble_eq_true hb.2
            have e1 := (x.V k i v hv' hlt).2
            unfold gI at e1
            rw [h0,h1] at e1
            simp only at e1
            have ha : cs[i]? = some a := by
              have := congrArg (·[0]?) hd
              simpa using this
            rw [ha] at e1
            have hi : i < cs0.length := by
              rcases Nat.lt_or_ge i cs0.length with h | h
              · exact h
              · rw [List.getElem?_eq_none h] at e1; cases e1
            have h2 : cs0.drop i = a :: cs0.drop (i + 1) := by
              rw [List.drop_eq_getElem_cons hi]
              rw [List.getElem?_eq_getElem hi] at e1
              rw [Option.some.inj e1]
            have h3 : r = cs.drop (i + 1) := by
              have := congrArg List.tail hd
              simpa using this.symm
            rw [h2]
            show a :: JI E l (cs0.drop (i + 1)) y = a :: r
            rw [h3] at hp ⊢
            rw [RX x h0 h1 l (i + 1) y hk hp]
          · cases hk
        · cases hk
      · cases hk
  | some q :: l,i,y,hk,hp => by
    unfold QA at hp
    split at hp
    · rename_i c1 hc
      split at hp
      · rename_i r hr
        cases hp
        obtain ⟨t1,t2⟩ := Ih hc
        rw [Ie,List.drop_drop] at hr
        have hl : c1.length = Ap E [q] := by rw [← t2,List.length_take]; omega
        have := RX x h0 h1 l (i + Ap E [q]) r hk (by rw [Nat.add_comm] at hr ⊢; first | exact hr | (rw [Nat.add_comm]; exact hr))
        unfold JI
        rw [List.take_left' hl,List.drop_left' hl,List.drop_drop,this, ← t2]
        rw [show cs.drop (i + Ap E [q]) = (cs.drop i).drop (Ap E [q]) by rw [List.drop_drop]]
        exact List.take_append_drop _ _
      · cases hp
    · cases hp
theorem Ur {f : Nat → Option Nat} {nv : Nat} : ∀ (l : List (Option CK)) (j i v : Nat) (old new : List CV),(PW E f nv l j)[i]? = some v → Ap E (Sw l) ≤ new.length → v = nv ∨ (f (j + i) = some v ∧ ∀ a,old[i]? = some a → (JI E l old new)[i]? = some a)
  | [],j,i,v,old,new,h,hn => by simp [PW] at h
  | none :: l,j,0,v,old,new,h,hn => by
    simp only [PW,List.getElem?_cons_zero,Option.some.injEq] at h
    cases hf : f j with
    | none => rw [hf] at h; exact .inl h.symm
    | some u =>
      rw [hf] at h
      refine .inr ⟨congrArg some h,fun a ha => ?_⟩
      cases old with
      | nil => simp at ha
      | cons o old => simpa [JI] using ha
  | none :: l,j,i + 1,v,old,new,h,hn => by
    simp only [PW,List.getElem?_cons_succ] at h
    rcases Ur l (j + 1) i v old.tail new h hn with h | ⟨h1,h2⟩
    · exact .inl h
    · refine .inr ⟨by rw [show j + (i + 1) = j + 1 + i by omega]; exact h1,fun a ha => ?_⟩
      cases old with
      | nil => simp at ha
      | cons o old => simpa [JI] using h2 a (by simpa using ha)
  | some q :: l,j,i,v,old,new,h,hn => by
    simp only [PW] at h
    have hc : Ap E (Sw (some q :: l)) = Ap E [q] + Ap E (Sw l) := by cases q <;> simp [Sw,Ap] <;> omega
    rw [hc] at hn
    rcases Nat.lt_or_ge i (Ap E [q]) with hi | hi
    · rw [List.getElem?_append_left (by rw [List.length_replicate]; exact hi),List.getElem?_replicate,if_pos hi] at h
      exact .inl (Option.some.inj h).symm
    · rw [List.getElem?_append_right (by rw [List.length_replicate]; exact hi),List.length_replicate] at h
      rcases Ur l (j + Ap E [q]) (i - Ap E [q]) v (old.drop (Ap E [q])) (new.drop (Ap E [q])) h (by rw [List.length_drop]; omega) with h | ⟨h1,h2⟩
      · exact .inl h
      · refine .inr ⟨by rw [show j + i = j + Ap E [q] + (i - Ap E [q]) by omega]; exact h1,fun a ha => ?_⟩
        unfold JI
        rw [List.getElem?_append_right (by rw [List.length_take]; omega),List.length_take,show i - min (Ap E [q]) new.length = i - Ap E [q] by omega]
        refine h2 a ?_
        rw [List.getElem?_drop,show Ap E [q] + (i - Ap E [q]) = i by omega]
        exact ha
end
end Go.Proofs.YtpckgggmgijiiaaGreatDoor
