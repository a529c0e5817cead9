/- One operation, a list of them. Conditions: none. -/
import Derived.Test.YtgoifghhcekahaaGreatDooreHQ
namespace Go.Proofs.YtgoifghhcekahaaGreatDoor
set_option linter.unusedVariables false
set_option linter.unusedSimpArgs false
open Go Go.RowKit
def WO (m : Nat) : List CV → List (Nat × AV) → Option (List CV)
  | cs, [] => some cs
  | cs, (i, v) :: r => match v.cells with
    | some vs => match Nat.beq vs.length m with
      | true => match Nat.ble (i * m + vs.length) cs.length with
        | true => WO m (O0 cs (i * m) vs) r
        | false => none
      | false => none
    | none => none
def Sv (pl : List (Nat × Nat)) : List CV → List (Nat × AV) → Option (List CV)
  | cs, [] => some cs
  | cs, (i, v) :: r => match Oc pl i with
    | some (off, m) => match v.cells with
      | some vs => match Nat.beq vs.length m with
        | true => match Nat.ble (off + vs.length) cs.length with
          | true => Sv pl (O0 cs off vs) r
          | false => none
        | false => none
      | none => none
    | none => none
def sJ (E : TE) (S : St E.c) (u : U) : Nat → List CV → Option (List (u.T E.c))
  | 0, [] => some []
  | 0, _ :: _ => none
  | m + 1, cs => match W7 (E.sz u) cs with
    | some c1 => match Zy false S .frz (iA E false S .frz 4) u c1 with
      | some (x, []) => match sJ E S u m (X5 (E.sz u) cs) with | some r => some (x :: r) | none => none
      | _ => none
    | none => none
def Sz {c : Nat → Type} (S : St c) : List (Nat × Operand) → Option (List (Nat × AV))
  | [] => some []
  | (i, x) :: l => match GM S x with | some v => (match Sz S l with | some r => some ((i, v) :: r) | none => none) | none => none
def KA {c : Nat → Type} (S : St c) (cs : List CV) : Bool := Bp (fun c => match c with | .sl z => (CY S.Z z).isSome | _ => true) cs
def PN {c : Nat → Type} : List (Nat × AV) → St c → St c
  | [], S => S
  | (_, v) :: r, S => PN r (match v.cells with | some cs => Nz cs.length cs S | none => S)
def KY {c : Nat → Type} (S : St c) : List (Nat × AV) → Bool
  | [] => true
  | (_, v) :: r => match v.cells with | some cs => (match KA S cs with | true => KY S r | false => false) | none => false
def q6 {c : Nat → Type} (S : St c) (ps : List (Nat × AV)) : List (Nat × AV) := ps.filter fun p => match p.2 with
  | .one (.sl z) => match CY S.Z z with
    | some (_, ⟨_, .tr _, _⟩) => true
    | _ => false
  | _ => false
def ZN (m sz : Nat) (zc : List CV) : List CV := (List.range (m * sz)).map fun i => (zc[i % sz]?).getD .nil
def lX {R : Type} (E : TE) (tb : Tb) (t m : Nat) (ps : List (Nat × AV)) (S : St E.c) (k : AV → St E.c → Tree R) : Tree R := match CY tb.sl t with
  | some (e, u, _) => match CY tb.zr e with
    | some zc => match Nat.beq zc.length (E.sz u) with
      | true => match Nat.ble (m * E.sz u) 16777216 with
        | true => match WO (E.sz u) (ZN m (E.sz u) zc) ps with
          | some cs => match sJ E S u m cs with
            | some l => k (.one (.sl S.nz)) ({ S with C := [] }.addZ ⟨.own e, u, l⟩)
            | none => .fail
          | none => .fail
        | false => .fail
      | false => .fail
    | none => .fail
  | none => .fail
def YD {c : Nat → Type} (S : St c) (dflt : Int) : Option Operand → Option Int
  | none => some dflt
  | some q => match GM S q with | some (.one (.int .i64 p)) => some p | _ => none
def jL {R : Type} (E : TE) (tb : Tb) (t z : Nat) (lo hi : Option Operand) (S : St E.c) (k : AV → St E.c → Tree R) : Tree R := match CY S.Z z with
  | some (_, ⟨kk, u, l⟩) => match CY tb.sl t with
    | some (_, u', _) => match u.same u' with
      | true => match YD S 0 lo with
        | some a => match YD S (l.length : Int) hi with
          | some b => match kk with
            | .own _ => .fail
            | kk => .bnd (I0 l a b) fun l2 => k (.one (.sl S.nz)) (S.addZ ⟨kk, u, l2⟩)
          | none => .fail
        | none => .fail
      | false => .fail
    | none => .fail
  | none => .fail
def St.putC {c : Nat → Type} (S : St c) (d : Nat) (v : AV) (x : W5 c) : St c := match x with
  | none => S.put d v
  | some q => { S.put d v with C := (d, q) :: (S.put d v).C }
def uK {R : Type} (E : TE) (z : Nat) (u : U) (i : Int) (o : Nat) (p : Nat) (vs : List CV) (S : St E.c) (k : St E.c → Tree R) : Tree R :=
  match CY S.Z z with
  | some (ver', ⟨.own e, u2, l⟩) => match CY S.C p with
    | some (ver, ⟨u', x⟩) => match Nat.beq ver ver' with
      | true => dB E z u' i o x vs S k
      | false => .fail
    | none => match u2.same u with
      | true => .bnd (ix l i) fun x => dB E z u2 i o x vs S k
      | false => .fail
  | _ => .fail
def qO : Bool × List CV → AV
  | (true, l) => .agg l
  | (false, c :: _) => .one c
  | (false, []) => .tup []
def j7 {c : Nat → Type} (S : St c) (x : Operand) : Option (Nat × List AV × List AV) := match GM S x with
  | some (.one (.fn f)) => some (f, [], [])
  | some (.fnv f gs ps) => match Bp (fun p => match p with | (false, []) => false | _ => true) gs with
    | true => some (f, gs.map qO, ps.map .one)
    | false => none
  | _ => none
def sF {R : Type} (E : TE) {P : Program} (tb : Tb) (G : Gy E P) (n : Nat) (S : St E.c) (k : St E.c → Tree R) : Option Tmp → Op → Tree R
  | some d, op => match Nat.blt d n with
    | false => .fail
    | true => match op with
      | .alloc t => match CY tb.zr t with | some zc => mS S d zc k | none => .fail
      | .box _ x => match GM S x with
        | some v => match v.cells with
          | some cs => match KA S cs with | true => mS S d cs k | false => .fail
          | none => .fail
        | none => .fail
      | .makeSlice t lo co => match VT lo co with
        | true => match GM S lo with
          | some (.one (.int _ nn)) => Z6 E tb t nn S fun v S' => k (S'.put d v)
          | _ => .fail
        | false => .fail
      | .buildSlice t m ⟨ps⟩ => match Sz S ps with
        | some ps => match KY (PN ps S) ps with
          | true => lX E tb t m ps (PN ps S) fun v S' => k (S'.put d v)
          | false => .fail
        | none => .fail
      | .build t ⟨ps⟩ => match Sz S ps with
        | some ps => match KY (PN (q6 S ps) S) ps with
          | true => match CY tb.bt t with
            | some (zc, pl) => match Sv pl zc ps with
              | some cs => k ((PN (q6 S ps) S).put d (.agg cs))
              | none => .fail
            | none => .fail
          | false => .fail
        | none => .fail
      | .slice t s lo hi none => match GM S s with
        | some (.one (.sl z)) => jL E tb t z lo hi (VB S (.sl z)) fun v S' => k (S'.put d v)
        | some (.one (.str l)) => match CY tb.st t with
          | some _ => match YD S 0 lo with
            | some a => match YD S (l.length : Int) hi with
              | some b => .bnd (I0 l a b) fun l2 => k (S.put d (.one (.str l2)))
              | none => .fail
            | none => .fail
          | none => .fail
        | _ => .fail
      | .call ⟨.builtin .append, ⟨[s, q]⟩, ⟨[t, t']⟩⟩ => match Nat.beq t t' with
        | true => match GM S s with
          | some s => match GM S q with
            | some q => jM E tb t s q S fun v S' => k (S'.put d v)
            | none => .fail
          | none => .fail
        | false => .fail
      | .call ⟨.value fo, ⟨xs⟩, _⟩ => match j7 S fo with
        | some (f, us, ps) => match Rc S xs with
          | some vs => RT E G f (us ++ vs ++ ps) S fun v S' => k (S'.put d v)
          | none => .fail
        | none => .fail
      | op => lQ E tb op S fun v x S' => k (S'.putC d v x)
  | none, .store t x y => match TO tb.tt.2 t with
    | some (_, m) => match GM S y with
      | some v => match v.cells with
        | some vs => match Nat.beq vs.length m with
          | true => match KA S vs with
            | true => match GM S x with
              | some (.one (.ptr b o)) => mK S b o vs k
              | some (.one (.ep z u i o)) => match x with
                | .tmp p => match Nat.ble (o + vs.length) (E.sz u) with
                  | true => match KA (Nz vs.length vs S) vs with
                    | true => uK E z u i o p vs (Nz vs.length vs S) k
                    | false => .fail
                  | false => .fail
                | _ => .fail
              | _ => .fail
            | false => .fail
          | false => .fail
        | none => .fail
      | none => .fail
    | none => .fail
  | none, .call ⟨.value fo, ⟨xs⟩, _⟩ => match j7 S fo with
    | some (f, us, ps) => match Rc S xs with
      | some vs => RT E G f (us ++ vs ++ ps) S fun _ S' => k S'
      | none => .fail
    | none => .fail
  | _, _ => .fail
def dG {R : Type} {c : Nat → Type} (l0 : List Oper) (S : St c) (yes no : St c → Tree R) : Option (Nat × Bool) → Tree R
  | none => yes S
  | some (i, t) => match Um l0 i with
    | some d => match CY S.F d with
      | some (_, .one (.bool b)) => match b with
        | .lit b => match b, t with | true, true => yes S | false, false => yes S | true, false => no S | false, true => no S
        | b => .ite b (match t with | true => yes (S.put d (.one (.bool (.lit true)))) | false => no (S.put d (.one (.bool (.lit true))))) (match t with | true => no (S.put d (.one (.bool (.lit false)))) | false => yes (S.put d (.one (.bool (.lit false)))))
      | some (_, .tup []) => no S
      | _ => .fail
    | none => .fail
def dL {R : Type} (E : TE) {P : Program} (tb : Tb) (G : Gy E P) (n : Nat) (l0 : List Oper) (k : St E.c → Tree R) : List Oper → St E.c → Tree R
  | [], S => k S
  | o :: l, S => dG l0 S (fun S => sF E tb G n S (dL E tb G n l0 k l) o.dst o.op) (fun S => match o.dst with
    | some d => match Nat.blt d n with | true => dL E tb G n l0 k l (S.put d (.tup [])) | false => .fail
    | none => .fail) o.guard
section
variable {E : TE} {P : Program} {B : Bs} {θ : Pin} {n : Nat} {ds : List Deferred} {S : St E.c} {a : Act} {w : World} {σ : Nat → Value} {ρ : Nat → Nat} {ι : Nat → It} {R : Type}
variable {ops : Array Oper} {Q : Exit → Act → World → Prop} {rest : List Oper} {ty : TypeId} {pos : String} {aft : Array Edge}
theorem aV (h : Rel E B θ n ds S a w σ ρ ι) {u : U} : ∀ {m : Nat} {cs : List CV} {l : List (u.T E.c)}, sJ E S u m cs = some l → l.length = m ∧ ∃ lx, lx.map Prod.snd = l ∧ BL (u.rp E.r).seen w (Fz B (An (S.mm E σ ρ) (S.zz ι))) (cs.map (CV.val E.sz σ ρ)) lx
  | 0, [], l, e => by cases e; exact ⟨rfl, [], rfl, rfl⟩
  | 0, _ :: _, l, e => nomatch e
  | m + 1, cs, l, e => by
    unfold sJ at e
    split at e
    · rename_i c1 h1
      split at e
      · rename_i x hx
        split at e
        · rename_i r hr
          cases e
          obtain ⟨g1, lx, g2, g3⟩ := aV h hr
          refine ⟨by simp [g1], (c1.map (CV.val E.sz σ ρ), x) :: lx, by simp [g2], ?_⟩
          rw [Xj _ h1]
          exact ⟨_, _, rfl, ⟨rfl, YA h.toStC (fun _ h => h) h.st (fun _ h => h) hx⟩, g3⟩
        · cases e
      · cases e
    · cases e
theorem SE (h : Rel E B θ n ds S a w σ ρ ι) : ∀ {l : List (Nat × Operand)} {ps : List (Nat × AV)}, Sz S l = some ps → i6 (S.ff E σ ρ) l = some (ps.map fun p => (p.1, p.2.val E.sz σ ρ)) ∧ ∀ p ∈ ps, p.2.wf S.nz S.nb = true
  | [], ps, e => by cases e; exact ⟨rfl, fun _ h => nomatch h⟩
  | (i, x) :: l, ps, e => by
    unfold Sz at e
    split at e
    · rename_i v e1
      split at e
      · rename_i r e2
        cases e
        have h1 := h.op e1
        have h2 := SE h e2
        exact ⟨by simp only [i6, h1.1, h2.1, List.map_cons], fun y hy => by
          rcases List.mem_cons.1 hy with rfl | hy
          · exact h1.2
          · exact h2.2 y hy⟩
      · cases e
    · cases e
theorem Vp (h : Rel E B θ n ds S a w σ ρ ι) {m : Nat} : ∀ {ps : List (Nat × AV)} {cs cs' : List CV}, KY S ps = true → WO m cs ps = some cs' → I7 (fun i => some (i * m, m)) (cs.map (CV.val E.sz σ ρ)) (ps.map fun p => (p.1, p.2.val E.sz σ ρ)) = some (cs'.map (CV.val E.sz σ ρ))
  | [], cs, cs', _, e => by cases e; rfl
  | (i, v) :: r, cs, cs', hk, e => by
    unfold KY at hk
    unfold WO at e
    split at e
    · rename_i vs hv
      rw [hv] at hk
      simp only at hk
      split at hk
      · rename_i hk1
        obtain ⟨c1, _⟩ := h.cells1 hv hk1
        split at e
        · rename_i hl
          split at e
          · rename_i hle
            have := Vp h hk e
            rw [Lz] at this
            show (match (fun i => some (i * m, m)) i with | none => none | some (off, size) => if (v.val E.sz σ ρ).cells.toList.length = size ∧ off + (v.val E.sz σ ρ).cells.toList.length ≤ (cs.map (CV.val E.sz σ ρ)).length then I7 (fun i => some (i * m, m)) (GN (cs.map (CV.val E.sz σ ρ)) off (v.val E.sz σ ρ).cells.toList) (r.map fun p : Nat × AV => (p.1, p.2.val E.sz σ ρ)) else none) = _
            simp only
            rw [c1, if_pos ⟨by rw [List.length_map]; exact Nat.eq_of_beq_eq_true hl, by rw [List.length_map, List.length_map]; exact Nat.le_of_ble_eq_true hle⟩]
            exact this
          · cases e
        · cases e
      · cases hk
    · cases e
theorem TX (h : Rel E B θ n ds S a w σ ρ ι) {pl : List (Nat × Nat)} : ∀ {ps : List (Nat × AV)} {cs cs' : List CV}, KY S ps = true → Sv pl cs ps = some cs' → I7 (fun i => pl[i]?) (cs.map (CV.val E.sz σ ρ)) (ps.map fun p => (p.1, p.2.val E.sz σ ρ)) = some (cs'.map (CV.val E.sz σ ρ))
  | [], cs, cs', _, e => by cases e; rfl
  | (i, v) :: r, cs, cs', hk, e => by
    unfold KY at hk
    unfold Sv at e
    split at e
    · rename_i off m hp
      rw [J9] at hp
      split at e
      · rename_i vs hv
        rw [hv] at hk
        simp only at hk
        split at hk
        · rename_i hk1
          obtain ⟨c1, _⟩ := h.cells1 hv hk1
          split at e
          · rename_i hl
            split at e
            · rename_i hle
              have := TX h hk e
              rw [Lz] at this
              show (match pl[i]? with | none => none | some (off, size) => if (v.val E.sz σ ρ).cells.toList.length = size ∧ off + (v.val E.sz σ ρ).cells.toList.length ≤ (cs.map (CV.val E.sz σ ρ)).length then I7 (fun i => pl[i]?) (GN (cs.map (CV.val E.sz σ ρ)) off (v.val E.sz σ ρ).cells.toList) (r.map fun p : Nat × AV => (p.1, p.2.val E.sz σ ρ)) else none) = _
              rw [hp]
              simp only
              rw [c1, if_pos ⟨by rw [List.length_map]; exact Nat.eq_of_beq_eq_true hl, by rw [List.length_map, List.length_map]; exact Nat.le_of_ble_eq_true hle⟩]
              exact this
            · cases e
          · cases e
        · cases hk
      · cases e
    · cases e
theorem UK {nz nb : Nat} {pl : List (Nat × Nat)} : ∀ {ps : List (Nat × AV)} {cs cs' : List CV}, (∀ p ∈ ps, p.2.wf nz nb = true) → Bp (CV.wf nz nb) cs = true → Sv pl cs ps = some cs' → Bp (CV.wf nz nb) cs' = true
  | [], cs, cs', _, hc, e => by cases e; exact hc
  | (i, v) :: r, cs, cs', hw, hc, e => by
    unfold Sv at e
    split at e
    · rename_i off m hp
      split at e
      · rename_i vs hv
        split at e
        · split at e
          · refine UK (fun p hp => hw p (List.mem_cons_of_mem _ hp)) (SF vs cs off ?_ hc) e
            have h1 := hw (i, v) (List.mem_cons_self ..)
            cases v with
            | one c => cases hv; exact Ad.2 fun z hz => by rcases List.mem_singleton.1 hz with rfl; exact h1
            | agg l => cases hv; exact h1
            | tup l => cases hv
            | fnv f gs ps => cases hv
          · cases e
        · cases e
      · cases e
    · cases e
theorem Yl {m sz : Nat} {zc : List CV} {f : CV → Value} (h : zc.length = sz) (h0 : 0 < sz) : (ZN m sz zc).map f = (List.range (m * sz)).map fun i => (zc.map f)[i % sz]! := by
  unfold ZN
  rw [List.map_map]
  refine List.map_congr_left fun i _ => ?_
  have hlt : i % sz < zc.length := by rw [h]; exact Nat.mod_lt _ h0
  simp only [Function.comp, List.getElem?_eq_getElem hlt, Option.getD_some]
  rw [List.getElem!_eq_getElem?_getD, List.getElem?_eq_getElem (by rw [List.length_map]; exact hlt)]
  simp
theorem eJ {tb : Tb} (T : TbOk E P tb) (h : Rel E B θ n ds S a w σ ρ ι) {t m d : Nat} {l : List (Nat × Operand)} {ps : List (Nat × AV)} {k : AV → St E.c → Tree R} {r : R} (hn : Nat.blt d n = true) (hp : Sz S l = some ps) (hk : KY S ps = true) (e : (lX E tb t m ps S k).den = some r) (K : Qe E P B θ n ds S k r ops Q rest d) :
    wpList P ops Q (⟨some d, .buildSlice t m l.toArray, ty, pos, aft, none⟩ :: rest) a w := by
  unfold lX at e
  split at e
  · rename_i e0 u by_ ht
    split at e
    · rename_i zc hz
      split at e
      · rename_i hzl
        have hzl := Nat.eq_of_beq_eq_true hzl
        split at e
        · rename_i hm
          split at e
          · rename_i cs hf
            split at e
            · rename_i l' hl
              obtain ⟨z, g1, g2, _⟩ := T.zr _ (Bf hz)
              obtain ⟨q1, q2⟩ := SE h hp
              obtain ⟨p1, lx, p2, p3⟩ := aV h hl
              have E1 := T.et ht
              refine Ww (z := z) (u.rp E.r).seen lx h.fr h.st hn E1 g1 hm q1 (by rw [g2 E.sz σ ρ, List.length_map]; exact hzl) ?_ rfl (by rw [← p1, ← p2, List.length_map]) p3 fun v' a' w' hf' hW' => ?_
              · rw [g2 E.sz σ ρ, ← Yl hzl E1.pos]
                exact Vp h hk hf
              · obtain ⟨c1, c2⟩ := h.toStC.noC
                exact newRow (S0 := { S with C := [] }) (zi := ⟨.own e0, u, l'⟩) h c1 c2 rfl rfl rfl ⟨_, p2, rfl⟩ hW' hf' e K
            · cases e
          · cases e
        · cases e
      · cases e
    · cases e
  · cases e
theorem eH {M : CO} {Z : List It} {F : List (Nat × Value)} {o : Oper} {d : Nat} {v : Value} (hF : Fr n ds F a) (hW : Stw B M Z w) (hwt : Region.wanted o (yielded ops a.tmps) = true) (hd : o.dst = some d) (hn : Nat.blt d n = true) (y : Yx P B M Z a o v) (k : ∀ a', Fr n ds ((d, v) :: F) a' → wpList P ops Q rest a' w) : wpList P ops Q (o :: rest) a w := by
  unfold wpList
  rw [if_pos hwt]
  refine .inl ?_
  unfold Oper.wp
  rw [y w hW]
  exact k _ (by rw [hd]; exact hF.put (Nat.le_of_ble_eq_true hn) v)
theorem Pj (h : Rel E B θ n ds S a w σ ρ ι) {dflt p : Int} {q : Option Operand} : YD S dflt q = some p → match q with | none => p = dflt | some q => Dg (S.ff E σ ρ) q = some (.int .i64 p) := by
  intro e
  cases q with
  | none => cases e; rfl
  | some q =>
    have e : (match GM S q with | some (.one (.int .i64 p)) => some p | _ => none) = some p := e
    show Dg (S.ff E σ ρ) q = _
    split at e
    · rename_i hq
      cases e
      exact (h.op hq).1
    · cases e
theorem cW {tb : Tb} (T : TbOk E P tb) (h : Rel E B θ n ds S a w σ ρ ι) {t z d : Nat} {s : Operand} {lo hi : Option Operand} {k : AV → St E.c → Tree R} {r : R} (hn : Nat.blt d n = true) (hs : GM S s = some (.one (.sl z))) (e : (jL E tb t z lo hi S k).den = some r) (K : Qe E P B θ n ds S k r ops Q rest d) :
    wpList P ops Q (⟨some d, .slice t s lo hi none, ty, pos, aft, none⟩ :: rest) a w := by
  unfold jL at e
  split at e
  · rename_i ver kk u l hz
    split at e
    · rename_i e0 u' b' ht
      split at e
      · rename_i hu
        obtain rfl := U.same_eq hu
        split at e
        · rename_i lo' hlo
          split at e
          · rename_i hi' hhi
            have hm := Bf hz
            obtain ⟨lx, e1, e2, e3⟩ := h.rdc (M := S.mm E σ ρ) (fun _ h => h) hz
            have hok := h.st.items (ι z) (List.mem_map.2 ⟨_, hm, rfl⟩)
            rw [e2] at hok
            have hlen : (lx.length : Int) = (l.length : Int) := by
              have := congrArg List.length e1
              simp at this
              omega
            have go : ∀ l2, I0 l lo' hi' = some l2 → U4 E B w (An (S.mm E σ ρ) (S.zz ι)) ⟨kk, u, l2⟩ (Ey (σ z) lo' hi' (E.sz u)) → (k (.one (.sl S.nz)) (S.addZ ⟨kk, u, l2⟩)).den = some r → wpList P ops Q (⟨some d, .slice t s lo hi none, ty, pos, aft, none⟩ :: rest) a w := by
              intro l2 hs2 hI e
              obtain ⟨lx2, g1, g2⟩ := eW e1 hs2
              refine eH h.fr h.st (Bq rfl) rfl hn (Pn (r := (u.rp E.r).seen) (v := σ z) (l := lx) (lo := lo') (hi := hi') (T.et ht) h.fr (h.op hs).1 (Pj h hlo) ?_ e3 g1) fun a' hf => ?_
              · have := Pj h hhi
                cases hi with
                | none => simp only at this ⊢; rw [hlen]; exact this
                | some q => exact this
              · obtain ⟨it, hb, h1, ga⟩ := h.noteZ hI
                exact K _ _ a' w _ _ _ (Ext.addZ S _) (h.put' (v := .one (.sl S.nz)) h1.toStC rfl ga h1.st (Nat.ble_eq_true_of_le (Nat.lt_succ_self S.nz)) Er hf) e
            split at e
            · cases e
            · rename_i hk
              obtain ⟨l2, hs2, e⟩ := Option.bind_eq_some_iff.1 e
              refine go l2 hs2 ?_ e
              cases kk with
              | own q9 => exact absurd rfl (hk q9)
              | frz =>
                have hh : Sl w (Fz B (An (S.mm E σ ρ) (S.zz ι))) (u.rp E.r).seen (σ z) lx := hok
                exact (hh.hide (Ex.seen _) e1).sub hs2
              | rd =>
                have hh : Sl B.w0 (NX B.X) (u.rp E.r).seen (σ z) lx := hok
                exact (hh.hide (Ex.seen _) e1).sub hs2
          · cases e
        · cases e
      · cases e
    · cases e
  · cases e
end
end Go.Proofs.YtgoifghhcekahaaGreatDoor
namespace Go.Proofs.YtgoifghhcekahaaGreatDoor
set_option linter.unusedVariables false
set_option linter.unusedSimpArgs false
open Go Go.RowKit
section
variable {E : TE} {P : Program} {B : Bs} {θ : Pin} {n : Nat} {ds : List Deferred} {S : St E.c} {a : Act} {w : World} {σ : Nat → Value} {ρ : Nat → Nat} {ι : Nat → It} {R : Type}
variable {ops : Array Oper} {Q : Exit → Act → World → Prop} {rest : List Oper} {ty : TypeId} {pos : String} {aft : Array Edge}
theorem Ext.putC {c : Nat → Type} (S : St c) (d : Nat) (v : AV) (x : W5 c) : Ext S (S.putC d v x) := by
  cases x with
  | none => exact Ext.put S d v
  | some q => exact ⟨(Ext.put S d v).v, (Ext.put S d v).F, (Ext.put S d v).M, (Ext.put S d v).Z, (Ext.put S d v).V⟩
theorem Rel.putC (h : Rel E B θ n ds S a w σ ρ ι) {d : Nat} {v : AV} {x : W5 E.c} {a' : Act} (hx : WK S v x) (hv : v.wf S.nz S.nb = true) (hF : Fr n ds ((d, v.val E.sz σ ρ) :: S.ff E σ ρ) a') : Rel E B θ n ds (S.putC d v x) a' w σ ρ ι := by
  have h1 := h.put hv hF
  cases x with
  | none => exact h1
  | some q =>
    obtain ⟨z, i, o, k, l, e1, e2, e3⟩ := hx q rfl
    have hca : ∀ p ∈ (d, q) :: (S.put d v).C, pR (S.put d v) p := fun p hp => by
      rcases List.mem_cons.1 hp with rfl | hp
      · refine ⟨S.nv, z, i, o, k, l, ?_, e2, e3⟩
        show CY ((d, S.nv, v) :: S.F) d = _
        rw [DP, e1]
      · exact h1.ca p hp
    exact { it := h1.it, wF := h1.wF, wM := h1.wM, wZ := h1.wZ, nZ := h1.nZ, pn := h1.pn, pi := h1.pi, fr := h1.fr, st := h1.st, ca := hca }
theorem Rel.rests (h : Rel E B θ n ds S a w σ ρ ι) (m : Nat) (cs : List CV) : ∃ ι', Rel E B θ n ds (Nz m cs S) a w σ ρ ι' ∧ Tk S (Nz m cs S) := by
  obtain ⟨ι', h1, h2, h3⟩ := Tw (X := []) m cs h.toStC h.st
  refine ⟨ι', { toStC := h1, fr := ?_, st := h2 }, h3⟩
  show Fr n ds ((Nz m cs S).F.map _) a
  rw [h3.fF]; exact h.fr
theorem Rel.restA : ∀ (ps : List (Nat × AV)) {S : St E.c} {ι : Nat → It}, Rel E B θ n ds S a w σ ρ ι → ∃ ι', Rel E B θ n ds (PN ps S) a w σ ρ ι' ∧ Tk S (PN ps S)
  | [], S, ι, h => ⟨ι, h, Tk.refl S⟩
  | (i, v) :: r, S, ι, h => by
    show ∃ ι', Rel E B θ n ds (PN r (match v.cells with | some cs => Nz cs.length cs S | none => S)) a w σ ρ ι' ∧ Tk S (PN r (match v.cells with | some cs => Nz cs.length cs S | none => S))
    cases v.cells with
    | none => exact Rel.restA r h
    | some cs =>
      obtain ⟨ι1, h1, t1⟩ := h.rests cs.length cs
      obtain ⟨ι2, h2, t2⟩ := Rel.restA r h1
      exact ⟨ι2, h2, t1.trans t2⟩
theorem SQ {S' : St E.c} (t : Tk S S') (x : Operand) : GM S' x = GM S x := by
  cases x with
  | tmp i => show (match CY S'.F i with | some x => some x.2 | none => none) = _; rw [t.fF]; rfl
  | _ => rfl
theorem To {S' : St E.c} (t : Tk S S') : ∀ l : List (Nat × Operand), Sz S' l = Sz S l
  | [] => rfl
  | (i, x) :: l => by unfold Sz; rw [SQ t, To t l]
theorem Ys {x y : Operand} {k : IntKind} {p : Int} (h : VT x y = true) (e : GM S x = some (.one (.int k p))) : ∃ k', GM S y = some (.one (.int k' p)) := by
  unfold VT at h
  split at h
  · rw [← Nat.eq_of_beq_eq_true h]; exact ⟨k, e⟩
  · rename_i k1 p1 k2 q
    obtain rfl := of_decide_eq_true h
    cases e
    exact ⟨k2, rfl⟩
  · cases h
theorem W4 {o : Oper} (hw : Region.wanted o (yielded ops a.tmps) = true) (h : wpList P ops Q (⟨o.dst, o.op, o.type, o.pos, o.after, none⟩ :: rest) a w) : wpList P ops Q (o :: rest) a w := by
  obtain ⟨dst, op, t, pos, aft, g⟩ := o
  unfold wpList at h ⊢
  rw [if_pos hw]
  rw [if_pos (Bq rfl)] at h
  exact h
theorem aO : ∀ {gs : List (Bool × List CV)}, Bp (fun p => match p with | (false, []) => false | _ => true) gs = true → (gs.map qO).map (AV.val E.sz σ ρ) = gs.map (I4 E.sz σ ρ) := fun {gs} h => by
  rw [List.map_map]
  refine List.map_congr_left fun p hp => ?_
  have := Ad.1 h p hp
  obtain ⟨q, l⟩ := p
  cases q with
  | true => rfl
  | false =>
    cases l with
    | nil => cases this
    | cons c l => rfl
theorem l7 (h : Rel E B θ n ds S a w σ ρ ι) {fo : Operand} {f : Nat} {us ps : List AV} (e : j7 S fo = some (f, us, ps)) : (∃ gs fs : List Value, Dg (S.ff E σ ρ) fo = some (.func (.func f) gs.toArray fs.toArray) ∧ us.map (AV.val E.sz σ ρ) = gs ∧ ps.map (AV.val E.sz σ ρ) = fs) ∧ (∀ v ∈ us, v.wf S.nz S.nb = true) ∧ ∀ v ∈ ps, v.wf S.nz S.nb = true := by
  unfold j7 at e
  split at e
  · rename_i f' hf
    cases e
    exact ⟨⟨[], [], (h.op hf).1, rfl, rfl⟩, (fun _ h => nomatch h), (fun _ h => nomatch h)⟩
  · rename_i f' gs ps' hf
    split at e
    · rename_i hg
      cases e
      obtain ⟨w1, w2⟩ := TH (h.op hf).2
      refine ⟨⟨_, _, (h.op hf).1, aO hg, by rw [List.map_map]; rfl⟩, fun v hv => ?_, fun v hv => ?_⟩
      · obtain ⟨p, hp, rfl⟩ := List.mem_map.1 hv
        have hp1 := Ad.1 w2 p hp
        have hp2 := Ad.1 hg p hp
        obtain ⟨q, l⟩ := p
        cases q with
        | true => exact hp1
        | false =>
          cases l with
          | nil => cases hp2
          | cons c l => exact Ad.1 hp1 c (List.mem_cons_self ..)
      · obtain ⟨c, hc, rfl⟩ := List.mem_map.1 hv
        exact Ad.1 w1 c hc
    · cases e
  · cases e
theorem Zv (h : Rel E B θ n ds S a w σ ρ ι) {fo : Operand} {xs : List Operand} {f : Nat} {us vs ps : List AV} (e : j7 S fo = some (f, us, ps)) (hx : Rc S xs = some vs) : gX (S.ff E σ ρ) fo xs = some (f, (us ++ vs ++ ps).map (AV.val E.sz σ ρ)) ∧ ∀ v ∈ us ++ vs ++ ps, v.wf S.nz S.nb = true := by
  obtain ⟨⟨gs, fs, h1, h2, h3⟩, h4, h5⟩ := l7 h e
  obtain ⟨k1, k2⟩ := h.ops hx
  refine ⟨?_, fun v hv => ?_⟩
  · unfold gX
    rw [h1, k1]
    subst h2 h3
    simp
  · rcases List.mem_append.1 hv with hv | hv
    · rcases List.mem_append.1 hv with hv | hv
      · exact h4 v hv
      · exact k2 v hv
    · exact h5 v hv
theorem aY {G : Gy E P} (hG : ConsOk B G) (h : Rel E B θ n ds S a w σ ρ ι) {f d : Nat} {fo : Operand} {xs : List Operand} {us vs ps : List AV} {ts : Array TypeId} {k : AV → St E.c → Tree R} {r : R} (hn : Nat.blt d n = true) (hf : j7 S fo = some (f, us, ps)) (hx : Rc S xs = some vs) (e : (RT E G f (us ++ vs ++ ps) S k).den = some r) (K : Qe E P B θ n ds S k r ops Q rest d) :
    wpList P ops Q (⟨some d, .call ⟨.value fo, xs.toArray, ts⟩, ty, pos, aft, none⟩ :: rest) a w := by
  obtain ⟨h1, h2⟩ := Zv h hf hx
  obtain ⟨Ml, Mr, Zl, Zr, β, rv, MM, ZZ, hW, hP, hc, hk⟩ := U3 hG h h2 e
  refine b9 (Ml := Ml) (M := Mr) (Zl := Zl) (Z := Zr) (rv := rv) (MM := MM) (ZZ := ZZ) h.fr hW hP h1 hn hc fun x a' w' hf' hW' => ?_
  obtain ⟨v, S', σ', ι', x1, s1, s2, s3, s4, s5, s6, s7⟩ := hk x w' hW'
  exact K v S' a' w' σ' ρ ι' x1 (h.put' s1 s3 s4 s2 s5 s6 hf') s7
theorem YV {G : Gy E P} (hG : ConsOk B G) (h : Rel E B θ n ds S a w σ ρ ι) {f : Nat} {fo : Operand} {xs : List Operand} {us vs ps : List AV} {ts : Array TypeId} {k : AV → St E.c → Tree R} {r : R} (hf : j7 S fo = some (f, us, ps)) (hx : Rc S xs = some vs) (e : (RT E G f (us ++ vs ++ ps) S k).den = some r) (K : ∀ v S' w' σ' ι', Ext S S' → Rel E B θ n ds S' a w' σ' ρ ι' → (k v S').den = some r → wpList P ops Q rest a w') :
    wpList P ops Q (⟨none, .call ⟨.value fo, xs.toArray, ts⟩, ty, pos, aft, none⟩ :: rest) a w := by
  obtain ⟨h1, h2⟩ := Zv h hf hx
  obtain ⟨Ml, Mr, Zl, Zr, β, rv, MM, ZZ, hW, hP, hc, hk⟩ := U3 hG h h2 e
  refine XN (Ml := Ml) (M := Mr) (Zl := Zl) (Z := Zr) (rv := rv) (MM := MM) (ZZ := ZZ) h.fr hW hP h1 hc fun x w' hW' => ?_
  obtain ⟨v, S', σ', ι', x1, s1, s2, s3, s4, s5, s6, s7⟩ := hk x w' hW'
  exact K v S' w' σ' ι' x1 (h.of s1 s3 s4 s2) s7
theorem QW.toV {k : St E.c → Tree R} {r : R} {d : Nat} (K : QW E P B θ n ds S k r ops Q rest) : Qe E P B θ n ds S (fun v S' => k (S'.put d v)) r ops Q rest d :=
  fun v S' a' w' σ' ρ' ι' x h e => K _ a' w' σ' ρ' ι' (x.trans (Ext.put S' d v)) h e
theorem QW.ext {k : St E.c → Tree R} {r : R} {S0 : St E.c} (x : Ext S S0) (K : QW E P B θ n ds S k r ops Q rest) : QW E P B θ n ds S0 k r ops Q rest :=
  fun S' a' w' σ' ρ' ι' x' h e => K S' a' w' σ' ρ' ι' (x.trans x') h e
theorem jR {tb : Tb} {t z o p m : Nat} {agg : Bool} {u : U} {i : Int} {vs : List CV} {v : AV} {py : Operand} {k : St E.c → Tree R} {r : R} (h : Rel E B θ n ds S a w σ ρ ι) (hx : GM S (.tmp p) = some (.one (.ep z u i o))) (hy : GM S py = some v) (hc : v.cells = some vs) (hk : KA S vs = true)
    (T : Ty P t agg m) (hm : vs.length = m) (hle : Nat.ble (o + vs.length) (E.sz u) = true) (e : (uK E z u i o p vs S k).den = some r) (K : QW E P B θ n ds S k r ops Q rest) : wpList P ops Q (⟨none, .store t (.tmp p) py, ty, pos, aft, none⟩ :: rest) a w := by
  unfold uK at e
  split at e
  · rename_i ver' e0 u2 l hz
    have hzm := Bf hz
    have hp : ∃ ver0, CY S.F p = some (ver0, .one (.ep z u i o)) := by
      have hx' : (match CY S.F p with | some x => some x.2 | none => none) = some (AV.one (.ep z u i o)) := hx
      split at hx'
      · rename_i x hx2
        obtain ⟨q1, q2⟩ := x
        cases hx'
        exact ⟨q1, hx2⟩
      · cases hx'
    obtain ⟨ver0, hp⟩ := hp
    split at e
    · rename_i ver u' x hcc
      split at e
      · rename_i hv
        obtain rfl := Nat.eq_of_beq_eq_true hv
        obtain ⟨v', z', i', o', k', l', c1, c2, c3⟩ := h.ca _ (Bf hcc)
        simp only at c1 c2 c3
        rw [hp] at c1
        cases c1
        have c4 := F6 h.nZ c2
        rw [hz] at c4
        cases c4
        exact Wm h hx hy hc hk T hm hle c2 c3 e K
      · cases e
    · split at e
      · rename_i hu
        obtain rfl := U.same_eq hu
        obtain ⟨x, hix, e⟩ := Option.bind_eq_some_iff.1 e
        exact Wm h hx hy hc hk T hm hle hzm hix e K
      · cases e
  · cases e
theorem fL {tb : Tb} (T : TbOk E P tb) (h : Rel E B θ n ds S a w σ ρ ι) {d : Nat} {op : Op} {k : St E.c → Tree R} {r : R} (hn : Nat.blt d n = true) (e : (lQ E tb op S fun v x S' => k (S'.putC d v x)).den = some r) (K : QW E P B θ n ds S k r ops Q rest) :
    wpList P ops Q (⟨some d, op, ty, pos, aft, none⟩ :: rest) a w := by
  obtain ⟨v, x, S', σ', ι', h1, x1, e1, hv, hcc, hag, _, _, ⟨hF, _⟩, _, hy⟩ := Zn (dst := some d) (ty := ty) (pos := pos) (aft := aft) (g := none) T h e
  exact eH h1.fr h1.st (Bq rfl) rfl hn (hy _ _ (fun _ h => h) (fun _ h => h)) fun a' hf => K _ a' w σ' ρ ι' (x1.trans (Ext.putC S' d v x)) (h1.putC hcc hv hf) e1
theorem ZV {tb : Tb} (T : TbOk E P tb) {G : Gy E P} (hG : ConsOk B G) (h : Rel E B θ n ds S a w σ ρ ι) {dst : Option Tmp} {op : Op} {k : St E.c → Tree R} {r : R} (e : (sF E tb G n S k dst op).den = some r) (K : QW E P B θ n ds S k r ops Q rest) :
    wpList P ops Q (⟨dst, op, ty, pos, aft, none⟩ :: rest) a w := by
  unfold sF at e
  split at e
  · rename_i d op
    split at e
    · cases e
    · rename_i hn
      split at e
      · rename_i t
        split at e
        · rename_i zc hz
          obtain ⟨z, g1, g2, g3⟩ := T.zr _ (Bf hz)
          have hwz : Bp (CV.wf S.nz S.nb) zc = true := D3 (fun _ => CV.wf_mono (Nat.zero_le _) (Nat.zero_le _)) g3
          exact Ha h.fr h.st hn g1 (g2 E.sz σ ρ) fun b a' w' hf hW => W1 h hwz e K hf hW
        · cases e
      · split at e
        · rename_i v hv
          split at e
          · rename_i cs hcs
            split at e
            · rename_i hkn
              have o1 := h.op hv
              obtain ⟨c1, c2⟩ := h.cells1 hcs hkn
              have hwz : Bp (CV.wf S.nz S.nb) cs = true := by
                cases v with
                | one c => cases hcs; exact Ad.2 fun z hz => by rcases List.mem_singleton.1 hz with rfl; exact o1.2
                | agg l => cases hcs; exact o1.2
                | tup l => cases hcs
                | fnv f gs ps => cases hcs
              exact JK h.fr h.st hn o1.1 c1 fun b a' w' hf hW => W1 h hwz e K hf hW
            · cases e
          · cases e
        · cases e
      · split at e
        · rename_i hs
          split at e
          · rename_i kk nn hl
            obtain ⟨k', hc⟩ := Ys hs hl
            exact YP T h hn hl hc e K.toV
          · cases e
        · cases e
      · split at e
        · rename_i ps hps
          split at e
          · rename_i hkn
            obtain ⟨ι1, h1, t1⟩ := Rel.restA ps h
            exact eJ T h1 hn (by rw [To t1]; exact hps) hkn e (K.ext t1.toExt).toV
          · cases e
        · cases e
      · split at e
        · rename_i ps hps
          split at e
          · rename_i hkn
            split at e
            · rename_i zc pl hb
              split at e
              · rename_i cs hf
                obtain ⟨ι1, h0, t1⟩ := Rel.restA (q6 S ps) h
                obtain ⟨q1, q2⟩ := SE h0 (by rw [To t1]; exact hps)
                obtain ⟨b1, b2⟩ := T.bt.mem _ (Bf hb)
                have hwz : Bp (CV.wf (PN (q6 S ps) S).nz (PN (q6 S ps) S).nb) zc = true := D3 (fun _ => CV.wf_mono (Nat.zero_le _) (Nat.zero_le _)) b2
                have hwf := UK q2 hwz hf
                exact eH h0.fr h0.st (Bq rfl) rfl hn (H3 (b1 E.sz σ ρ) h0.fr q1 (TX h0 hkn hf) rfl) fun a' hf => K _ a' w σ ρ ι1 (t1.toExt.trans (Ext.put _ _ _)) (h0.put (v := .agg cs) hwf hf) e
              · cases e
            · cases e
          · cases e
        · cases e
      · split at e
        · rename_i z hs
          obtain ⟨ι1, h1, t1⟩ := h.rests 1 [.sl z]
          exact cW T h1 hn (by rw [SQ t1]; exact hs) e (K.ext t1.toExt).toV
        · rename_i l hs
          split at e
          · rename_i ht
            split at e
            · rename_i lo' hlo
              split at e
              · rename_i hi' hhi
                obtain ⟨l2, hl2, e⟩ := Option.bind_eq_some_iff.1 e
                exact eH h.fr h.st (Bq rfl) rfl hn (YQ (T.str ht) h.fr (h.op hs).1 (Pj h hlo) (Pj h hhi) hl2) fun a' hf => K _ a' w σ ρ ι (Ext.put S _ _) (h.put (v := .one (.str l2)) rfl hf) e
              · cases e
            · cases e
          · cases e
        · cases e
      · split at e
        · rename_i ht
          have ht := Nat.eq_of_beq_eq_true ht
          subst ht
          split at e
          · rename_i s hs
            split at e
            · rename_i q hq
              exact eK T h hn hs hq e K.toV
            · cases e
          · cases e
        · cases e
      · split at e
        · rename_i f hf
          split at e
          · rename_i vs hx
            exact aY hG h hn hf hx e K.toV
          · cases e
        · cases e
      · exact fL T h hn e K
  · split at e
    · rename_i t x y _ agg m ht
      have TT := S7 T.tt ht
      split at e
      · rename_i v hv
        split at e
        · rename_i vs hvs
          split at e
          · rename_i hm
            have hm := Nat.eq_of_beq_eq_true hm
            split at e
            · rename_i hkn
              split at e
              · rename_i b o hx
                exact cV h hx hv hvs hkn TT hm e K
              · rename_i z u i o hx
                split at e
                · rename_i p
                  split at e
                  · rename_i hle
                    split at e
                    · rename_i hk2
                      obtain ⟨ι1, h1, t1⟩ := h.rests vs.length vs
                      exact jR (tb := tb) h1 (by rw [SQ t1]; exact hx) (by rw [SQ t1]; exact hv) hvs hk2 TT hm hle e (K.ext t1.toExt)
                    · cases e
                  · cases e
                · cases e
              · cases e
            · cases e
          · cases e
        · cases e
      · cases e
    · cases e
  · split at e
    · rename_i f hf
      split at e
      · rename_i vs hx
        exact YV hG h hf hx e fun v S' w' σ' ι' x h' e' => K S' a w' σ' ρ ι' x h' e'
      · cases e
    · cases e
  · cases e
end
end Go.Proofs.YtgoifghhcekahaaGreatDoor
namespace Go.Proofs.YtgoifghhcekahaaGreatDoor
set_option linter.unusedVariables false
set_option linter.unusedSimpArgs false
open Go Go.RowKit
def RJ : List (Option CK) → List CK
  | [] => []
  | none :: l => RJ l
  | some q :: l => q :: RJ l
def P8 (E : TE) : List (Option CK) → List CV → Option (List CV)
  | [], [] => some []
  | [], _ :: _ => none
  | none :: l, _ :: cs => P8 E l cs
  | none :: _, [] => none
  | some q :: l, cs => match W7 (Ap E [q]) cs with
    | some c1 => match P8 E l (X5 (Ap E [q]) cs) with | some r => some (c1 ++ r) | none => none
    | none => none
def Jo (E : TE) {α : Type _} : List (Option CK) → List α → List α → List α
  | [], _, _ => []
  | none :: l, o :: old, new => o :: Jo E l old new
  | none :: l, [], new => Jo E l [] new
  | some q :: l, old, new => new.take (Ap E [q]) ++ Jo E l (old.drop (Ap E [q])) (new.drop (Ap E [q]))
def Vk (E : TE) {c : Nat → Type} (S0 S : St c) (k : Nat) : List (Option CK) → Nat → Bool
  | [], _ => true
  | none :: l, i => match RN S0 k i with
    | some v => match RN S k i with
      | some v' => match Nat.beq v v' && Nat.blt v S0.nv with | true => Vk E S0 S k l (i + 1) | false => false
      | none => false
    | none => false
  | some q :: l, i => Vk E S0 S k l (i + Ap E [q])
def OQ (E : TE) (f : Nat → Option Nat) (nv : Nat) : List (Option CK) → Nat → List Nat
  | [], _ => []
  | none :: l, i => (f i).getD nv :: OQ E f nv l (i + 1)
  | some q :: l, i => List.replicate (Ap E [q]) nv ++ OQ E f nv l (i + Ap E [q])
def V6 (E : TE) : List (Option CK) → Nat
  | [] => 0
  | none :: l => 1 + V6 E l
  | some q :: l => Ap E [q] + V6 E l
def KX (E : TE) {c : Nat → Type} (S0 : St c) : List (Nat × List (Option CK)) → List CV → Option (List (Nat × List CV))
  | [], _ => some []
  | (k, l) :: r, new => match CY S0.M k with
    | some (_, cs) => match Nat.beq cs.length (V6 E l) with
      | true => match W7 (Ap E (RJ l)) new with
        | some c1 => match KX E S0 r (X5 (Ap E (RJ l)) new) with
          | some m => some ((k, Jo E l cs c1) :: m)
          | none => none
        | none => none
      | false => none
    | none => none
def aA (E : TE) {c : Nat → Type} (S0 : St c) (nv : Nat) : List (Nat × List (Option CK)) → List (Nat × List Nat)
  | [] => []
  | (k, l) :: r => (k, OQ E (RN S0 k) nv l 0) :: aA E S0 nv r
def TF (E : TE) {c : Nat → Type} (S0 S : St c) : List (Nat × List (Option CK)) → Bool
  | [] => true
  | (k, l) :: r => match Vk E S0 S k l 0 with | true => TF E S0 S r | false => false
section
variable {E : TE}
theorem QJ {f : Nat → Option Nat} {nv : Nat} : ∀ (l : List (Option CK)) (j : Nat), (OQ E f nv l j).length = V6 E l
  | [], j => rfl
  | none :: l, j => by simp only [OQ, List.length_cons, QJ l, V6]; omega
  | some q :: l, j => by simp only [OQ, List.length_append, List.length_replicate, QJ l, V6]
theorem Lj {α β : Type _} (f : α → β) : ∀ (l : List (Option CK)) (old new : List α), (Jo E l old new).map f = Jo E l (old.map f) (new.map f)
  | [], _, _ => rfl
  | none :: l, o :: old, new => by simp only [Jo, List.map_cons, Lj f l]
  | none :: l, [], new => by simp only [Jo, List.map_nil]; exact Lj f l [] new
  | some q :: l, old, new => by simp only [Jo, List.map_append, Lj f l, List.map_take, List.map_drop]
theorem Nm {α : Type _} {x : α} : ∀ {l : List (Option CK)} {old new : List α}, x ∈ Jo E l old new → x ∈ old ∨ x ∈ new
  | [], _, _, h => nomatch h
  | none :: l, o :: old, new, h => by
    rcases List.mem_cons.1 h with rfl | h
    · exact .inl (List.mem_cons_self ..)
    · rcases Nm (l := l) h with h | h
      · exact .inl (List.mem_cons_of_mem _ h)
      · exact .inr h
  | none :: l, [], new, h => Nm (l := l) (old := []) h
  | some q :: l, old, new, h => by
    rcases List.mem_append.1 h with h | h
    · exact .inr (List.mem_of_mem_take h)
    · rcases Nm (l := l) h with h | h
      · exact .inl (List.mem_of_mem_drop h)
      · exact .inr (List.mem_of_mem_drop h)
theorem QY {S0 S : St E.c} (x : Ext S0 S) {k v0 v1 : Nat} {cs0 cs : List CV} (h0 : CY S0.M k = some (v0, cs0)) (h1 : CY S.M k = some (v1, cs)) : ∀ (l : List (Option CK)) (i : Nat) (y : List CV), Vk E S0 S k l i = true → P8 E l (cs.drop i) = some y → Jo E l (cs0.drop i) y = cs.drop i
  | [], i, y, hk, hp => by
    cases hd : cs.drop i with
    | nil => rfl
    | cons a r => rw [hd] at hp; cases hp
  | none :: l, i, y, hk, hp => by
    cases hd : cs.drop i with
    | nil => rw [hd] at hp; cases hp
    | cons a r =>
      rw [hd] at hp
      unfold Vk at hk
      split at hk
      · rename_i v hv
        split at hk
        · rename_i v' hv'
          split at hk
          · rename_i hb
            simp only [Bool.and_eq_true] at hb
            obtain rfl := Nat.eq_of_beq_eq_true hb.1
            have hlt := Nat.le_of_ble_eq_true hb.2
            have e1 := (x.V k i v hv' hlt).2
            unfold cU at e1
            rw [h0, h1] at e1
            simp only at e1
            have ha : cs[i]? = some a := by
              have := congrArg (·[0]?) hd
              simpa using this
            rw [ha] at e1
            have hi : i < cs0.length := by
              rcases Nat.lt_or_ge i cs0.length with h | h
              · exact h
              · rw [List.getElem?_eq_none h] at e1; cases e1
            have h2 : cs0.drop i = a :: cs0.drop (i + 1) := by
              rw [List.drop_eq_getElem_cons hi]
              rw [List.getElem?_eq_getElem hi] at e1
              rw [Option.some.inj e1]
            have h3 : r = cs.drop (i + 1) := by
              have := congrArg List.tail hd
              simpa using this.symm
            rw [h2]
            show a :: Jo E l (cs0.drop (i + 1)) y = a :: r
            rw [h3] at hp ⊢
            rw [QY x h0 h1 l (i + 1) y hk hp]
          · cases hk
        · cases hk
      · cases hk
  | some q :: l, i, y, hk, hp => by
    unfold P8 at hp
    split at hp
    · rename_i c1 hc
      split at hp
      · rename_i r hr
        cases hp
        obtain ⟨t1, t2⟩ := Ig hc
        rw [Ij, List.drop_drop] at hr
        have hl : c1.length = Ap E [q] := by rw [← t2, List.length_take]; omega
        have := QY x h0 h1 l (i + Ap E [q]) r hk (by rw [Nat.add_comm] at hr ⊢; first | exact hr | (rw [Nat.add_comm]; exact hr))
        unfold Jo
        rw [List.take_left' hl, List.drop_left' hl, List.drop_drop, this, ← t2]
        rw [show cs.drop (i + Ap E [q]) = (cs.drop i).drop (Ap E [q]) by rw [List.drop_drop]]
        exact List.take_append_drop _ _
      · cases hp
    · cases hp
theorem Tu {f : Nat → Option Nat} {nv : Nat} : ∀ (l : List (Option CK)) (j i v : Nat) (old new : List CV), (OQ E f nv l j)[i]? = some v → Ap E (RJ l) ≤ new.length → v = nv ∨ (f (j + i) = some v ∧ ∀ a, old[i]? = some a → (Jo E l old new)[i]? = some a)
  | [], j, i, v, old, new, h, hn => by simp [OQ] at h
  | none :: l, j, 0, v, old, new, h, hn => by
    simp only [OQ, List.getElem?_cons_zero, Option.some.injEq] at h
    cases hf : f j with
    | none => rw [hf] at h; exact .inl h.symm
    | some u =>
      rw [hf] at h
      refine .inr ⟨congrArg some h, fun a ha => ?_⟩
      cases old with
      | nil => simp at ha
      | cons o old => simpa [Jo] using ha
  | none :: l, j, i + 1, v, old, new, h, hn => by
    simp only [OQ, List.getElem?_cons_succ] at h
    rcases Tu l (j + 1) i v old.tail new h hn with h | ⟨h1, h2⟩
    · exact .inl h
    · refine .inr ⟨by rw [show j + (i + 1) = j + 1 + i by omega]; exact h1, fun a ha => ?_⟩
      cases old with
      | nil => simp at ha
      | cons o old => simpa [Jo] using h2 a (by simpa using ha)
  | some q :: l, j, i, v, old, new, h, hn => by
    simp only [OQ] at h
    have hc : Ap E (RJ (some q :: l)) = Ap E [q] + Ap E (RJ l) := by cases q <;> simp [RJ, Ap] <;> omega
    rw [hc] at hn
    rcases Nat.lt_or_ge i (Ap E [q]) with hi | hi
    · rw [List.getElem?_append_left (by rw [List.length_replicate]; exact hi), List.getElem?_replicate, if_pos hi] at h
      exact .inl (Option.some.inj h).symm
    · rw [List.getElem?_append_right (by rw [List.length_replicate]; exact hi), List.length_replicate] at h
      rcases Tu l (j + Ap E [q]) (i - Ap E [q]) v (old.drop (Ap E [q])) (new.drop (Ap E [q])) h (by rw [List.length_drop]; omega) with h | ⟨h1, h2⟩
      · exact .inl h
      · refine .inr ⟨by rw [show j + i = j + Ap E [q] + (i - Ap E [q]) by omega]; exact h1, fun a ha => ?_⟩
        unfold Jo
        rw [List.getElem?_append_right (by rw [List.length_take]; omega), List.length_take, show i - min (Ap E [q]) new.length = i - Ap E [q] by omega]
        refine h2 a ?_
        rw [List.getElem?_drop, show Ap E [q] + (i - Ap E [q]) = i by omega]
        exact ha
end
end Go.Proofs.YtgoifghhcekahaaGreatDoor
