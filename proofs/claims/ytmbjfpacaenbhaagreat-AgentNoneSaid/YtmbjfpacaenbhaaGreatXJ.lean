/- A run that is computed: operations one after another, regions in many orders. Conditions: none. -/
import Derived.Test.YtmbjfpacaenbhaaGreatXI
import Derived.Test.YtmbjfpacaenbhaaGreatQP
namespace Go.Proofs.YtmbjfpacaenbhaaGreat
set_option linter.unusedVariables false
set_option linter.unusedSimpArgs false
open Go Go.RowKit

/-- What a call answers, and what it leaves. -/
abbrev Cf := FuncId → List AW → SW → Option (AW × SW)
def CfOk (P : Program) (B : Bs) (cf : Cf) : Prop := ∀ f args S v S', cf f args S = some (v, S') → Has P f ∧ ∀ e w us, dnAs e args = some us → RelS B e S w →
  Calls P f us.toArray w fun en w' => ∃ e' u, en = .returned u ∧ Xt e e' ∧ v.dn e' = some u ∧ RelS B e' S' w'
def aws : List (Bool × List CW) → Option (List AW)
  | [] => some []
  | p :: l => match aw p, aws l with | some v, some r => some (v :: r) | _, _ => none
theorem aws_ok {e : En} : ∀ {l : List (Bool × List CW)} {m : List AW} {us : List Value}, aws l = some m → dnPs e l = some us → dnAs e m = some us
  | [], m, us, h, h' => by cases h; cases h'; rfl
  | p :: l, m, us, h, h' => by
    unfold aws at h
    split at h
    · rename_i v r h1 h2
      cases h
      obtain ⟨u, us', g1, g2, rfl⟩ := dnPs_cons h'
      exact dnAs_mk (by rw [aw_dn h1]; exact g1) (aws_ok h2 g2)
    · cases h
theorem dnAs_app {e : En} : ∀ {l m : List AW} {us vs : List Value}, dnAs e l = some us → dnAs e m = some vs → dnAs e (l ++ m) = some (us ++ vs)
  | [], m, _, vs, h, h' => by cases h; exact h'
  | c :: l, m, _, vs, h, h' => by
    obtain ⟨v, us, h1, h2, rfl⟩ := dnAs_cons h
    exact dnAs_mk h1 (dnAs_app h2 h')
section
variable (P : Program) (tb : TB) (cf : Cf)
noncomputable def evOp (F : FW) (S : SW) (op : Op) : Option Res := match evP P tb F op with
  | some v => some (some v, S)
  | none => match evR P tb F S op with
    | some v => some (some v, S)
    | none => match evM P tb F S op with
      | some x => some x
      | none => match evZ P tb F S op with
        | some x => some x
        | none => match op with
          | .call ⟨.value fo, args, _⟩ => match opW F fo, opWs F args.toList with
            | some (.one (.fn f)), some l => (cf f l S).map fun r => (some r.1, r.2)
            | some (.fnv f gs ps), some l => match aws gs, aws ps with
              | some g, some p => (cf f (g ++ l ++ p) S).map fun r => (some r.1, r.2)
              | _, _ => none
            | _, _ => none
          | _ => none
noncomputable def wtW (F : FW) (ops : List Oper) (o : Oper) : Option Bool := match o.guard with
  | none => some true
  | some (i, t) => match (ops[i]?).bind (·.dst) with
    | some d => match lkW F d with
      | some (.one (.bool b)) => some (b == t)
      | some .und => some false
      | _ => none
    | none => none
noncomputable def ptD (n : Nat) (dst : Option Tmp) (v : Option AW) (F : FW) : Option FW := match dst with
  | none => some F
  | some d => match Nat.blt d n with | true => some (setW d (v.getD .und) F) | false => none
noncomputable def evL (n : Nat) (ops : List Oper) : List Oper → FW → SW → Option (FW × SW)
  | [], F, S => some (F, S)
  | o :: r, F, S => match wtW F ops o with
    | some true => match evOp P tb cf F S o.op with
      | some (v, S') => match ptD n o.dst v F with | some F' => evL n ops r F' S' | none => none
      | none => none
    | some false => match ptD n o.dst none F with | some F' => evL n ops r F' S | none => none
    | none => none
end
section
variable {P : Program} {tb : TB} {cf : Cf} {B : Bs} {e : En} {n : Nat} {ds : List Deferred} {F F' : FW} {S S' : SW} {a : Act} {w : World} {op : Op} {x : Res} {ops : List Oper}
theorem wtW_ok (hF : FrW e n ds F a) {o : Oper} {t : Bool} (h : wtW F ops o = some t) : Region.wanted o (yielded ops.toArray a.tmps) = t := by
  unfold wtW at h
  split at h
  · rename_i hg; cases h; exact wanted_none hg
  · rename_i i t' hg
    split at h
    · rename_i d hd
      split at h
      · rename_i b hl
        cases h
        obtain ⟨u, du, ou⟩ := lk_toF hF.1 hl
        cases du
        exact wanted_some hF.2 rfl hg hd ou
      · rename_i hl
        cases h
        obtain ⟨u, du, ou⟩ := lk_toF hF.1 hl
        cases du
        exact wanted_undef hF.2 rfl hg hd ou
      · cases h
    · cases h
theorem ptD_ok (hF : FrW e n ds F a) {dst : Option Tmp} {v : Option AW} {u : Value} (h : ptD n dst v F = some F') (hv : (v.getD .und).dn e = some u) : FrW e n ds F' (a.put dst u) := by
  unfold ptD at h
  split at h
  · cases h; exact hF
  · split at h
    · rename_i hd; cases h; exact hF.put hd hv
    · cases h
/-- One operation that is wanted: it goes, and what it leaves is known. -/
theorem evOp_ok (hb : tbB P tb = true) (hc : CfOk P B cf) (hF : FrW e n ds F a) (hS : RelS B e S w) {o : Oper} (h : evOp P tb cf F S o.op = some x) (hp : ptD n o.dst x.1 F = some F') {next : Act → World → Prop} {Q : Exit → Act → World → Prop}
    (k : ∀ e' a' w', Xt e e' → FrW e' n ds F' a' → RelS B e' x.2 w' → next a' w') : o.wp P a w next Q := by
  obtain ⟨dst, op, ty, pos, aft, g⟩ := o
  have val : ∀ {e' u w'}, Xt e e' → RelS B e' x.2 w' → (x.1.getD .und).dn e' = some u → (execOp a.eval ⟨dst, op, ty, pos, aft, g⟩).run P w = .ok (.value u) w' → (⟨dst, op, ty, pos, aft, g⟩ : Oper).wp P a w next Q := fun {e' u w'} h1 h2 h3 h4 => by
    unfold Oper.wp
    rw [h4]
    exact k e' _ w' h1 (ptD_ok (hF.mono h1) hp h3) h2
  have out : Out P B op a e w x → (⟨dst, op, ty, pos, aft, g⟩ : Oper).wp P a w next Q := fun ⟨e', w', h1, h2, h3⟩ => by
    obtain ⟨r, S'⟩ := x
    cases r with
    | some v =>
      obtain ⟨u, h4, h5⟩ := h3
      exact val h1 h2 h4 (h5 dst ty pos aft g)
    | none =>
      unfold Oper.wp
      rw [show (execOp a.eval ⟨dst, op, ty, pos, aft, g⟩).run P w = .ok .skip w' from h3 dst ty pos aft g]
      exact k e' _ w' h1 (ptD_ok (hF.mono h1) hp rfl) h2
  have call : ∀ {f : FuncId} {args : List AW} {us : List Value}, (cf f args S).map (fun r => ((some r.1 : Option AW), r.2)) = some x → dnAs e args = some us → (Has P f → (execOp a.eval ⟨dst, op, ty, pos, aft, g⟩).run P w = .ok (.enter f us.toArray) w) → (⟨dst, op, ty, pos, aft, g⟩ : Oper).wp P a w next Q := fun {f args us} h1 h2 h3 => by
    obtain ⟨r, h4, rfl⟩ := map_some h1
    obtain ⟨hh, hcall⟩ := hc _ _ _ _ _ h4
    unfold Oper.wp
    rw [h3 hh]
    refine (hcall e w us h2 hS).mono fun en w' ⟨e', u, he, g1, g2, g3⟩ => ?_
    subst he
    exact k e' _ w' g1 (ptD_ok (hF.mono g1) hp g2) g3
  unfold evOp at h
  split at h
  · rename_i v hv
    cases h
    obtain ⟨u, h1, h2⟩ := evP_ok hb hF hv
    exact val Xt.rfl' hS h1 (h2 dst ty pos aft g w)
  · split at h
    · rename_i v hv
      cases h
      obtain ⟨u, h1, h2⟩ := evR_ok hb hF hS hv
      exact val Xt.rfl' hS h1 (h2 dst ty pos aft g)
    · split at h
      · rename_i hv
        cases h
        exact out (evM_ok hb hF hS hv)
      · split at h
        · rename_i hv
          cases h
          exact out (evZ_ok hb hF hS hv)
        · split at h
          · rename_i fo args ts hop
            have hop : op = _ := hop
            subst hop
            split at h
            · rename_i f l h1 h2
              obtain ⟨u, d1, o1, a1⟩ := hF.op h1
              obtain ⟨us, d2, o2⟩ := hF.ops h2
              cases d1
              refine call h d2 fun hh => ?_
              have := run_callV (P := P) (dst := dst) (ty := ty) (pos := pos) (aft := aft) (g := g) (ts := ts) hF.2 hh (show evc (toF e F) fo args.toList = some (f, us) by unfold evc; rw [o1, o2]; simp) w
              rwa [Array.toArray_toList] at this
            · rename_i f gs ps l h1 h2
              split at h
              · rename_i g' p' h3 h4
                obtain ⟨u, d1, o1, a1⟩ := hF.op h1
                obtain ⟨us, d2, o2⟩ := hF.ops h2
                obtain ⟨u1, k1, d1⟩ := bind_some' d1
                obtain ⟨u2, k2, rfl⟩ := map_some d1
                refine call h (dnAs_app (dnAs_app (aws_ok h3 k1) d2) (aws_ok h4 k2)) fun hh => ?_
                have := run_callV (P := P) (dst := dst) (ty := ty) (pos := pos) (aft := aft) (g := g) (ts := ts) hF.2 hh (show evc (toF e F) fo args.toList = some (f, u1 ++ us ++ u2) by unfold evc; rw [o1, o2]) w
                rwa [Array.toArray_toList] at this
              · cases h
            · cases h
          · cases h
theorem evL_ok (hb : tbB P tb = true) (hc : CfOk P B cf) {Q : Exit → Act → World → Prop} : ∀ {l : List Oper} {e : En} {F : FW} {S : SW} {a : Act} {w : World}, FrW e n ds F a → RelS B e S w → evL P tb cf n ops l F S = some (F', S') →
    (∀ e' a' w', Xt e e' → FrW e' n ds F' a' → RelS B e' S' w' → Q .normal a' w') → wpList P ops.toArray Q l a w
  | [], e, F, S, a, w, hF, hS, h, k => by cases h; exact k e a w Xt.rfl' hF hS
  | o :: r, e, F, S, a, w, hF, hS, h, k => by
    unfold evL at h
    unfold wpList
    split at h
    · rename_i hw
      rw [if_pos (wtW_ok hF hw)]
      split at h
      · rename_i v S1 hv
        split at h
        · rename_i F1 hp
          exact .inl (evOp_ok hb hc hF hS hv hp fun e' a' w' h1 h2 h3 => evL_ok hb hc h2 h3 h fun e2 a2 w2 g1 => k e2 a2 w2 (h1.trans g1))
        · cases h
      · cases h
    · rename_i hw
      rw [if_neg (by rw [wtW_ok hF hw]; decide)]
      split at h
      · rename_i F1 hp
        exact evL_ok hb hc (ptD_ok hF hp rfl) hS h k
      · cases h
    · cases h

/-! ### Regions in many orders -/
inductive PX where | done | st (k : Nat) (R : List Nat) (t : Option Nat) (p : PX) | alt (k : Nat) (p m : PX) | stop
def PX.pt : PX → PT
  | .done => .done
  | .st k _ _ p => .st k p.pt
  | .alt k p m => .alt k p.pt m.pt
  | .stop => .stop
/-- What was read, and must stay as it is till another operation has gone. -/
abbrev NoW := Option Nat × FW × Op × AW
def CX (N : List (Option Nat × (World → Prop))) : Array Bool → World → Prop := fun L w => ∀ p ∈ N, relD L p.1 = false → p.2 w
theorem cx_ins {N : List (Option Nat × (World → Prop))} {k : Nat} (h : ∀ p ∈ N, p.1 ≠ some k) (L : Array Bool) (w : World) : CX N (L.setIfInBounds k true) w ↔ CX N L w := by
  have hr : ∀ p ∈ N, relD (L.setIfInBounds k true) p.1 = relD L p.1 := fun p hp => relD_set fun j hj hk => h p hp (by rw [hj, hk])
  exact ⟨fun hh p hp h1 => hh p hp (by rw [hr p hp]; exact h1), fun hh p hp h1 => hh p hp (by rw [← hr p hp]; exact h1)⟩
end
end Go.Proofs.YtmbjfpacaenbhaaGreat
