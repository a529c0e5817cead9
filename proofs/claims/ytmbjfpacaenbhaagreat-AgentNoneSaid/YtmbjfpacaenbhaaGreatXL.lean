/- A run that is computed: code, functions. Conditions: none. -/
import Derived.Test.YtmbjfpacaenbhaaGreatXK
import Derived.Test.YtmbjfpacaenbhaaGreatUN
namespace Go.Proofs.YtmbjfpacaenbhaaGreat
set_option linter.unusedVariables false
set_option linter.unusedSimpArgs false
open Go Go.RowKit

inductive Xi where | normal | ret | exit (id : Nat)
def Xi.ex : Xi → Exit | .normal => .normal | .ret => .ret | .exit id => .exit id
abbrev RT := List (Nat × List (Nat × PX))
def rtF : RT → Nat → List (Nat × PX)
  | [], _ => []
  | (f, l) :: r, k => match Nat.beq f k with | true => l | false => rtF r k
def rtG : List (Nat × PX) → Nat → Option PX
  | [], _ => none
  | (i, x) :: r, k => match Nat.beq i k with | true => some x | false => rtG r k
abbrev FT := List (Nat × Func)
def ftF : FT → Nat → Option Func
  | [], _ => none
  | (i, x) :: r, k => match Nat.beq i k with | true => some x | false => ftF r k
section
variable (P : Program) (tb : TB)
noncomputable def evCd (cf : Cf) (rt : List (Nat × PX)) (sd n : Nat) : Nat → Code → FW → SW → Option (Xi × FW × SW)
  | 0, _, _, _ => none
  | m + 1, c, F, S => match c with
    | .skip => some (.normal, F, S)
    | .label _ => some (.normal, F, S)
    | .exit id => some (.exit id, F, S)
    | .ret => some (.ret, F, S)
    | .seq x y => match evCd cf rt sd n m x F S with
      | some (.normal, F', S') => evCd cf rt sd n m y F' S'
      | r => r
    | .cond c x y => match opW F c with
      | some (.one (.bool true)) => evCd cf rt sd n m x F S
      | some (.one (.bool false)) => evCd cf rt sd n m y F S
      | _ => none
    | .block id x => match evCd cf rt sd n m x F S with
      | some (.exit j, F', S') => match Nat.beq j id with | true => some (.normal, F', S') | false => some (.exit j, F', S')
      | r => r
    | .loop x => match evCd cf rt sd n m x F S with
      | some (.normal, F', S') => evCd cf rt sd n m (.loop x) F' S'
      | r => r
    | .scope x => evCd cf rt sd n m x F S
    | .region id ops false => (evL P tb cf n ops.toList ops.toList F S).map fun r => (.normal, r.1, r.2)
    | .region id ops true => match rtG rt id with
      | some px => (evD P tb cf sd n ops.toList px F S).map fun r => (.normal, r.1, r.2)
      | none => none
    | _ => none
noncomputable def rsW (F : FW) (S : SW) : List ResultVar → Option (List AW)
  | [] => some []
  | r :: l => match (match r with
      | .tmp t => lkW F t
      | .cell x t => match lkW F x, ti tb t with
        | some (.one (.ptr k o)), some y => match getM S.M k with
          | some (_, _, cs) => rdW y.k.agg y.sz cs o
          | none => none
        | _, _ => none), rsW F S l with
    | some v, some vs => some (v :: vs)
    | _, _ => none
def cps : List AW → Option (List (Bool × List CW))
  | [] => some []
  | v :: l => match v.cp, cps l with | some p, some r => some (p :: r) | _, _ => none
noncomputable def evRs (F : FW) (S : SW) (l : List ResultVar) : Option AW := match rsW tb F S l with
  | some [v] => some v
  | some vs => (cps vs).map .tup
  | none => none
noncomputable def argF : List AW → Nat → FW → FW
  | [], _, F => F
  | v :: l, k, F => argF l (k + 1) (setW k v F)
noncomputable def evF (ft : FT) (rt : RT) : Nat → Cf
  | 0, _, _, _ => none
  | m + 1, f, args, S => match ftF ft f with
    | some fn => match fn.body, Nat.ble args.length fn.ntmps with
      | some c, true => match evCd P tb (evF ft rt m) (rtF rt f) (Nat.pow 2 (24 * m)) fn.ntmps 1000000 c (argF args 0 (fuW 10)) S with
        | some (.exit _, _, _) => none
        | some (_, F', S') => (evRs tb F' S' fn.results.toList).map fun v => (v, S')
        | none => none
      | _, _ => none
    | none => none
end
/-- What a table of functions says. -/
def FtOk (P : Program) (ft : FT) : Prop := ∀ p ∈ ft, P.funcs[p.1]? = some p.2 ∧ Has P p.1
def FtE (P : Program) : FT → Prop
  | [] => True
  | p :: r => P.funcs[p.1]? = some p.2 ∧ FtE P r
theorem ftE_ok {P : Program} : ∀ {ft : FT}, FtE P ft → (ft.all fun p => p.2.body.isSome && !(p.2.name == "runtime.NumGoroutine")) = true → FtOk P ft
  | [], _, _ => fun p hp => nomatch hp
  | x :: r, h, hb => fun p hp => by
    rw [List.all_cons, Bool.and_eq_true, Bool.and_eq_true] at hb
    rcases List.mem_cons.1 hp with rfl | hp
    · exact ⟨h.1, ⟨run_callFunc_body h.1 hb.1.1 (by simpa using hb.1.2)⟩⟩
    · exact ftE_ok h.2 hb.2 p hp
theorem ftF_ok {P : Program} : ∀ {ft : FT} {f : Nat} {fn : Func}, FtOk P ft → ftF ft f = some fn → P.funcs[f]? = some fn ∧ Has P f
  | [], _, _, _, h => by cases h
  | (i, x) :: r, f, fn, hf, h => by
    unfold ftF at h
    split at h
    · rename_i hb
      cases h
      have := Nat.eq_of_beq_eq_true hb
      subst this
      exact hf _ (List.mem_cons_self ..)
    · exact ftF_ok (fun p hp => hf p (List.mem_cons_of_mem _ hp)) h
section
variable {P : Program} {tb : TB} {cf : Cf} {B : Bs} {e : En} {n : Nat} {ds : List Deferred} {F F' : FW} {S S' : SW} {a : Act} {w : World}
/-- No panic is said of. -/
def npQ (Q : Exit → Act → World → Prop) : Exit → Act → World → Prop
  | .panic _, _, _ => False
  | e, a, w => Q e a w
theorem evD_ok (hb : tbB P tb = true) (hm : P.follows .mixedOrders = true) (hc : CfOk P B cf) {sd : Nat} {ops : Array Oper} {px : PX} {Q : Exit → Act → World → Prop} {id : Nat} (hF : FrW e n ds F a) (hS : RelS B e S w) (h : evD P tb cf sd n ops.toList px F S = some (F', S')) (k : ∀ e' a' w', Xt e e' → FrW e' n ds F' a' → RelS B e' S' w' → Q .normal a' w') : (Code.region id ops true).wp P Q a w := by
  unfold evD at h
  split at h
  · rename_i hB
    rw [Bool.and_eq_true] at hB
    split at h
    · rename_i F1 S1 ht
      cases h
      refine Code.wp_mono (Q := npQ Q) (fun e a w hq => by cases e <;> first | exact hq | exact hq.elim) ?_
      refine wr_region_any (rl := none) (by unfold okd; split <;> rfl) hm ?_
      have hd : RelS B e S { w with drawn := w.drawn + 1 } := hS.below ⟨rfl, rfl, rfl, Nat.le_refl _, fun _ _ => rfl⟩
      obtain ⟨N', n1, _, n3⟩ := evT_ok (Q := npQ Q) hb hc px hF hd (N := []) (N0 := []) trivial ht fun F2 S2 hr e' a' w' g1 g2 g3 => by
        cases hr
        exact k e' a' w' g1 g2 (g3.at _)
      have hsel := hB.1
      have hok := okM_ok rfl LM.zero hB.2
      rw [Array.toArray_toList] at n3 hsel hok
      have := wpAny_of_C (wpAnyC_tree (P := P) (Q' := npQ Q) (ops := ops) (fun _ _ _ _ _ _ _ hh => hh) hsel _ px.pt (CX ([] ++ N')) _ a _ hok (fun p hp _ => (n1 p (by simpa using hp)).1) n3)
      simpa using this
    · cases h
  · cases h
theorem rds_wr {c : Code} {Q : Exit → Act → World → Prop} {m : Nat} (h : rds none P c Q m a w) : (Code.loop c).wp P Q a w := wr_rounds (rl := none) m h
theorem evCd_ok (hb : tbB P tb = true) (hm : P.follows .mixedOrders = true) (hc : CfOk P B cf) {rt : List (Nat × PX)} {sd : Nat} : ∀ (m : Nat),
    (∀ {c : Code} {e : En} {F : FW} {S : SW} {a : Act} {w : World} {x : Xi} {F' : FW} {S' : SW} {Q : Exit → Act → World → Prop}, FrW e n ds F a → RelS B e S w → evCd P tb cf rt sd n m c F S = some (x, F', S') → (∀ e' a' w', Xt e e' → FrW e' n ds F' a' → RelS B e' S' w' → Q x.ex a' w') → c.wp P Q a w) ∧
    (∀ {c : Code} {e : En} {F : FW} {S : SW} {a : Act} {w : World} {x : Xi} {F' : FW} {S' : SW} {Q : Exit → Act → World → Prop}, FrW e n ds F a → RelS B e S w → evCd P tb cf rt sd n m (.loop c) F S = some (x, F', S') → (∀ e' a' w', Xt e e' → FrW e' n ds F' a' → RelS B e' S' w' → Q x.ex a' w') → rds none P c Q m a w)
  | 0 => ⟨fun _ _ h _ => (by cases h), fun _ _ h _ => (by cases h)⟩
  | m + 1 => by
    obtain ⟨ih1, ih2⟩ := evCd_ok hb hm hc (rt := rt) m
    have hloop : ∀ {c : Code} {e : En} {F : FW} {S : SW} {a : Act} {w : World} {x : Xi} {F' : FW} {S' : SW} {Q : Exit → Act → World → Prop}, FrW e n ds F a → RelS B e S w → evCd P tb cf rt sd n (m + 1) (.loop c) F S = some (x, F', S') → (∀ e' a' w', Xt e e' → FrW e' n ds F' a' → RelS B e' S' w' → Q x.ex a' w') → rds none P c Q (m + 1) a w := by
      intro c e F S a w x F' S' Q hF hS h k
      simp only [evCd] at h
      show c.wp P (Exit.then (rds none P c Q m) Q) a w
      split at h
      · rename_i F1 S1 h1
        exact ih1 hF hS h1 fun e' a' w' g1 g2 g3 => ih2 g2 g3 h fun e2 a2 w2 q1 => k e2 a2 w2 (g1.trans q1)
      · rename_i hn
        refine ih1 hF hS h fun e' a' w' g1 g2 g3 => ?_
        have := k e' a' w' g1 g2 g3
        cases x with
        | normal => exact absurd h (hn _ _)
        | ret => exact this
        | exit id => exact this
    refine ⟨?_, hloop⟩
    intro c e F S a w x F' S' Q hF hS h k
    cases c with
    | skip => simp only [evCd] at h; cases h; exact wp_skip (k e a w Xt.rfl' hF hS)
    | label l => simp only [evCd] at h; cases h; exact wp_label (k e a w Xt.rfl' hF hS)
    | exit id => simp only [evCd] at h; cases h; exact wp_exit (k e a w Xt.rfl' hF hS)
    | ret => simp only [evCd] at h; cases h; exact wp_ret (k e a w Xt.rfl' hF hS)
    | seq y z =>
      simp only [evCd] at h
      refine wp_seq ?_
      split at h
      · rename_i F1 S1 h1
        exact ih1 hF hS h1 fun e' a' w' g1 g2 g3 => ih1 g2 g3 h fun e2 a2 w2 q1 => k e2 a2 w2 (g1.trans q1)
      · rename_i hn
        refine ih1 hF hS h fun e' a' w' g1 g2 g3 => ?_
        have := k e' a' w' g1 g2 g3
        cases x with
        | normal => exact absurd h (hn _ _)
        | ret => exact this
        | exit id => exact this
    | cond c y z =>
      simp only [evCd] at h
      split at h
      · rename_i hc'
        obtain ⟨_, d1, _, a1⟩ := hF.op hc'
        cases d1
        exact wp_cond_true a1 (ih1 hF hS h k)
      · rename_i hc'
        obtain ⟨_, d1, _, a1⟩ := hF.op hc'
        cases d1
        exact wp_cond_false a1 (ih1 hF hS h k)
      · cases h
    | block id y =>
      simp only [evCd] at h
      refine wp_block ?_
      split at h
      · rename_i j F1 S1 h1
        split at h
        · rename_i hj
          cases h
          have hj := Nat.eq_of_beq_eq_true hj
          subst hj
          exact ih1 hF hS h1 fun e' a' w' g1 g2 g3 => by
            show Exit.inBlock j Q (.exit j) a' w'
            simp only [Exit.inBlock, if_pos]; exact k e' a' w' g1 g2 g3
        · rename_i hj
          cases h
          exact ih1 hF hS h1 fun e' a' w' g1 g2 g3 => by
            show Exit.inBlock id Q (.exit j) a' w'
            have hne : j ≠ id := fun hh => by rw [hh, Nat.beq_refl] at hj; cases hj
            simp only [Exit.inBlock, if_neg hne]; exact k e' a' w' g1 g2 g3
      · rename_i hn
        refine ih1 hF hS h fun e' a' w' g1 g2 g3 => ?_
        have := k e' a' w' g1 g2 g3
        cases x with
        | normal => exact this
        | ret => exact this
        | exit id => exact absurd h (hn _ _ _)
    | loop y => exact rds_wr (hloop hF hS h k)
    | scope y =>
      simp only [evCd] at h
      refine wp_scope_straight (ih1 hF hS h fun e' a' w' g1 g2 g3 => ?_)
      have := k e' a' w' g1 g2 g3
      cases x <;> exact this
    | region id ops draw =>
      cases draw with
      | false =>
        simp only [evCd] at h
        obtain ⟨r, h1, h2⟩ := map_some h
        cases h2
        have hl := evL_ok hb hc (Q := Q) hF hS h1 k
        have := wr_region_lit (rl := none) (id := id) (l := ops.toList) (by unfold okd; split <;> rfl) hl
        rw [Array.toArray_toList] at this
        exact this
      | true =>
        simp only [evCd] at h
        split at h
        · rename_i px hp
          obtain ⟨r, h1, h2⟩ := map_some h
          cases h2
          exact evD_ok hb hm hc hF hS h1 k
        · cases h
    | _ => simp only [evCd] at h; cases h
theorem argF_get : ∀ {args : List AW} {k : Nat} {F : FW} {j : Nat} {v : AW}, lkW (argF args k F) j = some v → (k ≤ j ∧ args[j - k]? = some v) ∨ lkW F j = some v
  | [], k, F, j, v, h => .inr h
  | x :: l, k, F, j, v, h => by
    rcases argF_get (args := l) (k := k + 1) h with ⟨h1, h2⟩ | h2
    · refine .inl ⟨by omega, ?_⟩
      rw [show j - k = (j - (k + 1)) + 1 from by omega, List.getElem?_cons_succ]; exact h2
    · rcases setW_get h2 with ⟨rfl, rfl⟩ | ⟨_, h3⟩
      · exact .inl ⟨Nat.le_refl _, by simp⟩
      · exact .inr h3
theorem dnAs_get : ∀ {l : List AW} {us : List Value} {k : Nat} {v : AW}, dnAs e l = some us → l[k]? = some v → ∃ u, us[k]? = some u ∧ v.dn e = some u
  | [], us, k, v, h, hk => by simp at hk
  | x :: l, us, 0, v, h, hk => by
    obtain ⟨u, us', h1, h2, rfl⟩ := dnAs_cons h
    simp at hk; subst hk
    exact ⟨u, rfl, h1⟩
  | x :: l, us, k + 1, v, h, hk => by
    obtain ⟨u, us', h1, h2, rfl⟩ := dnAs_cons h
    exact dnAs_get (l := l) (k := k) h2 (by simpa using hk)
theorem lk_zip : ∀ {us : List Value} {s k : Nat} {u : Value}, s ≤ k → us[k - s]? = some u → lk ((us.zipIdx s).map fun (v, i) => (i, v)) k = some u
  | [], s, k, u, _, h => by simp at h
  | x :: l, s, k, u, hs, h => by
    rw [List.zipIdx_cons, List.map_cons]
    by_cases hk : s = k
    · subst hk
      rw [Nat.sub_self] at h
      simp at h; subst h
      exact lk_cons_eq ..
    · rw [lk_cons_ne hk]
      refine lk_zip (by omega) ?_
      rw [show k - s = (k - (s + 1)) + 1 from by omega, List.getElem?_cons_succ] at h; exact h
theorem argF_ok {args : List AW} {us : List Value} {a : Act} (h : dnAs e args = some us) (hF : Fr n ds ((us.zipIdx).map fun (v, i) => (i, v)) a) : FrW e n ds (argF args 0 (fuW 10)) a := by
  have key : ∀ {j : Nat} {v : AW}, lkW (argF args 0 (fuW 10)) j = some v → ∃ u, us[j]? = some u ∧ v.dn e = some u := fun {j v} hj => by
    rcases argF_get hj with ⟨_, h2⟩ | h2
    · exact dnAs_get h (by simpa using h2)
    · rw [fuW_get] at h2; cases h2
  refine ⟨fun j v hj => ?_, hF.sub fun j u hj => ?_⟩
  · obtain ⟨u, _, h2⟩ := key hj
    exact ⟨u, h2⟩
  · obtain ⟨v, h1, h2⟩ := toF_get hj
    obtain ⟨u', h3, h4⟩ := key h1
    rw [h2] at h4; cases h4
    exact lk_zip (Nat.zero_le _) (by simpa using h3)
def rvR (tmps : Array Value) : ResultVar → Sem Value
  | .tmp t => pure (tmps.getD t undef)
  | .cell a t => do loadVar t (← asAddr (tmps.getD a undef))
theorem resW_eq (fn : Func) (tmps : Array Value) : results fn tmps = (do let vs ← fn.results.mapM (rvR tmps); pure (if h : vs.size = 1 then vs[0] else .tuple vs)) := rfl
theorem rsW_ok (hb : tbB P tb = true) (hF : FrW e n ds F a) (hS : RelS B e S w) : ∀ {l : List ResultVar} {vs : List AW}, rsW tb F S l = some vs → ∃ us, dnAs e vs = some us ∧ (l.mapM (rvR a.tmps)).run P w = .ok us w
  | [], vs, h => by cases h; exact ⟨[], rfl, rfl⟩
  | r :: l, vs, h => by
    unfold rsW at h
    split at h
    · rename_i v vs' hv h2
      cases h
      obtain ⟨us, g1, g2⟩ := rsW_ok hb hF hS h2
      have hr : ∃ u, v.dn e = some u ∧ (rvR a.tmps r).run P w = .ok u w := by
        cases r with
        | tmp t =>
          obtain ⟨u, d1, o1⟩ := lk_toF hF.1 hv
          exact ⟨u, d1, by show (pure (a.tmps.getD t undef) : Sem Value).run P w = _; rw [hF.2.getD o1]; rfl⟩
        | cell x t =>
          simp only at hv
          split at hv
          · rename_i k o y hx ht
            split at hv
            · rename_i i q cs hg
              obtain ⟨u, d1, o1⟩ := lk_toF hF.1 hx
              obtain ⟨b, hb', rfl⟩ := map_some d1
              obtain ⟨u', k1, k2⟩ := hS.load (P := P) hg hb' (ti_ok hb ht).ty hv
              exact ⟨u', k1, by unfold rvR; simp only [hF.2.getD o1]; simp [asAddr, k2]⟩
            · cases hv
          · cases hv
      obtain ⟨u, d1, r1⟩ := hr
      refine ⟨u :: us, dnAs_mk d1 g1, ?_⟩
      rw [List.mapM_cons, Sem.run_bind]
      refine Eq.trans (congrArg (fun z => Result.andThen z _) r1) ?_
      rw [Result.andThen_ok, Sem.run_bind, g2]
      rfl
    · cases h
theorem cps_ok : ∀ {vs : List AW} {l : List (Bool × List CW)} {us : List Value}, cps vs = some l → dnAs e vs = some us → dnPs e l = some us
  | [], l, us, h, h' => by cases h; cases h'; rfl
  | v :: vs, l, us, h, h' => by
    unfold cps at h
    split at h
    · rename_i p r h1 h2
      cases h
      obtain ⟨u, us', g1, g2, rfl⟩ := dnAs_cons h'
      exact dnPs_mk (by rw [cp_dn h1]; exact g1) (cps_ok h2 g2)
    · cases h
theorem evRs_ok (hb : tbB P tb = true) (hF : FrW e n ds F a) (hS : RelS B e S w) {fn : Func} {v : AW} (h : evRs tb F S fn.results.toList = some v) : ∃ u, v.dn e = some u ∧ (results fn a.tmps).run P w = .ok u w := by
  unfold evRs at h
  have key : ∀ {vs : List AW}, rsW tb F S fn.results.toList = some vs → ∃ us, dnAs e vs = some us ∧ (results fn a.tmps).run P w = .ok (if h : us.toArray.size = 1 then us.toArray[0] else .tuple us.toArray) w := fun {vs} hv => by
    obtain ⟨us, g1, g2⟩ := rsW_ok hb hF hS hv
    refine ⟨us, g1, ?_⟩
    rw [resW_eq, Array.mapM_eq_mapM_toList, Sem.run_bind]
    have : (List.toArray <$> (fn.results.toList.mapM (rvR a.tmps)) : Sem (Array Value)).run P w = .ok us.toArray w := by
      rw [← bind_pure_comp, Sem.run_bind, g2]; rfl
    refine Eq.trans (congrArg (fun z => Result.andThen z _) this) ?_
    rfl
  split at h
  · rename_i v' hv
    cases h
    obtain ⟨us, g1, g2⟩ := key hv
    obtain ⟨u, us', h1, h2, rfl⟩ := dnAs_cons g1
    cases h2
    exact ⟨u, h1, by rw [g2]; rfl⟩
  · rename_i vs hne hv
    obtain ⟨l, h1, rfl⟩ := map_some h
    obtain ⟨us, g1, g2⟩ := key hv
    refine ⟨.tuple us.toArray, by show (dnPs e l).map _ = _; rw [cps_ok h1 g1]; rfl, ?_⟩
    rw [g2]
    have : ¬ us.toArray.size = 1 := fun hh => by
      match vs, us, g1, hh with
      | [], us, g1, hh => cases g1; cases hh
      | [v], us, g1, hh => exact hne v rfl
      | v :: v' :: vs, us, g1, hh =>
        obtain ⟨u, us', _, k2, rfl⟩ := dnAs_cons g1
        obtain ⟨u', us'', _, _, rfl⟩ := dnAs_cons k2
        simp at hh
    rw [dif_neg this]
  · cases h
theorem evF_ok (hb : tbB P tb = true) (hm : P.follows .mixedOrders = true) {ft : FT} {rt : RT} (hf : FtOk P ft) : ∀ m, CfOk P B (evF P tb ft rt m)
  | 0 => fun f args S v S' h => by cases h
  | m + 1 => fun f args S v S' h => by
    have ih := evF_ok hb hm hf (rt := rt) m
    unfold evF at h
    split at h
    · rename_i fn hfn
      obtain ⟨p1, p2⟩ := ftF_ok hf hfn
      refine ⟨p2, fun e w us hu hS => ?_⟩
      split at h
      · rename_i c hbd hn
        have hlen : us.length = args.length := by
          clear h hn
          induction args generalizing us with
          | nil => cases hu; rfl
          | cons v l ih =>
            obtain ⟨u, us', _, h2, rfl⟩ := dnAs_cons hu
            simp [ih _ h2]
        refine enter p1 hbd rfl (by rw [hlen]; exact hn) fun a hF => ?_
        have hF' : FrW e fn.ntmps [] (argF args 0 (fuW 10)) a := argF_ok hu hF
        have fin : ∀ {x : Xi} {F' : FW} {S1 : SW}, evCd P tb (evF P tb ft rt m) (rtF rt f) (Nat.pow 2 (24 * m)) fn.ntmps 1000000 c (argF args 0 (fuW 10)) S = some (x, F', S1) → x = .normal ∨ x = .ret → (evRs tb F' S1 fn.results.toList).map (fun v => (v, S1)) = some (v, S') → c.wr none P (bodyPost P fn fun en w' => ∃ e' u, en = .returned u ∧ Xt e e' ∧ v.dn e' = some u ∧ RelS B e' S' w') a w := fun {x F' S1} h1 hx h2 => by
          obtain ⟨v', h3, h4⟩ := map_some h2
          cases h4
          refine (evCd_ok hb hm ih 1000000).1 hF' hS h1 fun e' a' w' g1 g2 g3 => ?_
          obtain ⟨u, d1, r1⟩ := evRs_ok hb g2 g3 h3
          have hd : a'.defers = [] := g2.2.defers
          rcases hx with rfl | rfl
          · exact ⟨hd, u, r1, e', u, rfl, g1, d1, g3⟩
          · exact ⟨hd, u, r1, e', u, rfl, g1, d1, g3⟩
        split at h
        · cases h
        · rename_i x F1 S1 hne h1
          cases x with
          | normal => exact fin h1 (.inl rfl) h
          | ret => exact fin h1 (.inr rfl) h
          | exit id => exact absurd rfl (hne id)
        · cases h
      · cases h
    · cases h
/-- A whole run from any world. -/
theorem run_ok (hb : tbB P tb = true) (hm : P.follows .mixedOrders = true) {ft : FT} {rt : RT} (hf : FtOk P ft) {m : Nat} {f : FuncId} {args : List AW} {g : Nat → Option Value} {us : List Value} {b : Bool} (h : (match evF P tb ft rt m f args ⟨[], [], [], 0⟩ with | some (.one (.bool b'), _) => b' == b | _ => false) = true) (hu : dnAs ⟨fun _ => none, fun _ => 0, g⟩ args = some us) (w0 : World) :
    Calls P f us.toArray w0 fun en w' => en = .returned (.bool b) ∧ Below w0.heap.size w0 w' := by
  split at h
  · rename_i b' S' hr
    have hb' := eq_of_beq h
    subst hb'
    refine ((evF_ok (B := ⟨fun _ => True, [], w0⟩) hb hm hf m) _ _ _ _ _ hr).2 ⟨fun _ => none, fun _ => 0, g⟩ w0 us hu ⟨[], [], Stw.start _ w0, trivial, trivial, fun _ _ h => nomatch h⟩ |>.mono ?_
    rintro en w' ⟨e', u, rfl, _, hd, M, Z, hW, _⟩
    cases hd
    exact ⟨rfl, hW.frm.below⟩
  · cases h
end
end Go.Proofs.YtmbjfpacaenbhaaGreat
