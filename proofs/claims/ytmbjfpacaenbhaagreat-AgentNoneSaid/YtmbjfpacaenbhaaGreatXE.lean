/- A run that is computed: closed operations answer what was computed. Conditions: none. -/
import Derived.Test.YtmbjfpacaenbhaaGreatXD
namespace Go.Proofs.YtmbjfpacaenbhaaGreat
set_option linter.unusedVariables false
set_option linter.unusedSimpArgs false
open Go Go.RowKit
section
variable {P : Program} {tb : TB} {e : En} {n : Nat} {ds : List Deferred} {F : FW} {a : Act} {v : AW}
theorem intW_ok (hF : FrW e n ds F a) {q : Operand} {l : Int} (h : intW (opW F q) = some l) : ∃ k, a.eval q = .int k l := by
  unfold intW at h
  split at h
  · rename_i k l' hq
    cases h
    obtain ⟨u, d1, _, a1⟩ := hF.op hq
    cases d1
    exact ⟨k, a1⟩
  · cases h
theorem run_bound {k : IntKind} {l : Int} {y : Nat} (code : BoundsCode) (h0 : 0 ≤ l) (h1 : l ≤ y) (w : World) : (Instr.sliceBound (.int k l) y code).run P w = .ok l.toNat w := by
  simp [Instr.sliceBound, asIntOf, h0, h1]
/-- The bounds of a slice, all three kinds. -/
theorem run_bounds (hF : FrW e n ds F a) {isS : Bool} {len cap : Nat} {lo hi mx : Option Operand} {l h : Int} {m : Option Int} (hl : loW F lo = some l) (hh : hiW F len hi = some h) (hm : mxW F mx hi = some m)
    (hb : 0 ≤ l ∧ l ≤ h ∧ h ≤ m.getD cap ∧ m.getD cap ≤ cap) (w : World) : (Instr.sliceBounds isS len cap (lo.map a.eval) (hi.map a.eval) (mx.map a.eval)).run P w = .ok (l.toNat, h.toNat, (m.getD cap).toNat) w := by
  obtain ⟨b1, b2, b3, b4⟩ := hb
  have hlo : ∀ (code : BoundsCode), (match lo.map a.eval with | some v => Instr.sliceBound v h.toNat code | none => pure 0 : Sem Nat).run P w = .ok l.toNat w := fun code => by
    cases lo with
    | none => cases hl; rfl
    | some q =>
      obtain ⟨k, hk⟩ := intW_ok hF hl
      show (Instr.sliceBound (a.eval q) _ _).run P w = _
      rw [hk]; exact run_bound _ b1 (by omega) w
  unfold Instr.sliceBounds
  cases mx with
  | none =>
    cases hm
    simp only [Option.getD_none] at b3 b4 ⊢
    cases hi with
    | none =>
      cases hh
      simp only [Option.map_none, Sem.run_bind, Sem.run_pure, Result.andThen_ok]
      have := hlo .sliceB
      simp only [Int.toNat_natCast] at this ⊢
      cases lo with
      | none => cases hl; simp
      | some q => simp only [Option.map_some] at this ⊢; simp [this]
    | some q =>
      obtain ⟨k, hk⟩ := intW_ok hF hh
      have hq : ∀ code, (Instr.sliceBound (a.eval q) cap code).run P w = .ok h.toNat w := fun code => by rw [hk]; exact run_bound _ (by omega) (by omega) w
      have := hlo .sliceB
      cases lo with
      | none => cases hl; simp [hq]
      | some q' => simp only [Option.map_some] at this ⊢; simp [hq, this]
  | some q3 =>
    cases hi with
    | none => cases hm
    | some q =>
      obtain ⟨m', hm', rfl⟩ := map_some (show (intW (opW F q3)).map some = some m from hm)
      obtain ⟨k3, hk3⟩ := intW_ok hF hm'
      obtain ⟨k, hk⟩ := intW_ok hF hh
      simp only [Option.getD_some] at b3 b4 ⊢
      have hq3 : ∀ code, (Instr.sliceBound (a.eval q3) cap code).run P w = .ok m'.toNat w := fun code => by rw [hk3]; exact run_bound _ (by omega) (by omega) w
      have hq : ∀ code, (Instr.sliceBound (a.eval q) m'.toNat code).run P w = .ok h.toNat w := fun code => by rw [hk]; exact run_bound _ (by omega) (by omega) w
      have := hlo .slice3C
      cases lo with
      | none => cases hl; simp [hq, hq3]
      | some q' => simp only [Option.map_some] at this ⊢; simp [hq, hq3, this]
theorem evSl_ok {b o sz len cap bb : Nat} {c : Option Nat} {l h : Int} {m : Option Int} {r : CW} (hr : evSl b o sz len c l h m = some r) (hb : e.b b = some bb) (hc : c = none → cap = e.κ b - o / sz ∧ len ≤ cap) (hc' : ∀ x, c = some x → cap = x) :
    (0 ≤ l ∧ l ≤ h ∧ h ≤ m.getD cap ∧ m.getD cap ≤ cap) ∧ r.dn e = some (.slice (if (m.getD cap).toNat = l.toNat then some ⟨bb, o, none⟩ else some ⟨bb, o + l.toNat * sz, none⟩) (h.toNat - l.toNat) ((m.getD cap).toNat - l.toNat)) := by
  unfold evSl at hr
  split at hr
  · rename_i m
    split at hr
    · rename_i hd
      have hd := of_decide_eq_true hd
      cases hr
      have hcap : ((c.getD len : Nat) : Int) ≤ cap := by
        cases c with
        | none => have := hc rfl; simp only [Option.getD_none]; omega
        | some x => rw [hc' x rfl]; exact Int.le_refl _
      simp only [Option.getD_some]
      refine ⟨by omega, ?_⟩
      rw [sl_mk (c := some _) hb (fun h => by cases h)]
      by_cases e1 : m = l
      · subst e1; simp
      · rw [if_neg e1, if_neg (by omega)]; rfl
    · cases hr
  · split at hr
    · rename_i c
      split at hr
      · rename_i hd
        have hd := of_decide_eq_true hd
        cases hr
        have := hc' c rfl
        subst this
        simp only [Option.getD_none, Int.toNat_natCast]
        refine ⟨by omega, ?_⟩
        rw [sl_mk (c := some _) hb (fun h => by cases h)]
        by_cases e1 : (cap : Int) = l
        · subst e1; simp
        · rw [if_neg e1, if_neg (by omega)]; rfl
      · cases hr
    · split at hr
      · rename_i hd
        have hd := of_decide_eq_true hd
        cases hr
        obtain ⟨h1, h2⟩ := hc rfl
        simp only [Option.getD_none, Int.toNat_natCast]
        refine ⟨by omega, ?_⟩
        have hdiv : (o + l.toNat * sz) / sz = o / sz + l.toNat := Nat.add_mul_div_right _ _ hd.2.2.2.2
        rw [sl_mk hb (fun _ => by rw [hdiv]; omega), hdiv, Option.getD_none]
        have e3 : e.κ b - (o / sz + l.toNat) = cap - l.toNat := by omega
        rw [e3]
        by_cases e1 : cap = l.toNat
        · have : l = 0 := by omega
          subst this
          simp
        · rw [if_neg e1]
      · split at hr
        · rename_i hd
          have hd := of_decide_eq_true hd
          cases hr
          obtain ⟨h1, h2⟩ := hc rfl
          obtain ⟨d1, d2, d3⟩ := hd
          subst d2
          simp only [Option.getD_none, Int.toNat_natCast]
          refine ⟨by omega, ?_⟩
          simp only [CW.dn, hb, Option.map_some]
          rw [if_pos (by omega), ← h1, Nat.sub_self]
        · cases hr
theorem comps_ok : ∀ {l : List AW} {m : List (Bool × List CW)} {us : List Value}, l.mapM AW.cp = some m → dnAs e l = some us → dnPs e m = some us
  | [], m, us, h, h' => by cases h'; simp at h; subst h; rfl
  | v :: l, m, us, h, h' => by
    rw [List.mapM_cons] at h
    obtain ⟨p, h1, h⟩ := bind_some' h
    obtain ⟨r, h2, h⟩ := bind_some' h
    cases h
    obtain ⟨u, us', g1, g2, rfl⟩ := dnAs_cons h'
    exact dnPs_mk (by rw [cp_dn h1]; exact g1) (comps_ok h2 g2)
theorem evP_ok (hb : tbB P tb = true) (hF : FrW e n ds F a) {op : Op} (h : evP P tb F op = some v) : Ans P e a op v := by
  have hR := hF.2
  cases op with
  | move x =>
    obtain ⟨u, d1, o1, _⟩ := hF.op h
    exact ⟨u, d1, fun _ _ _ _ _ => yx_any fun B M Z => y_move hR o1⟩
  | assign x =>
    obtain ⟨u, d1, o1, _⟩ := hF.op h
    exact ⟨u, d1, fun _ _ _ _ _ => yx_any fun B M Z => y_assign hR o1⟩
  | pick c x y =>
    simp only [evP] at h
    split at h
    · rename_i hc
      obtain ⟨_, dc, oc, _⟩ := hF.op hc
      cases dc
      obtain ⟨u, d1, o1, _⟩ := hF.op h
      exact ⟨u, d1, fun _ _ _ _ _ => yx_any fun B M Z => y_pick_t hR oc rfl o1⟩
    · rename_i hc
      obtain ⟨_, dc, oc, _⟩ := hF.op hc
      cases dc
      obtain ⟨u, d1, o1, _⟩ := hF.op h
      exact ⟨u, d1, fun _ _ _ _ _ => yx_any fun B M Z => y_pick_f hR oc rfl o1⟩
    · cases h
  | binOp op T x y T' =>
    simp only [evP] at h
    split at h
    · rename_i h1 h2
      exact evBin_ok hb hF h1 h2 h
    · cases h
  | unOp op T x =>
    cases op <;> simp only [evP] at h <;> first | (cases h; done) | skip
    · split at h
      · rename_i hx
        cases h
        obtain ⟨_, dx, ox, _⟩ := hF.op hx
        cases dx
        exact ⟨_, rfl, fun _ _ _ _ _ => yx_any fun B M Z => y_neg hR ox rfl⟩
      · cases h
    · split at h
      · rename_i hx
        cases h
        obtain ⟨_, dx, ox, _⟩ := hF.op hx
        cases dx
        exact ⟨_, rfl, fun _ _ _ _ _ => yx_any fun B M Z => y_not hR ox⟩
      · cases h
  | extract x i =>
    simp only [evP] at h
    split at h
    · rename_i l hx
      obtain ⟨p, h1, h2⟩ := bind_some' h
      obtain ⟨_, dx, ox, _⟩ := hF.op hx
      obtain ⟨vs, g1, rfl⟩ := map_some dx
      obtain ⟨u, g2, g3⟩ := dnPs_get g1 h1
      exact ⟨u, by rw [aw_dn h2]; exact g3, fun _ _ _ _ _ => yx_any fun B M Z => y_extract hR ox g2⟩
    · cases h
  | field t x i =>
    simp only [evP] at h
    split at h
    · rename_i hx ht
      obtain ⟨_, dx, ox, _⟩ := hF.op hx
      obtain ⟨us, g1, rfl⟩ := map_some dx
      split at h
      · rename_i o agg sz hf
        obtain ⟨u, g2, g3⟩ := rdW_ok h g1
        obtain ⟨gs, f, k1, k2, k3, k4⟩ := (ti_ok hb ht).field rfl hf
        exact ⟨u, g2, fun _ _ _ _ _ => yx_any fun B M Z => y_field k1 k2 rfl k3 k4 hR ox g3⟩
      · cases h
    · cases h
  | fieldAddr t x i =>
    simp only [evP] at h
    split at h
    · rename_i b o _ _ _ fs hx ht
      obtain ⟨_, dx, ox, _⟩ := hF.op hx
      obtain ⟨bb, g1, rfl⟩ := map_some dx
      split at h
      · rename_i fo agg sz hf
        cases h
        obtain ⟨gs, f, k1, k2, k3, k4⟩ := (ti_ok hb ht).field rfl hf
        exact ⟨_, by show (e.b b).map _ = _; rw [g1]; rfl, fun _ _ _ _ _ => yx_any fun B M Z => y_fieldAddr k1 k2 k3 rfl k4 hR ox _ rfl⟩
      · cases h
    · cases h
  | nilCheck x =>
    simp only [evP] at h
    split at h
    · rename_i b o hx
      cases h
      obtain ⟨_, dx, ox, _⟩ := hF.op hx
      obtain ⟨bb, g1, rfl⟩ := map_some dx
      exact ⟨_, dx, fun _ _ _ _ _ => yx_any fun B M Z => y_nilCheck hR ox⟩
    · cases h
  | convert s t x =>
    simp only [evP] at h
    split at h
    · rename_i k p _ _ _ j _ _ _ k' hx hs ht
      split at h
      · rename_i hk
        cases h
        obtain ⟨_, dx, ox, _⟩ := hF.op hx
        cases dx
        have := ki_eq hk
        subst this
        exact ⟨_, rfl, fun _ _ _ _ _ => yx_any fun B M Z => y_convI ((ti_ok hb hs).int rfl) ((ti_ok hb ht).int rfl) hR ox⟩
      · cases h
    · cases h
  | indexAddr t x i =>
    simp only [evP] at h
    split at h
    · rename_i b o _ len _ _ q _ _ _ el hx hi ht
      obtain ⟨_, dx, ox, ax⟩ := hF.op hx
      obtain ⟨_, di, oi, ai⟩ := hF.op hi
      obtain ⟨bb, g1, rfl, _⟩ := sl_dn dx
      cases di
      split at h
      · rename_i y hq hy
        have hq := of_decide_eq_true hq
        cases h
        have hu := (ti_ok hb ht).slice rfl
        refine ⟨_, by show (e.b b).map _ = _; rw [g1]; rfl, fun _ _ _ _ _ w => ?_⟩
        simp [execOp, Instr.indexAt, ax, ai, asIntOf, Go.underlying, hu, hq, (ti_ok hb hy).sizeOf, addr_add]
      · cases h
    · rename_i b o _ q _ _ _ len el hx hi ht
      obtain ⟨_, dx, ox, ax⟩ := hF.op hx
      obtain ⟨_, di, oi, ai⟩ := hF.op hi
      obtain ⟨bb, g1, rfl⟩ := map_some dx
      cases di
      split at h
      · rename_i y hq hy
        have hq := of_decide_eq_true hq
        cases h
        have hu := (ti_ok hb ht).arr rfl
        refine ⟨_, by show (e.b b).map _ = _; rw [g1]; rfl, fun _ _ _ _ _ w => ?_⟩
        simp [execOp, Instr.indexAt, ax, ai, asIntOf, Go.underlying, hu, hq, (ti_ok hb hy).sizeOf, addr_add, Instr.sureAddr]
      · cases h
    · cases h
  | index t x i =>
    simp only [evP] at h
    split at h
    · rename_i l _ q _ _ _ len el hx hi ht
      obtain ⟨_, dx, ox, ax⟩ := hF.op hx
      obtain ⟨_, di, oi, ai⟩ := hF.op hi
      obtain ⟨us, g1, rfl⟩ := map_some dx
      cases di
      split at h
      · rename_i y hq hy
        have hq := of_decide_eq_true hq
        have hu := (ti_ok hb ht).arr rfl
        have hy := ti_ok hb hy
        obtain ⟨u, g2, g3⟩ := rdW_ok h g1
        refine ⟨u, g2, fun _ _ _ _ _ w => ?_⟩
        have hp : (part el us.toArray (q.toNat * y.sz)).run P w = .ok u w := by
          have hy' := hy.ty
          unfold part
          cases hk : y.k.agg with
          | false =>
            rw [hk] at hy' g3
            simp only [rdv, Bool.false_eq_true, if_false] at g3
            simp [hy'.isAgg, g3]
          | true =>
            rw [hk] at hy' g3
            simp only [rdv, if_true] at g3
            split at g3
            · cases g3
              simp only [Sem.run_bind, hy'.isAgg, Result.andThen_ok, if_true, hy'.sizeOf, Sem.run_pure]
              simp [List.drop_take]
            · cases g3
        simp [execOp, Instr.index, ax, ai, asIntOf, Go.underlying, hu, hq, hy.sizeOf, hp]
      · cases h
    · rename_i s _ q _ _ _ hx hi ht
      obtain ⟨_, dx, ox, ax⟩ := hF.op hx
      obtain ⟨_, di, oi, ai⟩ := hF.op hi
      cases dx; cases di
      obtain ⟨c, h1, rfl⟩ := map_some h
      exact ⟨_, rfl, fun _ _ _ _ _ => yx_any fun B M Z => y_sindex ((ti_ok hb ht).str rfl) hR ox oi h1⟩
    · cases h
  | makeFunc fn gs ps =>
    cases fn <;> simp only [evP] at h <;> first | (cases h; done) | skip
    split at h
    · rename_i l m h1 h2
      cases h
      obtain ⟨l1, h3, h4⟩ := bind_some' h1
      obtain ⟨l2, h5, h6⟩ := bind_some' h2
      obtain ⟨us, k1, k2⟩ := hF.ops h3
      obtain ⟨vs, k3, k4⟩ := hF.ops h5
      refine ⟨_, by show (dnPs e l).bind _ = _; rw [comps_ok h4 k1]; show (dnPs e m).map _ = _; rw [comps_ok h6 k3]; rfl, fun _ _ _ _ _ w => ?_⟩
      have e1 : gs.map a.eval = us.toArray := by apply Array.toList_inj.1; rw [Array.toList_map, hR.evals k2]
      have e2 : ps.map a.eval = vs.toArray := by apply Array.toList_inj.1; rw [Array.toList_map, hR.evals k4]
      simp [execOp, Instr.makeFunc, e1, e2]
    · cases h
  | build t ps =>
    simp only [evP] at h
    split at h
    · rename_i m x fs h1 h2 h3
      obtain ⟨vp, k1, k2⟩ := prW_ok hF h1
      split at h
      · rename_i pl hpl
        obtain ⟨out, h4, rfl⟩ := map_some h
        have hx := ti_ok hb h2
        obtain ⟨z, z1, z2, z3⟩ := hx.zero
        obtain ⟨ws, w1, w2⟩ := fillW_ok h4 k2 (z2 e)
        refine ⟨_, by show (dnL e out).map _ = _; rw [w1]; rfl, fun dst ty pos aft g => yx_any fun B M Z => ?_⟩
        have := y_build (P := P) (B := B) (M := M) (Z := Z) (t := t) (zs := z.cells.toList) (pl := pl.toList) (parts := ps.toList) (dst := dst) (ty := ty) (pos := pos) (aft := aft) (g := g) ⟨⟨z, z3, by simp⟩, fs, h3, fun w => by rw [Array.toArray_toList]; exact pureRun_ok hpl w⟩ hR k1 w2 rfl
        rwa [Array.toArray_toList] at this
      · cases h
    · rename_i m _ _ zs len el n' el' h1 h2 h3
      obtain ⟨vp, k1, k2⟩ := prW_ok hF h1
      split at h
      · rename_i y hy
        obtain ⟨out, h4, rfl⟩ := map_some h
        have hx := ti_ok hb h2
        obtain ⟨z, z1, z2, z3⟩ := hx.zero
        obtain ⟨ws, w1, w2⟩ := fillW_ok h4 k2 (z2 e)
        refine ⟨_, by show (dnL e out).map _ = _; rw [w1]; rfl, fun dst ty pos aft g => yx_any fun B M Z => ?_⟩
        have := y_buildA (P := P) (B := B) (M := M) (Z := Z) (t := t) (zs := z.cells.toList) (parts := ps.toList) (dst := dst) (ty := ty) (pos := pos) (aft := aft) (g := g) ⟨hx.arr rfl, (ti_ok hb hy).ty.size⟩ ⟨z, z3, by simp⟩ hR k1 w2 rfl
        rwa [Array.toArray_toList] at this
      · cases h
    · cases h
  | slice t x lo hi mx =>
    simp only [evP] at h
    split at h
    · rename_i b o sz len c _ _ _ el l hx ht hl
      obtain ⟨_, dx, ox, ax⟩ := hF.op hx
      obtain ⟨bb, g1, rfl, g2⟩ := sl_dn dx
      split at h
      · rename_i hh m y h1 h2 hy
        split at h
        · rename_i hsz
          obtain ⟨r, h3, rfl⟩ := map_some h
          have hsz := Nat.eq_of_beq_eq_true hsz
          obtain ⟨k1, k2⟩ := evSl_ok (cap := c.getD (e.κ b - o / sz)) h3 g1 (fun hc => by subst hc; exact ⟨rfl, g2 rfl⟩) (fun x hc => by subst hc; rfl)
          refine ⟨_, k2, fun _ _ _ _ _ w => ?_⟩
          have hu := (ti_ok hb ht).slice rfl
          have hbd := run_bounds (P := P) hF (isS := true) hl h1 h2 k1 w
          simp only [execOp, ax, Instr.sliceAt, Instr.slice, Go.underlying, Sem.run_bind, run_program, hu, Result.andThen_ok, Sem.run_pure, hbd, (ti_ok hb hy).sizeOf, hsz, Option.map_some, addr_add]
        · cases h
      · cases h
    · rename_i _ _ _ el l hx ht hl
      obtain ⟨_, dx, ox, ax⟩ := hF.op hx
      cases dx
      split at h
      · rename_i hh y h1 h2 hy
        split at h
        · rename_i hd
          have hd := of_decide_eq_true hd
          cases h
          obtain ⟨rfl, rfl⟩ := hd
          refine ⟨_, rfl, fun _ _ _ _ _ w => ?_⟩
          have hu := (ti_ok hb ht).slice rfl
          have hbd := run_bounds (P := P) hF (isS := true) (cap := 0) hl h1 h2 (by simp) w
          simp [execOp, ax, Instr.sliceAt, Instr.slice, Go.underlying, hu, hbd, (ti_ok hb hy).sizeOf]
        · cases h
      · cases h
    · rename_i b o _ _ _ len el l hx ht hl
      obtain ⟨_, dx, ox, ax⟩ := hF.op hx
      obtain ⟨bb, g1, rfl⟩ := map_some dx
      split at h
      · rename_i hh y h1 h2 hy
        obtain ⟨r, h3, rfl⟩ := map_some h
        obtain ⟨k1, k2⟩ := evSl_ok (cap := len) h3 g1 (fun hc => nomatch hc) (fun x hc => by cases hc; rfl)
        refine ⟨_, k2, fun _ _ _ _ _ w => ?_⟩
        have hu := (ti_ok hb ht).arr rfl
        have hbd := run_bounds (P := P) hF (isS := false) hl h1 h2 k1 w
        simp only [execOp, ax, Instr.sliceAt, Go.underlying, Sem.run_bind, run_program, hu, Result.andThen_ok, Sem.run_pure, Instr.sureAddr, hbd, (ti_ok hb hy).sizeOf, addr_add]
        congr 3
        split <;> rfl
      · cases h
    · cases h
  | call c =>
    obtain ⟨callee, args, ts⟩ := c
    cases callee <;> first | (cases h; done) | skip
    rename_i b
    obtain ⟨args⟩ := args
    obtain ⟨ts⟩ := ts
    match args, h with
    | [x], h =>
      match ts, h with
      | [t], h =>
        simp only [evP] at h
        split at h
        · split at h
          · rename_i hx ht
            cases h
            obtain ⟨_, dx, ox, ax⟩ := hF.op hx
            cases dx
            exact ⟨_, rfl, fun _ _ _ _ _ => yx_any fun B M Z => y_slen ((ti_ok hb ht).str rfl) rfl hR ox⟩
          · rename_i hx ht
            cases h
            obtain ⟨_, dx, ox, ax⟩ := hF.op hx
            obtain ⟨bb, g1, rfl, g2⟩ := sl_dn dx
            have hu := (ti_ok hb ht).slice rfl
            exact ⟨_, rfl, fun _ _ _ _ _ w => by simp [execOp, resolve_builtin, invoke, builtin, Builtin.len_, ax, Go.underlying, hu, goInt]⟩
          · rename_i hx ht
            cases h
            obtain ⟨_, dx, ox, ax⟩ := hF.op hx
            cases dx
            have hu := (ti_ok hb ht).slice rfl
            exact ⟨_, rfl, fun _ _ _ _ _ w => by simp [execOp, resolve_builtin, invoke, builtin, Builtin.len_, ax, Go.underlying, hu, goInt]⟩
          · rename_i hx ht
            cases h
            obtain ⟨_, dx, ox, ax⟩ := hF.op hx
            obtain ⟨_, _, _, rfl⟩ := tl_dn dx
            have hu := (ti_ok hb ht).slice rfl
            exact ⟨_, rfl, fun _ _ _ _ _ w => by simp [execOp, resolve_builtin, invoke, builtin, Builtin.len_, ax, Go.underlying, hu, goInt]⟩
          · rename_i hx ht
            cases h
            have hu := (ti_ok hb ht).arr rfl
            exact ⟨_, rfl, fun _ _ _ _ _ w => by simp [execOp, resolve_builtin, invoke, builtin, Builtin.len_, Go.underlying, hu, goInt]⟩
          · cases h
        · split at h
          · rename_i hx ht
            cases h
            obtain ⟨_, dx, ox, ax⟩ := hF.op hx
            obtain ⟨bb, g1, rfl⟩ := map_some dx
            have hu := (ti_ok hb ht).slice rfl
            exact ⟨_, rfl, fun _ _ _ _ _ w => by simp [execOp, resolve_builtin, invoke, builtin, Builtin.cap_, ax, Go.underlying, hu, goInt]⟩
          · rename_i hx ht
            cases h
            obtain ⟨_, dx, ox, ax⟩ := hF.op hx
            cases dx
            have hu := (ti_ok hb ht).slice rfl
            exact ⟨_, rfl, fun _ _ _ _ _ w => by simp [execOp, resolve_builtin, invoke, builtin, Builtin.cap_, ax, Go.underlying, hu, goInt]⟩
          · cases h
        · cases h
      | [], h => cases h
      | _ :: _ :: _, h => cases h
    | [x, y], h =>
      simp only [evP] at h
      split at h
      · rename_i k p j q hx hy
        obtain ⟨_, dx, ox, ax⟩ := hF.op hx
        obtain ⟨_, dy, oy, ay⟩ := hF.op hy
        cases dx; cases dy
        split at h
        · rename_i hk
          have := ki_eq hk
          subst this
          split at h
          · cases h; exact ⟨_, rfl, fun _ _ _ _ _ => yx_any fun B M Z => y_max hR ox oy⟩
          · cases h; exact ⟨_, rfl, fun _ _ _ _ _ => yx_any fun B M Z => y_min hR ox oy⟩
          · cases h
        · cases h
      · cases h
    | [], h => cases h
    | _ :: _ :: _ :: _, h => cases h
  | _ => cases h
end
end Go.Proofs.YtmbjfpacaenbhaaGreat
