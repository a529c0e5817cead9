/- A run that is computed: what operations answer that look at their operands alone. Conditions: none. -/
import Derived.Test.YtmbjfpacaenbhaaGreatXB
namespace Go.Proofs.YtmbjfpacaenbhaaGreat
set_option linter.unusedVariables false
set_option linter.unusedSimpArgs false
open Go Go.RowKit

/-- A part of some cells. -/
def rdW (agg : Bool) (sz : Nat) (cs : List CW) (o : Nat) : Option AW := match agg with
  | false => (cs[o]?).map .one
  | true => match Nat.ble (o + sz) cs.length with | true => some (.agg ((cs.drop o).take sz)) | false => none
theorem rdW_ok {e : En} {agg : Bool} {sz o : Nat} {cs : List CW} {v : AW} {us : List Value} (h : rdW agg sz cs o = some v) (hc : dnL e cs = some us) : ∃ u, v.dn e = some u ∧ rdv agg sz us o = some u := by
  unfold rdW at h
  split at h
  · obtain ⟨c, h1, rfl⟩ := map_some h
    obtain ⟨u, h2, h3⟩ := dnL_get hc h1
    exact ⟨u, h3, by simp only [rdv, Bool.false_eq_true, if_false]; exact h2⟩
  · split at h
    · rename_i hl
      cases h
      have hl := Nat.le_of_ble_eq_true hl
      rw [← dnL_len hc] at hl
      refine ⟨_, by show (dnL e _).map _ = _; rw [dnL_take sz (dnL_drop o hc)]; rfl, ?_⟩
      simp only [rdv, if_true, if_pos hl]
    · cases h
theorem rdv_app {agg : Bool} {sz o : Nat} {us tl : List Value} {u : Value} (h : rdv agg sz us o = some u) : rdv agg sz (us ++ tl) o = some u := by
  unfold rdv at *
  cases agg with
  | false =>
    simp only [Bool.false_eq_true, if_false] at *
    rw [List.getElem?_append_left (List.getElem?_eq_some_iff.1 h).1]; exact h
  | true =>
    simp only [if_true] at *
    split at h
    · rename_i hl
      cases h
      rw [if_pos (by rw [List.length_append]; omega), List.drop_append_of_le_length (by omega), List.take_append_of_le_length (by rw [List.length_drop]; omega)]
    · cases h
def u8 (n : Nat) : Option UInt8 := match Nat.blt n 256 with | true => some (UInt8.ofNat n) | false => none
/-- What an operation on two answers. -/
def evBin (P : Program) (tb : TB) (op : BinOp) (T : Nat) : AW → AW → Option AW
  | .one (.int k p), .one (.int j q) => match op with
    | .shl => match decide (0 ≤ q) with | true => some (.one (.int k (shlI k p q))) | false => none
    | .shr => match decide (0 ≤ q) with | true => some (.one (.int k (shrI k p q))) | false => none
    | .quo => match Nat.beq (ki k) (ki j), decide (q = 0) with | true, false => some (.one (.int k (k.wrap (p.tdiv q)))) | _, _ => none
    | .rem => match Nat.beq (ki k) (ki j), decide (q = 0) with | true, false => some (.one (.int k (p.tmod q))) | _, _ => none
    | _ => match Nat.beq (ki k) (ki j) with | true => (binV k p q op).bind fun v => (ofV v).map .one | false => none
  | .one (.bool p), .one (.bool q) => match ti tb T with
    | some ⟨_, _, _, .bool⟩ => match op with | .eql => some (.one (.bool (decide (p = q)))) | .neq => some (.one (.bool (decide (p ≠ q)))) | _ => none
    | _ => none
  | .one (.str l), .one (.str m) => match op with
    | .eql => some (.one (.bool (decide (l = m))))
    | .neq => some (.one (.bool (decide (l ≠ m))))
    | .add => (app l m).map fun r => .one (.str r)
    | _ => none
  | .one .nilp, .one .nilp => match ti tb T with
    | some ⟨_, _, _, .ptr _⟩ => match op with | .eql => some (.one (.bool true)) | .neq => some (.one (.bool false)) | _ => none
    | _ => none
  | .one (.ptr _ _), .one .nilp => match ti tb T with
    | some ⟨_, _, _, .ptr _⟩ => match op with | .eql => some (.one (.bool false)) | .neq => some (.one (.bool true)) | _ => none
    | _ => none
  | .one .nils, .one .nils => match ti tb T with
    | some ⟨_, _, _, .slice _⟩ => match op with | .eql => some (.one (.bool true)) | .neq => some (.one (.bool false)) | _ => none
    | _ => none
  | .one (.sl _ _ _ _ _), .one .nils => match ti tb T with
    | some ⟨_, _, _, .slice _⟩ => match op with | .eql => some (.one (.bool false)) | .neq => some (.one (.bool true)) | _ => none
    | _ => none
  | .agg xs, .agg ys => match dnL e0 xs, dnL e0 ys, P.eqGuardType P.depth T with
    | some us, some vs, false => match op with
      | .eql => (pureRun P (Op.equalIn 10000 T (.agg us.toArray) (.agg vs.toArray))).map fun t => .one (.bool t)
      | .neq => (pureRun P (Op.equalIn 10000 T (.agg us.toArray) (.agg vs.toArray))).map fun t => .one (.bool (!t))
      | _ => none
    | _, _, _ => none
  | _, _ => none
section
variable {P : Program} {tb : TB} {e : En} {n : Nat} {ds : List Deferred} {F : FW} {a : Act} {dst : Option Tmp} {ty : TypeId} {pos : String} {aft : Array Edge} {g : Option (Nat × Bool)}
theorem yx_any {o : Oper} {v : Value} (h : ∀ B M Z, Yx P B M Z a o v) (w : World) : (execOp a.eval o).run P w = .ok (.value v) w := h ⟨fun _ => True, [], w⟩ [] [] w (Stw.start _ w)
abbrev Ans (P : Program) (e : En) (a : Act) (op : Op) (v : AW) : Prop := ∃ u, v.dn e = some u ∧ ∀ dst ty pos aft g w, (execOp a.eval ⟨dst, op, ty, pos, aft, g⟩).run P w = .ok (.value u) w
theorem run_eq_nils {T el : Nat} (hT : P.underlying T = some (.slice el)) (x : Option Addr) (l c d : Nat) (w : World) : (Op.equalIn (d + 1) T (.slice x l c) (.slice none 0 0)).run P w = .ok x.isNone w := by
  unfold Op.equalIn
  cases x <;> simp [Go.underlying, hT]
theorem bin_nils {T T' el : Nat} {x y : Operand} {ad : Option Addr} {l c : Nat} (hT : P.underlying T = some (.slice el)) (hx : a.eval x = .slice ad l c) (hy : a.eval y = .slice none 0 0) (w : World) :
    (execOp a.eval ⟨dst, .binOp .eql T x y T', ty, pos, aft, g⟩).run P w = .ok (.value (.bool ad.isNone)) w ∧ (execOp a.eval ⟨dst, .binOp .neq T x y T', ty, pos, aft, g⟩).run P w = .ok (.value (.bool !ad.isNone)) w := by
  have h := run_eq_nils (P := P) hT ad l c 9999 w
  constructor <;> simp only [execOp, hx, hy, eqGuard, binOp, Op.equal] <;> rw [show Op.maxDepth = 9999 + 1 from rfl] <;> simp [h]
theorem evBin_ok (hb : tbB P tb = true) (hF : FrW e n ds F a) {op : BinOp} {T T' : Nat} {x y : Operand} {p q v : AW} (hx : opW F x = some p) (hy : opW F y = some q) (h : evBin P tb op T p q = some v) : Ans P e a (.binOp op T x y T') v := by
  obtain ⟨u1, d1, o1, a1⟩ := hF.op hx
  obtain ⟨u2, d2, o2, a2⟩ := hF.op hy
  have hR := hF.2
  unfold evBin at h
  split at h
  · rename_i k p j q
    cases d1; cases d2
    split at h
    · split at h
      · rename_i c; cases h; exact ⟨_, rfl, fun _ _ _ _ _ => yx_any fun B M Z => y_shl hR o1 o2 (of_decide_eq_true c)⟩
      · cases h
    · split at h
      · rename_i c; cases h; exact ⟨_, rfl, fun _ _ _ _ _ => yx_any fun B M Z => y_shr hR o1 o2 (of_decide_eq_true c)⟩
      · cases h
    · split at h
      · rename_i c1 c2
        cases h
        have := ki_eq c1
        subst this
        exact ⟨_, rfl, fun _ _ _ _ _ => yx_any fun B M Z => y_quo hR o1 o2 (of_decide_eq_false c2) rfl⟩
      · cases h
    · split at h
      · rename_i c1 c2
        cases h
        have := ki_eq c1
        subst this
        exact ⟨_, rfl, fun _ _ _ _ _ => yx_any fun B M Z => y_rem hR o1 o2 (of_decide_eq_false c2) rfl⟩
      · cases h
    · split at h
      · rename_i c1
        have := ki_eq c1
        subst this
        obtain ⟨w, h1, h2⟩ := bind_some' h
        obtain ⟨c, h3, rfl⟩ := map_some h2
        refine ⟨w, ofV_ok h3 e, fun _ _ _ _ _ => yx_any fun B M Z => ?_⟩
        cases op <;> first | (cases h1; done) | skip
        all_goals cases h1
        · exact y_add hR o1 o2 rfl
        · exact y_sub hR o1 o2 rfl
        · exact y_mul hR o1 o2 rfl
        · exact y_and hR o1 o2
        · exact y_or hR o1 o2
        · exact y_xor hR o1 o2
        · exact y_andNot hR o1 o2
        · exact y_eql hR o1 o2
        · exact y_neq hR o1 o2
        · exact y_lss hR o1 o2
        · exact y_leq hR o1 o2
        · exact y_gtr hR o1 o2
        · exact y_geq hR o1 o2
      · cases h
  · cases d1; cases d2
    split at h
    · rename_i ht
      have hT := (ti_ok hb ht).bool rfl
      split at h
      · cases h; exact ⟨_, rfl, fun _ _ _ _ _ => yx_any fun B M Z => y_eqb hT hR o1 o2⟩
      · cases h; exact ⟨_, rfl, fun _ _ _ _ _ => yx_any fun B M Z => y_neb hT hR o1 o2⟩
      · cases h
    · cases h
  · cases d1; cases d2
    split at h
    · cases h; exact ⟨_, rfl, fun _ _ _ _ _ => yx_any fun B M Z => y_seq hR o1 o2⟩
    · cases h; exact ⟨_, rfl, fun _ _ _ _ _ => yx_any fun B M Z => y_sne hR o1 o2⟩
    · obtain ⟨r, h1, rfl⟩ := map_some h
      exact ⟨_, rfl, fun _ _ _ _ _ => yx_any fun B M Z => y_sadd hR o1 o2 h1⟩
    · cases h
  · cases d1; cases d2
    split at h
    · rename_i ht
      have hT := (ti_ok hb ht).ptr rfl
      split at h
      · cases h; exact ⟨_, rfl, fun _ _ _ _ _ => yx_any fun B M Z => y_peq_nil_nil hT hR o1 o2⟩
      · cases h; exact ⟨_, rfl, fun _ _ _ _ _ => yx_any fun B M Z => y_pne_nil_nil hT hR o1 o2⟩
      · cases h
    · cases h
  · obtain ⟨b, _, rfl⟩ := map_some d1
    cases d2
    split at h
    · rename_i ht
      have hT := (ti_ok hb ht).ptr rfl
      split at h
      · cases h; exact ⟨_, rfl, fun _ _ _ _ _ => yx_any fun B M Z => y_peq_some_nil hT hR o1 o2⟩
      · cases h; exact ⟨_, rfl, fun _ _ _ _ _ => yx_any fun B M Z => y_pne_some_nil hT hR o1 o2⟩
      · cases h
    · cases h
  · cases d1; cases d2
    split at h
    · rename_i ht
      have hT := (ti_ok hb ht).slice rfl
      split at h
      · cases h; exact ⟨_, rfl, fun _ _ _ _ _ w => (bin_nils hT a1 a2 w).1⟩
      · cases h; exact ⟨_, rfl, fun _ _ _ _ _ w => (bin_nils hT a1 a2 w).2⟩
      · cases h
    · cases h
  · obtain ⟨b, _, rfl, _⟩ := sl_dn d1
    cases d2
    split at h
    · rename_i ht
      have hT := (ti_ok hb ht).slice rfl
      split at h
      · cases h; exact ⟨_, rfl, fun _ _ _ _ _ w => (bin_nils hT a1 a2 w).1⟩
      · cases h; exact ⟨_, rfl, fun _ _ _ _ _ w => (bin_nils hT a1 a2 w).2⟩
      · cases h
    · cases h
  · rename_i xs ys
    obtain ⟨us', g1, rfl⟩ := map_some d1
    obtain ⟨vs', g2, rfl⟩ := map_some d2
    split at h
    · rename_i us vs k1 k2 hm
      rw [dnL_cl k1 e] at g1; cases g1
      rw [dnL_cl k2 e] at g2; cases g2
      split at h
      · obtain ⟨t, h1, rfl⟩ := map_some h
        exact ⟨_, rfl, fun _ _ _ _ _ => yx_any fun B M Z => y_eqa hm (pureRun_ok h1) hR o1 o2⟩
      · obtain ⟨t, h1, rfl⟩ := map_some h
        exact ⟨_, rfl, fun _ _ _ _ _ => yx_any fun B M Z => y_nea hm (pureRun_ok h1) hR o1 o2⟩
      · cases h
    · cases h
  · cases h
end
end Go.Proofs.YtmbjfpacaenbhaaGreat
