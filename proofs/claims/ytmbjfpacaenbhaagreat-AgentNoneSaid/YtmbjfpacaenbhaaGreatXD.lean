/- A run that is computed: all that leaves memory alone and does not read it. Conditions: none. -/
import Derived.Test.YtmbjfpacaenbhaaGreatXC
namespace Go.Proofs.YtmbjfpacaenbhaaGreat
set_option linter.unusedVariables false
set_option linter.unusedSimpArgs false
open Go Go.RowKit

/-- Cells put over others. -/
def puW (cs : List CW) (o : Nat) (new : List CW) : List CW := cs.take o ++ new ++ cs.drop (o + new.length)
theorem puW_ok {e : En} {cs new : List CW} {us vs tl : List Value} {o : Nat} (h1 : dnL e cs = some us) (h2 : dnL e new = some vs) (hl : o + new.length ≤ cs.length) : ∃ ws, dnL e (puW cs o new) = some ws ∧ putL (us ++ tl) o vs = ws ++ tl ∧ ws.length = us.length := by
  have e1 := dnL_len h1
  have e2 := dnL_len h2
  refine ⟨us.take o ++ vs ++ us.drop (o + vs.length), ?_, ?_, ?_⟩
  · unfold puW
    rw [e2]
    exact dnL_app (dnL_app (dnL_take o h1) h2) (dnL_drop _ h1)
  · rw [putL_eq _ _ _ (by rw [List.length_append]; omega), List.take_append_of_le_length (by omega), List.drop_append_of_le_length (by omega), ← List.append_assoc]
  · simp only [List.length_append, List.length_take, List.length_drop]; omega
def fillW (place : Nat → Option (Nat × Nat)) : List CW → List (Nat × List CW) → Option (List CW)
  | cs, [] => some cs
  | cs, (i, v) :: r => match place i with
    | none => none
    | some (off, size) => match Nat.beq v.length size && Nat.ble (off + v.length) cs.length with
      | true => fillW place (puW cs off v) r
      | false => none
noncomputable def prW (F : FW) : List (Nat × Operand) → Option (List (Nat × List CW))
  | [] => some []
  | (i, x) :: r => match (opW F x).bind AW.cs, prW F r with | some l, some m => some ((i, l) :: m) | _, _ => none
/-- Parts and their values. -/
def Prs (e : En) : List (Nat × List CW) → List (Nat × Value) → Prop
  | [], [] => True
  | (i, l) :: r, (j, v) :: m => i = j ∧ dnL e l = some v.cells.toList ∧ Prs e r m
  | _, _ => False
section
variable {P : Program} {tb : TB} {e : En} {n : Nat} {ds : List Deferred} {F : FW} {a : Act} {dst : Option Tmp} {ty : TypeId} {pos : String} {aft : Array Edge} {g : Option (Nat × Bool)}
theorem prW_ok (hF : FrW e n ds F a) : ∀ {ps : List (Nat × Operand)} {m : List (Nat × List CW)}, prW F ps = some m → ∃ vp, evp (toF e F) ps = some vp ∧ Prs e m vp
  | [], m, h => by cases h; exact ⟨[], rfl, trivial⟩
  | (i, x) :: r, m, h => by
    unfold prW at h
    split at h
    · rename_i l m' h1 h2
      cases h
      obtain ⟨v, h3, h4⟩ := bind_some' h1
      obtain ⟨u, g1, g2, _⟩ := hF.op h3
      obtain ⟨vp, g3, g4⟩ := prW_ok hF h2
      exact ⟨(i, u) :: vp, by simp only [evp, g2, g3], rfl, cs_dn h4 g1, g4⟩
    · cases h
theorem fillW_ok {place : Nat → Option (Nat × Nat)} : ∀ {m : List (Nat × List CW)} {vp : List (Nat × Value)} {cs out : List CW} {us : List Value}, fillW place cs m = some out → Prs e m vp → dnL e cs = some us → ∃ ws, dnL e out = some ws ∧ fillL place us vp = some ws
  | [], [], cs, out, us, h, _, hc => by cases h; exact ⟨us, hc, rfl⟩
  | [], _ :: _, _, _, _, _, hp, _ => hp.elim
  | _ :: _, [], _, _, _, _, hp, _ => hp.elim
  | (i, l) :: r, (j, v) :: vp, cs, out, us, h, hp', hc => by
    obtain ⟨hij, h1, h2⟩ := hp'
    subst hij
    unfold fillW at h
    unfold fillL
    cases hp : place i with
    | none => rw [hp] at h; cases h
    | some q =>
      obtain ⟨off, size⟩ := q
      rw [hp] at h
      simp only at h ⊢
      split at h
      · rename_i hb
        rw [Bool.and_eq_true] at hb
        have b1 := Nat.eq_of_beq_eq_true hb.1
        have b2 := Nat.le_of_ble_eq_true hb.2
        have l1 := dnL_len h1
        have l2 := dnL_len hc
        obtain ⟨ws, w1, w2, w3⟩ := puW_ok (tl := []) hc h1 b2
        rw [List.append_nil, List.append_nil] at w2
        rw [if_pos ⟨by rw [l1]; exact b1, by rw [l1, l2]; exact b2⟩, w2]
        exact fillW_ok h h2 w1
      · cases h
def intW : Option AW → Option Int | some (.one (.int _ l)) => some l | _ => none
noncomputable def loW (F : FW) : Option Operand → Option Int | none => some 0 | some q => intW (opW F q)
noncomputable def hiW (F : FW) (d : Nat) : Option Operand → Option Int | none => some (d : Int) | some q => intW (opW F q)
noncomputable def mxW (F : FW) (mx hi : Option Operand) : Option (Option Int) := match mx with
  | none => some none
  | some q => match hi with | none => none | some _ => (intW (opW F q)).map some
def evSl (b o sz len : Nat) (c : Option Nat) (l h : Int) : Option Int → Option CW
  | some m => match decide (0 ≤ l ∧ l ≤ h ∧ h ≤ m ∧ m ≤ ((c.getD len : Nat) : Int)) with
    | true => some (.sl b (if m = l then o else o + l.toNat * sz) sz (h.toNat - l.toNat) (some (m.toNat - l.toNat)))
    | false => none
  | none => match c with
    | some c => match decide (0 ≤ l ∧ l ≤ h ∧ h ≤ (c : Int)) with
      | true => some (.sl b (if (c : Int) = l then o else o + l.toNat * sz) sz (h.toNat - l.toNat) (some (c - l.toNat)))
      | false => none
    | none => match decide (0 ≤ l ∧ l ≤ h ∧ h ≤ (len : Int) ∧ (l < h ∨ l = 0) ∧ 0 < sz) with
      | true => some (.sl b (o + l.toNat * sz) sz (h.toNat - l.toNat) none)
      | false => match decide (0 ≤ l ∧ l = h ∧ h ≤ (len : Int)) with
        | true => some (.tl b o sz l.toNat)
        | false => none
/-- What a closed operation answers. -/
noncomputable def evP (P : Program) (tb : TB) (F : FW) : Op → Option AW
  | .move x => opW F x
  | .assign x => opW F x
  | .pick c x y => match opW F c with
    | some (.one (.bool true)) => opW F x
    | some (.one (.bool false)) => opW F y
    | _ => none
  | .binOp op T x y _ => match opW F x, opW F y with | some p, some q => evBin P tb op T p q | _, _ => none
  | .unOp .not _ x => match opW F x with | some (.one (.bool t)) => some (.one (.bool (!t))) | _ => none
  | .unOp .neg _ x => match opW F x with | some (.one (.int k p)) => some (.one (.int k (k.wrap (0 - p)))) | _ => none
  | .extract x i => match opW F x with | some (.tup l) => (l[i]?).bind aw | _ => none
  | .field t x i => match opW F x, ti tb t with
    | some (.agg l), some ⟨_, _, _, .struct fs⟩ => match nthF fs i with | some (o, agg, sz) => rdW agg sz l o | none => none
    | _, _ => none
  | .fieldAddr t x i => match opW F x, ti tb t with
    | some (.one (.ptr b o)), some ⟨_, _, _, .struct fs⟩ => match nthF fs i with | some (fo, _, _ + 1) => some (.one (.ptr b (o + fo))) | _ => none
    | _, _ => none
  | .nilCheck x => match opW F x with | some (.one (.ptr b o)) => some (.one (.ptr b o)) | _ => none
  | .convert s t x => match opW F x, ti tb s, ti tb t with
    | some (.one (.int k p)), some ⟨_, _, _, .int j⟩, some ⟨_, _, _, .int k'⟩ => match Nat.beq (ki k) (ki j) with | true => some (.one (.int k' (k'.wrap p))) | false => none
    | _, _, _ => none
  | .indexAddr t x i => match opW F x, opW F i, ti tb t with
    | some (.one (.sl b o _ len _)), some (.one (.int _ q)), some ⟨_, _, _, .slice el⟩ => match decide (0 ≤ q ∧ q < len), ti tb el with | true, some y => some (.one (.ptr b (o + q.toNat * y.sz))) | _, _ => none
    | some (.one (.ptr b o)), some (.one (.int _ q)), some ⟨_, _, _, .arr len el⟩ => match decide (0 ≤ q ∧ q < len), ti tb el with | true, some y => some (.one (.ptr b (o + q.toNat * y.sz))) | _, _ => none
    | _, _, _ => none
  | .index t x i => match opW F x, opW F i, ti tb t with
    | some (.agg l), some (.one (.int _ q)), some ⟨_, _, _, .arr len el⟩ => match decide (0 ≤ q ∧ q < len), ti tb el with | true, some y => rdW y.k.agg y.sz l (q.toNat * y.sz) | _, _ => none
    | some (.one (.str s)), some (.one (.int _ q)), some ⟨_, _, _, .str⟩ => (ix s q).map fun c => .one (.int .u8 (c.toNat : Int))
    | _, _, _ => none
  | .makeFunc (.func f) gs ps => match (opWs F gs.toList).bind fun l => l.mapM AW.cp, (opWs F ps.toList).bind fun l => l.mapM AW.cp with
    | some l, some m => some (.fnv f l m)
    | _, _ => none
  | .build t ps => match prW F ps.toList, ti tb t, P.underlying t with
    | some m, some x, some (.struct fs) => match pureRun P (fs.mapM fun f => do pure (f.offset, ← sizeOf f.type) : Sem (Array (Nat × Nat))) with
      | some pl => (fillW (fun i => pl.toList[i]?) x.zs m).map .agg
      | none => none
    | some m, some ⟨_, _, zs, .arr _ el⟩, some (.array _ _) => match ti tb el with | some y => (fillW (fun i => some (i * y.sz, y.sz)) zs m).map .agg | none => none
    | _, _, _ => none
  | .call ⟨.builtin b, ⟨[x]⟩, ⟨[t]⟩⟩ => match b with
    | .len => match opW F x, ti tb t with
      | some (.one (.str s)), some ⟨_, _, _, .str⟩ => some (.one (.int .i64 (s.length : Int)))
      | some (.one (.sl _ _ _ len _)), some ⟨_, _, _, .slice _⟩ => some (.one (.int .i64 (len : Int)))
      | some (.one .nils), some ⟨_, _, _, .slice _⟩ => some (.one (.int .i64 0))
      | some (.one (.tl _ _ _ _)), some ⟨_, _, _, .slice _⟩ => some (.one (.int .i64 0))
      | some _, some ⟨_, _, _, .arr m _⟩ => some (.one (.int .i64 (m : Int)))
      | _, _ => none
    | .cap => match opW F x, ti tb t with
      | some (.one (.sl _ _ _ len (some c))), some ⟨_, _, _, .slice _⟩ => some (.one (.int .i64 (c : Int)))
      | some (.one .nils), some ⟨_, _, _, .slice _⟩ => some (.one (.int .i64 0))
      | _, _ => none
    | _ => none
  | .call ⟨.builtin b, ⟨[x, y]⟩, _⟩ => match opW F x, opW F y with
    | some (.one (.int k p)), some (.one (.int j q)) => match Nat.beq (ki k) (ki j) with
      | true => match b with | .max => some (.one (.int k (max p q))) | .min => some (.one (.int k (min p q))) | _ => none
      | false => none
    | _, _ => none
  | .slice t x lo hi mx => match opW F x, ti tb t, loW F lo with
    | some (.one (.sl b o sz len c)), some ⟨_, _, _, .slice el⟩, some l => match hiW F len hi, mxW F mx hi, ti tb el with
      | some h, some m, some y => match Nat.beq y.sz sz with | true => (evSl b o sz len c l h m).map .one | false => none
      | _, _, _ => none
    | some (.one .nils), some ⟨_, _, _, .slice el⟩, some l => match hiW F 0 hi, mxW F mx hi, ti tb el with
      | some h, some none, some _ => match decide (l = 0 ∧ h = 0) with | true => some (.one .nils) | false => none
      | _, _, _ => none
    | some (.one (.ptr b o)), some ⟨_, _, _, .arr k el⟩, some l => match hiW F k hi, mxW F mx hi, ti tb el with
      | some h, some none, some y => (evSl b o y.sz k (some k) l h none).map .one
      | _, _, _ => none
    | _, _, _ => none
  | _ => none
end
end Go.Proofs.YtmbjfpacaenbhaaGreat
