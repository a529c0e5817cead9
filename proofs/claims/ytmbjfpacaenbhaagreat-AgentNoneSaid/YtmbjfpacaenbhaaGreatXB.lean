/- A run that is computed: types, and what operations answer that leave memory alone. Conditions: none. -/
import Derived.Test.YtmbjfpacaenbhaaGreatXA
namespace Go.Proofs.YtmbjfpacaenbhaaGreat
set_option linter.unusedVariables false
set_option linter.unusedSimpArgs false
open Go Go.RowKit

/-! ### Types -/
inductive TK where
  | struct (fs : List (Nat × Bool × Nat)) | arr (n el : Nat) | slice (el : Nat) | ptr (el : Nat) | int (k : IntKind) | bool | str | flt (k : FloatKind) | map (k el : Nat) | other
structure TI where
  sz : Nat
  by_ : Nat
  zs : List CW
  k : TK
abbrev TB := List (Nat × TI)
def ti : TB → Nat → Option TI
  | [], _ => none
  | (t, x) :: r, u => match Nat.beq t u with | true => some x | false => ti r u
def TK.agg : TK → Bool | .struct _ => true | .arr _ _ => true | _ => false
def zcB : Value → CW → Bool
  | .int k i, .int j l => Nat.beq (ki k) (ki j) && intB i l
  | .bool a, .bool b => a == b
  | .string s, .str l => match s.data.toList, l with | [], [] => true | _, _ => false
  | .float k n, .flt j m => Nat.beq (fkn k) (fkn j) && Nat.beq n m
  | .pointer none, .nilp => true
  | .slice none 0 0, .nils => true
  | .map none, .nilm => true
  | .nilFunc, .nilf => true
  | _, _ => false
def zlB : List Value → List CW → Bool
  | [], [] => true
  | v :: l, c :: m => zcB v c && zlB l m
  | _, _ => false
theorem zcB_ok {v : Value} {c : CW} (h : zcB v c = true) (e : En) : c.dn e = some v := by
  unfold zcB at h
  split at h
  all_goals first | (cases h; done) | rfl | skip
  · rw [Bool.and_eq_true] at h; rw [ki_eq h.1, intB_eq h.2]; rfl
  · rw [eq_of_beq h]; rfl
  · rename_i s l
    split at h
    · rename_i e1
      obtain ⟨⟨q⟩⟩ := s
      cases e1; rfl
    · cases h
  · rw [Bool.and_eq_true] at h; rw [fkn_eq h.1, Nat.eq_of_beq_eq_true h.2]; rfl
theorem zlB_ok : ∀ {l : List Value} {m : List CW}, zlB l m = true → ∀ e, dnL e m = some l
  | [], [], _, e => rfl
  | [], _ :: _, h, _ => by cases h
  | _ :: _, [], h, _ => by cases h
  | v :: l, c :: m, h, e => by
    simp only [zlB, Bool.and_eq_true] at h
    exact dnL_mk (zcB_ok h.1 e) (zlB_ok h.2 e)
def tkB (P : Program) : TypeDesc → TK → Bool
  | .struct fs, .struct l => flB P fs.toList l
  | .array n e, .arr m el => Nat.beq n m && Nat.beq e el
  | .slice e, .slice el => Nat.beq e el
  | .pointer e, .ptr el => Nat.beq e el
  | .int k, .int j => Nat.beq (ki k) (ki j)
  | .bool, .bool => true
  | .string, .str => true
  | .float k, .flt j => Nat.beq (fkn k) (fkn j)
  | .map k e, .map k' el => Nat.beq k k' && Nat.beq e el
  | .struct _, .other => false
  | .array _ _, .other => false
  | _, .other => true
  | _, _ => false
def tiB (P : Program) (t : Nat) (x : TI) : Bool :=
  (match P.underlying t with | some d => tkB P d x.k | none => false) &&
  (match P.info? t with | some i => Nat.beq i.size x.sz && (Nat.beq i.bytes x.by_ && (match i.zero with | some z => zlB z.cells.toList x.zs && (Nat.beq x.zs.length x.sz && (match z with | .agg _ => x.k.agg | _ => !x.k.agg)) | none => false)) | none => false)
def tbB (P : Program) (tb : TB) : Bool := tb.all fun p => tiB P p.1 p.2
structure TIo (P : Program) (t : Nat) (x : TI) : Prop where
  ty : Ty P t x.k.agg x.sz
  desc : ∃ d, P.underlying t = some d ∧ tkB P d x.k = true
  info : ∃ i z, P.info? t = some i ∧ i.size = x.sz ∧ i.bytes = x.by_ ∧ i.zero = some z ∧ (∀ e, dnL e x.zs = some z.cells.toList) ∧ x.zs.length = x.sz ∧ ((∃ cs, z = .agg cs) ↔ x.k.agg = true)
theorem tiB_ok {P : Program} {t : Nat} {x : TI} (h : tiB P t x = true) : TIo P t x := by
  simp only [tiB, Bool.and_eq_true] at h
  obtain ⟨h1, h2⟩ := h
  split at h1
  case h_2 => cases h1
  rename_i d hd
  split at h2
  case h_2 => cases h2
  rename_i i hi
  simp only [Bool.and_eq_true] at h2
  obtain ⟨h3, h4, h5⟩ := h2
  split at h5
  case h_2 => cases h5
  rename_i z hz
  simp only [Bool.and_eq_true] at h5
  obtain ⟨h6, h7, h8⟩ := h5
  have hs := Nat.eq_of_beq_eq_true h3
  refine ⟨⟨?_, by rw [hi, ← hs]; rfl⟩, ⟨d, hd, h1⟩, i, z, hi, hs, Nat.eq_of_beq_eq_true h4, hz, zlB_ok h6, Nat.eq_of_beq_eq_true h7, ?_⟩
  · rw [hd]
    generalize x.k = k at h1
    cases d <;> cases k <;> first | rfl | (cases h1; done) | simp [tkB] at h1
  · split at h8
    · rename_i cs; exact ⟨fun _ => h8, fun _ => ⟨cs, rfl⟩⟩
    · rename_i hne
      exact ⟨fun ⟨cs, e⟩ => absurd e (hne cs), fun e => by rw [e] at h8; cases h8⟩
theorem ti_ok {P : Program} : ∀ {tb : TB} {t : Nat} {x : TI}, tbB P tb = true → ti tb t = some x → TIo P t x
  | [], _, _, _, h => by cases h
  | (u, y) :: r, t, x, hb, h => by
    simp only [tbB, List.all_cons, Bool.and_eq_true] at hb
    unfold ti at h
    split at h
    · rename_i e
      cases h
      have := Nat.eq_of_beq_eq_true e
      subst this
      exact tiB_ok hb.1
    · exact ti_ok (tb := r) hb.2 h
section
variable {P : Program} {t : Nat} {x : TI}
theorem TIo.slice (h : TIo P t x) {el : Nat} (hk : x.k = .slice el) : P.underlying t = some (.slice el) := by
  obtain ⟨d, hd, hb⟩ := h.desc
  rw [hk] at hb
  cases d <;> first | (cases hb; done) | skip
  rw [hd, Nat.eq_of_beq_eq_true hb]
theorem TIo.arr (h : TIo P t x) {n el : Nat} (hk : x.k = .arr n el) : P.underlying t = some (.array n el) := by
  obtain ⟨d, hd, hb⟩ := h.desc
  rw [hk] at hb
  cases d <;> first | (cases hb; done) | skip
  simp only [tkB, Bool.and_eq_true] at hb
  rw [hd, Nat.eq_of_beq_eq_true hb.1, Nat.eq_of_beq_eq_true hb.2]
theorem TIo.int (h : TIo P t x) {k : IntKind} (hk : x.k = .int k) : P.underlying t = some (.int k) := by
  obtain ⟨d, hd, hb⟩ := h.desc
  rw [hk] at hb
  cases d <;> first | (cases hb; done) | skip
  rw [hd, ki_eq hb]
theorem TIo.bool (h : TIo P t x) (hk : x.k = .bool) : P.underlying t = some .bool := by
  obtain ⟨d, hd, hb⟩ := h.desc
  rw [hk] at hb
  cases d <;> first | (cases hb; done) | skip
  exact hd
theorem TIo.str (h : TIo P t x) (hk : x.k = .str) : P.underlying t = some .string := by
  obtain ⟨d, hd, hb⟩ := h.desc
  rw [hk] at hb
  cases d <;> first | (cases hb; done) | skip
  exact hd
theorem TIo.ptr (h : TIo P t x) {el : Nat} (hk : x.k = .ptr el) : P.underlying t = some (.pointer el) := by
  obtain ⟨d, hd, hb⟩ := h.desc
  rw [hk] at hb
  cases d <;> first | (cases hb; done) | skip
  rw [hd, Nat.eq_of_beq_eq_true hb]
theorem TIo.map (h : TIo P t x) {k el : Nat} (hk : x.k = .map k el) : P.underlying t = some (.map k el) := by
  obtain ⟨d, hd, hb⟩ := h.desc
  rw [hk] at hb
  cases d <;> first | (cases hb; done) | skip
  simp only [tkB, Bool.and_eq_true] at hb
  rw [hd, Nat.eq_of_beq_eq_true hb.1, Nat.eq_of_beq_eq_true hb.2]
theorem TIo.field (h : TIo P t x) {fs : List (Nat × Bool × Nat)} {i o sz : Nat} {agg : Bool} (hk : x.k = .struct fs) (hf : nthF fs i = some (o, agg, sz)) : ∃ gs f, P.underlying t = some (.struct gs) ∧ gs[i]? = some f ∧ f.offset = o ∧ Ty P f.type agg sz := by
  obtain ⟨d, hd, hb⟩ := h.desc
  rw [hk] at hb
  cases d <;> first | (cases hb; done) | skip
  rename_i gs
  obtain ⟨f, h1, h2, h3⟩ := flB_ok hb hf
  exact ⟨gs, f, hd, by rw [← Array.getElem?_toList]; exact h1, h2, h3⟩
theorem TIo.sizeOf (h : TIo P t x) (w : World) : (Go.sizeOf t).run P w = .ok x.sz w := h.ty.sizeOf w
theorem TIo.zero (h : TIo P t x) : ∃ z, (∀ w, (zeroValue t).run P w = .ok z w) ∧ (∀ e, dnL e x.zs = some z.cells.toList) ∧ (P.info? t).bind (·.zero) = some z := by
  obtain ⟨i, z, h1, h2, h3, h4, h5, h6, _⟩ := h.info
  have hz : (P.info? t).bind (·.zero) = some z := by rw [h1]; exact h4
  exact ⟨z, run_zero hz, h5, hz⟩
end

/-! ### What is plain -/
/-- What asks for nothing but the program. -/
def pureRun {α : Type} (P : Program) : Sem α → Option α
  | .pure a => some a
  | .program k => pureRun P (k P)
  | _ => none
theorem pureRun_ok {α : Type} {P : Program} : ∀ {s : Sem α} {x : α}, pureRun P s = some x → ∀ w, s.run P w = .ok x w
  | .pure a, x, h, w => by cases h; rfl
  | .program k, x, h, w => pureRun_ok (s := k P) h w
  | .load .., _, h, _ | .store .., _, h, _ | .new .., _, h, _ | .shape .., _, h, _ | .freeze .., _, h, _ | .frozen .., _, h, _ | .getObj .., _, h, _ | .setObj .., _, h, _ | .choose .., _, h, _ | .sys .., _, h, _ | .mark .., _, h, _ | .halt .., _, h, _ => by cases h
/-- Values without names. -/
def e0 : En := ⟨fun _ => none, fun _ => 0, fun _ => none⟩
theorem CW.cl {c : CW} {v : Value} (h : c.dn e0 = some v) (e : En) : c.dn e = some v := by
  cases c <;> first | (cases h; done) | (obtain ⟨b, hb, _⟩ := sl_dn h; cases hb; done) | (simp [CW.dn, e0] at h; done) | exact h
theorem dnL_cl : ∀ {l : List CW} {vs : List Value}, dnL e0 l = some vs → ∀ e, dnL e l = some vs
  | [], _, h, _ => h
  | c :: l, vs, h, e => by
    obtain ⟨v, us, h1, h2, rfl⟩ := dnL_cons h
    exact dnL_mk (CW.cl h1 e) (dnL_cl h2 e)
def ofV : Value → Option CW
  | .int k i => some (.int k i)
  | .bool b => some (.bool b)
  | .string s => some (.str s.data.toList)
  | .float k n => some (.flt k n)
  | .pointer none => some .nilp
  | .slice none 0 0 => some .nils
  | .map none => some .nilm
  | .nilFunc => some .nilf
  | .func (.func f) ⟨[]⟩ ⟨[]⟩ => some (.fn f)
  | _ => none
def ofVs : List Value → Option (List CW)
  | [] => some []
  | v :: l => match ofV v, ofVs l with | some c, some r => some (c :: r) | _, _ => none
def ofA : Value → Option AW
  | .agg ⟨l⟩ => (ofVs l).map .agg
  | v => (ofV v).map .one
theorem bs_eta (s : ByteArray) : bs s.data.toList = s := by obtain ⟨⟨l⟩⟩ := s; rfl
theorem ofV_ok {v : Value} {c : CW} (h : ofV v = some c) (e : En) : c.dn e = some v := by
  unfold ofV at h
  split at h
  all_goals first | (cases h; done) | skip
  all_goals cases h
  all_goals rfl
theorem ofVs_ok : ∀ {l : List Value} {m : List CW}, ofVs l = some m → ∀ e, dnL e m = some l
  | [], _, h, e => by cases h; rfl
  | v :: l, m, h, e => by
    unfold ofVs at h
    split at h
    · rename_i c r h1 h2
      cases h
      exact dnL_mk (ofV_ok h1 e) (ofVs_ok h2 e)
    · cases h
theorem ofA_ok {v : Value} {a : AW} (h : ofA v = some a) (e : En) : a.dn e = some v := by
  unfold ofA at h
  split at h
  · obtain ⟨m, h1, rfl⟩ := map_some h
    show (dnL e m).map _ = _
    rw [ofVs_ok h1 e]; rfl
  · obtain ⟨c, h1, rfl⟩ := map_some h
    exact ofV_ok h1 e
noncomputable def opW (F : FW) : Operand → Option AW
  | .tmp t => lkW F t
  | .const v => ofA v
  | .func f => some (.one (.fn f))
  | .global _ => none
section
variable {e : En} {n : Nat} {ds : List Deferred} {F : FW} {a : Act}
theorem FrW.op (h : FrW e n ds F a) {x : Operand} {v : AW} (hx : opW F x = some v) : ∃ u, v.dn e = some u ∧ opv (toF e F) x = some u ∧ a.eval x = u := by
  have key : ∃ u, v.dn e = some u ∧ opv (toF e F) x = some u := by
    cases x with
    | tmp t => exact lk_toF h.1 hx
    | const c => exact ⟨c, ofA_ok hx e, rfl⟩
    | func f => cases hx; exact ⟨_, rfl, rfl⟩
    | global g => cases hx
  obtain ⟨u, h1, h2⟩ := key
  exact ⟨u, h1, h2, h.2.eval h2⟩
noncomputable def opWs (F : FW) : List Operand → Option (List AW)
  | [] => some []
  | x :: l => match opW F x, opWs F l with | some v, some r => some (v :: r) | _, _ => none
def dnAs (e : En) : List AW → Option (List Value)
  | [] => some []
  | v :: l => (v.dn e).bind fun u => (dnAs e l).map (u :: ·)
theorem dnAs_cons {e : En} {v : AW} {l : List AW} {vs : List Value} (h : dnAs e (v :: l) = some vs) : ∃ u us, v.dn e = some u ∧ dnAs e l = some us ∧ vs = u :: us := by
  obtain ⟨u, h1, h⟩ := bind_some' h
  obtain ⟨us, h2, rfl⟩ := map_some h
  exact ⟨u, us, h1, h2, rfl⟩
theorem dnAs_mk {e : En} {v : AW} {l : List AW} {u : Value} {us : List Value} (h : v.dn e = some u) (h' : dnAs e l = some us) : dnAs e (v :: l) = some (u :: us) := by
  simp only [dnAs, h, h', Option.bind_some, Option.map_some]
theorem FrW.ops (h : FrW e n ds F a) : ∀ {xs : List Operand} {vs : List AW}, opWs F xs = some vs → ∃ us, dnAs e vs = some us ∧ evs (toF e F) xs = some us
  | [], vs, hx => by cases hx; exact ⟨[], rfl, rfl⟩
  | x :: l, vs, hx => by
    unfold opWs at hx
    split at hx
    · rename_i v r h1 h2
      cases hx
      obtain ⟨u, g1, g2, _⟩ := h.op h1
      obtain ⟨us, g3, g4⟩ := h.ops h2
      exact ⟨u :: us, dnAs_mk g1 g3, by simp only [evs, g2, g4]⟩
    · cases hx
end
end Go.Proofs.YtmbjfpacaenbhaaGreat
