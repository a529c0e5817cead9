/- Slices: reading, rows of one's own, literals; partial results. Conditions: none. -/
import Derived.Test.YtmbjfpacaenbhaaGreatO5
import Derived.Deep.LoopGhost
namespace Go.Proofs.YtmbjfpacaenbhaaGreat
set_option linter.unusedVariables false
set_option linter.unusedSimpArgs false
open Go Go.RowKit
variable {rl : Option Nat}

/-! ### Partial results -/
theorem bindE {α β : Type} {o : Option α} {f : α → Option β} {r : β} (h : o.bind f = some r) : ∃ x, o = some x ∧ f x = some r := Option.bind_eq_some_iff.1 h
theorem iteT {α : Type} {c : Prop} [Decidable c] {a b o : α} (hc : c) (h : (if c then a else b) = o) : a = o := by rwa [if_pos hc] at h
theorem iteF {α : Type} {c : Prop} [Decidable c] {a b o : α} (hc : ¬ c) (h : (if c then a else b) = o) : b = o := by rwa [if_neg hc] at h
def orR {α β : Type} (o : Option (α ⊕ β)) (k : α → Option β) : Option β := o.bind fun s => match s with | .inl t => k t | .inr e => some e
theorem orE {α β : Type} {o : Option (α ⊕ β)} {k : α → Option β} {r : β} (h : orR o k = some r) :
    ∃ s, o = some s ∧ (∀ t, some (Sum.inl t) = some s → k t = some r) ∧ (∀ e, some (Sum.inr e) = some s → some e = some r) := by
  obtain ⟨s, h1, h2⟩ := bindE h
  refine ⟨s, h1, fun t ht => ?_, fun e he => ?_⟩
  · cases ht; exact h2
  · cases he; exact h2
/-- One of two kinds of answers. -/
abbrev altP {α β : Type} (s : α ⊕ β) (p : α → Prop) (q : β → Prop) : Prop := match s with | .inl x => p x | .inr y => q y
def altS {α β γ : Type} (s : α ⊕ β) (f : α → γ) (g : β → γ) : γ := match s with | .inl x => f x | .inr y => g y
theorem altL {α β γ : Type} {x : α} {f : α → γ} {g : β → γ} {o : γ} (h : altS (.inl x) f g = o) : f x = o := h
theorem altR {α β γ : Type} {y : β} {f : α → γ} {g : β → γ} {o : γ} (h : altS (.inr y) f g = o) : g y = o := h
def ix {α : Type} (l : List α) (i : Int) : Option α := if 0 ≤ i then l[i.toNat]? else none
theorem ix_lt {α : Type} {l : List α} {i : Int} {x : α} (h : ix l i = some x) : 0 ≤ i ∧ i.toNat < l.length ∧ l[i.toNat]? = some x := by
  unfold ix at h
  split at h
  · exact ⟨‹_›, (List.getElem?_eq_some_iff.1 h).1, h⟩
  · cases h
def app {α : Type} (l m : List α) : Option (List α) := if l.length + m.length ≤ 1000000000 then some (l ++ m) else none
theorem app_some {α : Type} {l m k : List α} (h : app l m = some k) : l.length + m.length ≤ 1000000000 ∧ k = l ++ m := by
  unfold app at h
  split at h
  · exact ⟨‹_›, (Option.some.inj h).symm⟩
  · cases h
def subl {α : Type} (l : List α) (lo hi : Int) : Option (List α) := if 0 ≤ lo ∧ lo ≤ hi ∧ hi ≤ l.length then some ((l.take hi.toNat).drop lo.toNat) else none
theorem subl_some {α : Type} {l m : List α} {lo hi : Int} (h : subl l lo hi = some m) : 0 ≤ lo ∧ lo ≤ hi ∧ hi ≤ l.length ∧ m = (l.take hi.toNat).drop lo.toNat := by
  unfold subl at h
  split at h
  · rename_i hc; exact ⟨hc.1, hc.2.1, hc.2.2, (Option.some.inj h).symm⟩
  · cases h
def setAt {α : Type} (l : List α) (i : Int) (x : α) : List α := l.set i.toNat x
def mk {α : Type} (n : Int) (z : α) : Option (List α) := if 0 ≤ n ∧ n ≤ 1000000000 then some (List.replicate n.toNat z) else none
theorem mk_some {α : Type} {n : Int} {z : α} {l : List α} (h : mk n z = some l) : 0 ≤ n ∧ n ≤ 1000000000 ∧ l = List.replicate n.toNat z := by
  unfold mk at h
  split at h
  · rename_i hc; exact ⟨hc.1, hc.2, (Option.some.inj h).symm⟩
  · cases h
def dvI (k : IntKind) (p q : Int) : Option Int := if q = 0 then none else some (k.wrap (p.tdiv q))
def rmI (p q : Int) : Option Int := if q = 0 then none else some (p.tmod q)
theorem dvI_some {k : IntKind} {p q r : Int} (h : dvI k p q = some r) : q ≠ 0 ∧ k.wrap (p.tdiv q) = r := by
  unfold dvI at h; split at h <;> simp_all
theorem rmI_some {p q r : Int} (h : rmI p q = some r) : q ≠ 0 ∧ p.tmod q = r := by
  unfold rmI at h; split at h <;> simp_all

/-! ### Loops -/
def loopN {σ ε : Type} (step : σ → Option (σ ⊕ ε)) : Nat → σ → Option ε
  | 0, _ => none
  | n + 1, s => (step s).bind fun o => match o with | .inl s' => loopN step n s' | .inr e => some e
theorem loopN_mono {σ ε : Type} {step : σ → Option (σ ⊕ ε)} {e : ε} : ∀ {n : Nat} {s : σ}, loopN step n s = some e → loopN step (n + 1) s = some e
  | 0, s, h => by cases h
  | n + 1, s, h => by
    obtain ⟨o, h1, h2⟩ := bindE h
    unfold loopN
    rw [h1]
    cases o with
    | inl s' => exact loopN_mono (n := n) (s := s') h2
    | inr e' => exact h2
theorem loopN_le {σ ε : Type} {step : σ → Option (σ ⊕ ε)} {e : ε} {n m : Nat} {s : σ} (h : loopN step n s = some e) (hm : n ≤ m) : loopN step m s = some e := by
  induction hm with
  | refl => exact h
  | step _ ih => exact loopN_mono ih
open Classical in
/-- What a loop comes to; none if it does not end. -/
noncomputable def loopW {σ ε : Type} (step : σ → Option (σ ⊕ ε)) (s : σ) : Option ε := if h : ∃ n e, loopN step n s = some e then some h.choose_spec.choose else none
theorem loopW_iff {σ ε : Type} {step : σ → Option (σ ⊕ ε)} {s : σ} {e : ε} : loopW step s = some e ↔ ∃ n, loopN step n s = some e := by
  unfold loopW
  constructor
  · intro h
    split at h
    · rename_i hx
      exact ⟨hx.choose, by rw [← Option.some.inj h]; exact hx.choose_spec.choose_spec⟩
    · cases h
  · rintro ⟨n, h⟩
    have hx : ∃ n e, loopN step n s = some e := ⟨n, e, h⟩
    rw [dif_pos hx]
    have h1 := loopN_le hx.choose_spec.choose_spec (Nat.le_max_left hx.choose n)
    have h2 := loopN_le h (Nat.le_max_right hx.choose n)
    rw [h2] at h1
    exact h1.symm
/-- One round of a loop. -/
theorem loopW_eq {σ ε : Type} (step : σ → Option (σ ⊕ ε)) (s : σ) : loopW step s = (step s).bind fun o => match o with | .inl s' => loopW step s' | .inr e => some e := by
  have key : ∀ e, loopW step s = some e ↔ ((step s).bind fun o => match o with | .inl s' => loopW step s' | .inr e => some e) = some e := by
    intro e
    rw [loopW_iff]
    constructor
    · rintro ⟨n, h⟩
      cases n with
      | zero => cases h
      | succ n =>
        obtain ⟨o, h1, h2⟩ := bindE h
        rw [h1]
        cases o with
        | inl s' => exact loopW_iff.2 ⟨n, h2⟩
        | inr e' => exact h2
    · intro h
      obtain ⟨o, h1, h2⟩ := bindE h
      cases o with
      | inl s' =>
        obtain ⟨n, hn⟩ := loopW_iff.1 h2
        exact ⟨n + 1, by unfold loopN; rw [h1]; exact hn⟩
      | inr e' => exact ⟨1, by unfold loopN; rw [h1]; exact h2⟩
  cases hl : loopW step s with
  | some e => exact ((key e).1 hl).symm
  | none =>
    cases hr : ((step s).bind fun o => match o with | .inl s' => loopW step s' | .inr e => some e) with
    | none => rfl
    | some e => rw [(key e).2 hr] at hl; cases hl

section
variable {P : Program} {B : Bs} {M M' : Blks} {Z Z' Z1 : List It} {n : Nat} {ds : List Deferred} {F F' : List (Nat × Value)} {a : Act} {w w' : World}
variable {ops : Array Oper} {Q : Exit → Act → World → Prop} {rest : List Oper} {o : Oper}
variable {dst : Option Tmp} {ty : TypeId} {pos : String} {aft : Array Edge} {g : Option (Nat × Bool)}

theorem c_seqJ {x y : Code} (J : Act → World → Prop) (h : x.wr rl P (Exit.then J Q) a w) (k : ∀ a w, J a w → y.wr rl P Q a w) : (Code.seq x y).wr rl P Q a w := by
  refine wr_seq (wr_mono ?_ h)
  intro e a' w' h'
  cases e <;> first | exact h' | exact k _ _ h'

theorem c_loopW {σ ε : Type} {c : Code} {step : σ → Option (σ ⊕ ε)} {s0 : σ} {e : ε} (H : loopW step s0 = some e) (R : σ → Act → World → Prop) (h0 : R s0 a w)
    (round : ∀ s o a w, step s = some o → (∀ e', some (Sum.inr e') = some o → some e' = some e) → R s a w → c.wr rl P (Exit.then (fun a' w' => ∃ s', some (Sum.inl s') = some o ∧ R s' a' w') Q) a w) : (Code.loop c).wr rl P Q a w := by
  obtain ⟨m, hm⟩ := loopW_iff.1 H
  refine wr_loop_ghost (fun m a w => ∃ s, loopN step m s = some e ∧ R s a w) m ⟨s0, hm, h0⟩ ?_
  rintro m a w ⟨s, hs, hR⟩
  cases m with
  | zero => cases hs
  | succ m =>
    obtain ⟨o, h1, h2⟩ := bindE hs
    refine wr_mono ?_ (round s o a w h1 (fun e' he => ?_) hR)
    · intro ex a' w' h
      cases ex <;> first | exact h | skip
      obtain ⟨s', h3, h4⟩ := h
      cases h3
      exact ⟨m, Nat.lt_succ_self m, s', h2, h4⟩
    · cases he; exact h2

/-! ### Slices that are read -/
def vblk : Value → Nat | .slice (some a) _ _ => a.block | _ => 0
def voff : Value → Nat | .slice (some a) _ _ => a.off | _ => 0
def slSub (v : Value) (lo hi : Int) (sz : Nat) : Value := match v with | .slice a _ c => .slice (if c = lo.toNat then a else a.map (·.add (lo.toNat * sz))) (hi.toNat - lo.toNat) (c - lo.toNat) | v => v

/-- What is asked of a slice type: its element, the element's cells and bytes. -/
structure Et (P : Program) (t e : TypeId) (sz by_ : Nat) : Prop where
  desc : P.underlying t = some (.slice e)
  info : ∃ i z, P.info? e = some i ∧ i.zero = some z ∧ i.size = sz ∧ i.bytes = by_ ∧ z.cells.size = sz
  pos : 0 < sz
theorem Et.of {t e : TypeId} {sz by_ : Nat} (hd : P.underlying t = some (.slice e)) (hs : (P.info? e).map (·.size) = some sz) (hb : (P.info? e).map (·.bytes) = some by_) (hz : ((P.info? e).bind (·.zero)).map (·.cells.size) = some sz) (hp : 0 < sz) : Et P t e sz by_ := by
  refine ⟨hd, ?_, hp⟩
  cases hi : P.info? e with
  | none => rw [hi] at hs; simp at hs
  | some i =>
    rw [hi] at hs hb hz
    simp at hs hb hz
    obtain ⟨z, h1, h2⟩ := hz
    exact ⟨i, z, rfl, h1, hs, hb, h2⟩
theorem Et.sizeOf {t e : TypeId} {sz by_ : Nat} (E : Et P t e sz by_) (w : World) : (Go.sizeOf e).run P w = .ok sz w := by
  obtain ⟨inf, z, hi', hz, his, hib, hzs⟩ := E.info
  simp [Go.sizeOf, typeInfo, hi', his]

section
variable {α : Type} {r : Rp α} {l l2 l3 : List α} {v u : Value} {x : α} {i : Int} {t e by_ : Nat}

/-- l can be read at v in every world of the class. -/
def Rdc {α : Type} (B : Bs) (M : Blks) (Z : List It) (r : Rp α) (v : Value) (l : List α) : Prop := ∀ w, Stw B M Z w → Sl w any r v l
theorem rdc_frz (k : Nat) (hZ : Z[k]? = some (frz v r l)) : Rdc B M Z r v l := fun _ hw => Sl.any (A := Fz B (blks M Z)) (hw.item hZ)
theorem rdc_row (k : Nat) (hZ : Z[k]? = some (row v e r l)) : Rdc B M Z r v l := fun _ hw => Own.sl (A := Fz B (blks M Z)) (e := e) (hw.item hZ) (fun _ _ => trivial) fun _ _ => trivial
theorem rdc_old (h : Sl B.w0 B.Y r v l) : Rdc B M Z r v l := fun _ hw => (hw.old h).any
theorem rdc_nil : Rdc B M Z r (.slice none 0 0) ([] : List α) := fun _ _ => .nil
theorem Sl.sub {w : World} {A : Nat → Prop} {lo hi : Int} (h : Sl w A r v l) (hs : subl l lo hi = some l2) : Sl w A r (slSub v lo hi r.sz) l2 := by
  obtain ⟨h1, h2, h3, rfl⟩ := subl_some hs
  rcases h with ⟨ad, cap, rfl, rfl⟩ | ⟨b, off, cap, xs, rfl, hc, hA, hb, hx, hr⟩
  · have : lo = 0 ∧ hi = 0 := by simp at h3; omega
    obtain ⟨rfl, rfl⟩ := this
    exact .inl ⟨_, _, rfl, by simp⟩
  · have hlen : ((l.take hi.toNat).drop lo.toNat).length = hi.toNat - lo.toNat := by simp; omega
    by_cases hq : cap = lo.toNat
    · have hz : ((l.take hi.toNat).drop lo.toNat) = [] := List.eq_nil_of_length_eq_zero (by omega)
      refine .inr ⟨b, off, cap - lo.toNat, [], ?_, by omega, hA, hb, fun j u hu => by simp at hu, by rw [hz]; rfl⟩
      simp [slSub, hq, hlen, -List.length_drop, -List.length_take]
    · refine .inr ⟨b, off + lo.toNat * r.sz, cap - lo.toNat, _, ?_, by omega, hA, hb, fun j u hu => ?_, (hr.take hi.toNat).drop lo.toNat⟩
      · simp only [slSub, if_neg hq, Option.map_some, hlen]
        unfold Addr.add
        split <;> simp_all
      · rw [List.getElem?_drop, List.getElem?_take] at hu
        split at hu
        · have := hx _ _ hu
          rw [Nat.add_assoc]; exact this
        · cases hu
theorem rdc_sub {lo hi : Int} (h : Rdc B M Z r v l) (hs : subl l lo hi = some l2) : Rdc B M Z r (slSub v lo hi r.sz) l2 := fun w hw => (h w hw).sub hs

theorem y_len {x : Operand} {ts : Array TypeId} (ht : P.underlying t = some (.slice e)) (hts : ts[0]? = some t) (hF : Fr n ds F a) (hx : opv F x = some v) (hR : Rdc B M Z r v l) :
    Yx P B M Z a ⟨dst, .call ⟨.builtin .len, #[x], ts⟩, ty, pos, aft, g⟩ (.int .i64 (l.length : Int)) :=
  yl_of fun w hw => by
    have hts' : ts.toList[0]? = some t := by simpa using hts
    rcases hR w hw with ⟨ad, cap, rfl, rfl⟩ | ⟨b, off, cap, xs, rfl, _⟩
    · simp [execOp, resolve_builtin, invoke, builtin, Builtin.len_, hF.eval hx, hts, Go.underlying, ht, goInt]
    · simp [execOp, resolve_builtin, invoke, builtin, Builtin.len_, hF.eval hx, hts, Go.underlying, ht, goInt]

theorem y_index {s iop : Operand} (E : Et P t e r.sz by_) (hF : Fr n ds F a) (hx : opv F s = some v) (hi : opv F iop = some (.int .i64 i)) (hR : Rdc B M Z r v l) (hik : ix l i = some x) :
    Yx P B M Z a ⟨dst, .indexAddr t s iop, ty, pos, aft, g⟩ (.pointer (some ⟨vblk v, voff v + i.toNat * r.sz, none⟩)) :=
  yl_of fun w hw => by
    obtain ⟨h0, hk, _⟩ := ix_lt hik
    have hsz := E.sizeOf (P := P) w
    rcases hR w hw with ⟨ad, cap, rfl, rfl⟩ | ⟨b, off, cap, xs, rfl, _⟩
    · simp at hk
    · have h1 : i < (l.length : Int) := by omega
      simp [execOp, Instr.indexAt, hF.eval hx, hF.eval hi, asIntOf, Go.underlying, E.desc, h0, h1, hsz, addr_add, vblk, voff]

def Flat (r : Rp α) (enc : α → List Value) : Prop := ∀ {w A cs a}, r.rep w A cs a → cs = enc a
theorem cells_of (hR : Sl w any r v l) (hik : ix l i = some x) : ∃ cs, r.rep w any cs x ∧ ∀ j u, cs[j]? = some u → w.cell? ⟨vblk v, voff v + i.toNat * r.sz + j, none⟩ = some u := by
  obtain ⟨h0, hk, hx⟩ := ix_lt hik
  rcases hR with ⟨ad, cap, rfl, rfl⟩ | ⟨b, off, cap, xs, rfl, _, _, _, hc, hr⟩
  · simp at hk
  · obtain ⟨cs, h1, h2⟩ := hr.get hx
    exact ⟨cs, h1, fun j u hu => by have := hc _ _ (h2 j u hu); simp only [vblk, voff]; rw [Nat.add_assoc]; exact this⟩

/-- A load out of an element: one cell, or a struct. -/
theorem y_load_el {p : Operand} {t : TypeId} {agg : Bool} {sz j off : Nat} {enc : α → List Value} {y : Value} (hF : Fr n ds F a) (hx : opv F p = some (.pointer (some ⟨vblk v, off, none⟩))) (ho : off = voff v + i.toNat * r.sz + j) (hR : Rdc B M Z r v l) (hik : ix l i = some x) (hfl : Flat r enc)
    (T : Ty P t agg sz) (hu : rdv agg sz (enc x) j = some y) : Yx P B M Z a ⟨dst, .load t p, ty, pos, aft, g⟩ y :=
  yl_of fun w hw => by
    subst ho
    obtain ⟨cs, h1, h2⟩ := cells_of (hR w hw) hik
    rw [hfl h1] at h2
    have key : (loadVar t ⟨vblk v, voff v + i.toNat * r.sz + j, none⟩).run P w = .ok y w := by
      unfold loadVar
      cases agg with
      | false =>
        simp only [rdv, Bool.false_eq_true, if_false] at hu
        simp [T.isAgg, h2 _ _ hu]
      | true =>
        simp only [rdv, if_true] at hu
        by_cases hle : j + sz ≤ (enc x).length
        · rw [if_pos hle] at hu
          simp only [Option.some.injEq] at hu
          subst hu
          have := run_loadCells_list (P := P) (w := w) ⟨vblk v, voff v + i.toNat * r.sz + j, none⟩ (((enc x).drop j).take sz) (fun q u hq => by
            rw [addr_add]
            have hqm : q < sz := by have := (List.getElem?_eq_some_iff.1 hq).1; simp at this; omega
            rw [List.getElem?_take_of_lt hqm, List.getElem?_drop] at hq
            rw [Nat.add_assoc]; exact h2 _ _ hq)
          have hl : (((enc x).drop j).take sz).length = sz := by simp; omega
          rw [hl] at this
          simp [T.isAgg, T.sizeOf, this]
        · rw [if_neg hle] at hu; cases hu
    simp [execOp, hF.eval hx, Instr.loadAt, Instr.sureAddr, key]

/-- Cells that lay at the base, and are not lent. -/
structure At (B : Bs) (b off : Nat) (cs : List Value) : Prop where
  nx : b ∉ B.X
  lt : b < B.w0.heap.size
  cell : ∀ j u, cs[j]? = some u → B.w0.cell? ⟨b, off + j, none⟩ = some u
/-- What is only read: nothing of it is lent. -/
abbrev NX (X : List Nat) : Nat → Prop := fun b => b ∉ X
theorem Sl.el (h : Sl B.w0 (NX B.X) r v l) (hik : ix l i = some x) : ∃ cs, At B (vblk v) (voff v + i.toNat * r.sz) cs ∧ r.rep B.w0 (NX B.X) cs x := by
  obtain ⟨h0, hk, hx⟩ := ix_lt hik
  rcases h with ⟨ad, cap, rfl, rfl⟩ | ⟨b, off, cap, xs, rfl, _, hA, hb, hc, hr⟩
  · simp at hk
  · obtain ⟨cs, h1, h2⟩ := hr.get hx
    exact ⟨cs, ⟨hA, hb, fun j u hu => by have := hc _ _ (h2 j u hu); simp only [voff]; rw [Nat.add_assoc]; exact this⟩, h1⟩
theorem At.now {b off : Nat} {cs : List Value} (h : At B b off cs) (hw : Stw B M Z w) {j : Nat} {u : Value} (hu : cs[j]? = some u) : w.cell? ⟨b, off + j, none⟩ = some u := by
  rw [cell_same (hw.frm.block b h.lt h.nx)]; exact h.cell j u hu
theorem Stw.nx (h : Stw B M Z w) (hs : Sl B.w0 B.Y r v l) : Sl B.w0 (NX B.X) r v l := hs.stab fun b hY _ => ⟨fun hx => h.disj b hx hY, rfl⟩
theorem rdc_ro (h : Sl B.w0 (NX B.X) r v l) : Rdc B M Z r v l := fun _ hw => h.stab fun b hb hlt => ⟨trivial, hw.frm.block b hlt hb⟩
theorem Sl.nx {w : World} {A : Nat → Prop} (h : Sl w A r v l) : Sl w (NX []) r v l := h.stab fun b _ _ => ⟨fun hm => (by cases hm), rfl⟩
/-- What rests is not lent. -/
theorem Sl.nxF {w : World} {C : List Nat} {D : List Nat} (h : Sl w (Fz B D) r v l) (hs : ∀ g ∈ C, g ∈ D) : Sl w (NX C) r v l := h.stab fun b hb _ => ⟨fun hm => hb.2 (hs b hm), rfl⟩
theorem y_load_at {p : Operand} {t : TypeId} {agg : Bool} {sz b off j o' : Nat} {cs : List Value} {y : Value} (hF : Fr n ds F a) (hx : opv F p = some (.pointer (some ⟨b, o', none⟩))) (ho : o' = off + j) (hA : At B b off cs)
    (T : Ty P t agg sz) (hu : rdv agg sz cs j = some y) : Yx P B M Z a ⟨dst, .load t p, ty, pos, aft, g⟩ y :=
  yl_of fun w hw => by
    subst ho
    have key : (loadVar t ⟨b, off + j, none⟩).run P w = .ok y w := by
      unfold loadVar
      cases agg with
      | false =>
        simp only [rdv, Bool.false_eq_true, if_false] at hu
        simp [T.isAgg, hA.now hw hu]
      | true =>
        simp only [rdv, if_true] at hu
        by_cases hle : j + sz ≤ cs.length
        · rw [if_pos hle] at hu
          simp only [Option.some.injEq] at hu
          subst hu
          have := run_loadCells_list (P := P) (w := w) ⟨b, off + j, none⟩ ((cs.drop j).take sz) (fun q u hq => by
            rw [addr_add]
            have hqm : q < sz := by have := (List.getElem?_eq_some_iff.1 hq).1; simp at this; omega
            rw [List.getElem?_take_of_lt hqm, List.getElem?_drop] at hq
            rw [Nat.add_assoc]; exact hA.now hw hq)
          have hl : ((cs.drop j).take sz).length = sz := by simp; omega
          rw [hl] at this
          simp [T.isAgg, T.sizeOf, this]
        · rw [if_neg hle] at hu; cases hu
    simp [execOp, hF.eval hx, Instr.loadAt, Instr.sureAddr, key]

/-- v[lo:hi] -/
theorem y_slice {s : Operand} {lop hop : Option Operand} {lo hi : Int} (E : Et P t e r.sz by_) (hF : Fr n ds F a) (hx : opv F s = some v) (hl : (match lop with | none => lo = 0 | some q => opv F q = some (.int .i64 lo))) (hh : (match hop with | none => hi = l.length | some q => opv F q = some (.int .i64 hi))) (hR : Rdc B M Z r v l) (hs : subl l lo hi = some l2) :
    Yx P B M Z a ⟨dst, .slice t s lop hop none, ty, pos, aft, g⟩ (slSub v lo hi r.sz) :=
  yl_of fun w hw => by
    obtain ⟨h1, h2, h3, _⟩ := subl_some hs
    have hsz := E.sizeOf (P := P) w
    have hb : ∀ (y : Nat) (code : BoundsCode) (q : Int), 0 ≤ q → q ≤ y → (Instr.sliceBound (.int .i64 q) y code).run P w = .ok q.toNat w := fun y code q h0 h4 => by
      simp [Instr.sliceBound, asIntOf, h0, h4]
    have hxe := hF.eval hx
    rcases hR w hw with ⟨ad, cap, rfl, rfl⟩ | ⟨b, off, cap, xs, rfl, hc, _⟩
    · have : lo = 0 ∧ hi = 0 := by simp at h3; omega
      obtain ⟨rfl, rfl⟩ := this
      cases lop <;> cases hop <;> simp at hl hh <;> (try have hle := hF.eval hl) <;> (try have hhe := hF.eval hh) <;>
        simp [execOp, Instr.sliceAt, Instr.slice, Instr.sliceBounds, Instr.sliceBound, asIntOf, Go.underlying, E.desc, hxe, hsz, slSub, *]
    · have k1 : ∀ code, (Instr.sliceBound (.int .i64 hi) cap code).run P w = .ok hi.toNat w := fun code => hb cap code hi (by omega) (by omega)
      have k2 : ∀ code, (Instr.sliceBound (.int .i64 lo) hi.toNat code).run P w = .ok lo.toNat w := fun code => hb _ code lo h1 (by omega)
      have e0 : ∀ (z : Addr), (if cap = lo.toNat then some z else some (z.add (lo.toNat * r.sz))) = (if cap = lo.toNat then some z else (some z).map (·.add (lo.toNat * r.sz))) := fun z => rfl
      cases lop with
      | none =>
        simp only at hl
        subst hl
        cases hop with
        | none =>
          simp only at hh
          subst hh
          simp [execOp, Instr.sliceAt, Instr.slice, Instr.sliceBounds, Go.underlying, E.desc, hxe, hsz, slSub]
        | some q =>
          have hhe := hF.eval hh
          simp [execOp, Instr.sliceAt, Instr.slice, Instr.sliceBounds, Go.underlying, E.desc, hxe, hhe, hsz, slSub, k1]
      | some p =>
        have hle := hF.eval hl
        cases hop with
        | none =>
          simp only at hh
          subst hh
          have k3 : ∀ code, (Instr.sliceBound (.int .i64 lo) l.length code).run P w = .ok lo.toNat w := fun code => hb _ code lo h1 (by omega)
          simp [execOp, Instr.sliceAt, Instr.slice, Instr.sliceBounds, Go.underlying, E.desc, hxe, hle, hsz, slSub, k3]
        | some q =>
          have hhe := hF.eval hh
          simp [execOp, Instr.sliceAt, Instr.slice, Instr.sliceBounds, Go.underlying, E.desc, hxe, hle, hhe, hsz, slSub, k1, k2]
end
end
end Go.Proofs.YtmbjfpacaenbhaaGreat
