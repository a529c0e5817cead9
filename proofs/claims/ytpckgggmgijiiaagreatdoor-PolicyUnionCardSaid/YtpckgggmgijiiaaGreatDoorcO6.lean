/- Slices: reading, rows of one's own, literals; partial results. Conditions: none. -/
import Derived.Test.YtpckgggmgijiiaaGreatDoorcO5
import Derived.Deep.LoopGhost
namespace Go.Proofs.YtpckgggmgijiiaaGreatDoor
set_option linter.unusedVariables false
set_option linter.unusedSimpArgs false
open Go Go.RowKit
variable {rl : Option Nat}
theorem Ag {α β : Type} {o : Option α} {f : α → Option β} {r : β} (h : o.bind f = some r) : ∃ x, o = some x ∧ f x = some r := Option.bind_eq_some_iff.1 h
theorem Cg {α : Type} {c : Prop} [Decidable c] {a b o : α} (hc : c) (h : (if c then a else b) = o) : a = o := by rwa [if_pos hc] at h
theorem Cf {α : Type} {c : Prop} [Decidable c] {a b o : α} (hc : ¬ c) (h : (if c then a else b) = o) : b = o := by rwa [if_neg hc] at h
def Ku {α β : Type} (o : Option (α ⊕ β)) (k : α → Option β) : Option β := o.bind fun s => match s with | .inl t => k t | .inr e => some e
theorem RM {α β : Type} {o : Option (α ⊕ β)} {k : α → Option β} {r : β} (h : Ku o k = some r) :
    ∃ s, o = some s ∧ (∀ t, some (Sum.inl t) = some s → k t = some r) ∧ (∀ e, some (Sum.inr e) = some s → some e = some r) := by
  obtain ⟨s, h1, h2⟩ := Ag h
  refine ⟨s, h1, fun t ht => ?_, fun e he => ?_⟩
  · cases ht; exact h2
  · cases he; exact h2
def Xi {α β γ : Type} (s : α ⊕ β) (f : α → γ) (g : β → γ) : γ := match s with | .inl x => f x | .inr y => g y
def ix {α : Type} (l : List α) (i : Int) : Option α := if 0 ≤ i then l[i.toNat]? else none
theorem KY {α : Type} {l : List α} {i : Int} {x : α} (h : ix l i = some x) : 0 ≤ i ∧ i.toNat < l.length ∧ l[i.toNat]? = some x := by
  unfold ix at h
  split at h
  · exact ⟨‹_›, (List.getElem?_eq_some_iff.1 h).1, h⟩
  · cases h
def IF {α : Type} (l m : List α) : Option (List α) := if l.length + m.length ≤ 1000000000 then some (l ++ m) else none
theorem QX {α : Type} {l m k : List α} (h : IF l m = some k) : l.length + m.length ≤ 1000000000 ∧ k = l ++ m := by
  unfold IF at h
  split at h
  · exact ⟨‹_›, (Option.some.inj h).symm⟩
  · cases h
def Un {α : Type} (l : List α) (lo hi : Int) : Option (List α) := if 0 ≤ lo ∧ lo ≤ hi ∧ hi ≤ l.length then some ((l.take hi.toNat).drop lo.toNat) else none
theorem MZ {α : Type} {l m : List α} {lo hi : Int} (h : Un l lo hi = some m) : 0 ≤ lo ∧ lo ≤ hi ∧ hi ≤ l.length ∧ m = (l.take hi.toNat).drop lo.toNat := by
  unfold Un at h
  split at h
  · rename_i hc; exact ⟨hc.1, hc.2.1, hc.2.2, (Option.some.inj h).symm⟩
  · cases h
def Bm {α : Type} (l : List α) (i : Int) (x : α) : List α := l.set i.toNat x
def mk {α : Type} (n : Int) (z : α) : Option (List α) := if 0 ≤ n ∧ n ≤ 1000000000 then some (List.replicate n.toNat z) else none
def Ie {σ ε : Type} (step : σ → Option (σ ⊕ ε)) : Nat → σ → Option ε
  | 0, _ => none
  | n + 1, s => (step s).bind fun o => match o with | .inl s' => Ie step n s' | .inr e => some e
theorem Pm {σ ε : Type} {step : σ → Option (σ ⊕ ε)} {e : ε} : ∀ {n : Nat} {s : σ}, Ie step n s = some e → Ie step (n + 1) s = some e
  | 0, s, h => by cases h
  | n + 1, s, h => by
    obtain ⟨o, h1, h2⟩ := Ag h
    unfold Ie
    rw [h1]
    cases o with
    | inl s' => exact Pm (n := n) (s := s') h2
    | inr e' => exact h2
theorem Rr {σ ε : Type} {step : σ → Option (σ ⊕ ε)} {e : ε} {n m : Nat} {s : σ} (h : Ie step n s = some e) (hm : n ≤ m) : Ie step m s = some e := by
  induction hm with
  | refl => exact h
  | step _ ih => exact Pm ih
open Classical in
noncomputable def Ba {σ ε : Type} (step : σ → Option (σ ⊕ ε)) (s : σ) : Option ε := if h : ∃ n e, Ie step n s = some e then some h.choose_spec.choose else none
theorem GD {σ ε : Type} {step : σ → Option (σ ⊕ ε)} {s : σ} {e : ε} : Ba step s = some e ↔ ∃ n, Ie step n s = some e := by
  unfold Ba
  constructor
  · intro h
    split at h
    · rename_i hx
      exact ⟨hx.choose, by rw [← Option.some.inj h]; exact hx.choose_spec.choose_spec⟩
    · cases h
  · rintro ⟨n, h⟩
    have hx : ∃ n e, Ie step n s = some e := ⟨n, e, h⟩
    rw [dif_pos hx]
    have h1 := Rr hx.choose_spec.choose_spec (Nat.le_max_left hx.choose n)
    have h2 := Rr h (Nat.le_max_right hx.choose n)
    rw [h2] at h1
    exact h1.symm
theorem JR {σ ε : Type} (step : σ → Option (σ ⊕ ε)) (s : σ) : Ba step s = (step s).bind fun o => match o with | .inl s' => Ba step s' | .inr e => some e := by
  have key : ∀ e, Ba step s = some e ↔ ((step s).bind fun o => match o with | .inl s' => Ba step s' | .inr e => some e) = some e := by
    intro e
    rw [GD]
    constructor
    · rintro ⟨n, h⟩
      cases n with
      | zero => cases h
      | succ n =>
        obtain ⟨o, h1, h2⟩ := Ag h
        rw [h1]
        cases o with
        | inl s' => exact GD.2 ⟨n, h2⟩
        | inr e' => exact h2
    · intro h
      obtain ⟨o, h1, h2⟩ := Ag h
      cases o with
      | inl s' =>
        obtain ⟨n, hn⟩ := GD.1 h2
        exact ⟨n + 1, by unfold Ie; rw [h1]; exact hn⟩
      | inr e' => exact ⟨1, by unfold Ie; rw [h1]; exact h2⟩
  cases hl : Ba step s with
  | some e => exact ((key e).1 hl).symm
  | none =>
    cases hr : ((step s).bind fun o => match o with | .inl s' => Ba step s' | .inr e => some e) with
    | none => rfl
    | some e => rw [(key e).2 hr] at hl; cases hl
section
variable {P : Program} {B : Bs} {M M' : Dh} {Z Z' Z1 : List It} {n : Nat} {ds : List Deferred} {F F' : List (Nat × Value)} {a : Act} {w w' : World}
variable {ops : Array Oper} {Q : Exit → Act → World → Prop} {rest : List Oper} {o : Oper}
variable {dst : Option Tmp} {ty : TypeId} {pos : String} {aft : Array Edge} {g : Option (Nat × Bool)}
theorem AA {x y : Code} (J : Act → World → Prop) (h : x.wr rl P (Exit.then J Q) a w) (k : ∀ a w, J a w → y.wr rl P Q a w) : (Code.seq x y).wr rl P Q a w := by
  refine Ug (Lb ?_ h)
  intro e a' w' h'
  cases e <;> first | exact h' | exact k _ _ h'
theorem BN {σ ε : Type} {c : Code} {step : σ → Option (σ ⊕ ε)} {s0 : σ} {e : ε} (H : Ba step s0 = some e) (R : σ → Act → World → Prop) (h0 : R s0 a w)
    (round : ∀ s o a w, step s = some o → (∀ e', some (Sum.inr e') = some o → some e' = some e) → R s a w → c.wr rl P (Exit.then (fun a' w' => ∃ s', some (Sum.inl s') = some o ∧ R s' a' w') Q) a w) : (Code.loop c).wr rl P Q a w := by
  obtain ⟨m, hm⟩ := GD.1 H
  refine Ly (fun m a w => ∃ s, Ie step m s = some e ∧ R s a w) m ⟨s0, hm, h0⟩ ?_
  rintro m a w ⟨s, hs, hR⟩
  cases m with
  | zero => cases hs
  | succ m =>
    obtain ⟨o, h1, h2⟩ := Ag hs
    refine Lb ?_ (round s o a w h1 (fun e' he => ?_) hR)
    · intro ex a' w' h
      cases ex <;> first | exact h | skip
      obtain ⟨s', h3, h4⟩ := h
      cases h3
      exact ⟨m, Nat.lt_succ_self m, s', h2, h4⟩
    · cases he; exact h2
def LR : Value → Nat | .slice (some a) _ _ => a.block | _ => 0
def LN : Value → Nat | .slice (some a) _ _ => a.off | _ => 0
def LC (v : Value) (lo hi : Int) (sz : Nat) : Value := match v with | .slice a _ c => .slice (if c = lo.toNat then a else a.map (·.add (lo.toNat * sz))) (hi.toNat - lo.toNat) (c - lo.toNat) | v => v
structure Et (P : Program) (t e : TypeId) (sz by_ : Nat) : Prop where
  desc : P.underlying t = some (.slice e)
  info : ∃ i z, P.info? e = some i ∧ i.zero = some z ∧ i.size = sz ∧ i.bytes = by_ ∧ z.cells.size = sz
  pos : 0 < sz
theorem Et.of {t e : TypeId} {sz by_ : Nat} (hd : P.underlying t = some (.slice e)) (hs : (P.info? e).map (·.size) = some sz) (hb : (P.info? e).map (·.bytes) = some by_) (hz : ((P.info? e).bind (·.zero)).map (·.cells.size) = some sz) (hp : 0 < sz) : Et P t e sz by_ := by
  refine ⟨hd, ?_, hp⟩
  cases hi : P.info? e with
  | none => rw [hi] at hs; simp at hs
  | some i =>
    rw [hi] at hs hb hz
    simp at hs hb hz
    obtain ⟨z, h1, h2⟩ := hz
    exact ⟨i, z, rfl, h1, hs, hb, h2⟩
theorem Et.sizeOf {t e : TypeId} {sz by_ : Nat} (E : Et P t e sz by_) (w : World) : (Go.sizeOf e).run P w = .ok sz w := by
  obtain ⟨inf, z, hi', hz, his, hib, hzs⟩ := E.info
  simp [Go.sizeOf, typeInfo, hi', his]
section
variable {α : Type} {r : Rp α} {l l2 l3 : List α} {v u : Value} {x : α} {i : Int} {t e by_ : Nat}
def RQ {α : Type} (B : Bs) (M : Dh) (Z : List It) (r : Rp α) (v : Value) (l : List α) : Prop := ∀ w, Stw B M Z w → Sl w any r v l
theorem Ea (k : Nat) (hZ : Z[k]? = some (B7 v r l)) : RQ B M Z r v l := fun _ hw => Sl.any (A := Fz B (BP M Z)) (hw.item hZ)
theorem Al (k : Nat) (hZ : Z[k]? = some (row v e r l)) : RQ B M Z r v l := fun _ hw => I0.sl (A := Fz B (BP M Z)) (e := e) (hw.item hZ) (fun _ _ => trivial) fun _ _ => trivial
theorem Sl.sub {w : World} {A : Nat → Prop} {lo hi : Int} (h : Sl w A r v l) (hs : Un l lo hi = some l2) : Sl w A r (LC v lo hi r.sz) l2 := by
  obtain ⟨h1, h2, h3, rfl⟩ := MZ hs
  rcases h with ⟨ad, cap, rfl, rfl⟩ | ⟨b, off, cap, xs, rfl, hc, hA, hb, hx, hr⟩
  · have : lo = 0 ∧ hi = 0 := by simp at h3; omega
    obtain ⟨rfl, rfl⟩ := this
    exact .inl ⟨_, _, rfl, by simp⟩
  · have hlen : ((l.take hi.toNat).drop lo.toNat).length = hi.toNat - lo.toNat := by simp; omega
    by_cases hq : cap = lo.toNat
    · have hz : ((l.take hi.toNat).drop lo.toNat) = [] := List.eq_nil_of_length_eq_zero (by omega)
      refine .inr ⟨b, off, cap - lo.toNat, [], ?_, by omega, hA, hb, fun j u hu => by simp at hu, by rw [hz]; rfl⟩
      simp [LC, hq, hlen, -List.length_drop, -List.length_take]
    · refine .inr ⟨b, off + lo.toNat * r.sz, cap - lo.toNat, _, ?_, by omega, hA, hb, fun j u hu => ?_, (hr.take hi.toNat).drop lo.toNat⟩
      · simp only [LC, if_neg hq, Option.map_some, hlen]
        unfold Addr.add
        split <;> simp_all
      · rw [List.getElem?_drop, List.getElem?_take] at hu
        split at hu
        · have := hx _ _ hu
          rw [Nat.add_assoc]; exact this
        · cases hu
theorem C2 {x : Operand} {ts : Array TypeId} (ht : P.underlying t = some (.slice e)) (hts : ts[0]? = some t) (hF : Fr n ds F a) (hx : DV F x = some v) (hR : RQ B M Z r v l) :
    Yx P B M Z a ⟨dst, .call ⟨.builtin .len, #[x], ts⟩, ty, pos, aft, g⟩ (.int .i64 (l.length : Int)) :=
  Dj fun w hw => by
    have hts' : ts.toList[0]? = some t := by simpa using hts
    rcases hR w hw with ⟨ad, cap, rfl, rfl⟩ | ⟨b, off, cap, xs, rfl, _⟩
    · simp [execOp, FS, invoke, builtin, Builtin.len_, hF.eval hx, hts, Go.underlying, ht, goInt]
    · simp [execOp, FS, invoke, builtin, Builtin.len_, hF.eval hx, hts, Go.underlying, ht, goInt]
theorem Aw {s iop : Operand} (E : Et P t e r.sz by_) (hF : Fr n ds F a) (hx : DV F s = some v) (hi : DV F iop = some (.int .i64 i)) (hR : RQ B M Z r v l) (hik : ix l i = some x) :
    Yx P B M Z a ⟨dst, .indexAddr t s iop, ty, pos, aft, g⟩ (.pointer (some ⟨LR v, LN v + i.toNat * r.sz, none⟩)) :=
  Dj fun w hw => by
    obtain ⟨h0, hk, _⟩ := KY hik
    have hsz := E.sizeOf (P := P) w
    rcases hR w hw with ⟨ad, cap, rfl, rfl⟩ | ⟨b, off, cap, xs, rfl, _⟩
    · simp at hk
    · have h1 : i < (l.length : Int) := by omega
      simp [execOp, Instr.indexAt, hF.eval hx, hF.eval hi, asIntOf, Go.underlying, E.desc, h0, h1, hsz, D2, LR, LN]
def Fj (r : Rp α) (enc : α → List Value) : Prop := ∀ {w A cs a}, r.rep w A cs a → cs = enc a
theorem TI (hR : Sl w any r v l) (hik : ix l i = some x) : ∃ cs, r.rep w any cs x ∧ ∀ j u, cs[j]? = some u → w.cell? ⟨LR v, LN v + i.toNat * r.sz + j, none⟩ = some u := by
  obtain ⟨h0, hk, hx⟩ := KY hik
  rcases hR with ⟨ad, cap, rfl, rfl⟩ | ⟨b, off, cap, xs, rfl, _, _, _, hc, hr⟩
  · simp at hk
  · obtain ⟨cs, h1, h2⟩ := hr.get hx
    exact ⟨cs, h1, fun j u hu => by have := hc _ _ (h2 j u hu); simp only [LR, LN]; rw [Nat.add_assoc]; exact this⟩
theorem An {p : Operand} {t : TypeId} {agg : Bool} {sz j off : Nat} {enc : α → List Value} {y : Value} (hF : Fr n ds F a) (hx : DV F p = some (.pointer (some ⟨LR v, off, none⟩))) (ho : off = LN v + i.toNat * r.sz + j) (hR : RQ B M Z r v l) (hik : ix l i = some x) (hfl : Fj r enc)
    (T : Ty P t agg sz) (hu : QJ agg sz (enc x) j = some y) : Yx P B M Z a ⟨dst, .load t p, ty, pos, aft, g⟩ y :=
  Dj fun w hw => by
    subst ho
    obtain ⟨cs, h1, h2⟩ := TI (hR w hw) hik
    rw [hfl h1] at h2
    have key : (loadVar t ⟨LR v, LN v + i.toNat * r.sz + j, none⟩).run P w = .ok y w := by
      unfold loadVar
      cases agg with
      | false =>
        simp only [QJ, Bool.false_eq_true, if_false] at hu
        simp [T.isAgg, h2 _ _ hu]
      | true =>
        simp only [QJ, if_true] at hu
        by_cases hle : j + sz ≤ (enc x).length
        · rw [if_pos hle] at hu
          simp only [Option.some.injEq] at hu
          subst hu
          have := run_loadCells_list (P := P) (w := w) ⟨LR v, LN v + i.toNat * r.sz + j, none⟩ (((enc x).drop j).take sz) (fun q u hq => by
            rw [D2]
            have hqm : q < sz := by have := (List.getElem?_eq_some_iff.1 hq).1; simp at this; omega
            rw [List.getElem?_take_of_lt hqm, List.getElem?_drop] at hq
            rw [Nat.add_assoc]; exact h2 _ _ hq)
          have hl : (((enc x).drop j).take sz).length = sz := by simp; omega
          rw [hl] at this
          simp [T.isAgg, T.sizeOf, this]
        · rw [if_neg hle] at hu; cases hu
    simp [execOp, hF.eval hx, Instr.loadAt, Instr.sureAddr, key]
structure At (B : Bs) (b off : Nat) (cs : List Value) : Prop where
  nx : b ∉ B.X
  lt : b < B.w0.heap.size
  cell : ∀ j u, cs[j]? = some u → B.w0.cell? ⟨b, off + j, none⟩ = some u
abbrev NX (X : List Nat) : Nat → Prop := fun b => b ∉ X
theorem At.now {b off : Nat} {cs : List Value} (h : At B b off cs) (hw : Stw B M Z w) {j : Nat} {u : Value} (hu : cs[j]? = some u) : w.cell? ⟨b, off + j, none⟩ = some u := by
  rw [PY (hw.frm.block b h.lt h.nx)]; exact h.cell j u hu
theorem Stw.nx (h : Stw B M Z w) (hs : Sl B.w0 B.Y r v l) : Sl B.w0 (NX B.X) r v l := hs.stab fun b hY _ => ⟨fun hx => h.disj b hx hY, rfl⟩
theorem Ah (h : Sl B.w0 (NX B.X) r v l) : RQ B M Z r v l := fun _ hw => h.stab fun b hb hlt => ⟨trivial, hw.frm.block b hlt hb⟩
theorem Sl.nx {w : World} {A : Nat → Prop} (h : Sl w A r v l) : Sl w (NX []) r v l := h.stab fun b _ _ => ⟨fun hm => (by cases hm), rfl⟩
end
end
end Go.Proofs.YtpckgggmgijiiaaGreatDoor
