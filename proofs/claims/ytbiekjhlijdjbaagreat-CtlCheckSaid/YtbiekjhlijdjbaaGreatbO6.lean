/- Slices: reading, rows of one's own, literals; partial results. Conditions: none. -/
import Derived.Test.YtbiekjhlijdjbaaGreatbO
import Derived.Deep.LoopGhost
set_option linter.unusedVariables false
set_option linter.unusedSimpArgs false
open Go Go.RowKit
namespace Go.Proofs.YtbiekjhlijdjbaaGreat
variable {rl : Option Nat}
theorem Ad {α β : Type} {o : Option α} {f : α → Option β} {r : β} (h : o.bind f = some r) : ∃ x,o = some x ∧ f x = some r := Option.bind_eq_some_iff.1 h
theorem BP {α : Type} {c : Prop} [Decidable c] {a b o : α} (hc : c) (h : (if c then a else b) = o) : a = o := by rwa [if_pos hc] at h
theorem BQ {α : Type} {c : Prop} [Decidable c] {a b o : α} (hc : ¬ c) (h : (if c then a else b) = o) : b = o := by rwa [if_neg hc] at h
def GU {α β : Type} (o : Option (α ⊕ β)) (k : α → Option β) : Option β := o.bind fun s => match s with | .inl t => k t | .inr e => some e
theorem KC {α β : Type} {o : Option (α ⊕ β)} {k : α → Option β} {r : β} (h : GU o k = some r) :
    ∃ s,o = some s ∧ (∀ t,some (Sum.inl t) = some s → k t = some r) ∧ (∀ e,some (Sum.inr e) = some s → some e = some r) := by
  obtain ⟨s,h1,h2⟩ := Ad h
  refine ⟨s,h1,fun t ht => ?_,fun e he => ?_⟩
  · cases ht; exact h2
  · cases he; exact h2
def ix {α : Type} (l : List α) (i : Int) : Option α := if 0 ≤ i then l[i.toNat]? else none
theorem F9 {α : Type} {l : List α} {i : Int} {x : α} (h : ix l i = some x) : 0 ≤ i ∧ i.toNat < l.length ∧ l[i.toNat]? = some x := by
  unfold ix at h
  split at h
  · exact ⟨‹_›,(List.getElem?_eq_some_iff.1 h).1,h⟩
  · cases h
def app {α : Type} (l m : List α) : Option (List α) := if l.length + m.length ≤ 1000000000 then some (l ++ m) else none
theorem ON {α : Type} {l m k : List α} (h : app l m = some k) : l.length + m.length ≤ 1000000000 ∧ k = l ++ m := by
  unfold app at h
  split at h
  · exact ⟨‹_›,(Option.some.inj h).symm⟩
  · cases h
def GF {α : Type} (l : List α) (lo hi : Int) : Option (List α) := if 0 ≤ lo ∧ lo ≤ hi ∧ hi ≤ l.length then some ((l.take hi.toNat).drop lo.toNat) else none
theorem Fo {α : Type} {l m : List α} {lo hi : Int} (h : GF l lo hi = some m) : 0 ≤ lo ∧ lo ≤ hi ∧ hi ≤ l.length ∧ m = (l.take hi.toNat).drop lo.toNat := by
  unfold GF at h
  split at h
  · rename_i hc; exact ⟨hc.1,hc.2.1,hc.2.2,(Option.some.inj h).symm⟩
  · cases h
def Ao {α : Type} (l : List α) (i : Int) (x : α) : List α := l.set i.toNat x
def mk {α : Type} (n : Int) (z : α) : Option (List α) := if 0 ≤ n ∧ n ≤ 1000000000 then some (List.replicate n.toNat z) else none
theorem Re {α : Type} {n : Int} {z : α} {l : List α} (h : mk n z = some l) : 0 ≤ n ∧ n ≤ 1000000000 ∧ l = List.replicate n.toNat z := by
  unfold mk at h
  split at h
  · rename_i hc; exact ⟨hc.1,hc.2,(Option.some.inj h).symm⟩
  · cases h
def D4 {σ ε : Type} (step : σ → Option (σ ⊕ ε)) : Nat → σ → Option ε
  | 0,_ => none
  | n + 1,s => (step s).bind fun o => match o with | .inl s' => D4 step n s' | .inr e => some e
theorem LJ {σ ε : Type} {step : σ → Option (σ ⊕ ε)} {e : ε} : ∀ {n : Nat} {s : σ},D4 step n s = some e → D4 step (n + 1) s = some e
  | 0,s,h => by cases h
  | n + 1,s,h => by
    obtain ⟨o,h1,h2⟩ := Ad h
    unfold D4
    rw [h1]
    cases o with
    | inl s' => exact LJ (n := n) (s := s') h2
    | inr e' => exact h2
theorem NW {σ ε : Type} {step : σ → Option (σ ⊕ ε)} {e : ε} {n m : Nat} {s : σ} (h : D4 step n s = some e) (hm : n ≤ m) : D4 step m s = some e := by
  induction hm with
  | refl => exact h
  | step _ ih => exact LJ ih
open Classical in
noncomputable def Am {σ ε : Type} (step : σ → Option (σ ⊕ ε)) (s : σ) : Option ε := if h : ∃ n e,D4 step n s = some e then some h.choose_spec.choose else none
theorem Cr {σ ε : Type} {step : σ → Option (σ ⊕ ε)} {s : σ} {e : ε} : Am step s = some e ↔ ∃ n,D4 step n s = some e := by
  unfold Am
  constructor
  · intro h
    split at h
    · rename_i hx
      exact ⟨hx.choose,by rw [← Option.some.inj h]; exact hx.choose_spec.choose_spec⟩
    · cases h
  · rintro ⟨n,h⟩
    have hx : ∃ n e,D4 step n s = some e := ⟨n,e,h⟩
    rw [dif_pos hx]
    have h1 := NW hx.choose_spec.choose_spec (Nat.le_max_left hx.choose n)
    have h2 := NW h (Nat.le_max_right hx.choose n)
    rw [h2] at h1
    exact h1.symm
theorem Gm {σ ε : Type} (step : σ → Option (σ ⊕ ε)) (s : σ) : Am step s = (step s).bind fun o => match o with | .inl s' => Am step s' | .inr e => some e := by
  have key : ∀ e,Am step s = some e ↔ ((step s).bind fun o => match o with | .inl s' => Am step s' | .inr e => some e) = some e := by
    intro e
    rw [Cr]
    constructor
    · rintro ⟨n,h⟩
      cases n with
      | zero => cases h
      | succ n =>
        obtain ⟨o,h1,h2⟩ := Ad h
        rw [h1]
        cases o with
        | inl s' => exact Cr.2 ⟨n,h2⟩
        | inr e' => exact h2
    · intro h
      obtain ⟨o,h1,h2⟩ := Ad h
      cases o with
      | inl s' =>
        obtain ⟨n,hn⟩ := Cr.1 h2
        exact ⟨n + 1,by unfold D4; rw [h1]; exact hn⟩
      | inr e' => exact ⟨1,by unfold D4; rw [h1]; exact h2⟩
  cases hl : Am step s with
  | some e => exact ((key e).1 hl).symm
  | none =>
    cases hr : ((step s).bind fun o => match o with | .inl s' => Am step s' | .inr e => some e) with
    | none => rfl
    | some e => rw [(key e).2 hr] at hl; cases hl
section
variable {P : Program} {B : Bs} {M M' : Bi} {Z Z' Z1 : List It} {n : Nat} {ds : List Deferred} {F F' : List (Nat × Value)} {a : Act} {w w' : World}
variable {ops : Array Oper} {Q : Exit → Act → World → Prop} {rest : List Oper} {o : Oper}
variable {dst : Option Tmp} {ty : TypeId} {pos : String} {aft : Array Edge} {g : Option (Nat × Bool)}
theorem Aj {x y : Code} (J : Act → World → Prop) (h : x.wr rl P (Exit.then J Q) a w) (k : ∀ a w,J a w → y.wr rl P Q a w) : (Code.seq x y).wr rl P Q a w := by
  refine Ug (KD ?_ h)
  intro e a' w' h'
  cases e <;> first | exact h' | exact k _ _ h'
theorem AD {σ ε : Type} {c : Code} {step : σ → Option (σ ⊕ ε)} {s0 : σ} {e : ε} (H : Am step s0 = some e) (R : σ → Act → World → Prop) (h0 : R s0 a w)
    (round : ∀ s o a w,step s = some o → (∀ e',some (Sum.inr e') = some o → some e' = some e) → R s a w → c.wr rl P (Exit.then (fun a' w' => ∃ s',some (Sum.inl s') = some o ∧ R s' a' w') Q) a w) : (Code.loop c).wr rl P Q a w := by
  obtain ⟨m,hm⟩ := Cr.1 H
  refine Io (fun m a w => ∃ s,D4 step m s = some e ∧ R s a w) m ⟨s0,hm,h0⟩ ?_
  rintro m a w ⟨s,hs,hR⟩
  cases m with
  | zero => cases hs
  | succ m =>
    obtain ⟨o,h1,h2⟩ := Ad hs
    refine KD ?_ (round s o a w h1 (fun e' he => ?_) hR)
    · intro ex a' w' h
      cases ex <;> first | exact h | skip
      obtain ⟨s',h3,h4⟩ := h
      cases h3
      exact ⟨m,Nat.lt_succ_self m,s',h2,h4⟩
    · cases he; exact h2
def GR : Value → Nat | .slice (some a) _ _ => a.block | _ => 0
def Dt : Value → Nat | .slice (some a) _ _ => a.off | _ => 0
def Ct (v : Value) (lo hi : Int) (sz : Nat) : Value := match v with | .slice a _ c => .slice (if c = lo.toNat then a else a.map (·.add (lo.toNat * sz))) (hi.toNat - lo.toNat) (c - lo.toNat) | v => v
structure Et (P : Program) (t e : TypeId) (sz by_ : Nat) : Prop where
  desc : P.underlying t = some (.slice e)
  info : ∃ i z,P.info? e = some i ∧ i.zero = some z ∧ i.size = sz ∧ i.bytes = by_ ∧ z.cells.size = sz
  pos : 0 < sz
theorem Et.of {t e : TypeId} {sz by_ : Nat} (hd : P.underlying t = some (.slice e)) (hs : (P.info? e).map (·.size) = some sz) (hb : (P.info? e).map (·.bytes) = some by_) (hz : ((P.info? e).bind (·.zero)).map (·.cells.size) = some sz) (hp : 0 < sz) : Et P t e sz by_ := by
  refine ⟨hd, ?_,hp⟩
  cases hi : P.info? e with
  | none => rw [hi] at hs; simp at hs
  | some i =>
    rw [hi] at hs hb hz
    simp at hs hb hz
    obtain ⟨z,h1,h2⟩ := hz
    exact ⟨i,z,rfl,h1,hs,hb,h2⟩
theorem Et.sizeOf {t e : TypeId} {sz by_ : Nat} (E : Et P t e sz by_) (w : World) : (Go.sizeOf e).run P w = .ok sz w := by
  obtain ⟨inf,z,hi',hz,his,hib,hzs⟩ := E.info
  simp [Go.sizeOf,typeInfo,hi',his]
section
variable {α : Type} {r : Rp α} {l l2 l3 : List α} {v u : Value} {x : α} {i : Int} {t e by_ : Nat}
def Mo {α : Type} (B : Bs) (M : Bi) (Z : List It) (r : Rp α) (v : Value) (l : List α) : Prop := ∀ w,Stw B M Z w → Sl w any r v l
theorem Kv (k : Nat) (hZ : Z[k]? = some (KB v r l)) : Mo B M Z r v l := fun _ hw => Sl.any (A := Fz B (AA M Z)) (hw.item hZ)
theorem Ae (k : Nat) (hZ : Z[k]? = some (row v e r l)) : Mo B M Z r v l := fun _ hw => DZ.sl (A := Fz B (AA M Z)) (e := e) (hw.item hZ) (fun _ _ => trivial) fun _ _ => trivial
theorem Kt : Mo B M Z r (.slice none 0 0) ([] : List α) := fun _ _ => .nil
theorem Sl.sub {w : World} {A : Nat → Prop} {lo hi : Int} (h : Sl w A r v l) (hs : GF l lo hi = some l2) : Sl w A r (Ct v lo hi r.sz) l2 := by
  obtain ⟨h1,h2,h3,rfl⟩ := Fo hs
  rcases h with ⟨ad,cap,rfl,rfl⟩ | ⟨b,off,cap,xs,rfl,hc,hA,hb,hx,hr⟩
  · have : lo = 0 ∧ hi = 0 := by simp at h3; omega
    obtain ⟨rfl,rfl⟩ := this
    exact .inl ⟨_,_,rfl,by simp⟩
  · have hlen : ((l.take hi.toNat).drop lo.toNat).length = hi.toNat - lo.toNat := by simp; omega
    by_cases hq : cap = lo.toNat
    · have hz : ((l.take hi.toNat).drop lo.toNat) = [] := List.eq_nil_of_length_eq_zero (by omega)
      refine .inr ⟨b,off,cap - lo.toNat,[], ?_,by omega,hA,hb,fun j u hu => by simp at hu,by rw [hz]; rfl⟩
      simp [Ct,hq,hlen, -List.length_drop, -List.length_take]
    · refine .inr ⟨b,off + lo.toNat * r.sz,cap - lo.toNat,_, ?_,by omega,hA,hb,fun j u hu => ?_,(hr.take hi.toNat).drop lo.toNat⟩
      · simp only [Ct,if_neg hq,Option.map_some,hlen]
        unfold Addr.add
        split <;> simp_all
      · rw [List.getElem?_drop,List.getElem?_take] at hu
        split at hu
        · have := hx _ _ hu
          rw [Nat.add_assoc]; exact this
        · cases hu
theorem AK {x : Operand} {ts : Array TypeId} (ht : P.underlying t = some (.slice e)) (hts : ts[0]? = some t) (hF : Fr n ds F a) (hx : Bo F x = some v) (hR : Mo B M Z r v l) :
    Yx P B M Z a ⟨dst,.call ⟨.builtin .len, #[x],ts⟩,ty,pos,aft,g⟩ (.int .i64 (l.length : Int)) :=
  AZ fun w hw => by
    have hts' : ts.toList[0]? = some t := by simpa using hts
    rcases hR w hw with ⟨ad,cap,rfl,rfl⟩ | ⟨b,off,cap,xs,rfl,_⟩
    · simp [execOp,Ax,invoke,builtin,Builtin.len_,hF.eval hx,hts,Go.underlying,ht,goInt]
    · simp [execOp,Ax,invoke,builtin,Builtin.len_,hF.eval hx,hts,Go.underlying,ht,goInt]
theorem Ai {s iop : Operand} (E : Et P t e r.sz by_) (hF : Fr n ds F a) (hx : Bo F s = some v) (hi : Bo F iop = some (.int .i64 i)) (hR : Mo B M Z r v l) (hik : ix l i = some x) :
    Yx P B M Z a ⟨dst,.indexAddr t s iop,ty,pos,aft,g⟩ (.pointer (some ⟨GR v,Dt v + i.toNat * r.sz,none⟩)) :=
  AZ fun w hw => by
    obtain ⟨h0,hk,_⟩ := F9 hik
    have hsz := E.sizeOf (P := P) w
    rcases hR w hw with ⟨ad,cap,rfl,rfl⟩ | ⟨b,off,cap,xs,rfl,_⟩
    · simp at hk
    · have h1 : i < (l.length : Int) := by omega
      simp [execOp,Instr.indexAt,hF.eval hx,hF.eval hi,asIntOf,Go.underlying,E.desc,h0,h1,hsz,Bg,GR,Dt]
def Dr (r : Rp α) (enc : α → List Value) : Prop := ∀ {w A cs a},r.rep w A cs a → cs = enc a
theorem TE (hR : Sl w any r v l) (hik : ix l i = some x) : ∃ cs,r.rep w any cs x ∧ ∀ j u,cs[j]? = some u → w.cell? ⟨GR v,Dt v + i.toNat * r.sz + j,none⟩ = some u := by
  obtain ⟨h0,hk,hx⟩ := F9 hik
  rcases hR with ⟨ad,cap,rfl,rfl⟩ | ⟨b,off,cap,xs,rfl,_,_,_,hc,hr⟩
  · simp at hk
  · obtain ⟨cs,h1,h2⟩ := hr.get hx
    exact ⟨cs,h1,fun j u hu => by have := hc _ _ (h2 j u hu); simp only [GR,Dt]; rw [Nat.add_assoc]; exact this⟩
theorem Af {p : Operand} {t : TypeId} {agg : Bool} {sz j off : Nat} {enc : α → List Value} {y : Value} (hF : Fr n ds F a) (hx : Bo F p = some (.pointer (some ⟨GR v,off,none⟩))) (ho : off = Dt v + i.toNat * r.sz + j) (hR : Mo B M Z r v l) (hik : ix l i = some x) (hfl : Dr r enc)
    (T : Ty P t agg sz) (hu : Jx agg sz (enc x) j = some y) : Yx P B M Z a ⟨dst,.load t p,ty,pos,aft,g⟩ y :=
  AZ fun w hw => by
    subst ho
    obtain ⟨cs,h1,h2⟩ := TE (hR w hw) hik
    rw [hfl h1] at h2
    have key : (loadVar t ⟨GR v,Dt v + i.toNat * r.sz + j,none⟩).run P w = .ok y w := by
      unfold loadVar
      cases agg with
      | false =>
        simp only [Jx,Bool.false_eq_true,if_false] at hu
        simp [T.isAgg,h2 _ _ hu]
      | true =>
        simp only [Jx,if_true] at hu
        by_cases hle : j + sz ≤ (enc x).length
        · rw [if_pos hle] at hu
          simp only [Option.some.injEq] at hu
          subst hu
          have := run_loadCells_list (P := P) (w := w) ⟨GR v,Dt v + i.toNat * r.sz + j,none⟩ (((enc x).drop j).take sz) (fun q u hq => by
            rw [Bg]
            have hqm : q < sz := by have := (List.getElem?_eq_some_iff.1 hq).1; simp at this; omega
            rw [List.getElem?_take_of_lt hqm,List.getElem?_drop] at hq
            rw [Nat.add_assoc]; exact h2 _ _ hq)
          have hl : (((enc x).drop j).take sz).length = sz := by simp; omega
          rw [hl] at this
          simp [T.isAgg,T.sizeOf,this]
        · rw [if_neg hle] at hu; cases hu
    simp [execOp,hF.eval hx,Instr.loadAt,Instr.sureAddr,key]
structure At (B : Bs) (b off : Nat) (cs : List Value) : Prop where
  nx : b ∉ B.X
  lt : b < B.w0.heap.size
  cell : ∀ j u,cs[j]? = some u → B.w0.cell? ⟨b,off + j,none⟩ = some u
abbrev NX (X : List Nat) : Nat → Prop := fun b => b ∉ X
theorem Sl.el (h : Sl B.w0 (NX B.X) r v l) (hik : ix l i = some x) : ∃ cs,At B (GR v) (Dt v + i.toNat * r.sz) cs ∧ r.rep B.w0 (NX B.X) cs x := by
  obtain ⟨h0,hk,hx⟩ := F9 hik
  rcases h with ⟨ad,cap,rfl,rfl⟩ | ⟨b,off,cap,xs,rfl,_,hA,hb,hc,hr⟩
  · simp at hk
  · obtain ⟨cs,h1,h2⟩ := hr.get hx
    exact ⟨cs,⟨hA,hb,fun j u hu => by have := hc _ _ (h2 j u hu); simp only [Dt]; rw [Nat.add_assoc]; exact this⟩,h1⟩
theorem At.now {b off : Nat} {cs : List Value} (h : At B b off cs) (hw : Stw B M Z w) {j : Nat} {u : Value} (hu : cs[j]? = some u) : w.cell? ⟨b,off + j,none⟩ = some u := by
  rw [MI (hw.frm.block b h.lt h.nx)]; exact h.cell j u hu
theorem Stw.nx (h : Stw B M Z w) (hs : Sl B.w0 B.Y r v l) : Sl B.w0 (NX B.X) r v l := hs.stab fun b hY _ => ⟨fun hx => h.disj b hx hY,rfl⟩
theorem Ab (h : Sl B.w0 (NX B.X) r v l) : Mo B M Z r v l := fun _ hw => h.stab fun b hb hlt => ⟨trivial,hw.frm.block b hlt hb⟩
theorem Sl.nx {w : World} {A : Nat → Prop} (h : Sl w A r v l) : Sl w (NX []) r v l := h.stab fun b _ _ => ⟨fun hm => (by cases hm),rfl⟩
theorem MD {p : Operand} {t : TypeId} {agg : Bool} {sz b off j o' : Nat} {cs : List Value} {y : Value} (hF : Fr n ds F a) (hx : Bo F p = some (.pointer (some ⟨b,o',none⟩))) (ho : o' = off + j) (hA : At B b off cs)
    (T : Ty P t agg sz) (hu : Jx agg sz cs j = some y) : Yx P B M Z a ⟨dst,.load t p,ty,pos,aft,g⟩ y :=
  AZ fun w hw => by
    subst ho
    have key : (loadVar t ⟨b,off + j,none⟩).run P w = .ok y w := by
      unfold loadVar
      cases agg with
      | false =>
        simp only [Jx,Bool.false_eq_true,if_false] at hu
        simp [T.isAgg,hA.now hw hu]
      | true =>
        simp only [Jx,if_true] at hu
        by_cases hle : j + sz ≤ cs.length
        · rw [if_pos hle] at hu
          simp only [Option.some.injEq] at hu
          subst hu
          have := run_loadCells_list (P := P) (w := w) ⟨b,off + j,none⟩ ((cs.drop j).take sz) (fun q u hq => by
            rw [Bg]
            have hqm : q < sz := by have := (List.getElem?_eq_some_iff.1 hq).1; simp at this; omega
            rw [List.getElem?_take_of_lt hqm,List.getElem?_drop] at hq
            rw [Nat.add_assoc]; exact hA.now hw hq)
          have hl : ((cs.drop j).take sz).length = sz := by simp; omega
          rw [hl] at this
          simp [T.isAgg,T.sizeOf,this]
        · rw [if_neg hle] at hu; cases hu
    simp [execOp,hF.eval hx,Instr.loadAt,Instr.sureAddr,key]
theorem GH {s : Operand} {lop hop : Option Operand} {lo hi : Int} (E : Et P t e r.sz by_) (hF : Fr n ds F a) (hx : Bo F s = some v) (hl : (match lop with | none => lo = 0 | some q => Bo F q = some (.int .i64 lo))) (hh : (match hop with | none => hi = l.length | some q => Bo F q = some (.int .i64 hi))) (hR : Mo B M Z r v l) (hs : GF l lo hi = some l2) :
    Yx P B M Z a ⟨dst,.slice t s lop hop none,ty,pos,aft,g⟩ (Ct v lo hi r.sz) :=
  AZ fun w hw => by
    obtain ⟨h1,h2,h3,_⟩ := Fo hs
    have hsz := E.sizeOf (P := P) w
    have hb : ∀ (y : Nat) (code : BoundsCode) (q : Int),0 ≤ q → q ≤ y → (Instr.sliceBound (.int .i64 q) y code).run P w = .ok q.toNat w := fun y code q h0 h4 => by
      simp [Instr.sliceBound,asIntOf,h0,h4]
    have hxe := hF.eval hx
    rcases hR w hw with ⟨ad,cap,rfl,rfl⟩ | ⟨b,off,cap,xs,rfl,hc,_⟩
    · have : lo = 0 ∧ hi = 0 := by simp at h3; omega
      obtain ⟨rfl,rfl⟩ := this
      cases lop <;> cases hop <;> simp at hl hh <;> (try have hle := hF.eval hl) <;> (try have hhe := hF.eval hh) <;>
        simp [execOp,Instr.sliceAt,Instr.slice,Instr.sliceBounds,Instr.sliceBound,asIntOf,Go.underlying,E.desc,hxe,hsz,Ct, *]
    · have k1 : ∀ code,(Instr.sliceBound (.int .i64 hi) cap code).run P w = .ok hi.toNat w := fun code => hb cap code hi (by omega) (by omega)
      have k2 : ∀ code,(Instr.sliceBound (.int .i64 lo) hi.toNat code).run P w = .ok lo.toNat w := fun code => hb _ code lo h1 (by omega)
      have e0 : ∀ (z : Addr),(if cap = lo.toNat then some z else some (z.add (lo.toNat * r.sz))) = (if cap = lo.toNat then some z else (some z).map (·.add (lo.toNat * r.sz))) := fun z => rfl
      cases lop with
      | none =>
        simp only at hl
        subst hl
        cases hop with
        | none =>
          simp only at hh
          subst hh
          simp [execOp,Instr.sliceAt,Instr.slice,Instr.sliceBounds,Go.underlying,E.desc,hxe,hsz,Ct]
        | some q =>
          have hhe := hF.eval hh
          simp [execOp,Instr.sliceAt,Instr.slice,Instr.sliceBounds,Go.underlying,E.desc,hxe,hhe,hsz,Ct,k1]
      | some p =>
        have hle := hF.eval hl
        cases hop with
        | none =>
          simp only at hh
          subst hh
          have k3 : ∀ code,(Instr.sliceBound (.int .i64 lo) l.length code).run P w = .ok lo.toNat w := fun code => hb _ code lo h1 (by omega)
          simp [execOp,Instr.sliceAt,Instr.slice,Instr.sliceBounds,Go.underlying,E.desc,hxe,hle,hsz,Ct,k3]
        | some q =>
          have hhe := hF.eval hh
          simp [execOp,Instr.sliceAt,Instr.slice,Instr.sliceBounds,Go.underlying,E.desc,hxe,hle,hhe,hsz,Ct,k1,k2]
end
end
end Go.Proofs.YtbiekjhlijdjbaaGreat
namespace Go.Proofs.YtbiekjhlijdjbaaGreat
section
variable {P : Program} {B : Bs} {M M' : Bi} {Z Z' Z1 : List It} {n : Nat} {ds : List Deferred} {F F' : List (Nat × Value)} {a : Act} {w w' : World}
variable {ops : Array Oper} {Q : Exit → Act → World → Prop} {rest : List Oper} {o : Oper}
variable {dst : Option Tmp} {ty : TypeId} {pos : String} {aft : Array Edge} {g : Option (Nat × Bool)}
variable {α : Type} {r : Rp α} {l l2 l3 : List α} {v u : Value} {x : α} {i : Int} {t e by_ : Nat}
def Mg (w : World) (A : Nat → Prop) (r : Rp α) (u : Value) (l : List α) : Prop :=
  (∃ ad cap,u = .slice ad 0 cap ∧ l = []) ∨ ∃ b off cap xs,u = .slice (some ⟨b,off,none⟩) l.length cap ∧ l.length ≤ cap ∧ (∀ j y,xs[j]? = some y → w.cell? ⟨b,off + j,none⟩ = some y) ∧ A8 r w A xs l
theorem Sl.src {A : Nat → Prop} (h : Sl w A r u l) : Mg w A r u l := by
  rcases h with h | ⟨b,off,cap,xs,h1,hc,_,_,h2,h3⟩
  · exact .inl h
  · exact .inr ⟨b,off,cap,xs,h1,hc,h2,h3⟩
theorem DZ.src {A : Nat → Prop} (h : DZ w A e r v l) : Mg w A r v l := by
  rcases h with ⟨ad,h⟩ | ⟨b,off,cap,cur,xs,rfl,hp,hb,h1,h2,h3,h4,h5⟩
  · exact .inl ⟨ad,0,h.1,h.2⟩
  · refine .inr ⟨b,off,cap,xs,rfl,h1,fun j u hu => ?_,h5⟩
    rw [cell_of_row w b (off + j) cur e (0,0) hb]
    rw [← h4,List.getElem?_take] at hu
    split at hu
    · simpa [List.getElem?_drop] using hu
    · cases hu
theorem BU (h : Stw B M Z w) (k : Nat) (hZ : Z[k]? = some (row v e r l)) : Mg w (Fz B (AA M Z)) r v l := DZ.src (e := e) (h.item hZ)
theorem Q3 (h : Stw B M Z w) (hs : Sl B.w0 B.Y r v l) : Mg w (Fz B (AA M Z)) r v l := (h.old hs).src
theorem Mg.sub {A : Nat → Prop} {lo hi : Int} (h : Mg w A r v l) (hs : GF l lo hi = some l2) : Mg w A r (Ct v lo hi r.sz) l2 := by
  obtain ⟨h1,h2,h3,rfl⟩ := Fo hs
  rcases h with ⟨ad,cap,rfl,rfl⟩ | ⟨b,off,cap,xs,rfl,hc,hx,hr⟩
  · have : lo = 0 ∧ hi = 0 := by simp at h3; omega
    obtain ⟨rfl,rfl⟩ := this
    exact .inl ⟨_,_,rfl,by simp⟩
  · have hlen : ((l.take hi.toNat).drop lo.toNat).length = hi.toNat - lo.toNat := by simp; omega
    by_cases hq : cap = lo.toNat
    · have hz : ((l.take hi.toNat).drop lo.toNat) = [] := List.eq_nil_of_length_eq_zero (by omega)
      refine .inr ⟨b,off,cap - lo.toNat,[], ?_,by omega,fun j u hu => by simp at hu,by rw [hz]; rfl⟩
      simp [Ct,hq,hlen, -List.length_drop, -List.length_take]
    · refine .inr ⟨b,off + lo.toNat * r.sz,cap - lo.toNat,_, ?_,by omega,fun j u hu => ?_,(hr.take hi.toNat).drop lo.toNat⟩
      · simp only [Ct,if_neg hq,Option.map_some,hlen]
        unfold Addr.add
        split <;> simp_all
      · rw [List.getElem?_drop,List.getElem?_take] at hu
        split at hu
        · have := hx _ _ hu
          rw [Nat.add_assoc]; exact this
        · cases hu
theorem Stw.emptyRow (h : Stw B M Z w) (ad : Option Addr) (e : TypeId) (r : Rp α) : Stw B M (row (.slice ad 0 0) e r ([] : List α) :: Z) w := by
  have hbl : AA M (row (.slice ad 0 0) e r ([] : List α) :: Z) = AA M Z := by unfold AA; simp [row,JJ]
  refine ⟨h.frm,by rw [hbl]; exact h.own,h.at_,fun z hz => ?_,by rw [hbl]; exact h.nodup,h.disj⟩
  rw [hbl]
  rcases List.mem_cons.1 hz with rfl | hz
  · exact .inl ⟨ad,rfl,rfl⟩
  · exact h.items z hz
theorem Stw.nilRow (h : Stw B M Z w) (e : TypeId) (r : Rp α) : Stw B M (row (.slice none 0 0) e r ([] : List α) :: Z) w := h.emptyRow none e r
theorem Stw.allocRow (h : Stw B M Z w) (cs : List Value) (e : TypeId) {m : Nat} (hm : m ≤ maxLen) (hc : m * r.sz ≤ cs.length) (hl : l.length ≤ m) (hr : A8 r w (Fz B (AA M Z)) (cs.take (l.length * r.sz)) l) :
    Stw B M (row (.slice (some ⟨w.heap.size,0,none⟩) l.length m) e r l :: Z) (w.alloc (.cells cs.toArray e)) := by
  have hb : Below w.heap.size w (w.alloc (.cells cs.toArray e)) := (Below.refl _ _).alloc (Nat.le_refl _) _
  have h' := h.below hb
  by_cases hm0 : m = 0
  · subst hm0
    obtain rfl : l = [] := List.eq_nil_of_length_eq_zero (by omega)
    exact h'.emptyRow _ e r
  have hm1 : 0 < m := by omega
  have hbl : ∀ g,g ∈ AA M (row (.slice (some ⟨w.heap.size,0,none⟩) l.length m) e r l :: Z) ↔ g = w.heap.size ∨ g ∈ AA M Z := by
    intro g; unfold AA; simp [row,OP hm1]
    constructor
    · rintro (h | rfl | h) <;> simp_all
    · rintro (rfl | h | h) <;> simp_all
  have hk : E5 w (w.alloc (.cells cs.toArray e)) (Fz B (AA M Z)) (Fz B (AA M (row (.slice (some ⟨w.heap.size,0,none⟩) l.length m) e r l :: Z))) := fun b hA hlt =>
    ⟨⟨hA.1,fun hm => by
      rcases (hbl b).1 hm with rfl | hm
      · exact Nat.lt_irrefl _ hlt
      · exact hA.2 hm⟩,hb.block b hlt⟩
  refine ⟨h'.frm,fun g hg => ?_,h'.at_,fun z hz => ?_, ?_,h.disj⟩
  · rcases (hbl g).1 hg with rfl | hg
    · exact .inr h.frm.size
    · exact h.own g hg
  · rcases List.mem_cons.1 hz with rfl | hz
    · exact .inr ⟨w.heap.size,0,m,cs.toArray,_,rfl,hm1,by show (w.heap.push _)[w.heap.size]? = _; simp,hl,hm,by simpa using hc,by simp,hr.stab hk⟩
    · exact z.stab (h.items z hz) hk fun g hg => hb.block g (h.lt_all (BT hz hg))
  · have hp : (AA M (row (.slice (some ⟨w.heap.size,0,none⟩) l.length m) e r l :: Z)).Perm (w.heap.size :: AA M Z) := by
      unfold AA
      rw [List.flatMap_cons,show (row (.slice (some ⟨w.heap.size,0,none⟩) l.length m) e r l).bl = [w.heap.size] from OP hm1]
      exact List.perm_middle
    rw [hp.nodup_iff,List.nodup_cons]
    exact ⟨fun hm => Nat.lt_irrefl _ (h.lt_all hm),h.nodup⟩
theorem Ok (A : Array Value) (i : Nat) : A[i]! = A.toList[i]! := by
  cases A; simp
theorem CK {d m sz : Nat} {z : Value} {cs : List Value} {parts : List (Nat × Operand)} {vp : List (Nat × Value)} (r : Rp α) (l : List α) (hF : Fr n ds F a) (hW : Stw B M Z w) (hn : Nat.blt d n = true) (E : Et P t e sz by_) (hz : (P.info? e).bind (·.zero) = some z)
    (hm : Nat.ble (m * sz) 16777216 = true) (hx : U6 F parts = some vp) (hzc : z.cells.toList.length = sz) (hf : Gn (fun i => some (i * sz,sz)) ((List.range (m * sz)).map fun i => (z.cells.toList)[i % sz]!) vp = some cs)
    (hsz : r.sz = sz) (hlen : l.length = m) (hr : A8 r w (Fz B (AA M Z)) cs l)
    (k : ∀ v a' w',Fr n ds ((d,v) :: F) a' → Stw B M (row v e r l :: Z) w' → wpList P ops Q rest a' w') :
    wpList P ops Q (⟨some d,.buildSlice t m parts.toArray,ty,pos,aft,none⟩ :: rest) a w := by
  subst hsz
  have hcl : cs.length = l.length * r.sz := hr.len
  have hmm : m ≤ 16777216 := by
    have h1 := ze hm
    have h2 := E.pos
    exact Nat.le_trans (Nat.le_mul_of_pos_right m h2) h1
  refine Ja hF hn (v := .slice (some ⟨w.heap.size,0,none⟩) m m) (w' := w.alloc (.cells cs.toArray e)) ?_ (fun a' h => k _ a' _ h (by
    have := hW.allocRow cs e (m := m) (l := l) (r := r) (by unfold maxLen; omega) (by rw [hcl,hlen]; exact Nat.le_refl _) (by omega) (by rw [← hcl,List.take_length]; exact hr)
    rw [hlen] at this; exact this))
  have hfill := FB hf
  have he : (parts.toArray.map fun (i,x) => (i,a.eval x)) = vp.toArray := by rw [← hF.evalp hx]; simp
  obtain ⟨i,z',hi,hz',his,hib,hzs⟩ := E.info
  have hsz : (sizeOf e).run P w = .ok r.sz w := by simp [sizeOf,typeInfo,hi,his]
  have hle : ¬ (m * r.sz > 2 ^ 24) := by have := ze hm; omega
  have hzz : z' = z := by rw [hi] at hz; simp only [za] at hz; rw [hz'] at hz; exact Option.some.inj hz
  subst hzz
  by_cases h0 : m * r.sz = 0
  · have harr : ((Array.range (m * r.sz)).map fun x => (#[] : Array Value)[x % (#[] : Array Value).size]!) = ((List.range (m * r.sz)).map fun i => (z'.cells.toList)[i % r.sz]!).toArray := by
      rw [h0]; simp
    simp only [execOp,Instr.buildSlice,he,Sem.run_bind,run_underlying E.desc,Result.andThen_ok,hsz,if_neg hle,if_pos h0,Sem.run_pure,Sem.run_ite]
    simp only [harr,hfill,Sem.run_bind,newRow,run_newObj,Result.andThen_ok,Sem.run_pure]
    rfl
  · have harr : ((Array.range (m * r.sz)).map fun x => z'.cells[x % z'.cells.size]!) = ((List.range (m * r.sz)).map fun i => (z'.cells.toList)[i % r.sz]!).toArray := by
      rw [hzs, ← Array.toList_inj]
      simp only [Array.toList_map,Array.toList_range]
      refine List.map_congr_left fun i _ => ?_
      exact Ok _ _
    simp only [execOp,Instr.buildSlice,he,Sem.run_bind,run_underlying E.desc,Result.andThen_ok,hsz,if_neg hle,if_neg h0,Sem.run_pure,Sem.run_ite,HA hz]
    simp only [harr,hfill,Sem.run_bind,newRow,run_newObj,Result.andThen_ok,Sem.run_pure]
    rfl
theorem A8.rep {A : Nat → Prop} {x : α} {cs : List Value} (h : r.rep w A cs x) : ∀ k : Nat,A8 r w A ((List.replicate k cs).flatten) (List.replicate k x)
  | 0 => by simp [A8]
  | k + 1 => by
    rw [List.replicate_succ,List.replicate_succ,List.flatten_cons]
    exact ⟨cs,_,rfl,h,A8.rep h k⟩
theorem Ka {t e ty : TypeId} {by_ : Nat} {A : Nat → Prop} (E : Et P t e r.sz by_) (hown : DZ w A e r v l) (hsrc : Mg w A r u l2) (hmax : l.length + l2.length ≤ 140737488355328) (hbyb : (l.length + l2.length) * by_ ≤ 140737488355328) :
    ∃ v' w',(Builtin.append_ #[t,t] ty #[v,u]).run P w = .ok v' w' ∧ w.grownBy w' (ES v) ∧ (∀ g,ES v' = some g → ES v = some g ∨ w.heap.size ≤ g) ∧
      (∀ A',E5 w w' A A' → DZ w' A' e r v' (l ++ l2)) := by
  obtain ⟨i,z,hi,hz,his,hib,hzs⟩ := E.info
  subst hib
  have hgrow : ∀ (xs news : List Value) (old : Nat),xs.length = l.length * r.sz → news.length = l2.length * r.sz → A8 r w A xs l → A8 r w A news l2 → ∀ A',
      E5 w (w.drew.alloc (.cells (xs.toArray ++ news.toArray ++ Builtin.zeroCells z.cells (grownCap w (l.length + l2.length) old e - (l.length + l2.length))) e)) A A' →
      DZ (w.drew.alloc (.cells (xs.toArray ++ news.toArray ++ Builtin.zeroCells z.cells (grownCap w (l.length + l2.length) old e - (l.length + l2.length))) e)) A' e r (.slice (some ⟨w.heap.size,0,none⟩) (l.length + l2.length) (grownCap w (l.length + l2.length) old e)) (l ++ l2) := by
    intro xs news old hx hn hr1 hr2 A' hk
    have h2 := grownCap_ge w (l.length + l2.length) old e
    have hxn : (xs ++ news).length = (l ++ l2).length * r.sz := by rw [List.length_append,hx,hn,List.length_append,Nat.add_mul]
    by_cases hz0 : grownCap w (l.length + l2.length) old e = 0
    · have e1 : l = [] := List.eq_nil_of_length_eq_zero (by omega)
      have e2 : l2 = [] := List.eq_nil_of_length_eq_zero (by omega)
      subst e1 e2
      rw [hz0]
      exact .inl ⟨_,rfl,rfl⟩
    refine .inr ⟨w.heap.size,0,_,_,xs ++ news,by rw [List.length_append],by omega,heap_alloc_new w.drew _,by rw [List.length_append]; exact h2,grownCap_le_maxLen _ _ _ _ (by unfold maxLen; omega), ?_, ?_,(hr1.append hr2).stab hk⟩
    · simp only [Array.size_append,List.size_toArray,size_zeroCells,hzs,hx,hn, ← Nat.add_mul,Nat.zero_add]
      exact Nat.le_of_eq (by congr 1; omega)
    · simp only [Array.toList_append,List.append_assoc,List.drop_zero]
      rw [← List.append_assoc, ← hxn]
      exact List.take_left
  have hgb : ∀ cs row,w.grownBy (w.drew.alloc (.cells cs e)) row := fun cs row => ⟨rfl,rfl,rfl,by simp,fun j hj _ => Below.heap_alloc w.drew _ j hj⟩
  have hsame : w.grownBy w (ES v) := ⟨rfl,rfl,rfl,Nat.le_refl _,fun _ _ _ => rfl⟩
  rcases hown with ⟨ad,rfl,rfl⟩ | ⟨g,off,cap,cur,xs,rfl,hcp,hg,hlc,hcm,hcs,htake,hr1⟩
  · rcases hsrc with ⟨ad2,c2,rfl,rfl⟩ | ⟨b,o2,c2,news,rfl,hc2,hcell,hr2⟩
    · refine ⟨.slice ad 0 0,w, ?_,hsame,by simp [DK],fun A' _ => .inl ⟨ad,rfl,rfl⟩⟩
      cases ad <;> cases ad2 <;> simp [Builtin.append_,run_underlying E.desc,sizeOf,typeInfo,hi,Builtin.lenOf,Builtin.firstCells,loadCells,loadCellsFrom,storeCells]
    · rcases Nat.eq_zero_or_pos l2.length with h0 | hm
      · have hl2 : l2 = [] := List.eq_nil_of_length_eq_zero h0
        subst hl2
        refine ⟨.slice ad 0 0,w, ?_,hsame,by simp [DK],fun A' _ => .inl ⟨ad,rfl,rfl⟩⟩
        cases ad <;> simp [Builtin.append_,run_underlying E.desc,sizeOf,typeInfo,hi,Builtin.lenOf,Builtin.firstCells,loadCells,loadCellsFrom,storeCells]
      · have hnl := hr2.len
        cases ad with
        | some ad =>
          have hf := hgrow [] news 0 (by simp) hnl rfl hr2
          have hr := run_append_grow (P := P) w t ty e i z E.desc hi hz ad 0 0 [] (by simp) (by simp) ⟨b,o2,none⟩ l2.length c2 news (by rw [his]; exact hnl) (fun j u hu => by rw [Bg]; exact hcell j u hu) (by omega) (by simp at hmax; omega) (growslice_fits (by simp at hmax; omega) (by have := hbyb; simp only [List.length_nil] at this; exact this))
          simp only [List.length_nil,Nat.zero_add,List.nil_append] at hf hr ⊢
          exact ⟨_,_,hr,hgb _ _,fun g hg => .inr (by
            by_cases hc : grownCap w l2.length 0 e = 0
            · rw [hc,DK] at hg; cases hg
            · rw [CL (by omega)] at hg; cases hg; exact Nat.le_refl _),hf⟩
        | none =>
        have hr := run_append_nil (P := P) w t ty e i z E.desc hi hz ⟨b,o2,none⟩ l2.length c2 news (by rw [his]; exact hnl) (fun j u hu => by rw [Bg]; exact hcell j u hu) hm (by simp at hmax; omega) (by have := hbyb; simp only [List.length_nil,Nat.zero_add] at this; omega)
        have hf := hgrow [] news 0 (by simp) hnl rfl hr2
        simp only [List.length_nil,Nat.zero_add,List.nil_append,Array.empty_append] at hf ⊢
        exact ⟨_,_,hr,hgb _ _,fun g hg => .inr (by
          by_cases hc : grownCap w l2.length 0 e = 0
          · rw [hc,DK] at hg; cases hg
          · rw [CL (by omega)] at hg; cases hg; exact Nat.le_refl _),hf⟩
  · have hxl := hr1.len
    have hcells : ∀ j u,xs[j]? = some u → w.cell? ((⟨g,off,none⟩ : Addr).add j) = some u := fun j u hu => by
      rw [Bg,cell_of_row w g (off + j) cur e (0,0) hg]
      rw [← htake,List.getElem?_take] at hu
      split at hu
      · simpa [List.getElem?_drop] using hu
      · cases hu
    rcases hsrc with ⟨ad2,c2,rfl,rfl⟩ | ⟨b,o2,c2,news,rfl,hc2,hcell,hr2⟩
    · refine ⟨.slice (some ⟨g,off,none⟩) l.length cap,w, ?_,hsame,fun g' h => .inl h,fun A' hk => ?_⟩
      · cases ad2 <;> simp [Builtin.append_,run_underlying E.desc,sizeOf,typeInfo,hi,Builtin.lenOf,Builtin.firstCells,hlc,storeCells,loadCells,loadCellsFrom]
      · rw [List.append_nil]; exact .inr ⟨g,off,cap,cur,xs,rfl,hcp,hg,hlc,hcm,hcs,htake,hr1.stab hk⟩
    · have hnl := hr2.len
      have hn1 : ∀ u ∈ news,u.oneCell' = true := fun u hu => List.all_eq_true.1 hr2.one u hu
      by_cases hroom : l.length + l2.length ≤ cap
      · have hle : l.length * r.sz + l2.length * r.sz ≤ cap * r.sz := by rw [← Nat.add_mul]; exact Nat.mul_le_mul_right _ hroom
        have hfit : off + l.length * r.sz + news.length ≤ cur.size := by omega
        have hf := run_firstCells_some (P := P) w r.sz l2.length ⟨b,o2,none⟩ l2.length c2 news hnl (fun j u hu => by rw [Bg]; exact hcell j u hu)
        have hst := run_storeCells_at P g (off + l.length * r.sz) e news 0 cur w hg (by simpa using hfit) hn1
        simp only [Nat.add_zero] at hst
        refine ⟨.slice (some ⟨g,off,none⟩) (l.length + l2.length) cap,w.setRow g (cur.toList.take (off + l.length * r.sz) ++ news ++ cur.toList.drop (off + l.length * r.sz + news.length)).toArray, ?_,⟨rfl,rfl,rfl,by simp [World.setRow],fun j _ hj => setRow_other w g j _ (fun e => hj (by rw [CL hcp,e]))⟩,fun g' hg' => .inl (by rw [CL hcp] at hg' ⊢; exact hg'),fun A' hk => ?_⟩
        · simp [Builtin.append_,run_underlying E.desc,sizeOf,typeInfo,hi,his,Builtin.lenOf,hroom,hf,Bg,hst]
        · refine .inr ⟨g,off,cap,_,xs ++ news,by rw [List.length_append],hcp,setRow_heap w g cur _ e _ hg,by rw [List.length_append]; exact hroom,hcm, ?_, ?_,(hr1.append hr2).stab hk⟩
          · simp only [List.size_toArray,List.length_append,List.length_take,List.length_drop,Array.length_toList]
            omega
          · have e1 : (xs ++ news).length = (l ++ l2).length * r.sz := by rw [List.length_append,hxl,hnl,List.length_append,Nat.add_mul]
            have e2 : cur.toList.take (off + l.length * r.sz) = cur.toList.take off ++ xs := by
              rw [← htake,List.take_add]
            have e3 : (cur.toList.take off).length = off := by rw [List.length_take,Array.length_toList]; omega
            show (((cur.toList.take (off + l.length * r.sz) ++ news ++ cur.toList.drop (off + l.length * r.sz + news.length)).drop off).take ((l ++ l2).length * r.sz)) = xs ++ news
            rw [e2,List.append_assoc,List.append_assoc,List.drop_left' e3, ← List.append_assoc, ← e1]
            exact List.take_left
      · have hr := run_append_grow (P := P) w t ty e i z E.desc hi hz ⟨g,off,none⟩ l.length cap xs (by rw [his]; exact hxl) hcells ⟨b,o2,none⟩ l2.length c2 news (by rw [his]; exact hnl) (fun j u hu => by rw [Bg]; exact hcell j u hu) (by omega) (by omega) (growslice_fits (by omega) hbyb)
        exact ⟨_,_,hr,hgb _ _,fun g' hg' => .inr (by
          by_cases hc : grownCap w (l.length + l2.length) cap e = 0
          · rw [hc,DK] at hg'; cases hg'
          · rw [CL (by omega)] at hg'; cases hg'; exact Nat.le_refl _),hgrow xs news cap hxl hnl hr1 hr2⟩
theorem J9 {t e ty : TypeId} {by_ : Nat} {A : Nat → Prop} (E : Et P t e r.sz by_) (hown : DZ w A e r v l) (hsrc : Mg w A r u l2) (hmax : l.length + l2.length ≤ 1000000000) (hby : by_ ≤ 100000) :
    ∃ v' w',(Builtin.append_ #[t,t] ty #[v,u]).run P w = .ok v' w' ∧ w.grownBy w' (ES v) ∧ (∀ g,ES v' = some g → ES v = some g ∨ w.heap.size ≤ g) ∧
      (∀ A',E5 w w' A A' → DZ w' A' e r v' (l ++ l2)) :=
  Ka E hown hsrc (by omega) (Nat.le_trans (Nat.mul_le_mul hmax hby) (by decide))
theorem BF {s q : Operand} {d i : Nat} (hF : Fr n ds F a) (hW : Stw B M Z w) (hn : Nat.blt d n = true) (E : Et P t e r.sz by_) (hs : Bo F s = some v) (hx : Bo F q = some u)
    (hZ : Z[i]? = some (row v e r l)) (hZ1 : Z.eraseIdx i = Z1) (hsrc : Mg w (Fz B (AA M Z)) r u l2) (hap : app l l2 = some l3) (hby : Nat.ble by_ 100000 = true)
    (k : ∀ v' a' w',Fr n ds ((d,v') :: F) a' → Stw B M (row v' e r l3 :: Z1) w' → wpList P ops Q rest a' w') :
    wpList P ops Q (⟨some d,.call ⟨.builtin .append, #[s,q], #[t,t]⟩,ty,pos,aft,none⟩ :: rest) a w := by
  obtain ⟨hmax,rfl⟩ := ON hap
  have hW1 := hW.permZ (CH hZ hZ1)
  have hbl : ∀ b,Fz B (AA M Z) b → Fz B (AA M (row v e r l :: Z1)) b := fun b hb => hb.mono fun g hg => (List.Perm.append_left _ ((CH hZ hZ1).flatMap_right _)).mem_iff.2 hg
  have hsrc1 : Mg w (Fz B (AA M (row v e r l :: Z1))) r u l2 := by
    rcases hsrc with h | ⟨b,o2,c2,news,h1,h2,h3,h4⟩
    · exact .inl h
    · exact .inr ⟨b,o2,c2,news,h1,h2,h3,h4.stab fun b hb _ => ⟨hbl b hb,rfl⟩⟩
  obtain ⟨v',w',hr,hgr,hblk,hown⟩ := J9 (P := P) (w := w) (ty := ty) E (hW1.items _ (List.mem_cons_self ..) : DZ w _ e r v l) hsrc1 hmax (ze hby)
  refine Ja hF hn (v := v') (w' := w') ?_ (fun a' h => k v' a' w' h ?_)
  · simp [execOp,Ax,invoke,builtin,hF.eval hs,hF.eval hx,hr]
  · exact hW1.rowTurn hgr (fun A _ hk => hown A hk) hblk
end
end Go.Proofs.YtbiekjhlijdjbaaGreat
