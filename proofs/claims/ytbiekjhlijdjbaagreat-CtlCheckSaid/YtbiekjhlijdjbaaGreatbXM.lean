/- A run that is computed: a region's orders are all there, told by numbers as sets. Conditions: none. -/
import Derived.Test.YtbiekjhlijdjbaaGreatbXJ
set_option linter.unusedVariables false
set_option linter.unusedSimpArgs false
open Go Go.RowKit
namespace Go.Proofs.YtbiekjhlijdjbaaGreat
def AP : Nat → Nat → PX → PX
  | _,0,p => p
  | a,n + 1,p => .st a [] none (AP (a + 1) n p)
abbrev BD (k j : Nat) (p : PX) : PX := .st k [j] (some j) p
abbrev JN (k : Nat) (R : List Nat) (j : Nat) (p : PX) : PX := .st k R (some j) p
abbrev A1 (k : Nat) (p : PX) : PX := .alt k p .stop
def YV (m j : Nat) : Bool := Nat.beq (Nat.land (Nat.shiftRight m j) 1) 1
theorem Qa {m j : Nat} : YV m j = m.testBit j := by
  have h1 : Nat.land (Nat.shiftRight m j) 1 = (m >>> j) % 2 := Nat.and_one_is_mod (m >>> j)
  unfold YV
  rw [h1,Nat.testBit_eq_decide_div_mod_eq,Nat.shiftRight_eq_div_pow]
  cases hh : decide (m / 2 ^ j % 2 = 1) with
  | true => rw [of_decide_eq_true hh]; rfl
  | false =>
    have := of_decide_eq_false hh
    exact Bool.eq_false_iff.2 fun hb => this (zd hb)
def Sk : List Nat → Nat
  | [] => 0
  | t :: l => Nat.lor (Nat.pow 2 t) (Sk l)
theorem FO : ∀ {l : List Nat} {j : Nat},(Sk l).testBit j = true ↔ j ∈ l
  | [],j => by simp [Sk]
  | t :: l,j => by
    show (2 ^ t ||| Sk l).testBit j = true ↔ _
    rw [Nat.testBit_or,Bool.or_eq_true,FO,Nat.testBit_two_pow,decide_eq_true_eq,List.mem_cons,eq_comm]
def aD (x y : Nat) : Bool := Nat.beq (Nat.land x y) 0
theorem So {x y : Nat} (h : aD x y = true) {j : Nat} (hx : x.testBit j = true) : y.testBit j = false := by
  have h : x &&& y = 0 := zd h
  have := congrArg (fun z => z.testBit j) h
  simp only [Nat.testBit_and,hx,Bool.true_and,Nat.zero_testBit] at this
  exact this
def eU (x y : Nat) : Bool := Nat.beq (Nat.land x y) x
theorem Xp {x y : Nat} : eU x y = true ↔ ∀ j,x.testBit j = true → y.testBit j = true := by
  constructor
  · intro h j hx
    have h : x &&& y = x := zd h
    have := congrArg (fun z => z.testBit j) h
    simp only [Nat.testBit_and,hx,Bool.true_and] at this
    exact this
  · intro h
    have : x &&& y = x := Nat.eq_of_testBit_eq fun j => by
      rw [Nat.testBit_and]
      cases hx : x.testBit j with
      | false => rfl
      | true => rw [h j hx]; rfl
    show Nat.beq (x &&& y) x = true
    rw [this]; exact Nat.beq_refl x
structure Rw where
  b : Nat
  d : Nat
  l : Nat
def Si (ops : Array Oper) (o : Oper) : Rw := ⟨Sk ((o.after.toList.filter (Region.binds .any)).map (·.on)),Sk o.dst.toList,Sk (o.looksAt ops)⟩
def Ow : List Rw → Nat → Option Rw
  | [],_ => none
  | r :: _,0 => some r
  | _ :: l,n + 1 => Ow l n
theorem QV : ∀ {l : List Rw} {n : Nat},Ow l n = l[n]?
  | [],n => by simp [Ow]
  | r :: l,0 => rfl
  | r :: l,n + 1 => by simp only [Ow,QV,List.getElem?_cons_succ]
def WN (rs : List Rw) (m j : Nat) : Bool := !YV m j && (match Ow rs j with | some r => eU r.b m | none => false)
def cY (x y : Rw) : Bool := aD x.d (Nat.lor y.l y.d) && aD y.d x.l
def bN (rs : List Rw) (k m : Nat) : Bool := match Ow rs k with
  | none => false
  | some rk => (List.range rs.length).all fun j => Nat.beq j k || YV m j || (match Ow rs j with | some rj => YV rj.b k || cY rk rj | none => true)
def sM (m k : Nat) : Nat := Nat.lor m (Nat.pow 2 k)
def V6 (rs : List Rw) : PX → Nat → Nat → Bool → Bool
  | .done,n,m,inner => !inner && Nat.beq n 0 && ((List.range rs.length).filter (WN rs m)).isEmpty
  | .st k _ _ t,n,m,inner => match n with
    | 0 => false
    | n + 1 => !inner && Nat.blt k rs.length && WN rs m k && bN rs k m && V6 rs t n (sM m k) false
  | .alt k t r,n,m,inner => match n with
    | 0 => false
    | n + 1 => (inner || decide ((List.range rs.length).filter (WN rs m) = k :: r.pt.heads)) && Nat.blt k rs.length && V6 rs t n (sM m k) false && V6 rs r (n + 1) m true
  | .stop,_,_,inner => inner
section
variable {ops : List Oper} {rs : List Rw} {L : Array Bool} {m : Nat}
def LM (N : Nat) (L : Array Bool) (m : Nat) : Prop := L.size = N ∧ ∀ j,L.getD j false = m.testBit j
theorem LM.t {N : Nat} (h : LM N L m) {j : Nat} (hj : j < N) : L.getD j true = m.testBit j := by
  rw [← h.2 j]
  simp only [Array.getD_eq_getD_getElem?]
  have : j < L.size := by rw [h.1]; exact hj
  rw [Array.getElem?_eq_getElem this]; rfl
theorem LM.set {N : Nat} (h : LM N L m) {k : Nat} (hk : k < N) : LM N (L.setIfInBounds k true) (sM m k) := by
  refine ⟨by simp [h.1],fun j => ?_⟩
  show _ = (m ||| 2 ^ k).testBit j
  rw [Nat.testBit_or,Nat.testBit_two_pow, ← h.2 j]
  by_cases hj : k = j
  · subst hj
    simp [Array.getD_eq_getD_getElem?,Array.getElem?_setIfInBounds,h.1,hk]
  · rw [getD_set_ne false hj]
    simp [hj]
theorem LM.zero {N : Nat} : LM N (Array.replicate N false) 0 := ⟨by simp,fun j => by
  rw [Nat.zero_testBit,Array.getD_eq_getD_getElem?,Array.getElem?_replicate]
  split <;> rfl⟩
theorem Ps (hr : rs = ops.map (Si ops.toArray)) {j : Nat} : Ow rs j = (ops.toArray[j]?).map (Si ops.toArray) := by
  rw [QV,hr]; simp
theorem Ut (hr : rs = ops.map (Si ops.toArray)) (hL : LM ops.length L m) {j : Nat} : WN rs m j = true ↔ j ∈ Region.ready .any ops.toArray L := by
  unfold WN
  rw [mem_ready,Ps hr,zf,Bool.not_eq_true',Qa]
  cases ho : ops.toArray[j]? with
  | none => simp
  | some o =>
    have hj : j < ops.length := by
      have := (Array.getElem?_eq_some_iff.1 ho).1
      simpa using this
    rw [hL.t hj]
    simp only [Option.map_some,Xp,Si,FO,Option.some.injEq,exists_eq_left']
    refine and_congr Iff.rfl ⟨fun h e he hb => ?_,fun h i hi => ?_⟩
    · rw [hL.2]; exact h _ (List.mem_map.2 ⟨e,List.mem_filter.2 ⟨by simpa using he,hb⟩,rfl⟩)
    · obtain ⟨e,he,rfl⟩ := List.mem_map.1 hi
      obtain ⟨h1,h2⟩ := List.mem_filter.1 he
      rw [← hL.2]; exact h e (by simpa using h1) h2
theorem OD (hr : rs = ops.map (Si ops.toArray)) (hL : LM ops.length L m) : Region.ready .any ops.toArray L = (List.range rs.length).filter (WN rs m) := by
  have hlen : rs.length = ops.toArray.size := by rw [hr]; simp
  rw [hlen]
  unfold Region.ready
  refine List.filter_congr fun j hj => ?_
  have h1 := Ut hr hL (j := j)
  unfold Region.ready at h1
  rw [List.mem_filter] at h1
  generalize hX : WN rs m j = X at h1 ⊢
  cases X with
  | true => exact (h1.1 rfl).2
  | false =>
    refine Bool.eq_false_iff.2 fun hh => ?_
    exact absurd (h1.2 ⟨hj,hh⟩) (by decide)
theorem Xc {x y : Oper} (h : cY (Si ops.toArray x) (Si ops.toArray y) = true) : x.apart ops.toArray y = true := by
  unfold cY at h
  rw [zf] at h
  obtain ⟨h1,h2⟩ := h
  unfold Oper.apart
  rw [zf]
  constructor
  · cases hd : x.dst with
    | none => rfl
    | some d =>
      have hx : (Si ops.toArray x).d.testBit d = true := FO.2 (by rw [hd]; simp)
      have := So h1 hx
      have h3 : (Sk (y.looksAt ops.toArray) ||| Sk y.dst.toList).testBit d = false := this
      rw [Nat.testBit_or,Bool.or_eq_false_iff] at h3
      simp only [zf,Bool.not_eq_true',bne_iff_ne,ne_eq]
      refine ⟨Bool.eq_false_iff.2 fun hh => ?_,fun hh => ?_⟩
      · have g : (Sk (y.looksAt ops.toArray)).testBit d = true := FO.2 (by simpa using hh)
        rw [g] at h3; exact absurd h3.1 (by decide)
      · have g : (Sk y.dst.toList).testBit d = true := FO.2 (by rw [hh]; simp)
        rw [g] at h3; exact absurd h3.2 (by decide)
  · cases hd : y.dst with
    | none => rfl
    | some d =>
      have hx : (Si ops.toArray y).d.testBit d = true := FO.2 (by rw [hd]; simp)
      have h3 : (Sk (x.looksAt ops.toArray)).testBit d = false := So h2 hx
      simp only [Bool.not_eq_true']
      refine Bool.eq_false_iff.2 fun hh => ?_
      rw [FO.2 (by simpa using hh)] at h3; exact absurd h3 (by decide)
theorem Wn (hr : rs = ops.map (Si ops.toArray)) (hL : LM ops.length L m) {k : Nat} (h : bN rs k m = true) : Region.free .any ops.toArray L k = true := by
  unfold bN at h
  rw [Ps hr] at h
  unfold Region.free
  cases hk : ops.toArray[k]? with
  | none => rw [hk] at h; cases h
  | some ok =>
    rw [hk] at h
    simp only [Option.map_some,List.all_eq_true,List.mem_range] at h ⊢
    intro j hj
    have hlen : rs.length = ops.toArray.size := by rw [hr]; simp
    have := h j (by rw [hlen]; exact hj)
    rw [Ps hr] at this
    simp only [Bool.or_eq_true] at this ⊢
    rcases this with (h1 | h1) | h1
    · exact .inl (.inl (by rw [zd h1]; exact beq_self_eq_true k))
    · refine .inl (.inr ?_)
      rw [hL.t (by simpa using hj), ← Qa]; exact h1
    · refine .inr ?_
      cases ho : ops.toArray[j]? with
      | none => rfl
      | some o =>
        rw [ho] at h1
        simp only [Option.map_some,Bool.or_eq_true] at h1 ⊢
        rcases h1 with h1 | h1
        · refine .inl ?_
          rw [Qa] at h1
          have h1 : k ∈ (o.after.toList.filter (Region.binds .any)).map (·.on) := FO.1 h1
          obtain ⟨e,he,hke⟩ := List.mem_map.1 h1
          obtain ⟨g1,g2⟩ := List.mem_filter.1 he
          rw [Array.any_eq_true']
          exact ⟨e,by simpa using g1,by rw [g2,hke]; simp⟩
        · exact .inr (Xc h1)
theorem NL (hr : rs = ops.map (Si ops.toArray)) : ∀ {t : PX} {n m : Nat} {inner : Bool} {L : Array Bool},LM ops.length L m → V6 rs t n m inner = true → t.pt.okB .any ops.toArray n L inner = true
  | .done,n,m,inner,L,hL,h => by
    simp only [V6,zf] at h
    simp only [PX.pt,PT.okB,zf]
    exact ⟨h.1,by rw [OD hr hL]; exact h.2⟩
  | .st k R tg t,0,m,inner,L,hL,h => by cases h
  | .st k R tg t,n + 1,m,inner,L,hL,h => by
    simp only [V6,zf] at h
    obtain ⟨⟨⟨⟨h1,h2⟩,h3⟩,h4⟩,h5⟩ := h
    have hk : k < ops.length := by have := ze h2; rw [hr] at this; simpa [Nat.succ_le_iff] using this
    simp only [PX.pt,PT.okB,zf]
    exact ⟨⟨⟨h1,by simpa using (Ut hr hL).1 h3⟩,Wn hr hL h4⟩,NL hr (hL.set hk) h5⟩
  | .alt k t r,0,m,inner,L,hL,h => by cases h
  | .alt k t r,n + 1,m,inner,L,hL,h => by
    simp only [V6,zf] at h
    obtain ⟨⟨⟨h1,h2⟩,h3⟩,h4⟩ := h
    have hk : k < ops.length := by have := ze h2; rw [hr] at this; simpa [Nat.succ_le_iff] using this
    simp only [PX.pt,PT.okB,zf]
    exact ⟨⟨by rw [OD hr hL]; exact h1,NL hr (hL.set hk) h3⟩,NL hr hL h4⟩
  | .stop,n,m,inner,L,hL,h => h
end
end Go.Proofs.YtbiekjhlijdjbaaGreat
