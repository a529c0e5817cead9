/- A run that is computed: memory. Conditions: none. -/
import Derived.Test.YtmbjfpacaenbhaaGreatXE
namespace Go.Proofs.YtmbjfpacaenbhaaGreat
set_option linter.unusedVariables false
set_option linter.unusedSimpArgs false
open Go Go.RowKit

/-- A block: its name, whether more may lie behind what is known (and the size of its elements), its cells. -/
abbrev BW := Nat × Option Nat × List CW
/-- A map: its name, its clock, its entries: key, value, when it came. -/
abbrev ZW := Nat × Nat × List (Value × AW × Nat)
structure SW where
  M : List BW
  Z : List ZW
  us : List Nat
  nx : Nat
def OpnR (e : En) (n : Nat) (o : Option Nat) (us tl : List Value) : Prop := match o with
  | none => tl = []
  | some sz => (us ++ tl).length = e.κ n * sz ∧ 0 < sz
def BR (e : En) (x : BW) (y : Nat × List Value) : Prop := e.b x.1 = some y.1 ∧ ∃ us tl, dnL e x.2.2 = some us ∧ y.2 = us ++ tl ∧ OpnR e x.1 x.2.1 us tl
def MR (e : En) : List BW → Blks → Prop
  | [], [] => True
  | x :: r, y :: r' => BR e x y ∧ MR e r r'
  | _, _ => False
def getM : List BW → Nat → Option (Nat × Option Nat × List CW)
  | [], _ => none
  | (m, o, cs) :: r, n => match Nat.beq m n with
    | true => some (0, o, cs)
    | false => match getM r n with | some (i, q) => some (i + 1, q) | none => none
def modM (n : Nat) (o : Option Nat) (cs : List CW) : List BW → List BW
  | [] => []
  | (m, o', cs') :: r => match Nat.beq m n with | true => (m, o, cs) :: r | false => (m, o', cs') :: modM n o cs r
def dropM (n : Nat) : List BW → List BW
  | [] => []
  | (m, x) :: r => match Nat.beq m n with | true => r | false => (m, x) :: dropM n r
def insM (x : BW) : List BW → List BW
  | [] => [x]
  | y :: r => match Nat.blt x.1 y.1 with | true => y :: insM x r | false => x :: y :: r
/-- A map as it is. -/
def mpX (b : Nat) (es : Array MapEntry) (clock : Nat) : It := ⟨[b], fun w _ => w.heap[b]? = some (.map es clock), fun h _ hg => by rw [hg b (by simp)]; exact h, fun h g hg => by
  rw [List.mem_singleton] at hg; subst hg
  exact (Array.getElem?_eq_some_iff.1 h).1, fun _ => by simp⟩
def ER (e : En) : List (Value × AW × Nat) → List MapEntry → Prop
  | [], [] => True
  | (k, v, t) :: r, x :: r' => (x.key = k ∧ v.dn e = some x.val ∧ x.born = t) ∧ ER e r r'
  | _, _ => False
def ZR (e : En) : List ZW → List It → Prop
  | [], [] => True
  | (n, c, l) :: r, z :: r' => (∃ b es, e.b n = some b ∧ ER e l es ∧ z = mpX b es.toArray c) ∧ ZR e r r'
  | _, _ => False
def RelS (B : Bs) (e : En) (S : SW) (w : World) : Prop := ∃ M Z, Stw B M Z w ∧ MR e S.M M ∧ ZR e S.Z Z ∧ ∀ n b, e.b n = some b → n ∈ S.us
def frB (n : Nat) : List Nat → Bool
  | [] => true
  | m :: r => match Nat.beq n m with | true => false | false => frB n r
def insN (n : Nat) : List Nat → List Nat
  | [] => [n]
  | m :: r => match Nat.blt n m with | true => m :: insN n r | false => n :: m :: r
theorem frB_ok {n : Nat} : ∀ {l : List Nat}, frB n l = true → n ∉ l
  | [], _, h => by cases h
  | m :: r, h, hm => by
    unfold frB at h
    split at h
    · cases h
    · rename_i hb
      rcases List.mem_cons.1 hm with rfl | hm
      · rw [Nat.beq_refl] at hb; cases hb
      · exact frB_ok h hm
theorem mem_insN {n m : Nat} : ∀ {l : List Nat}, m ∈ insN n l ↔ m = n ∨ m ∈ l
  | [] => by simp [insN]
  | x :: r => by
    unfold insN
    split
    · simp only [List.mem_cons, mem_insN (l := r)]
      constructor
      · rintro (h | h | h)
        · exact .inr (.inl h)
        · exact .inl h
        · exact .inr (.inr h)
      · rintro (h | h | h)
        · exact .inr (.inl h)
        · exact .inl h
        · exact .inr (.inr h)
    · simp
section
variable {e e' : En}
theorem OpnR.mono (hx : Xt e e') {n b : Nat} (hb : e.b n = some b) {o : Option Nat} {us tl : List Value} (h : OpnR e n o us tl) : OpnR e' n o us tl := by
  cases o with
  | none => exact h
  | some sz => exact ⟨by rw [(hx.1 n b hb).2]; exact h.1, h.2⟩
theorem BR.mono (hx : Xt e e') {x : BW} {y : Nat × List Value} (h : BR e x y) : BR e' x y := by
  obtain ⟨h1, us, tl, h2, h3, h4⟩ := h
  exact ⟨(hx.1 _ _ h1).1, us, tl, dnL_mono hx h2, h3, h4.mono hx h1⟩
theorem MR.mono (hx : Xt e e') : ∀ {L : List BW} {M : Blks}, MR e L M → MR e' L M
  | [], [], _ => trivial
  | [], _ :: _, h => h.elim
  | _ :: _, [], h => h.elim
  | _ :: _, _ :: _, h => ⟨h.1.mono hx, MR.mono hx h.2⟩
theorem ER.mono (hx : Xt e e') : ∀ {l : List (Value × AW × Nat)} {es : List MapEntry}, ER e l es → ER e' l es
  | [], [], _ => trivial
  | [], _ :: _, h => h.elim
  | _ :: _, [], h => h.elim
  | (k, v, t) :: _, _ :: _, h => ⟨⟨h.1.1, AW.mono hx h.1.2.1, h.1.2.2⟩, ER.mono hx h.2⟩
theorem ZR.mono (hx : Xt e e') : ∀ {L : List ZW} {Z : List It}, ZR e L Z → ZR e' L Z
  | [], [], _ => trivial
  | [], _ :: _, h => h.elim
  | _ :: _, [], h => h.elim
  | (n, c, l) :: _, _ :: _, ⟨⟨b, es, h1, h2, h3⟩, h⟩ => ⟨⟨b, es, (hx.1 _ _ h1).1, h2.mono hx, h3⟩, ZR.mono hx h⟩
theorem MR.get : ∀ {L : List BW} {M : Blks} {n i : Nat} {o : Option Nat} {cs : List CW}, MR e L M → getM L n = some (i, o, cs) → ∃ b us tl, M[i]? = some (b, us ++ tl) ∧ e.b n = some b ∧ dnL e cs = some us ∧ OpnR e n o us tl
  | [], _, n, i, o, cs, _, h => by cases h
  | (m, o', cs') :: r, [], n, i, o, cs, hR, h => hR.elim
  | (m, o', cs') :: r, (b, vs) :: M, n, i, o, cs, ⟨⟨h1, us, tl, h2, h3, h4⟩, hr⟩, h => by
    unfold getM at h
    split at h
    · rename_i hm
      cases h
      have := Nat.eq_of_beq_eq_true hm
      subst this
      exact ⟨b, us, tl, by rw [show vs = us ++ tl from h3]; rfl, h1, h2, h4⟩
    · split at h
      · rename_i j q hq
        cases h
        obtain ⟨b', us', tl', g1, g2⟩ := MR.get hr hq
        exact ⟨b', us', tl', by simpa using g1, g2⟩
      · cases h
theorem MR.set {n : Nat} {o' : Option Nat} {cs' : List CW} {us' tl' : List Value} (h1 : dnL e cs' = some us') (h2 : OpnR e n o' us' tl') : ∀ {L : List BW} {M : Blks} {i b : Nat} {o : Option Nat} {cs : List CW}, MR e L M → getM L n = some (i, o, cs) → e.b n = some b → MR e (modM n o' cs' L) (M.set i (b, us' ++ tl'))
  | [], _, i, b, o, cs, _, h, _ => by cases h
  | (m, q, cs0) :: r, [], i, b, o, cs, hR, h, _ => hR.elim
  | (m, q, cs0) :: r, (bb, vs) :: M, i, b, o, cs, ⟨hB, hr⟩, h, hb => by
    unfold getM at h
    unfold modM
    split at h
    · rename_i hm
      cases h
      have := Nat.eq_of_beq_eq_true hm
      subst this
      exact ⟨⟨hb, us', tl', h1, rfl, h2⟩, hr⟩
    · rename_i hm
      split at h
      · rename_i j q hq
        cases h
        exact ⟨hB, MR.set h1 h2 hr hq hb⟩
      · cases h
theorem MR.drop {n : Nat} : ∀ {L : List BW} {M : Blks} {i : Nat} {o : Option Nat} {cs : List CW}, MR e L M → getM L n = some (i, o, cs) → MR e (dropM n L) (M.eraseIdx i)
  | [], _, i, o, cs, _, h => by cases h
  | (m, q, cs0) :: r, [], i, o, cs, hR, h => hR.elim
  | (m, q, cs0) :: r, (bb, vs) :: M, i, o, cs, ⟨hB, hr⟩, h => by
    unfold getM at h
    unfold dropM
    split at h
    · rename_i hm
      cases h
      exact hr
    · rename_i hm
      split at h
      · rename_i j q hq
        cases h
        exact ⟨hB, MR.drop hr hq⟩
      · cases h
theorem MR.ins {x : BW} {y : Nat × List Value} (hx : BR e x y) : ∀ {L : List BW} {M : Blks}, MR e L M → ∃ M', MR e (insM x L) M' ∧ (y :: M).Perm M'
  | [], [], _ => ⟨[y], ⟨hx, trivial⟩, .refl _⟩
  | [], _ :: _, h => h.elim
  | _ :: _, [], h => h.elim
  | z :: L, m :: M, ⟨h1, h2⟩ => by
    unfold insM
    split
    · obtain ⟨M', g1, g2⟩ := MR.ins hx h2
      exact ⟨m :: M', ⟨h1, g1⟩, (List.Perm.swap m y M).trans (g2.cons m)⟩
    · exact ⟨y :: m :: M, ⟨hx, h1, h2⟩, .refl _⟩
/-- One more name. -/
def En.new (e : En) (n b k : Nat) : En := ⟨fun m => if m = n then some b else e.b m, fun m => if m = n then k else e.κ m, e.g⟩
theorem En.new_b {n b k : Nat} : (e.new n b k).b n = some b := if_pos rfl
theorem En.new_k {n b k : Nat} : (e.new n b k).κ n = k := if_pos rfl
theorem En.new_xt {n b k : Nat} {us : List Nat} (hu : ∀ n b, e.b n = some b → n ∈ us) (hf : frB n us = true) : Xt e (e.new n b k) := ⟨fun m c hm => by
  have : m ≠ n := fun h => frB_ok hf (h ▸ hu m c hm)
  exact ⟨(if_neg this).trans hm, if_neg this⟩, rfl⟩
theorem En.new_us {n b k : Nat} {us : List Nat} (hu : ∀ n b, e.b n = some b → n ∈ us) : ∀ m c, (e.new n b k).b m = some c → m ∈ insN n us := fun m c hm => by
  rw [mem_insN]
  by_cases h : m = n
  · exact .inl h
  · exact .inr (hu m c (by rw [← hm]; exact (if_neg h).symm))
end
/-- A new block. -/
def newB (S : SW) (o : Option Nat) (cs : List CW) : Option (Nat × SW) := match frB S.nx S.us with
  | true => some (S.nx, ⟨insM (S.nx, o, cs) S.M, S.Z, insN S.nx S.us, S.nx + 1⟩)
  | false => none
section
variable {P : Program} {B : Bs} {e : En} {S S' : SW} {w w' : World}
theorem RelS.below (h : RelS B e S w) (hb : Below w.heap.size w w') : RelS B e S w' := by
  obtain ⟨M, Z, h1, h2⟩ := h
  exact ⟨M, Z, h1.below hb, h2⟩
theorem RelS.alloc (h : RelS B e S w) {o : Option Nat} {cs : List CW} {n k : Nat} (hn : newB S o cs = some (n, S')) {us tl : List Value} (hc : dnL e cs = some us) (ho : match o with | none => tl = [] | some sz => (us ++ tl).length = k * sz ∧ 0 < sz) (t : TypeId) :
    Xt e (e.new n w.heap.size k) ∧ RelS B (e.new n w.heap.size k) S' (w.alloc (.cells (us ++ tl).toArray t)) ∧ (e.new n w.heap.size k).b n = some w.heap.size := by
  unfold newB at hn
  split at hn
  · rename_i hf
    cases hn
    obtain ⟨M, Z, h1, h2, h3, h4⟩ := h
    have hx := En.new_xt (k := k) (b := w.heap.size) h4 hf
    obtain ⟨M', g1, g2⟩ := MR.ins (e := e.new S.nx w.heap.size k) (x := (S.nx, o, cs)) (y := (w.heap.size, us ++ tl)) ⟨En.new_b, us, tl, dnL_mono hx hc, rfl, by
      cases o with
      | none => exact ho
      | some sz => exact ⟨by show _ = (e.new S.nx w.heap.size k).κ S.nx * sz; rw [En.new_k]; exact ho.1, ho.2⟩⟩ (h2.mono hx)
    exact ⟨hx, ⟨M', Z, (h1.alloc (us ++ tl) t).perm g2, g1, h3.mono hx, En.new_us h4⟩, En.new_b⟩
  · cases hn
theorem RelS.load (h : RelS B e S w) {n i o : Nat} {q : Option Nat} {cs : List CW} (hg : getM S.M n = some (i, q, cs)) {b : Nat} (hb : e.b n = some b) {t : TypeId} {agg : Bool} {sz : Nat} (T : Ty P t agg sz) {v : AW} (hv : rdW agg sz cs o = some v) : ∃ u, v.dn e = some u ∧ (loadVar t ⟨b, o, none⟩).run P w = .ok u w := by
  obtain ⟨M, Z, h1, h2, _⟩ := h
  obtain ⟨b', us, tl, g1, g2, g3, g4⟩ := h2.get hg
  rw [hb] at g2; cases g2
  obtain ⟨u, k1, k2⟩ := rdW_ok hv g3
  exact ⟨u, k1, run_loadVar_at T (fun j _ => h1.cell g1 j) (rdv_app k2)⟩
theorem RelS.store (h : RelS B e S w) {n i o : Nat} {q : Option Nat} {cs new : List CW} (hg : getM S.M n = some (i, q, cs)) {b : Nat} (hb : e.b n = some b) {vs : List Value} (hv : dnL e new = some vs) (hl : o + new.length ≤ cs.length) :
    ∃ w', (storeCells ⟨b, o, none⟩ vs).run P w = .ok () w' ∧ RelS B e ⟨modM n q (puW cs o new) S.M, S.Z, S.us, S.nx⟩ w' := by
  obtain ⟨M, Z, h1, h2, h3, h4⟩ := h
  obtain ⟨b', us, tl, g1, g2, g3, g4⟩ := h2.get hg
  rw [hb] at g2; cases g2
  have l1 := dnL_len g3
  have l2 := dnL_len hv
  obtain ⟨ws, p1, p2, p3⟩ := puW_ok (tl := tl) g3 hv hl
  obtain ⟨w', k1, k2⟩ := run_storeCells_own (P := P) vs o 0 (us ++ tl) M w h1 g1 (by rw [List.length_append]; omega) (fun v hm => List.all_eq_true.1 (dnL_one hv) v hm)
  rw [Nat.add_zero, p2] at k2
  refine ⟨w', k1, _, Z, k2, h2.set p1 ?_ hg hb, h3, h4⟩
  cases q with
  | none => exact g4
  | some sz => exact ⟨by rw [List.length_append, p3, ← List.length_append]; exact g4.1, g4.2⟩
end
end Go.Proofs.YtmbjfpacaenbhaaGreat
