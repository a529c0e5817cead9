/- The walk by lemmas: a frame known by its slots, a memory known by its own blocks, one lemma an operation. Conditions: none. -/
import Derived.WalkKit
import Derived.Below
import Derived.Test.YtcnhmbjkippnnaaQ
namespace Go.Proofs.Ytcnhmbjkippnnaa
open Go Go.RowKit

/-! ### What is known of a frame -/
def lk : List (Nat × Value) → Nat → Option Value
  | [], _ => none
  | (k, v) :: r, n => if Nat.beq k n then some v else lk r n

structure Fr (n : Nat) (ds : List Deferred) (F : List (Nat × Value)) (a : Act) : Prop where
  size : a.tmps.size = n
  defers : a.defers = ds
  slots : ∀ k v, lk F k = some v → a.tmps[k]? = some v

def opv (F : List (Nat × Value)) : Operand → Option Value
  | .tmp t => lk F t
  | .const v => some v
  | .func f => some (.func (.func f) #[] #[])
  | .global g => some (.pointer (some ⟨g, 0, none⟩))

theorem Fr.getD {n ds F a} (h : Fr n ds F a) {k v} (hk : lk F k = some v) : a.tmps.getD k undef = v := by
  have := h.slots k v hk
  simp [Array.getD_eq_getD_getElem?, this]

theorem Fr.eval {n ds F a} (h : Fr n ds F a) {x v} (hx : opv F x = some v) : a.eval x = v := by
  cases x with
  | tmp t => exact h.getD hx
  | const c => simp [opv] at hx; subst hx; rfl
  | func f => simp [opv] at hx; subst hx; rfl
  | global g => simp [opv] at hx; subst hx; rfl

theorem lk_cons_eq (k : Nat) (v : Value) (F) : lk ((k, v) :: F) k = some v := by simp [lk]
theorem lk_cons_ne {k j : Nat} (h : k ≠ j) (v : Value) (F) : lk ((k, v) :: F) j = lk F j := by
  have : Nat.beq k j = false := by cases hb : Nat.beq k j with | false => rfl | true => exact absurd (Nat.eq_of_beq_eq_true hb) h
  simp [lk, this]

theorem Fr.put {n ds F a} (h : Fr n ds F a) {d : Nat} (hd : d < n) (v : Value) : Fr n ds ((d, v) :: F) (a.put (some d) v) := by
  refine ⟨by simp [Act.put, h.size], by simp [Act.put, h.defers], fun k u hk => ?_⟩
  by_cases hkd : d = k
  · subst hkd
    rw [lk_cons_eq] at hk
    simp only [Option.some.injEq] at hk
    subst hk
    simp only [Act.put]
    rw [Array.getElem?_setIfInBounds_self_of_lt (by rw [h.size]; exact hd)]
  · rw [lk_cons_ne hkd] at hk
    simp only [Act.put]
    rw [Array.getElem?_setIfInBounds_ne hkd]
    exact h.slots k u hk

theorem Fr.none {n ds F a} (h : Fr n ds F a) (v : Value) : Fr n ds F (a.put none v) := h

theorem Fr.sub {n ds F F' a} (h : Fr n ds F a) (hs : ∀ k v, lk F' k = some v → lk F k = some v) : Fr n ds F' a := ⟨h.size, h.defers, fun k v hk => h.slots k v (hs k v hk)⟩

/-! ### What is known of the world -/
/-- Nothing that was there has turned, but for the blocks of X. -/
structure Frm (X : List Nat) (w0 w : World) : Prop where
  os : w.os = w0.os
  tape : w.tape = w0.tape
  output : w.output = w0.output
  size : w0.heap.size ≤ w.heap.size
  block : ∀ k, k < w0.heap.size → k ∉ X → w.heap[k]? = w0.heap[k]?

theorem Frm.refl (X : List Nat) (w : World) : Frm X w w := ⟨rfl, rfl, rfl, Nat.le_refl _, fun _ _ _ => rfl⟩
theorem Frm.below {w0 w : World} (h : Frm [] w0 w) : Below w0.heap.size w0 w := ⟨h.os, h.tape, h.output, h.size, fun k hk => h.block k hk (by simp)⟩
theorem Frm.of_below {X : List Nat} {w0 w w' : World} (h : Frm X w0 w) (hb : Below w.heap.size w w') : Frm X w0 w' :=
  ⟨hb.os.trans h.os, hb.tape.trans h.tape, hb.output.trans h.output, Nat.le_trans h.size hb.size,
   fun k hk hx => (hb.block k (Nat.lt_of_lt_of_le hk h.size)).trans (h.block k hk hx)⟩
theorem Frm.cell {X : List Nat} {w0 w : World} (h : Frm X w0 w) {b : Nat} (hb : b < w0.heap.size) (hx : b ∉ X) (o : Nat) : w.cell? ⟨b, o, none⟩ = w0.cell? ⟨b, o, none⟩ :=
  World.cell?_of_block (w := w0) (h.block b hb hx)

/-- The blocks that are the call's own (or lent to it: X), whole. -/
structure Mem (X : List Nat) (w0 : World) (M : List (Nat × List Value)) (w : World) : Prop where
  own : ∀ p ∈ M, p.1 ∈ X ∨ w0.heap.size ≤ p.1
  at_ : ∀ p ∈ M, ∃ t, w.heap[p.1]? = some (.cells p.2.toArray t (0, 0))
  nodup : (M.map (·.1)).Nodup

structure Stw (X : List Nat) (w0 : World) (M : List (Nat × List Value)) (w : World) : Prop where
  frm : Frm X w0 w
  mem : Mem X w0 M w

theorem Mem.nil {X w0 w} : Mem X w0 [] w := ⟨by simp, by simp, by simp⟩
theorem Stw.start (w : World) : Stw [] w [] w := ⟨Frm.refl _ _, Mem.nil⟩

theorem mem_of_get {α : Type} {l : List α} {i : Nat} {x : α} (h : l[i]? = some x) : x ∈ l := List.mem_of_getElem? h

theorem Mem.cell {X w0 M w} (h : Mem X w0 M w) {i b : Nat} {cs : List Value} (hM : M[i]? = some (b, cs)) (o : Nat) : w.cell? ⟨b, o, none⟩ = cs[o]? := by
  obtain ⟨t, ht⟩ := h.at_ _ (mem_of_get hM)
  simp [World.cell?, ht]
theorem Mem.frozen {X w0 M w} (h : Mem X w0 M w) {i b : Nat} {cs : List Value} (hM : M[i]? = some (b, cs)) (o : Nat) : w.frozen? ⟨b, o, none⟩ = false := by
  obtain ⟨t, ht⟩ := h.at_ _ (mem_of_get hM)
  simp [World.frozen?, ht]
theorem Mem.lt {X w0 M w} (h : Mem X w0 M w) {i b : Nat} {cs : List Value} (hM : M[i]? = some (b, cs)) : b < w.heap.size := by
  obtain ⟨t, ht⟩ := h.at_ _ (mem_of_get hM)
  exact (Array.getElem?_eq_some_iff.1 ht).1

theorem Stw.below {X w0 M w w'} (h : Stw X w0 M w) (hb : Below w.heap.size w w') : Stw X w0 M w' := by
  refine ⟨h.frm.of_below hb, ⟨h.mem.own, fun p hp => ?_, h.mem.nodup⟩⟩
  obtain ⟨t, ht⟩ := h.mem.at_ p hp
  exact ⟨t, by rw [hb.block _ (Array.getElem?_eq_some_iff.1 ht).1]; exact ht⟩

theorem Stw.drew {X w0 M w} (h : Stw X w0 M w) : Stw X w0 M { w with drawn := w.drawn + 1 } := h.below ⟨rfl, rfl, rfl, Nat.le_refl _, fun _ _ => rfl⟩

/-- A new block. -/
theorem Stw.alloc {X w0 M w} (h : Stw X w0 M w) (cs : List Value) (t : TypeId) : Stw X w0 ((w.heap.size, cs) :: M) (w.alloc (.cells cs.toArray t)) := by
  have hb : Below w.heap.size w (w.alloc (.cells cs.toArray t)) := (Below.refl _ _).alloc (Nat.le_refl _) _
  have h' := h.below hb
  refine ⟨h'.frm, ⟨fun p hp => ?_, fun p hp => ?_, ?_⟩⟩
  · rcases List.mem_cons.1 hp with rfl | hp
    · exact .inr h.frm.size
    · exact h.mem.own p hp
  · rcases List.mem_cons.1 hp with rfl | hp
    · exact ⟨t, by show (w.heap.push _)[w.heap.size]? = _; simp⟩
    · exact h'.mem.at_ p hp
  · simp only [List.map_cons, List.nodup_cons]
    refine ⟨fun hm => ?_, h.mem.nodup⟩
    obtain ⟨p, hp, he⟩ := List.mem_map.1 hm
    obtain ⟨t', ht⟩ := h.mem.at_ p hp
    have := (Array.getElem?_eq_some_iff.1 ht).1
    rw [he] at this
    exact Nat.lt_irrefl _ this

theorem Nodup.get_ne {l : List (Nat × List Value)} (hn : (l.map (·.1)).Nodup) {i j : Nat} {p q : Nat × List Value} (hi : l[i]? = some p) (hj : l[j]? = some q) (hij : i ≠ j) : p.1 ≠ q.1 := by
  intro he
  have h1 : (l.map (·.1))[i]? = some p.1 := by simp [hi]
  have h2 : (l.map (·.1))[j]? = some q.1 := by simp [hj]
  have hi' : i < (l.map (·.1)).length := (List.getElem?_eq_some_iff.1 h1).1
  have hj' : j < (l.map (·.1)).length := (List.getElem?_eq_some_iff.1 h2).1
  have e1 := (List.getElem?_eq_some_iff.1 h1).2
  have e2 := (List.getElem?_eq_some_iff.1 h2).2
  rcases Nat.lt_or_gt_of_ne hij with hlt | hlt
  · exact List.pairwise_iff_getElem.1 hn i j hi' hj' hlt (by rw [e1, e2, he])
  · exact List.pairwise_iff_getElem.1 hn j i hj' hi' hlt (by rw [e1, e2, he])

theorem setCell_block (w : World) (b o : Nat) (v : Value) {cs : Array Value} {t : TypeId} (h : w.heap[b]? = some (.cells cs t (0, 0))) : (w.setCell ⟨b, o, none⟩ v).heap[b]? = some (.cells (cs.setIfInBounds o v) t (0, 0)) := by
  simp only [World.setCell, Array.getElem?_modify, if_pos, h, Option.map_some]
  simp

/-- A store into a cell of an own block. -/
theorem Stw.setCell {X w0 M w} (h : Stw X w0 M w) {i b : Nat} {cs : List Value} (hM : M[i]? = some (b, cs)) (o : Nat) (v : Value) :
    Stw X w0 (M.set i (b, cs.set o v)) (w.setCell ⟨b, o, none⟩ v) := by
  have hown := h.mem.own _ (mem_of_get hM)
  have hi : i < M.length := (List.getElem?_eq_some_iff.1 hM).1
  have hother : ∀ k, k ≠ b → (w.setCell ⟨b, o, none⟩ v).heap[k]? = w.heap[k]? := fun k hk => Below.heap_setCell _ _ _ _ hk
  refine ⟨⟨h.frm.os, h.frm.tape, h.frm.output, by simpa [World.setCell] using h.frm.size, fun k hk hx => ?_⟩, ⟨fun p hp => ?_, fun p hp => ?_, ?_⟩⟩
  · have hkb : k ≠ b := by
      rintro rfl
      rcases hown with h1 | h1
      · exact hx h1
      · have h1' : w0.heap.size ≤ k := h1
        omega
    rw [hother k hkb]
    exact h.frm.block k hk hx
  · rcases List.mem_or_eq_of_mem_set hp with hp | rfl
    · exact h.mem.own p hp
    · exact hown
  · obtain ⟨j, hj⟩ := List.mem_iff_getElem?.1 hp
    by_cases hij : i = j
    · subst hij
      rw [List.getElem?_set_self hi] at hj
      cases hj
      obtain ⟨t, ht⟩ := h.mem.at_ _ (mem_of_get hM)
      exact ⟨t, by rw [setCell_block _ _ _ _ ht]; simp⟩
    · rw [List.getElem?_set_ne hij] at hj
      obtain ⟨t, ht⟩ := h.mem.at_ _ (mem_of_get hj)
      exact ⟨t, by rw [hother _ (Nodup.get_ne h.mem.nodup hj hM (Ne.symm hij))]; exact ht⟩
  · have : (M.set i (b, cs.set o v)).map (·.1) = M.map (·.1) := by
      rw [List.map_set]
      refine List.ext_getElem? fun j => ?_
      by_cases hij : i = j
      · subst hij
        rw [List.getElem?_set_self (by simpa using hi)]
        simp [hM]
      · rw [List.getElem?_set_ne hij]
    rw [this]
    exact h.mem.nodup
end Go.Proofs.Ytcnhmbjkippnnaa
