/- The walk by lemmas: a frame known by its slots, a memory known by its own blocks, one lemma an operation. Conditions: none. -/
import Derived.WalkKit
import Derived.Below
import Derived.Laws.AppendOwn
import Derived.Test.YtcnhmbjkippnnaaQ
namespace Go.Proofs.Ytcnhmbjkippnnaa
open Go Go.RowKit

/-! ### What is known of a frame -/
def lk : List (Nat × Value) → Nat → Option Value
  | [], _ => none
  | (k, v) :: r, n => if Nat.beq k n then some v else lk r n

structure Fr (n : Nat) (ds : List Deferred) (F : List (Nat × Value)) (a : Act) : Prop where
  size : a.tmps.size = n
  defers : a.defers = ds
  slots : ∀ k v, lk F k = some v → a.tmps[k]? = some v

def opv (F : List (Nat × Value)) : Operand → Option Value
  | .tmp t => lk F t
  | .const v => some v
  | .func f => some (.func (.func f) #[] #[])
  | .global g => some (.pointer (some ⟨g, 0, none⟩))

theorem Fr.getD {n ds F a} (h : Fr n ds F a) {k v} (hk : lk F k = some v) : a.tmps.getD k undef = v := by
  have := h.slots k v hk
  simp [Array.getD_eq_getD_getElem?, this]

theorem Fr.eval {n ds F a} (h : Fr n ds F a) {x v} (hx : opv F x = some v) : a.eval x = v := by
  cases x with
  | tmp t => exact h.getD hx
  | const c => simp [opv] at hx; subst hx; rfl
  | func f => simp [opv] at hx; subst hx; rfl
  | global g => simp [opv] at hx; subst hx; rfl

theorem lk_cons_eq (k : Nat) (v : Value) (F) : lk ((k, v) :: F) k = some v := by simp [lk]
theorem lk_cons_ne {k j : Nat} (h : k ≠ j) (v : Value) (F) : lk ((k, v) :: F) j = lk F j := by
  have : Nat.beq k j = false := by cases hb : Nat.beq k j with | false => rfl | true => exact absurd (Nat.eq_of_beq_eq_true hb) h
  simp [lk, this]

theorem Fr.put {n ds F a} (h : Fr n ds F a) {d : Nat} (hd : d < n) (v : Value) : Fr n ds ((d, v) :: F) (a.put (some d) v) := by
  refine ⟨by simp [Act.put, h.size], by simp [Act.put, h.defers], fun k u hk => ?_⟩
  by_cases hkd : d = k
  · subst hkd
    rw [lk_cons_eq] at hk
    simp only [Option.some.injEq] at hk
    subst hk
    simp only [Act.put]
    rw [Array.getElem?_setIfInBounds_self_of_lt (by rw [h.size]; exact hd)]
  · rw [lk_cons_ne hkd] at hk
    simp only [Act.put]
    rw [Array.getElem?_setIfInBounds_ne hkd]
    exact h.slots k u hk

theorem Fr.none {n ds F a} (h : Fr n ds F a) (v : Value) : Fr n ds F (a.put none v) := h

theorem Fr.sub {n ds F F' a} (h : Fr n ds F a) (hs : ∀ k v, lk F' k = some v → lk F k = some v) : Fr n ds F' a := ⟨h.size, h.defers, fun k v hk => h.slots k v (hs k v hk)⟩

/-! ### What is known of the world -/
/-- Nothing that was there has turned, but for the blocks of X. -/
structure Frm (X : List Nat) (w0 w : World) : Prop where
  os : w.os = w0.os
  tape : w.tape = w0.tape
  output : w.output = w0.output
  size : w0.heap.size ≤ w.heap.size
  block : ∀ k, k < w0.heap.size → k ∉ X → w.heap[k]? = w0.heap[k]?

theorem Frm.refl (X : List Nat) (w : World) : Frm X w w := ⟨rfl, rfl, rfl, Nat.le_refl _, fun _ _ _ => rfl⟩
theorem Frm.below {w0 w : World} (h : Frm [] w0 w) : Below w0.heap.size w0 w := ⟨h.os, h.tape, h.output, h.size, fun k hk => h.block k hk (by simp)⟩
theorem Frm.of_below {X : List Nat} {w0 w w' : World} (h : Frm X w0 w) (hb : Below w.heap.size w w') : Frm X w0 w' :=
  ⟨hb.os.trans h.os, hb.tape.trans h.tape, hb.output.trans h.output, Nat.le_trans h.size hb.size,
   fun k hk hx => (hb.block k (Nat.lt_of_lt_of_le hk h.size)).trans (h.block k hk hx)⟩
theorem Frm.cell {X : List Nat} {w0 w : World} (h : Frm X w0 w) {b : Nat} (hb : b < w0.heap.size) (hx : b ∉ X) (o : Nat) : w.cell? ⟨b, o, none⟩ = w0.cell? ⟨b, o, none⟩ :=
  World.cell?_of_block (w := w0) (h.block b hb hx)

/-- A row of elements that the call owns: the slice value, its element type, cells an element, its length, its cells. -/
structure RowE where
  v : Value
  e : TypeId
  sz : Nat
  n : Nat
  xs : List Value

def RowE.blk (r : RowE) : List Nat := match r.v.ownBlock with | some g => [g] | none => []
def blks (M : List (Nat × List Value)) (Z : List RowE) : List Nat := M.map (·.1) ++ Z.flatMap RowE.blk

/-- The blocks that are the call's own (or lent to it: X), whole; and its rows. -/
structure Mem (X : List Nat) (w0 : World) (M : List (Nat × List Value)) (Z : List RowE) (w : World) : Prop where
  own : ∀ g ∈ blks M Z, g ∈ X ∨ w0.heap.size ≤ g
  at_ : ∀ p ∈ M, ∃ t, w.heap[p.1]? = some (.cells p.2.toArray t (0, 0))
  rows : ∀ r ∈ Z, w.ownsRow 0 r.e r.sz r.v r.n r.xs
  nodup : (blks M Z).Nodup

structure Stw (X : List Nat) (w0 : World) (M : List (Nat × List Value)) (Z : List RowE) (w : World) : Prop where
  frm : Frm X w0 w
  mem : Mem X w0 M Z w

theorem Mem.nil {X w0 w} : Mem X w0 [] [] w := ⟨by simp [blks], by simp, by simp, by simp [blks]⟩
theorem Stw.start (w : World) : Stw [] w [] [] w := ⟨Frm.refl _ _, Mem.nil⟩

theorem mem_of_get {α : Type} {l : List α} {i : Nat} {x : α} (h : l[i]? = some x) : x ∈ l := List.mem_of_getElem? h

section
variable {X : List Nat} {w0 w w' : World} {M : List (Nat × List Value)} {Z : List RowE}

theorem owns_lt {w : World} {e : TypeId} {sz n : Nat} {v : Value} {xs : List Value} (h : w.ownsRow 0 e sz v n xs) {g : Nat} (hg : v.ownBlock = some g) : g < w.heap.size := (h.lt g hg).2
theorem owns_keep {w w' : World} {e : TypeId} {sz n : Nat} {v : Value} {xs : List Value} (h : w.ownsRow 0 e sz v n xs) (hk : ∀ g, v.ownBlock = some g → w'.heap[g]? = w.heap[g]?) : w'.ownsRow 0 e sz v n xs := by
  obtain ⟨h1, h2⟩ := h
  refine ⟨h1, ?_⟩
  rcases h2 with h2 | ⟨g, cap, cur, rfl, hb, hh, r⟩
  · exact .inl h2
  · exact .inr ⟨g, cap, cur, rfl, hb, by rw [hk g rfl]; exact hh, r⟩

theorem blk_mem {r : RowE} {g : Nat} : g ∈ r.blk ↔ r.v.ownBlock = some g := by
  unfold RowE.blk; cases h : r.v.ownBlock <;> simp [eq_comm]

theorem Mem.cell (h : Mem X w0 M Z w) {i b : Nat} {cs : List Value} (hM : M[i]? = some (b, cs)) (o : Nat) : w.cell? ⟨b, o, none⟩ = cs[o]? := by
  obtain ⟨t, ht⟩ := h.at_ _ (mem_of_get hM)
  simp [World.cell?, ht]
theorem Mem.frozen (h : Mem X w0 M Z w) {i b : Nat} {cs : List Value} (hM : M[i]? = some (b, cs)) (o : Nat) : w.frozen? ⟨b, o, none⟩ = false := by
  obtain ⟨t, ht⟩ := h.at_ _ (mem_of_get hM)
  simp [World.frozen?, ht]
theorem Mem.lt (h : Mem X w0 M Z w) {i b : Nat} {cs : List Value} (hM : M[i]? = some (b, cs)) : b < w.heap.size := by
  obtain ⟨t, ht⟩ := h.at_ _ (mem_of_get hM)
  exact (Array.getElem?_eq_some_iff.1 ht).1
theorem Mem.lt_all (h : Mem X w0 M Z w) {g : Nat} (hg : g ∈ blks M Z) : g < w.heap.size := by
  rcases List.mem_append.1 hg with hg | hg
  · obtain ⟨p, hp, rfl⟩ := List.mem_map.1 hg
    obtain ⟨t, ht⟩ := h.at_ p hp
    exact (Array.getElem?_eq_some_iff.1 ht).1
  · obtain ⟨r, hr, hb⟩ := List.mem_flatMap.1 hg
    exact owns_lt (h.rows r hr) (blk_mem.1 hb)

/-- What keeps the blocks that are known keeps what is known. -/
theorem Stw.keep (h : Stw X w0 M Z w) (hf : Frm X w0 w') (hk : ∀ g ∈ blks M Z, w'.heap[g]? = w.heap[g]?) : Stw X w0 M Z w' := by
  refine ⟨hf, ⟨h.mem.own, fun p hp => ?_, fun r hr => ?_, h.mem.nodup⟩⟩
  · obtain ⟨t, ht⟩ := h.mem.at_ p hp
    exact ⟨t, by rw [hk p.1 (List.mem_append_left _ (List.mem_map.2 ⟨p, hp, rfl⟩))]; exact ht⟩
  · exact owns_keep (h.mem.rows r hr) fun g hg => hk g (List.mem_append_right _ (List.mem_flatMap.2 ⟨r, hr, blk_mem.2 hg⟩))

theorem Stw.below (h : Stw X w0 M Z w) (hb : Below w.heap.size w w') : Stw X w0 M Z w' :=
  h.keep (h.frm.of_below hb) fun g hg => hb.block g (h.mem.lt_all hg)

theorem Stw.drew (h : Stw X w0 M Z w) : Stw X w0 M Z { w with drawn := w.drawn + 1 } := h.below ⟨rfl, rfl, rfl, Nat.le_refl _, fun _ _ => rfl⟩

/-- A new block. -/
theorem Stw.alloc (h : Stw X w0 M Z w) (cs : List Value) (t : TypeId) : Stw X w0 ((w.heap.size, cs) :: M) Z (w.alloc (.cells cs.toArray t)) := by
  have hb : Below w.heap.size w (w.alloc (.cells cs.toArray t)) := (Below.refl _ _).alloc (Nat.le_refl _) _
  have h' := h.below hb
  refine ⟨h'.frm, ⟨fun g hg => ?_, fun p hp => ?_, h'.mem.rows, ?_⟩⟩
  · rcases List.mem_cons.1 (show g ∈ w.heap.size :: blks M Z from hg) with rfl | hg
    · exact .inr h.frm.size
    · exact h.mem.own g hg
  · rcases List.mem_cons.1 hp with rfl | hp
    · exact ⟨t, by show (w.heap.push _)[w.heap.size]? = _; simp⟩
    · exact h'.mem.at_ p hp
  · show (w.heap.size :: blks M Z).Nodup
    rw [List.nodup_cons]
    exact ⟨fun hm => Nat.lt_irrefl _ (h.mem.lt_all hm), h.mem.nodup⟩

theorem Nodup.get_ne {l : List (Nat × List Value)} (hn : (l.map (·.1)).Nodup) {i j : Nat} {p q : Nat × List Value} (hi : l[i]? = some p) (hj : l[j]? = some q) (hij : i ≠ j) : p.1 ≠ q.1 := by
  intro he
  have h1 : (l.map (·.1))[i]? = some p.1 := by simp [hi]
  have h2 : (l.map (·.1))[j]? = some q.1 := by simp [hj]
  have hi' : i < (l.map (·.1)).length := (List.getElem?_eq_some_iff.1 h1).1
  have hj' : j < (l.map (·.1)).length := (List.getElem?_eq_some_iff.1 h2).1
  have e1 := (List.getElem?_eq_some_iff.1 h1).2
  have e2 := (List.getElem?_eq_some_iff.1 h2).2
  rcases Nat.lt_or_gt_of_ne hij with hlt | hlt
  · exact List.pairwise_iff_getElem.1 hn i j hi' hj' hlt (by rw [e1, e2, he])
  · exact List.pairwise_iff_getElem.1 hn j i hj' hi' hlt (by rw [e1, e2, he])

theorem setCell_block (w : World) (b o : Nat) (v : Value) {cs : Array Value} {t : TypeId} (h : w.heap[b]? = some (.cells cs t (0, 0))) : (w.setCell ⟨b, o, none⟩ v).heap[b]? = some (.cells (cs.setIfInBounds o v) t (0, 0)) := by
  simp only [World.setCell, Array.getElem?_modify, if_pos, h, Option.map_some]
  simp

theorem map_set_same {M : List (Nat × List Value)} {i b : Nat} {cs cs' : List Value} (hM : M[i]? = some (b, cs)) : (M.set i (b, cs')).map (·.1) = M.map (·.1) := by
  rw [List.map_set]
  refine List.ext_getElem? fun j => ?_
  by_cases hij : i = j
  · subst hij
    rw [List.getElem?_set_self (by simpa using (List.getElem?_eq_some_iff.1 hM).1)]
    simp [hM]
  · rw [List.getElem?_set_ne hij]

theorem Frm.setCell (h : Frm X w0 w) {b : Nat} (hown : b ∈ X ∨ w0.heap.size ≤ b) (o : Nat) (v : Value) : Frm X w0 (w.setCell ⟨b, o, none⟩ v) := by
  refine ⟨h.os, h.tape, h.output, by simpa [World.setCell] using h.size, fun k hk hx => ?_⟩
  have hkb : k ≠ b := by
    rintro rfl
    rcases hown with h1 | h1
    · exact hx h1
    · omega
  rw [Below.heap_setCell _ _ _ _ hkb]
  exact h.block k hk hx

/-- A store into a cell of an own block. -/
theorem Stw.setCell (h : Stw X w0 M Z w) {i b : Nat} {cs : List Value} (hM : M[i]? = some (b, cs)) (o : Nat) (v : Value) :
    Stw X w0 (M.set i (b, cs.set o v)) Z (w.setCell ⟨b, o, none⟩ v) := by
  have hbm : b ∈ blks M Z := List.mem_append_left _ (List.mem_map.2 ⟨_, mem_of_get hM, rfl⟩)
  have hi : i < M.length := (List.getElem?_eq_some_iff.1 hM).1
  have hother : ∀ k, k ≠ b → (w.setCell ⟨b, o, none⟩ v).heap[k]? = w.heap[k]? := fun k hk => Below.heap_setCell _ _ _ _ hk
  have hbl : blks (M.set i (b, cs.set o v)) Z = blks M Z := by unfold blks; rw [map_set_same hM]
  have hnd := List.nodup_append.1 h.mem.nodup
  refine ⟨h.frm.setCell (h.mem.own b hbm) o v, ⟨by rw [hbl]; exact h.mem.own, fun p hp => ?_, fun r hr => ?_, by rw [hbl]; exact h.mem.nodup⟩⟩
  · obtain ⟨j, hj⟩ := List.mem_iff_getElem?.1 hp
    by_cases hij : i = j
    · subst hij
      rw [List.getElem?_set_self hi] at hj
      cases hj
      obtain ⟨t, ht⟩ := h.mem.at_ _ (mem_of_get hM)
      exact ⟨t, by rw [setCell_block _ _ _ _ ht]; simp⟩
    · rw [List.getElem?_set_ne hij] at hj
      obtain ⟨t, ht⟩ := h.mem.at_ _ (mem_of_get hj)
      exact ⟨t, by rw [hother _ (Nodup.get_ne hnd.1 hj hM (Ne.symm hij))]; exact ht⟩
  · refine owns_keep (h.mem.rows r hr) fun g hg => hother g ?_
    rintro rfl
    exact hnd.2.2 g (List.mem_map.2 ⟨_, mem_of_get hM, rfl⟩) g (List.mem_flatMap.2 ⟨r, hr, blk_mem.2 hg⟩) rfl
end
end Go.Proofs.Ytcnhmbjkippnnaa
