/- The walk by lemmas: a frame known by its slots, a memory known by its own blocks and by items, one lemma an operation. Conditions: none. -/
import Derived.WalkKit
import Derived.Below
import Derived.Laws.AppendOwn
import Derived.Test.YtmbjfpacaenbhaaGreatQ
namespace Go.Proofs.YtmbjfpacaenbhaaGreat
set_option linter.unusedVariables false
set_option linter.unusedSimpArgs false
open Go Go.RowKit

/-! ### What is known of a frame -/
def lk : List (Nat × Value) → Nat → Option Value
  | [], _ => none
  | (k, v) :: r, n => if Nat.beq k n then some v else lk r n

structure Fr (n : Nat) (ds : List Deferred) (F : List (Nat × Value)) (a : Act) : Prop where
  size : a.tmps.size = n
  defers : a.defers = ds
  slots : ∀ k v, lk F k = some v → a.tmps[k]? = some v

def opv (F : List (Nat × Value)) : Operand → Option Value
  | .tmp t => lk F t
  | .const v => some v
  | .func f => some (.func (.func f) #[] #[])
  | .global g => some (.pointer (some ⟨g, 0, none⟩))

theorem Fr.getD {n ds F a} (h : Fr n ds F a) {k v} (hk : lk F k = some v) : a.tmps.getD k undef = v := by
  have := h.slots k v hk
  simp [Array.getD_eq_getD_getElem?, this]

theorem Fr.eval {n ds F a} (h : Fr n ds F a) {x v} (hx : opv F x = some v) : a.eval x = v := by
  cases x with
  | tmp t => exact h.getD hx
  | const c => simp [opv] at hx; subst hx; rfl
  | func f => simp [opv] at hx; subst hx; rfl
  | global g => simp [opv] at hx; subst hx; rfl

theorem lk_cons_eq (k : Nat) (v : Value) (F) : lk ((k, v) :: F) k = some v := by simp [lk]
theorem lk_cons_ne {k j : Nat} (h : k ≠ j) (v : Value) (F) : lk ((k, v) :: F) j = lk F j := by
  have : Nat.beq k j = false := by cases hb : Nat.beq k j with | false => rfl | true => exact absurd (Nat.eq_of_beq_eq_true hb) h
  simp [lk, this]

theorem Fr.put {n ds F a} (h : Fr n ds F a) {d : Nat} (hd : d < n) (v : Value) : Fr n ds ((d, v) :: F) (a.put (some d) v) := by
  refine ⟨by simp [Act.put, h.size], by simp [Act.put, h.defers], fun k u hk => ?_⟩
  by_cases hkd : d = k
  · subst hkd
    rw [lk_cons_eq] at hk
    simp only [Option.some.injEq] at hk
    subst hk
    simp only [Act.put]
    rw [Array.getElem?_setIfInBounds_self_of_lt (by rw [h.size]; exact hd)]
  · rw [lk_cons_ne hkd] at hk
    simp only [Act.put]
    rw [Array.getElem?_setIfInBounds_ne hkd]
    exact h.slots k u hk

theorem Fr.none {n ds F a} (h : Fr n ds F a) (v : Value) : Fr n ds F (a.put none v) := h

theorem Fr.sub {n ds F F' a} (h : Fr n ds F a) (hs : ∀ k v, lk F' k = some v → lk F k = some v) : Fr n ds F' a := ⟨h.size, h.defers, fun k v hk => h.slots k v (hs k v hk)⟩

/-! ### How values lie in cells -/
abbrev Blks := List (Nat × List Value)
abbrev Keeps (w w' : World) (A A' : Nat → Prop) : Prop := ∀ b, A b → b < w.heap.size → A' b ∧ w'.heap[b]? = w.heap[b]?

structure Rp (α : Type) where
  sz : Nat
  rep : World → (Nat → Prop) → List Value → α → Prop
  len : ∀ {w A cs a}, rep w A cs a → cs.length = sz
  one : ∀ {w A cs a}, rep w A cs a → cs.all (·.oneCell') = true
  stab : ∀ {w w' A A' cs a}, rep w A cs a → Keeps w w' A A' → rep w' A' cs a

def Rp.int (k : IntKind) : Rp Int := ⟨1, fun _ _ cs a => cs = [.int k a], fun h => by subst h; rfl, fun h => by subst h; rfl, fun h _ => h⟩
def Rp.bool : Rp Bool := ⟨1, fun _ _ cs a => cs = [.bool a], fun h => by subst h; rfl, fun h => by subst h; rfl, fun h _ => h⟩
abbrev bs (l : List UInt8) : ByteArray := ⟨l.toArray⟩
def Rp.str : Rp (List UInt8) := ⟨1, fun _ _ cs a => cs = [.string (bs a)], fun h => by subst h; rfl, fun h => by subst h; rfl, fun h _ => h⟩
def Rp.flt (k : FloatKind) : Rp Nat := ⟨1, fun _ _ cs a => cs = [.float k a], fun h => by subst h; rfl, fun h => by subst h; rfl, fun h _ => h⟩
def Rp.unit : Rp Unit := ⟨0, fun _ _ cs _ => cs = [], fun h => by subst h; rfl, fun h => by subst h; rfl, fun h _ => h⟩
def Rp.pair {α β : Type} (r : Rp α) (s : Rp β) : Rp (α × β) :=
  ⟨r.sz + s.sz, fun w A cs a => ∃ c1 c2, cs = c1 ++ c2 ∧ r.rep w A c1 a.1 ∧ s.rep w A c2 a.2,
   fun ⟨c1, c2, h, h1, h2⟩ => by subst h; rw [List.length_append, r.len h1, s.len h2],
   fun ⟨c1, c2, h, h1, h2⟩ => by subst h; rw [List.all_append, r.one h1, s.one h2]; rfl,
   fun ⟨c1, c2, h, h1, h2⟩ hk => ⟨c1, c2, h, r.stab h1 hk, s.stab h2 hk⟩⟩

def RepL {α : Type} (r : Rp α) (w : World) (A : Nat → Prop) : List Value → List α → Prop
  | xs, [] => xs = []
  | xs, x :: l => ∃ cs ys, xs = cs ++ ys ∧ r.rep w A cs x ∧ RepL r w A ys l

section
variable {α : Type} {r : Rp α} {w w' : World} {A A' : Nat → Prop}
theorem RepL.len : ∀ {l : List α} {xs : List Value}, RepL r w A xs l → xs.length = l.length * r.sz
  | [], xs, h => by rw [show xs = [] from h]; simp
  | x :: l, xs, ⟨cs, ys, he, h1, h2⟩ => by subst he; rw [List.length_append, r.len h1, RepL.len h2, List.length_cons, Nat.add_mul]; omega
theorem RepL.one : ∀ {l : List α} {xs : List Value}, RepL r w A xs l → xs.all (·.oneCell') = true
  | [], xs, h => by rw [show xs = [] from h]; simp
  | x :: l, xs, ⟨cs, ys, he, h1, h2⟩ => by subst he; rw [List.all_append, r.one h1, RepL.one h2]; rfl
theorem RepL.stab (hk : Keeps w w' A A') : ∀ {l : List α} {xs : List Value}, RepL r w A xs l → RepL r w' A' xs l
  | [], xs, h => h
  | x :: l, xs, ⟨cs, ys, he, h1, h2⟩ => ⟨cs, ys, he, r.stab h1 hk, RepL.stab hk h2⟩
theorem RepL.append : ∀ {l m : List α} {xs ys : List Value}, RepL r w A xs l → RepL r w A ys m → RepL r w A (xs ++ ys) (l ++ m)
  | [], m, xs, ys, h, h' => by rw [show xs = [] from h]; exact h'
  | x :: l, m, xs, ys, ⟨cs, zs, he, h1, h2⟩, h' => by subst he; exact ⟨cs, zs ++ ys, by simp, h1, RepL.append h2 h'⟩
theorem RepL.single {x : α} {cs : List Value} (h : r.rep w A cs x) : RepL r w A cs [x] := ⟨cs, [], by simp, h, rfl⟩
theorem RepL.take : ∀ {l : List α} {xs : List Value} (k : Nat), RepL r w A xs l → RepL r w A (xs.take (k * r.sz)) (l.take k)
  | [], xs, k, h => by rw [show xs = [] from h]; simp [RepL]
  | x :: l, xs, 0, h => by simp [RepL]
  | x :: l, xs, k + 1, ⟨cs, ys, he, h1, h2⟩ => by
    subst he
    refine ⟨cs, ys.take (k * r.sz), ?_, h1, RepL.take k h2⟩
    rw [List.take_append, r.len h1, show (k + 1) * r.sz - r.sz = k * r.sz by rw [Nat.add_mul]; omega, List.take_of_length_le (by rw [r.len h1, Nat.add_mul]; omega)]
theorem RepL.drop : ∀ {l : List α} {xs : List Value} (k : Nat), RepL r w A xs l → RepL r w A (xs.drop (k * r.sz)) (l.drop k)
  | [], xs, k, h => by rw [show xs = [] from h]; simp [RepL]
  | x :: l, xs, 0, h => by simpa using h
  | x :: l, xs, k + 1, ⟨cs, ys, he, h1, h2⟩ => by
    subst he
    have ih := RepL.drop k h2
    rw [List.drop_append, r.len h1, show (k + 1) * r.sz - r.sz = k * r.sz by rw [Nat.add_mul]; omega, List.drop_eq_nil_of_le (as := cs) (by rw [r.len h1, Nat.add_mul]; omega)]
    simpa using ih
/-- The cells of element number k. -/
theorem RepL.get : ∀ {l : List α} {xs : List Value} {k : Nat} {x : α}, RepL r w A xs l → l[k]? = some x → ∃ cs, r.rep w A cs x ∧ ∀ j u, cs[j]? = some u → xs[k * r.sz + j]? = some u
  | [], xs, k, x, h, hx => by simp at hx
  | y :: l, xs, 0, x, ⟨cs, ys, he, h1, h2⟩, hx => by
    simp at hx; subst hx he
    refine ⟨cs, h1, fun j u hu => ?_⟩
    rw [Nat.zero_mul, Nat.zero_add, List.getElem?_append_left (List.getElem?_eq_some_iff.1 hu).1]; exact hu
  | y :: l, xs, k + 1, x, ⟨cs, ys, he, h1, h2⟩, hx => by
    simp at hx
    subst he
    obtain ⟨cs', h3, h4⟩ := RepL.get h2 hx
    refine ⟨cs', h3, fun j u hu => ?_⟩
    have := h4 j u hu
    rw [List.getElem?_append_right (by rw [r.len h1, Nat.add_mul]; omega), r.len h1, show (k + 1) * r.sz + j - r.sz = k * r.sz + j by rw [Nat.add_mul]; omega]
    exact this
theorem RepL.set : ∀ {l : List α} {xs : List Value} {k : Nat} {x : α} {cs' : List Value}, RepL r w A xs l → k < l.length → r.rep w A cs' x → RepL r w A (xs.take (k * r.sz) ++ cs' ++ xs.drop (k * r.sz + r.sz)) (l.set k x)
  | [], xs, k, x, cs', h, hk, hx => by simp at hk
  | y :: l, xs, 0, x, cs', ⟨cs, ys, he, h1, h2⟩, hk, hx => by
    subst he
    refine ⟨cs', ys, ?_, hx, h2⟩
    rw [Nat.zero_mul, Nat.zero_add, List.take_zero, ← r.len h1, List.drop_left]; simp
  | y :: l, xs, k + 1, x, cs', ⟨cs, ys, he, h1, h2⟩, hk, hx => by
    subst he
    have ih := RepL.set h2 (by simpa using hk) hx
    refine ⟨cs, _, ?_, h1, ih⟩
    have e1 : (k + 1) * r.sz - cs.length = k * r.sz := by rw [r.len h1, Nat.add_mul]; omega
    have e2 : (k + 1) * r.sz + r.sz - cs.length = k * r.sz + r.sz := by rw [r.len h1, Nat.add_mul]; omega
    have e3 : cs.length ≤ (k + 1) * r.sz := by rw [r.len h1, Nat.add_mul]; omega
    rw [List.take_append, List.take_of_length_le e3, e1, List.drop_append, e2, List.drop_eq_nil_of_le (as := cs) (by omega)]
    simp
end

/-- A slice that can be read: it holds the elements of l. -/
def Sl {α : Type} (w : World) (A : Nat → Prop) (r : Rp α) (v : Value) (l : List α) : Prop :=
  (∃ ad cap, v = .slice ad 0 cap ∧ l = []) ∨ ∃ b off cap xs, v = .slice (some ⟨b, off, none⟩) l.length cap ∧ l.length ≤ cap ∧ A b ∧ b < w.heap.size ∧ (∀ j u, xs[j]? = some u → w.cell? ⟨b, off + j, none⟩ = some u) ∧ RepL r w A xs l

theorem cell_same {w w' : World} {b o : Nat} (h : w'.heap[b]? = w.heap[b]?) : w'.cell? ⟨b, o, none⟩ = w.cell? ⟨b, o, none⟩ := World.cell?_of_block (w := w) h

theorem Sl.stab {α : Type} {r : Rp α} {w w' : World} {A A' : Nat → Prop} {v : Value} {l : List α} (h : Sl w A r v l) (hk : Keeps w w' A A') : Sl w' A' r v l := by
  rcases h with h | ⟨b, off, cap, xs, hv, hc, hA, hb, hx, hr⟩
  · exact .inl h
  · have h2 := hk b hA hb
    refine .inr ⟨b, off, cap, xs, hv, hc, h2.1, ?_, fun j u hu => ?_, hr.stab hk⟩
    · have : (w.heap[b]?).isSome := by simp [hb]
      rw [← h2.2] at this
      simpa using this
    · rw [cell_same h2.2]; exact hx j u hu
theorem Sl.one {α : Type} {r : Rp α} {w : World} {A : Nat → Prop} {v : Value} {l : List α} (h : Sl w A r v l) : v.oneCell' = true := by
  rcases h with ⟨ad, cap, h, _⟩ | ⟨b, off, cap, xs, hv, _⟩
  · rw [h]; rfl
  · rw [hv]; rfl
def Rp.slice {α : Type} (r : Rp α) : Rp (List α) :=
  ⟨1, fun w A cs l => ∃ v, cs = [v] ∧ Sl w A r v l, fun ⟨v, h, _⟩ => by subst h; rfl, fun ⟨v, h, h1⟩ => by subst h; simp [h1.one], fun ⟨v, h, h1⟩ hk => ⟨v, h, h1.stab hk⟩⟩
def Rp.arr {α : Type} (n : Nat) (r : Rp α) : Rp (List α) :=
  ⟨n * r.sz, fun w A cs l => l.length = n ∧ RepL r w A cs l, fun ⟨hn, h⟩ => by rw [h.len, hn], fun ⟨_, h⟩ => h.one, fun ⟨hn, h⟩ hk => ⟨hn, h.stab hk⟩⟩
def Rp.raw : Rp Value := ⟨1, fun _ _ cs a => cs = [a] ∧ a.oneCell' = true, fun ⟨h, _⟩ => by subst h; rfl, fun ⟨h, h1⟩ => by subst h; simp [h1], fun h _ => h⟩

abbrev any : Nat → Prop := fun _ => True
theorem Sl.any {α : Type} {r : Rp α} {w : World} {A : Nat → Prop} {v : Value} {l : List α} (h : Sl w A r v l) : Sl w any r v l := h.stab fun _ _ _ => ⟨trivial, rfl⟩
theorem Sl.nil {α : Type} {r : Rp α} {w : World} {A : Nat → Prop} : Sl w A r (.slice none 0 0) ([] : List α) := .inl ⟨none, 0, rfl, rfl⟩

/-- The block that a slice of some capacity lies in. -/
def ownB : Value → Option Nat
  | .slice (some a) _ c => if c = 0 then none else some a.block
  | _ => none
theorem ownB_zero (ad : Option Addr) (n : Nat) : ownB (.slice ad n 0) = none := by cases ad <;> rfl
theorem ownB_pos {a : Addr} {n c : Nat} (h : 0 < c) : ownB (.slice (some a) n c) = some a.block := by
  show (if c = 0 then none else some a.block) = _
  rw [if_neg (by omega)]
/-- A slice whose memory is one's own. -/
def Own {α : Type} (w : World) (A : Nat → Prop) (e : TypeId) (r : Rp α) (v : Value) (l : List α) : Prop :=
  (∃ ad, v = .slice ad 0 0 ∧ l = []) ∨ ∃ g off cap cur xs, v = .slice (some ⟨g, off, none⟩) l.length cap ∧ 0 < cap ∧ w.heap[g]? = some (.cells cur e (0, 0)) ∧ l.length ≤ cap ∧ cap ≤ maxLen ∧ off + cap * r.sz ≤ cur.size ∧ (cur.toList.drop off).take (l.length * r.sz) = xs ∧ RepL r w A xs l

theorem Own.lt {α : Type} {w : World} {A : Nat → Prop} {e : TypeId} {r : Rp α} {v : Value} {l : List α} (h : Own w A e r v l) {g : Nat} (hg : ownB v = some g) : g < w.heap.size := by
  rcases h with ⟨ad, rfl, _⟩ | ⟨b, off, cap, cur, xs, rfl, hp, hb, _⟩
  · rw [ownB_zero] at hg; cases hg
  · rw [ownB_pos hp] at hg; cases hg; exact (Array.getElem?_eq_some_iff.1 hb).1
theorem Own.stab {α : Type} {w w' : World} {A A' : Nat → Prop} {e : TypeId} {r : Rp α} {v : Value} {l : List α} (h : Own w A e r v l) (hk : Keeps w w' A A') (hg : ∀ g, ownB v = some g → w'.heap[g]? = w.heap[g]?) : Own w' A' e r v l := by
  rcases h with h | ⟨b, off, cap, cur, xs, rfl, hp, hb, h1, h2, h3, h4, h5⟩
  · exact .inl h
  · exact .inr ⟨b, off, cap, cur, xs, rfl, hp, by rw [hg b (ownB_pos hp)]; exact hb, h1, h2, h3, h4, h5.stab hk⟩
theorem Own.one {α : Type} {w : World} {A : Nat → Prop} {e : TypeId} {r : Rp α} {v : Value} {l : List α} (h : Own w A e r v l) : v.oneCell' = true := by
  rcases h with ⟨ad, h, _⟩ | ⟨b, off, cap, cur, xs, h, _⟩ <;> rw [h] <;> rfl
/-- What is one's own can be read. -/
theorem Own.sl {α : Type} {w : World} {A A' : Nat → Prop} {e : TypeId} {r : Rp α} {v : Value} {l : List α} (h : Own w A e r v l) (hA : ∀ b, A b → A' b) (hg : ∀ g, ownB v = some g → A' g) : Sl w A' r v l := by
  rcases h with ⟨ad, h⟩ | ⟨b, off, cap, cur, xs, rfl, hp, hb, h1, h2, h3, h4, h5⟩
  · exact .inl ⟨ad, 0, h.1, h.2⟩
  · refine .inr ⟨b, off, cap, xs, rfl, h1, hg b (ownB_pos hp), (Array.getElem?_eq_some_iff.1 hb).1, fun j u hu => ?_, h5.stab fun b hb _ => ⟨hA b hb, rfl⟩⟩
    rw [cell_of_row w b (off + j) cur e (0, 0) hb]
    rw [← h4, List.getElem?_take] at hu
    split at hu
    · simpa [List.getElem?_drop] using hu
    · cases hu

/-! ### What is known of the world -/
/-- Nothing that was there has turned, but for the blocks of X. -/
structure Frm (X : List Nat) (w0 w : World) : Prop where
  os : w.os = w0.os
  tape : w.tape = w0.tape
  output : w.output = w0.output
  size : w0.heap.size ≤ w.heap.size
  block : ∀ k, k < w0.heap.size → k ∉ X → w.heap[k]? = w0.heap[k]?

theorem Frm.refl (X : List Nat) (w : World) : Frm X w w := ⟨rfl, rfl, rfl, Nat.le_refl _, fun _ _ _ => rfl⟩
theorem Frm.below {w0 w : World} (h : Frm [] w0 w) : Below w0.heap.size w0 w := ⟨h.os, h.tape, h.output, h.size, fun k hk => h.block k hk (by simp)⟩
theorem Frm.of_below {X : List Nat} {w0 w w' : World} (h : Frm X w0 w) (hb : Below w.heap.size w w') : Frm X w0 w' :=
  ⟨hb.os.trans h.os, hb.tape.trans h.tape, hb.output.trans h.output, Nat.le_trans h.size hb.size,
   fun k hk hx => (hb.block k (Nat.lt_of_lt_of_le hk h.size)).trans (h.block k hk hx)⟩

/-- The block that a slice value refers to, if any. -/
def own1 (v : Value) : List Nat := match v.ownBlock with | some g => [g] | none => []
theorem mem_own1 {v : Value} {g : Nat} : g ∈ own1 v ↔ v.ownBlock = some g := by unfold own1; cases h : v.ownBlock <;> simp [eq_comm]
theorem own1_nodup (v : Value) : (own1 v).Nodup := by unfold own1; split <;> simp
def ownE (v : Value) : List Nat := match ownB v with | some g => [g] | none => []
theorem mem_ownE {v : Value} {g : Nat} : g ∈ ownE v ↔ ownB v = some g := by unfold ownE; cases h : ownB v <;> simp [eq_comm]
theorem ownE_nodup (v : Value) : (ownE v).Nodup := by unfold ownE; split <;> simp
theorem ownE_zero (ad : Option Addr) (n : Nat) : ownE (.slice ad n 0) = [] := by unfold ownE; rw [ownB_zero]
theorem ownE_pos {a : Addr} {n c : Nat} (h : 0 < c) : ownE (.slice (some a) n c) = [a.block] := by unfold ownE; rw [ownB_pos h]
/-- Something that is known of memory: the blocks that may be written; and what holds while the blocks of a set rest. -/
structure It where
  bl : List Nat
  ok : World → (Nat → Prop) → Prop
  stab : ∀ {w w' A A'}, ok w A → Keeps w w' A A' → (∀ g ∈ bl, w'.heap[g]? = w.heap[g]?) → ok w' A'
  lt : ∀ {w A}, ok w A → ∀ g ∈ bl, g < w.heap.size
  nd : ∀ {w A}, ok w A → bl.Nodup

def row {α : Type} (v : Value) (e : TypeId) (r : Rp α) (l : List α) : It := ⟨ownE v, fun w A => Own w A e r v l, fun h hk hg => h.stab hk fun g hb => hg g (mem_ownE.2 hb), fun h _ hg => h.lt (mem_ownE.1 hg), fun _ => ownE_nodup v⟩
def frz {α : Type} (v : Value) (r : Rp α) (l : List α) : It := ⟨[], fun w A => Sl w A r v l, fun h hk _ => h.stab hk, fun _ _ hg => (by cases hg), fun _ => List.nodup_nil⟩

def blks (M : Blks) (Z : List It) : List Nat := M.map (·.1) ++ Z.flatMap It.bl

/-- The base: the blocks that may be read, those that are lent, the world of the beginning. -/
structure Bs where
  Y : Nat → Prop
  X : List Nat
  w0 : World

def Fz (B : Bs) (l : List Nat) : Nat → Prop := fun b => (B.Y b ∨ b ∈ B.X ∨ B.w0.heap.size ≤ b) ∧ b ∉ l

structure Stw (B : Bs) (M : Blks) (Z : List It) (w : World) : Prop where
  frm : Frm B.X B.w0 w
  own : ∀ g ∈ blks M Z, g ∈ B.X ∨ B.w0.heap.size ≤ g
  at_ : ∀ p ∈ M, ∃ t, w.heap[p.1]? = some (.cells p.2.toArray t (0, 0))
  items : ∀ z ∈ Z, z.ok w (Fz B (blks M Z))
  nodup : (blks M Z).Nodup
  disj : ∀ b ∈ B.X, ¬ B.Y b

theorem mem_of_get {α : Type} {l : List α} {i : Nat} {x : α} (h : l[i]? = some x) : x ∈ l := List.mem_of_getElem? h
theorem Stw.start (Y : Nat → Prop) (w : World) : Stw ⟨Y, [], w⟩ [] [] w := ⟨Frm.refl _ _, by simp [blks], by simp, by simp, by simp [blks], by simp⟩

section
variable {B : Bs} {w w' : World} {M M' : Blks} {Z Z' Z1 : List It}

theorem mem_blks_M {p : Nat × List Value} (h : p ∈ M) : p.1 ∈ blks M Z := List.mem_append_left _ (List.mem_map.2 ⟨p, h, rfl⟩)
theorem mem_blks_Z {z : It} (h : z ∈ Z) {g : Nat} (hg : g ∈ z.bl) : g ∈ blks M Z := List.mem_append_right _ (List.mem_flatMap.2 ⟨z, h, hg⟩)

theorem Stw.cell (h : Stw B M Z w) {i b : Nat} {cs : List Value} (hM : M[i]? = some (b, cs)) (o : Nat) : w.cell? ⟨b, o, none⟩ = cs[o]? := by
  obtain ⟨t, ht⟩ := h.at_ _ (mem_of_get hM)
  simp [World.cell?, ht]
theorem Stw.frozen (h : Stw B M Z w) {i b : Nat} {cs : List Value} (hM : M[i]? = some (b, cs)) (o : Nat) : w.frozen? ⟨b, o, none⟩ = false := by
  obtain ⟨t, ht⟩ := h.at_ _ (mem_of_get hM)
  simp [World.frozen?, ht]
theorem Stw.lt_all (h : Stw B M Z w) {g : Nat} (hg : g ∈ blks M Z) : g < w.heap.size := by
  rcases List.mem_append.1 hg with hg | hg
  · obtain ⟨p, hp, rfl⟩ := List.mem_map.1 hg
    obtain ⟨t, ht⟩ := h.at_ p hp
    exact (Array.getElem?_eq_some_iff.1 ht).1
  · obtain ⟨z, hz, hb⟩ := List.mem_flatMap.1 hg
    exact z.lt (h.items z hz) g hb

theorem Fz.mono {l l' : List Nat} {b : Nat} (h : Fz B l b) (hs : ∀ g ∈ l', g ∈ l) : Fz B l' b := ⟨h.1, fun hm => h.2 (hs b hm)⟩

/-- What keeps the blocks that are known, and all blocks that rest, keeps what is known. -/
theorem Stw.below (h : Stw B M Z w) (hb : Below w.heap.size w w') : Stw B M Z w' := by
  refine ⟨h.frm.of_below hb, h.own, fun p hp => ?_, fun z hz => ?_, h.nodup, h.disj⟩
  · obtain ⟨t, ht⟩ := h.at_ p hp
    exact ⟨t, by rw [hb.block p.1 (h.lt_all (mem_blks_M hp))]; exact ht⟩
  · exact z.stab (h.items z hz) (fun b hA hlt => ⟨hA, hb.block b hlt⟩) fun g hg => hb.block g (h.lt_all (mem_blks_Z hz hg))
theorem Stw.drew (h : Stw B M Z w) : Stw B M Z { w with drawn := w.drawn + 1 } := h.below ⟨rfl, rfl, rfl, Nat.le_refl _, fun _ _ => rfl⟩

/-- A new block. -/
theorem Stw.alloc (h : Stw B M Z w) (cs : List Value) (t : TypeId) : Stw B ((w.heap.size, cs) :: M) Z (w.alloc (.cells cs.toArray t)) := by
  have hb : Below w.heap.size w (w.alloc (.cells cs.toArray t)) := (Below.refl _ _).alloc (Nat.le_refl _) _
  have h' := h.below hb
  refine ⟨h'.frm, fun g hg => ?_, fun p hp => ?_, fun z hz => ?_, ?_, h.disj⟩
  · rcases List.mem_cons.1 (show g ∈ w.heap.size :: blks M Z from hg) with rfl | hg
    · exact .inr h.frm.size
    · exact h.own g hg
  · rcases List.mem_cons.1 hp with rfl | hp
    · exact ⟨t, by show (w.heap.push _)[w.heap.size]? = _; simp⟩
    · exact h'.at_ p hp
  · exact z.stab (h.items z hz) (fun b hA hlt => ⟨⟨hA.1, fun hm => by
      rcases List.mem_cons.1 (show b ∈ w.heap.size :: blks M Z from hm) with rfl | hm
      · exact Nat.lt_irrefl _ hlt
      · exact hA.2 hm⟩, hb.block b hlt⟩) fun g hg => hb.block g (h.lt_all (mem_blks_Z hz hg))
  · show (w.heap.size :: blks M Z).Nodup
    rw [List.nodup_cons]
    exact ⟨fun hm => Nat.lt_irrefl _ (h.lt_all hm), h.nodup⟩

theorem Nodup.get_ne {l : Blks} (hn : (l.map (·.1)).Nodup) {i j : Nat} {p q : Nat × List Value} (hi : l[i]? = some p) (hj : l[j]? = some q) (hij : i ≠ j) : p.1 ≠ q.1 := by
  intro he
  have h1 : (l.map (·.1))[i]? = some p.1 := by simp [hi]
  have h2 : (l.map (·.1))[j]? = some q.1 := by simp [hj]
  have hi' : i < (l.map (·.1)).length := (List.getElem?_eq_some_iff.1 h1).1
  have hj' : j < (l.map (·.1)).length := (List.getElem?_eq_some_iff.1 h2).1
  have e1 := (List.getElem?_eq_some_iff.1 h1).2
  have e2 := (List.getElem?_eq_some_iff.1 h2).2
  rcases Nat.lt_or_gt_of_ne hij with hlt | hlt
  · exact List.pairwise_iff_getElem.1 hn i j hi' hj' hlt (by rw [e1, e2, he])
  · exact List.pairwise_iff_getElem.1 hn j i hj' hi' hlt (by rw [e1, e2, he])

theorem setCell_block (w : World) (b o : Nat) (v : Value) {cs : Array Value} {t : TypeId} (h : w.heap[b]? = some (.cells cs t (0, 0))) : (w.setCell ⟨b, o, none⟩ v).heap[b]? = some (.cells (cs.setIfInBounds o v) t (0, 0)) := by
  simp only [World.setCell, Array.getElem?_modify, if_pos, h, Option.map_some]
  simp

theorem map_set_same {M : Blks} {i b : Nat} {cs cs' : List Value} (hM : M[i]? = some (b, cs)) : (M.set i (b, cs')).map (·.1) = M.map (·.1) := by
  rw [List.map_set]
  refine List.ext_getElem? fun j => ?_
  by_cases hij : i = j
  · subst hij
    rw [List.getElem?_set_self (by simpa using (List.getElem?_eq_some_iff.1 hM).1)]
    simp [hM]
  · rw [List.getElem?_set_ne hij]

/-- One block has been written. -/
structure One (b : Nat) (w w' : World) : Prop where
  os : w'.os = w.os
  tape : w'.tape = w.tape
  output : w'.output = w.output
  size : w.heap.size ≤ w'.heap.size
  block : ∀ k, k < w.heap.size → k ≠ b → w'.heap[k]? = w.heap[k]?
theorem One.setCell (w : World) (b o : Nat) (v : Value) : One b w (w.setCell ⟨b, o, none⟩ v) := ⟨rfl, rfl, rfl, by simp [World.setCell], fun k _ hk => Below.heap_setCell _ _ _ _ hk⟩
theorem One.trans {b : Nat} {u w w' : World} (h : One b u w) (h' : One b w w') : One b u w' := ⟨h'.os.trans h.os, h'.tape.trans h.tape, h'.output.trans h.output, Nat.le_trans h.size h'.size, fun k hk hb => (h'.block k (Nat.lt_of_lt_of_le hk h.size) hb).trans (h.block k hk hb)⟩
theorem One.refl (b : Nat) (w : World) : One b w w := ⟨rfl, rfl, rfl, Nat.le_refl _, fun _ _ _ => rfl⟩
theorem Frm.one {X : List Nat} {w0 : World} (h : Frm X w0 w) {b : Nat} (ho : One b w w') (hown : b ∈ X ∨ w0.heap.size ≤ b) : Frm X w0 w' := by
  refine ⟨ho.os.trans h.os, ho.tape.trans h.tape, ho.output.trans h.output, Nat.le_trans h.size ho.size, fun k hk hx => ?_⟩
  have hkb : k ≠ b := by
    rintro rfl
    rcases hown with h1 | h1
    · exact hx h1
    · omega
  rw [ho.block k (Nat.lt_of_lt_of_le hk h.size) hkb]
  exact h.block k hk hx

/-- An own block of M has been written. -/
theorem Stw.writeM (h : Stw B M Z w) {i b : Nat} {cs cs' : List Value} (hM : M[i]? = some (b, cs)) (ho : One b w w') (hb : ∀ t, w.heap[b]? = some (.cells cs.toArray t (0, 0)) → w'.heap[b]? = some (.cells cs'.toArray t (0, 0))) : Stw B (M.set i (b, cs')) Z w' := by
  have hbm : b ∈ blks M Z := mem_blks_M (mem_of_get hM)
  have hi : i < M.length := (List.getElem?_eq_some_iff.1 hM).1
  have hbl : blks (M.set i (b, cs')) Z = blks M Z := by unfold blks; rw [map_set_same hM]
  have hnd := List.nodup_append.1 h.nodup
  have hlt : ∀ g ∈ blks M Z, g < w.heap.size := fun g hg => h.lt_all hg
  refine ⟨h.frm.one ho (h.own b hbm), by rw [hbl]; exact h.own, fun p hp => ?_, fun z hz => ?_, by rw [hbl]; exact h.nodup, h.disj⟩
  · obtain ⟨j, hj⟩ := List.mem_iff_getElem?.1 hp
    by_cases hij : i = j
    · subst hij
      rw [List.getElem?_set_self hi] at hj
      cases hj
      obtain ⟨t, ht⟩ := h.at_ _ (mem_of_get hM)
      exact ⟨t, hb t ht⟩
    · rw [List.getElem?_set_ne hij] at hj
      obtain ⟨t, ht⟩ := h.at_ _ (mem_of_get hj)
      exact ⟨t, by rw [ho.block _ (hlt _ (mem_blks_M (mem_of_get hj))) (Nodup.get_ne hnd.1 hj hM (Ne.symm hij))]; exact ht⟩
  · rw [hbl]
    refine z.stab (h.items z hz) (fun k hA hlt => ⟨hA, ho.block k hlt ?_⟩) fun g hg => ho.block g (hlt g (mem_blks_Z hz hg)) ?_
    · rintro rfl; exact hA.2 hbm
    · rintro rfl
      exact hnd.2.2 g (List.mem_map.2 ⟨_, mem_of_get hM, rfl⟩) g (List.mem_flatMap.2 ⟨z, hz, hg⟩) rfl
theorem Stw.setCell (h : Stw B M Z w) {i b : Nat} {cs : List Value} (hM : M[i]? = some (b, cs)) (o : Nat) (v : Value) :
    Stw B (M.set i (b, cs.set o v)) Z (w.setCell ⟨b, o, none⟩ v) :=
  h.writeM hM (One.setCell _ _ _ _) fun t ht => by rw [setCell_block _ _ _ _ ht]; simp

/-! ### Other lists of the same -/
theorem Stw.perm {A C : Blks} (h : Stw B A Z w) (hp : A.Perm C) : Stw B C Z w := by
  have hb : (blks A Z).Perm (blks C Z) := (hp.map (·.1)).append_right _
  exact ⟨h.frm, fun g hg => h.own g (hb.mem_iff.2 hg), fun p hm => h.at_ p (hp.mem_iff.2 hm), fun z hz => z.stab (h.items z hz) (fun b hA _ => ⟨hA.mono fun g hg => hb.mem_iff.2 hg, rfl⟩) fun _ _ => rfl, hb.nodup_iff.1 h.nodup, h.disj⟩
theorem Stw.permZ (h : Stw B M Z w) (hp : Z.Perm Z') : Stw B M Z' w := by
  have hb : (blks M Z).Perm (blks M Z') := List.Perm.append_left _ (hp.flatMap_right _)
  exact ⟨h.frm, fun g hg => h.own g (hb.mem_iff.2 hg), h.at_, fun z hz => z.stab (h.items z (hp.mem_iff.2 hz)) (fun b hA _ => ⟨hA.mono fun g hg => hb.mem_iff.2 hg, rfl⟩) fun _ _ => rfl, hb.nodup_iff.1 h.nodup, h.disj⟩
theorem sub_flatMap {f : It → List Nat} {A C : List It} (h : A.Sublist C) : (A.flatMap f).Sublist (C.flatMap f) := by
  induction h with
  | slnil => simp
  | cons x _ ih => simp only [List.flatMap_cons]; exact ih.trans (List.sublist_append_right _ _)
  | cons_cons x _ ih => simp only [List.flatMap_cons]; exact List.Sublist.append (List.Sublist.refl _) ih
theorem Stw.sub (h : Stw B M Z w) (hM : M'.Sublist M) (hZ : Z'.Sublist Z) : Stw B M' Z' w := by
  have hsub : (blks M' Z').Sublist (blks M Z) := List.Sublist.append (hM.map _) (sub_flatMap hZ)
  exact ⟨h.frm, fun g hg => h.own g (hsub.subset hg), fun p hp => h.at_ p (hM.subset hp), fun z hz => z.stab (h.items z (hZ.subset hz)) (fun b hA _ => ⟨hA.mono fun g hg => hsub.subset hg, rfl⟩) fun _ _ => rfl, h.nodup.sublist hsub, h.disj⟩
theorem Stw.drop {A : Blks} (h : Stw B (A ++ M) Z w) : Stw B M Z w := h.sub (List.sublist_append_right _ _) (List.Sublist.refl _)

theorem perm_get {α : Type} : ∀ {l l1 : List α} {i : Nat} {r : α}, l[i]? = some r → l.eraseIdx i = l1 → l.Perm (r :: l1)
  | [], _, _, _, h, _ => by simp at h
  | x :: l, _, 0, r, h, he => by simp at h he; subst h; subst he; exact List.Perm.refl _
  | x :: l, _, i + 1, r, h, he => by
    simp at h he
    subst he
    exact ((perm_get h rfl).cons x).trans (List.Perm.swap r x _)
theorem Stw.frontM (h : Stw B M Z w) {i : Nat} {p : Nat × List Value} (hM : M[i]? = some p) (he : M.eraseIdx i = M') : Stw B (p :: M') Z w := h.perm (perm_get hM he)
theorem Stw.frontZ (h : Stw B M Z w) {i : Nat} {z : It} (hZ : Z[i]? = some z) (he : Z.eraseIdx i = Z1) : Stw B M (z :: Z1) w := h.permZ (perm_get hZ he)

/-! ### Items -/
theorem Stw.item (h : Stw B M Z w) {i : Nat} {z : It} (hZ : Z[i]? = some z) : z.ok w (Fz B (blks M Z)) := h.items z (mem_of_get hZ)
/-- Something that rests is noted. -/
theorem Stw.note {α : Type} {r : Rp α} {v : Value} {l : List α} (h : Stw B M Z w) (hs : Sl w (Fz B (blks M Z)) r v l) : Stw B M (frz v r l :: Z) w := by
  have hbl : blks M (frz v r l :: Z) = blks M Z := by unfold blks; simp [frz]
  refine ⟨h.frm, by rw [hbl]; exact h.own, h.at_, fun z hz => ?_, by rw [hbl]; exact h.nodup, h.disj⟩
  rw [hbl]
  rcases List.mem_cons.1 hz with rfl | hz
  · exact hs
  · exact h.items z hz
/-- A row rests from now on. -/
theorem Stw.freeze {α : Type} {e : TypeId} {r : Rp α} {v : Value} {l : List α} (h : Stw B M (row v e r l :: Z) w) : Stw B M (frz v r l :: Z) w := by
  have hs : (blks M Z).Sublist (blks M (row v e r l :: Z)) := List.Sublist.append (List.Sublist.refl _) (sub_flatMap (List.sublist_cons_self _ _))
  refine (h.sub (List.Sublist.refl _) (List.sublist_cons_self _ _)).note ?_
  have ho : Own w (Fz B (blks M (row v e r l :: Z))) e r v l := h.items _ (List.mem_cons_self ..)
  refine ho.sl (fun b hA => hA.mono fun g hg => hs.subset hg) fun g hg => ⟨.inr (h.own g (mem_blks_Z (z := row v e r l) (List.mem_cons_self ..) (mem_ownE.2 hg))), fun hm => ?_⟩
  have hnd := h.nodup
  have hp : (blks M (row v e r l :: Z)).Perm (g :: blks M Z) := by
    have hb : (row v e r l).bl = [g] := by show ownE v = [g]; unfold ownE; rw [hg]
    unfold blks
    rw [List.flatMap_cons, hb]
    exact List.perm_middle
  exact (List.nodup_cons.1 (hp.nodup_iff.1 hnd)).1 hm

/-- What rested at the beginning rests. -/
theorem Stw.keeps (h : Stw B M Z w) : Keeps B.w0 w B.Y (Fz B (blks M Z)) := fun b hY hlt =>
  ⟨⟨.inl hY, fun hm => by
    rcases h.own b hm with h1 | h1
    · exact h.disj b h1 hY
    · omega⟩, h.frm.block b hlt fun hx => h.disj b hx hY⟩
theorem Stw.old {α : Type} {r : Rp α} {v : Value} {l : List α} (h : Stw B M Z w) (hs : Sl B.w0 B.Y r v l) : Sl w (Fz B (blks M Z)) r v l := hs.stab h.keeps

/-- What turns is among some blocks; others are new. -/
structure Turns (l : List Nat) (w w' : World) : Prop where
  os : w'.os = w.os
  tape : w'.tape = w.tape
  output : w'.output = w.output
  size : w.heap.size ≤ w'.heap.size
  block : ∀ k, k < w.heap.size → k ∉ l → w'.heap[k]? = w.heap[k]?
/-- One item has turned. -/
theorem Stw.itemTurn {z z' : It} (h : Stw B M (z :: Z) w) (hg : Turns z.bl w w')
    (ho : ∀ A, z.ok w (Fz B (blks M (z :: Z))) → Keeps w w' (Fz B (blks M (z :: Z))) A → z'.ok w' A)
    (hb : ∀ g ∈ z'.bl, g ∈ z.bl ∨ w.heap.size ≤ g) : Stw B M (z' :: Z) w' := by
  have hflat : ∀ z : It, ((z :: Z).flatMap It.bl) = z.bl ++ Z.flatMap It.bl := fun z => by simp
  have hnd := List.nodup_append.1 h.nodup
  rw [hflat] at hnd
  have hnd2 := List.nodup_append.1 hnd.2.1
  have hin : ∀ g ∈ z.bl, g ∈ blks M (z :: Z) := fun g hg => mem_blks_Z (List.mem_cons_self ..) hg
  have hMne : ∀ g ∈ M.map (·.1), g ∉ z.bl := fun g hm e' => hnd.2.2 g hm g (List.mem_append_left _ e') rfl
  have hZne : ∀ g ∈ Z.flatMap It.bl, g ∉ z.bl := fun g hm e' => hnd2.2.2 g e' g hm rfl
  have hsub : ∀ g ∈ blks M Z, g ∈ blks M (z :: Z) := fun g hg => (List.Sublist.append (List.Sublist.refl _) (sub_flatMap (List.sublist_cons_self _ _))).subset hg
  have hlt : ∀ g ∈ blks M Z, g < w.heap.size := fun g hg => h.lt_all (hsub g hg)
  have hne : ∀ g ∈ blks M Z, g ∉ z.bl := fun g hgm => (List.mem_append.1 hgm).elim (hMne g) (hZne g)
  have hkeep : ∀ g ∈ blks M Z, w'.heap[g]? = w.heap[g]? := fun g hgm => hg.block g (hlt g hgm) (hne g hgm)
  have hmem' : ∀ g, g ∈ blks M (z' :: Z) → g ∈ blks M Z ∨ g ∈ z'.bl := fun g hgm => by
    rcases List.mem_append.1 hgm with hm | hm
    · exact .inl (List.mem_append_left _ hm)
    · rw [hflat] at hm
      rcases List.mem_append.1 hm with hm | hm
      · exact .inr hm
      · exact .inl (List.mem_append_right _ hm)
  have hA : Keeps w w' (Fz B (blks M (z :: Z))) (Fz B (blks M (z' :: Z))) := fun b hF hb' => ⟨⟨hF.1, fun hm => by
      rcases hmem' b hm with h1 | h1
      · exact hF.2 (hsub b h1)
      · rcases hb b h1 with h2 | h2
        · exact hF.2 (hin b h2)
        · omega⟩, hg.block b hb' fun e' => hF.2 (hin b e')⟩
  have hok : z'.ok w' (Fz B (blks M (z' :: Z))) := ho _ (h.items _ (List.mem_cons_self ..)) hA
  refine ⟨⟨hg.os.trans h.frm.os, hg.tape.trans h.frm.tape, hg.output.trans h.frm.output, Nat.le_trans h.frm.size hg.size, fun k hk hx => ?_⟩, fun g hgm => ?_, fun p hp => ?_, fun y hy => ?_, ?_, h.disj⟩
  · rw [hg.block k (Nat.lt_of_lt_of_le hk h.frm.size) ?_]
    · exact h.frm.block k hk hx
    · intro e'
      rcases h.own k (hin k e') with h1 | h1
      · exact hx h1
      · omega
  · rcases hmem' g hgm with h1 | h1
    · exact h.own g (hsub g h1)
    · rcases hb g h1 with h2 | h2
      · exact h.own g (hin g h2)
      · exact .inr (Nat.le_trans h.frm.size h2)
  · obtain ⟨t, ht⟩ := h.at_ p hp
    exact ⟨t, by rw [hkeep p.1 (mem_blks_M hp)]; exact ht⟩
  · rcases List.mem_cons.1 hy with rfl | hy
    · exact hok
    · exact y.stab (h.items y (List.mem_cons_of_mem _ hy)) hA fun g hg' => hkeep g (mem_blks_Z hy hg')
  · unfold blks
    rw [hflat, List.nodup_append]
    refine ⟨hnd.1, List.nodup_append.2 ⟨z'.nd hok, hnd2.2.1, ?_⟩, ?_⟩
    · intro x hx y hy e'
      subst e'
      rcases hb x hx with h1 | h1
      · exact hnd2.2.2 x h1 x hy rfl
      · have := hlt x (List.mem_append_right _ hy); omega
    · intro x hx y hy e'
      subst e'
      rcases List.mem_append.1 hy with hy | hy
      · rcases hb x hy with h1 | h1
        · exact hMne x hx h1
        · have := hlt x (List.mem_append_left _ hx); omega
      · exact hnd.2.2 x hx x (List.mem_append_right _ hy) rfl
theorem Turns.of_grown {v : Value} (h : w.grownBy w' v.ownBlock) : Turns (own1 v) w w' := ⟨h.os, h.tape, h.output, h.size, fun k hk hn => h.block k hk fun e => hn (mem_own1.2 e.symm)⟩
theorem Turns.of_grownE {v : Value} (h : w.grownBy w' (ownB v)) : Turns (ownE v) w w' := ⟨h.os, h.tape, h.output, h.size, fun k hk hn => h.block k hk fun e => hn (mem_ownE.2 e.symm)⟩
/-- One row has been written, or has moved into a new block. -/
theorem Stw.rowTurn {α β : Type} {e e' : TypeId} {r : Rp α} {r' : Rp β} {v v' : Value} {l : List α} {l' : List β} (h : Stw B M (row v e r l :: Z) w) (hg : w.grownBy w' (ownB v))
    (ho : ∀ A, Own w (Fz B (blks M (row v e r l :: Z))) e r v l → Keeps w w' (Fz B (blks M (row v e r l :: Z))) A → Own w' A e' r' v' l')
    (hb : ∀ g, ownB v' = some g → ownB v = some g ∨ w.heap.size ≤ g) : Stw B M (row v' e' r' l' :: Z) w' :=
  h.itemTurn (z := row v e r l) (z' := row v' e' r' l') (Turns.of_grownE hg) ho fun g hg => (hb g (mem_ownE.1 hg)).imp mem_ownE.2 id
end
end Go.Proofs.YtmbjfpacaenbhaaGreat
