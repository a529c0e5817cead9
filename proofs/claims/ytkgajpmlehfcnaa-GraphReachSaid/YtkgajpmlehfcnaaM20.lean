/- Layer 20: graphs. Conditions: none. -/
import Derived.Test.YtkgajpmlehfcnaaML
import Derived.Test.YtkgajpmlehfcnaaA5
namespace Go.Proofs.Ytkgajpmlehfcnaa
set_option linter.unusedVariables false
set_option linter.unusedSimpArgs false
open Go Go.RowKit

/-! ### Loops that count -/
theorem loopW_go {σ ε : Type} {step : σ → Option (σ ⊕ ε)} {s s' : σ} (h : step s = some (.inl s')) : loopW step s = loopW step s' := by rw [loopW_eq, h]; rfl
theorem loopW_end {σ ε : Type} {step : σ → Option (σ ⊕ ε)} {s : σ} {e : ε} (h : step s = some (.inr e)) : loopW step s = some e := by rw [loopW_eq, h]; rfl
theorem loop_cnt {σ τ ε : Type} (n : Nat) (mkS : σ → Nat → τ) (step : τ → Option (τ ⊕ ε)) (fin : σ → ε) (I : σ → Nat → Prop)
    (hs : ∀ s k, k < n → I s k → ∃ s', step (mkS s k) = some (.inl (mkS s' (k + 1))) ∧ I s' (k + 1))
    (he : ∀ s, I s n → step (mkS s n) = some (.inr (fin s))) (s : σ) (h : I s 0) : ∃ s', I s' n ∧ loopW step (mkS s 0) = some (fin s') := by
  have key : ∀ (d k : Nat) (s : σ), k + d = n → I s k → ∃ s', I s' n ∧ loopW step (mkS s k) = some (fin s') := by
    intro d
    induction d with
    | zero =>
      intro k s hk hI
      obtain rfl : k = n := by omega
      exact ⟨s, hI, by rw [loopW_eq, he s hI]; rfl⟩
    | succ d ih =>
      intro k s hk hI
      obtain ⟨s', h1, h2⟩ := hs s k (by omega) hI
      obtain ⟨s2, h3, h4⟩ := ih (k + 1) s' (by omega) h2
      exact ⟨s2, h3, by rw [loopW_eq, h1]; exact h4⟩
  exact key n 0 s (by omega) h
/-- A search: what the first hit says, or nothing. -/
theorem search {ε : Type} (n : Nat) (step : Int → Option (Int ⊕ (Unit ⊕ ε))) (p : Nat → Option ε)
    (hs : ∀ k, k < n → step (k : Int) = match p k with | none => some (.inl ((k + 1 : Nat) : Int)) | some e => some (.inr (.inr e)))
    (he : step (n : Int) = some (.inr (.inl ()))) :
    loopW step 0 = some (match (List.range n).findSome? p with | none => .inl () | some e => .inr e) := by
  have key : ∀ (d k : Nat), k + d = n → loopW step (k : Int) = some (match (List.range' k d).findSome? p with | none => .inl () | some e => .inr e) := by
    intro d
    induction d with
    | zero =>
      intro k hk
      obtain rfl : k = n := by omega
      rw [loopW_eq, he]; rfl
    | succ d ih =>
      intro k hk
      rw [loopW_eq, hs k (by omega), List.range'_succ, List.findSome?_cons]
      cases h : p k with
      | none => exact ih (k + 1) (by omega)
      | some e => rfl
  have := key n 0 (by omega)
  rw [List.range_eq_range']
  exact this
theorem find_none {ε : Type} {p : Nat → Option ε} {n : Nat} (h : ∀ k, k < n → p k = none) : (List.range n).findSome? p = none := by
  rw [List.findSome?_eq_none_iff]
  intro x hx
  exact h x (List.mem_range.1 hx)
theorem find_any (n : Nat) (q : Nat → Prop) [DecidablePred q] (b : Bool) : (List.range n).findSome? (fun k => if q k then some b else none) = if ∃ k, k < n ∧ q k then some b else none := by
  by_cases h : ∃ k, k < n ∧ q k
  · rw [if_pos h]
    obtain ⟨k, hk, hq⟩ := h
    cases e : (List.range n).findSome? (fun k => if q k then some b else none) with
    | none =>
      rw [List.findSome?_eq_none_iff] at e
      have := e k (List.mem_range.2 hk)
      rw [if_pos hq] at this; cases this
    | some c =>
      obtain ⟨x, _, hx⟩ := List.exists_of_findSome?_eq_some e
      by_cases hqx : q x
      · rw [if_pos hqx] at hx; exact hx.symm
      · rw [if_neg hqx] at hx; cases hx
  · rw [if_neg h]
    exact find_none fun k hk => if_neg fun hq => h ⟨k, hk, hq⟩
/-- A search that answers b at a hit, and else not b. -/
theorem search_any (n : Nat) (step : Int → Option (Int ⊕ (Unit ⊕ Bool))) (q : Nat → Prop) [DecidablePred q] (b : Bool)
    (hs : ∀ k, k < n → step (k : Int) = if q k then some (.inr (.inr b)) else some (.inl ((k + 1 : Nat) : Int)))
    (he : step (n : Int) = some (.inr (.inl ()))) :
    loopW step 0 = some (if ∃ k, k < n ∧ q k then .inr b else .inl ()) := by
  rw [search n step (fun k => if q k then some b else none) (fun k hk => by rw [hs k hk]; by_cases h : q k <;> simp [h]) he, find_any]
  by_cases h : ∃ k, k < n ∧ q k
  · rw [if_pos h, if_pos h]
  · rw [if_neg h, if_neg h]

/-! ### Sets -/
theorem ofInt32 (a : Nat) (h : a < 4294967296) : (BitVec.ofInt 32 (a : Int)).toNat = a := by
  rw [BitVec.toNat_ofInt]; omega
theorem or_u32 (a b : Nat) (ha : a < 65536) (hb : b < 65536) : orI .u32 (a : Int) (b : Int) = ((a ||| b : Nat) : Int) ∧ a ||| b < 65536 := by
  have hl : a ||| b < 2 ^ 16 := Nat.or_lt_two_pow ha hb
  refine ⟨?_, hl⟩
  show IntKind.u32.wrap ((BitVec.ofInt 32 (a : Int) ||| BitVec.ofInt 32 (b : Int)).toNat : Int) = _
  rw [BitVec.toNat_or, ofInt32 a (by omega), ofInt32 b (by omega), wu32]; omega
theorem shr_u32 (a k : Nat) (hk : k < 32) : shrI .u32 (a : Int) (k : Int) = ((a / 2 ^ k : Nat) : Int) := by
  unfold shrI
  rw [Int.toNat_natCast, Nat.min_eq_left (by show k ≤ 32; omega), Int.fdiv_eq_ediv_of_nonneg _ (by have := Int.pow_pos (n := 2) (m := k) (by decide); omega)]
  norm_cast
theorem shl_one (k : Nat) (hk : k < 16) : shlI .u32 1 (k : Int) = ((2 ^ k : Nat) : Int) ∧ 2 ^ k < 65536 := by
  have hl : 2 ^ k < 2 ^ 16 := Nat.pow_lt_pow_right (by decide) hk
  refine ⟨?_, hl⟩
  unfold shlI
  rw [Int.toNat_natCast, Nat.min_eq_left (by show k ≤ 32; omega), wu32, Int.one_mul]
  have e : (2 : Int) ^ k = ((2 ^ k : Nat) : Int) := by norm_cast
  rw [e]
  generalize 2 ^ k = z at hl ⊢
  omega
theorem and_one (a : Nat) (ha : a < 65536) : andI .u32 (a : Int) 1 = ((a % 2 : Nat) : Int) := by
  show IntKind.u32.wrap ((BitVec.ofInt 32 (a : Int) &&& BitVec.ofInt 32 ((1 : Nat) : Int)).toNat : Int) = _
  rw [BitVec.toNat_and, ofInt32 a (by omega), ofInt32 _ (by decide), Nat.and_two_pow_sub_one_eq_mod a 1, wu32]; omega
theorem andnot (a b : Nat) (ha : a < 65536) (hb : b < 65536) : andNotI .u32 (a : Int) (b : Int) = 0 ↔ ∀ k, k < 16 → a.testBit k = true → b.testBit k = true := by
  have e : andNotI .u32 (a : Int) (b : Int) = (((BitVec.ofInt 32 (a : Int) &&& ~~~ BitVec.ofInt 32 (b : Int)).toNat : Nat) : Int) := by
    show IntKind.u32.wrap ((BitVec.ofInt 32 (a : Int) &&& ~~~ BitVec.ofInt 32 (b : Int)).toNat : Int) = _
    have := (BitVec.ofInt 32 (a : Int) &&& ~~~ BitVec.ofInt 32 (b : Int)).isLt
    rw [wu32]; omega
  rw [e]
  have e2 : (((BitVec.ofInt 32 (a : Int) &&& ~~~ BitVec.ofInt 32 (b : Int)).toNat : Nat) : Int) = 0 ↔ BitVec.ofInt 32 (a : Int) &&& ~~~ BitVec.ofInt 32 (b : Int) = 0#32 := by
    rw [← BitVec.toNat_inj]
    show _ ↔ _ = 0
    omega
  have ga : ∀ k, (BitVec.ofInt 32 (a : Int)).getLsbD k = a.testBit k := by
    intro k; unfold BitVec.getLsbD; rw [ofInt32 a (by omega)]
  have gb : ∀ k, (BitVec.ofInt 32 (b : Int)).getLsbD k = b.testBit k := by
    intro k; unfold BitVec.getLsbD; rw [ofInt32 b (by omega)]
  rw [e2]
  constructor
  · intro h k hk hA
    have := congrArg (fun v => v.getLsbD k) h
    simp only [BitVec.getLsbD_and, BitVec.getLsbD_not, ga, gb, hA, BitVec.getLsbD_zero, Bool.true_and] at this
    have h32 : k < 32 := by omega
    simpa [h32] using this
  · intro h
    apply BitVec.eq_of_getLsbD_eq
    intro k hk
    simp only [BitVec.getLsbD_and, BitVec.getLsbD_not, ga, gb, BitVec.getLsbD_zero]
    by_cases h16 : k < 16
    · cases hA : a.testBit k
      · rfl
      · rw [h k h16 hA]; simp
    · rw [Nat.testBit_lt_two_pow (show a < 2 ^ k from Nat.lt_of_lt_of_le ha (Nat.pow_le_pow_right (n := 2) (by decide) (show 16 ≤ k by omega)))]
      rfl
theorem has_eq (m i : Nat) (hm : m < 65536) (hi : i < 16) : graph_set_has (m : Int) (i : Int) = some (m.testBit i) := by
  unfold graph_set_has
  rw [shN_is (by omega), Option.bind_some, shr_u32 _ _ (by omega), and_one _ (by have := Nat.div_le_self m (2 ^ i); omega)]
  congr 1
  rw [Nat.testBit_eq_decide_div_mod_eq]
  exact decide_eq_decide.2 (by omega)
theorem with_eq (m i : Nat) (hm : m < 65536) (hi : i < 16) : graph_set_with (m : Int) (i : Int) = some ((m ||| 2 ^ i : Nat) : Int) ∧ m ||| 2 ^ i < 65536 := by
  have h := shl_one i hi
  have h2 := or_u32 m (2 ^ i) hm h.2
  unfold graph_set_with
  rw [shN_is (by omega), Option.bind_some, h.1, h2.1]
  exact ⟨rfl, h2.2⟩
theorem with_bit (m i k : Nat) : (m ||| 2 ^ i).testBit k = (m.testBit k || decide (i = k)) := by
  rw [Nat.testBit_or, Nat.testBit_two_pow]

/-! ### Graphs -/
abbrev Es := List (Int × Int)
abbrev Ok (n : Int) (l : Es) : Prop := 0 ≤ n ∧ n ≤ 16 ∧ ∀ e ∈ l, 0 ≤ e.1 ∧ e.1 < n ∧ 0 ≤ e.2 ∧ e.2 < n
abbrev J (l : Es) (i k : Nat) : Prop := ((i : Int), (k : Int)) ∈ l
theorem ex_get {α : Type} {l : List α} {P : α → Prop} : (∃ k : Nat, k < l.length ∧ ∃ e, l[k]? = some e ∧ P e) ↔ ∃ e ∈ l, P e := by
  constructor
  · rintro ⟨k, hk, e, h1, h2⟩
    exact ⟨e, List.mem_of_getElem? h1, h2⟩
  · rintro ⟨e, h1, h2⟩
    obtain ⟨k, hk, h3⟩ := List.getElem_of_mem h1
    exact ⟨k, hk, e, by rw [List.getElem?_eq_getElem hk, h3], h2⟩
theorem get_iff {α : Type} {l : List α} {P : α → Prop} {k : Nat} (hk : k < l.length) : (∃ e, l[k]? = some e ∧ P e) ↔ P l[k] := by
  rw [List.getElem?_eq_getElem hk]
  exact ⟨fun ⟨e, h1, h2⟩ => by cases h1; exact h2, fun h => ⟨_, rfl, h⟩⟩
/-- A search in a list. -/
theorem search_in {α : Type} (l : List α) (hl : l.length ≤ 1000000000) (step : Int → Option (Int ⊕ (Unit ⊕ Bool))) (P : α → Prop) [DecidablePred P] (b : Bool)
    (hs : ∀ k (hk : k < l.length), step (k : Int) = if P l[k] then some (.inr (.inr b)) else some (.inl (w64 ((k : Int) + 1))))
    (he : step (l.length : Int) = some (.inr (.inl ()))) :
    loopW step 0 = some (if ∃ e ∈ l, P e then .inr b else .inl ()) := by
  have : DecidablePred fun k : Nat => ∃ e, l[k]? = some e ∧ P e := fun _ => Classical.propDecidable _
  rw [search_any l.length step (fun k : Nat => ∃ e, l[k]? = some e ∧ P e) b (fun k hk => by
    rw [hs k hk, w64_id (by omega)]
    by_cases h : P l[k]
    · rw [if_pos h, if_pos ((get_iff hk).2 h)]
    · rw [if_neg h, if_neg (fun h2 => h ((get_iff hk).1 h2))]; rfl) he]
  by_cases h : ∃ e ∈ l, P e
  · rw [if_pos h, if_pos (ex_get.2 h)]
  · rw [if_neg h, if_neg (fun h2 => h (ex_get.1 h2))]
abbrev badE (n : Int) (e : Int × Int) : Prop := e.1 < 0 ∨ n ≤ e.1 ∨ e.2 < 0 ∨ n ≤ e.2
theorem right_eq (n : Int) (l : Es) (hl : l.length ≤ 1000000000) : graph_Right n l = some (decide (Ok n l)) := by
  unfold graph_Right
  by_cases h0 : n < 0 ∨ 16 < n
  · rw [if_pos (by simpa using h0), decide_eq_false (fun h => by have := h.1; have := h.2.1; omega)]
  · rw [if_neg (by simpa using h0), search_in l hl _ (badE n) false (fun k hk => by
      unfold graph_Right_l1
      rw [if_pos (by omega), ix_nat (List.getElem?_eq_getElem hk), Option.bind_some]
      by_cases hb : badE n l[k]
      · rw [if_pos hb, if_pos (by simpa using hb)]
      · rw [if_neg hb, if_neg (by simpa using hb)]) (by unfold graph_Right_l1; rw [if_neg (by omega)])]
    unfold orR
    by_cases hb : ∃ e ∈ l, badE n e
    · obtain ⟨e, h1, h2⟩ := hb
      rw [if_pos ⟨e, h1, h2⟩, decide_eq_false (p := Ok n l) (fun h => by have := h.2.2 e h1; omega)]; rfl
    · rw [if_neg hb, decide_eq_true (p := Ok n l) ⟨by omega, by omega, fun e he => by
        have : ¬ badE n e := fun h => hb ⟨e, he, h⟩
        omega⟩]; rfl
theorem rright_eq (n : Int) (l : Es) (hl : l.length ≤ 1000000000) : r20_Right n l = some (decide (Ok n l)) := by
  unfold r20_Right
  rw [search_in l hl _ (badE n) false (fun k hk => by
      unfold r20_Right_l1
      rw [if_pos (by omega), ix_nat (List.getElem?_eq_getElem hk)]
      simp only [Option.bind_some]
      by_cases hb : badE n l[k]
      · rw [if_pos hb]
        by_cases c1 : l[k].1 < 0
        · rw [if_pos c1]; rfl
        · rw [if_neg c1]
          by_cases c2 : n ≤ l[k].1
          · rw [if_pos c2]; rfl
          · rw [if_neg c2]
            by_cases c3 : l[k].2 < 0
            · rw [if_pos c3]; rfl
            · rw [if_neg c3, decide_eq_true (by omega)]; rfl
      · rw [if_neg hb, if_neg (by omega), if_neg (by omega), if_neg (by omega), decide_eq_false (by omega)]; rfl) (by unfold r20_Right_l1; rw [if_neg (by omega)])]
  unfold orR
  by_cases hb : ∃ e ∈ l, badE n e
  · obtain ⟨e, h1, h2⟩ := hb
    rw [if_pos ⟨e, h1, h2⟩, decide_eq_false (p := Ok n l) (fun h => by have := h.2.2 e h1; omega)]; rfl
  · rw [if_neg hb]
    simp only [Option.bind_some]
    congr 1
    rw [← Bool.decide_and]
    refine decide_eq_decide.2 ⟨fun h => ⟨h.1, h.2, fun e he => ?_⟩, fun h => ⟨h.1, h.2.1⟩⟩
    have : ¬ badE n e := fun h => hb ⟨e, he, h⟩
    omega
theorem rhas_eq (l : List Int) (x : Int) (hl : l.length ≤ 1000000000) : r20_has l x = some (decide (x ∈ l)) := by
  unfold r20_has
  rw [search_in l hl _ (· = x) true (fun k hk => by
      unfold r20_has_l1
      rw [if_pos (by omega), ix_nat (List.getElem?_eq_getElem hk)]; rfl) (by unfold r20_has_l1; rw [if_neg (by omega)])]
  unfold orR
  by_cases h : x ∈ l
  · rw [if_pos ⟨x, h, rfl⟩, decide_eq_true h]; rfl
  · rw [if_neg (by rintro ⟨e, h1, rfl⟩; exact h h1), decide_eq_false h]; rfl
theorem redge_eq (l : Es) (i k : Int) (hl : l.length ≤ 1000000000) : r20_edge l i k = some (decide ((i, k) ∈ l)) := by
  unfold r20_edge
  rw [search_in l hl _ (· = (i, k)) true (fun j hj => by
      unfold r20_edge_l1
      rw [if_pos (by omega), ix_nat (List.getElem?_eq_getElem hj)]
      simp only [Option.bind_some]
      generalize l[j] = e
      obtain ⟨a, b⟩ := e
      simp only [Prod.mk.injEq]
      by_cases h1 : a = i
      · rw [if_pos h1]
        by_cases h2 : b = k
        · rw [if_pos ⟨h1, h2⟩, decide_eq_true h2]; rfl
        · rw [if_neg (fun h => h2 h.2), decide_eq_false h2]; rfl
      · rw [if_neg h1, if_neg (fun h => h1 h.1)]; rfl) (by unfold r20_edge_l1; rw [if_neg (by omega)])]
  unfold orR
  by_cases h : (i, k) ∈ l
  · rw [if_pos ⟨_, h, rfl⟩, decide_eq_true h]; rfl
  · rw [if_neg (by rintro ⟨e, h1, rfl⟩; exact h h1), decide_eq_false h]; rfl

/-! ### Rows of 16 -/
abbrev T16 := Int × Int × Int × Int × Int × Int × Int × Int × Int × Int × Int × Int × Int × Int × Int × Int
def rowL (p1 : T16) : List Int := [p1.1, p1.2.1, p1.2.2.1, p1.2.2.2.1, p1.2.2.2.2.1, p1.2.2.2.2.2.1, p1.2.2.2.2.2.2.1, p1.2.2.2.2.2.2.2.1, p1.2.2.2.2.2.2.2.2.1, p1.2.2.2.2.2.2.2.2.2.1, p1.2.2.2.2.2.2.2.2.2.2.1, p1.2.2.2.2.2.2.2.2.2.2.2.1, p1.2.2.2.2.2.2.2.2.2.2.2.2.1, p1.2.2.2.2.2.2.2.2.2.2.2.2.2.1, p1.2.2.2.2.2.2.2.2.2.2.2.2.2.2.1, p1.2.2.2.2.2.2.2.2.2.2.2.2.2.2.2]
def upd (p1 : T16) (v x : Int) : T16 := (if v = 0 then x else p1.1, if v = 1 then x else p1.2.1, if v = 2 then x else p1.2.2.1, if v = 3 then x else p1.2.2.2.1, if v = 4 then x else p1.2.2.2.2.1, if v = 5 then x else p1.2.2.2.2.2.1, if v = 6 then x else p1.2.2.2.2.2.2.1, if v = 7 then x else p1.2.2.2.2.2.2.2.1, if v = 8 then x else p1.2.2.2.2.2.2.2.2.1, if v = 9 then x else p1.2.2.2.2.2.2.2.2.2.1, if v = 10 then x else p1.2.2.2.2.2.2.2.2.2.2.1, if v = 11 then x else p1.2.2.2.2.2.2.2.2.2.2.2.1, if v = 12 then x else p1.2.2.2.2.2.2.2.2.2.2.2.2.1, if v = 13 then x else p1.2.2.2.2.2.2.2.2.2.2.2.2.2.1, if v = 14 then x else p1.2.2.2.2.2.2.2.2.2.2.2.2.2.2.1, if v = 15 then x else p1.2.2.2.2.2.2.2.2.2.2.2.2.2.2.2)
theorem one16 (v c : Nat) (x y : Int) : some (if (v : Int) = (c : Int) then x else y) = if v = c then some x else some y := by
  by_cases h : v = c
  · rw [if_pos (by omega), if_pos h]
  · rw [if_neg (by omega), if_neg h]
theorem row_upd (t : T16) (v i : Nat) (x : Int) (hi : i < 16) : ix (rowL (upd t (v : Int) x)) (i : Int) = if v = i then some x else ix (rowL t) (i : Int) := by
  have h : i = 0 ∨ i = 1 ∨ i = 2 ∨ i = 3 ∨ i = 4 ∨ i = 5 ∨ i = 6 ∨ i = 7 ∨ i = 8 ∨ i = 9 ∨ i = 10 ∨ i = 11 ∨ i = 12 ∨ i = 13 ∨ i = 14 ∨ i = 15 := by omega
  rcases h with rfl | rfl | rfl | rfl | rfl | rfl | rfl | rfl | rfl | rfl | rfl | rfl | rfl | rfl | rfl | rfl <;> exact one16 v _ x _
/-- The sets that a row holds. -/
def Sets (P : Nat → Nat → Prop) (t : T16) : Prop := ∀ i : Nat, i < 16 → ∃ m : Nat, m < 65536 ∧ ix (rowL t) (i : Int) = some (m : Int) ∧ ∀ k, k < 16 → (m.testBit k = true ↔ P i k)
theorem mem_take {l : Es} {e : Int × Int} {j : Nat} (hj : j < l.length) : e ∈ l.take (j + 1) ↔ e ∈ l.take j ∨ e = l[j] := by
  rw [List.take_add_one, List.getElem?_eq_getElem hj, List.mem_append]
  simp
/-- Sets made edge by edge. -/
theorem sets_loop (l : Es) (n : Int) (ok : Ok n l) (hl : l.length ≤ 1000000000) (row mem : Int × Int → Int)
    (hr : ∀ e ∈ l, 0 ≤ row e ∧ row e < 16 ∧ 0 ≤ mem e ∧ mem e < 16) (step : Int × T16 → Option ((Int × T16) ⊕ T16))
    (hs : ∀ (j : Nat) (hj : j < l.length) (t : T16), step ((j : Int), t) = (ix (rowL t) (row l[j])).bind fun x => (graph_set_with x (mem l[j])).bind fun y => (ix (rowL t) (row l[j])).bind fun _ => some (.inl (w64 ((j : Int) + 1), upd t (row l[j]) y)))
    (he : ∀ t, step ((l.length : Int), t) = some (.inr t)) :
    ∃ t, loopW step (0, (0, 0, 0, 0, 0, 0, 0, 0, 0, 0, 0, 0, 0, 0, 0, 0)) = some t ∧ Sets (fun i k => ∃ e ∈ l, row e = (i : Int) ∧ mem e = (k : Int)) t := by
  obtain ⟨t, h1, h2⟩ := loop_cnt l.length (fun (t : T16) (j : Nat) => ((j : Int), t)) step id (fun t j => Sets (fun i k => ∃ e ∈ l.take j, row e = (i : Int) ∧ mem e = (k : Int)) t)
    (fun t j hj hI => by
      have hm : l[j] ∈ l := List.getElem_mem hj
      obtain ⟨a1, a2, a3, a4⟩ := hr _ hm
      obtain ⟨i, hi⟩ : ∃ i : Nat, row l[j] = (i : Int) := ⟨(row l[j]).toNat, by omega⟩
      obtain ⟨k, hk⟩ : ∃ k : Nat, mem l[j] = (k : Int) := ⟨(mem l[j]).toNat, by omega⟩
      obtain ⟨m, hm1, hm2, hm3⟩ := hI i (by omega)
      have hw := with_eq m k hm1 (by omega)
      refine ⟨upd t (i : Int) ((m ||| 2 ^ k : Nat) : Int), ?_, ?_⟩
      · rw [hs j hj, hi, hk, hm2, Option.bind_some, hw.1, Option.bind_some, Option.bind_some, w64_id (by omega)]; rfl
      · intro i2 hi2
        rw [row_upd _ _ _ _ hi2]
        by_cases h : i = i2
        · subst h
          refine ⟨m ||| 2 ^ k, hw.2, by rw [if_pos rfl], fun k2 hk2 => ?_⟩
          rw [with_bit, Bool.or_eq_true, decide_eq_true_eq, hm3 k2 hk2]
          constructor
          · rintro (⟨e, h1, h2⟩ | rfl)
            · exact ⟨e, (mem_take hj).2 (.inl h1), h2⟩
            · exact ⟨l[j], (mem_take hj).2 (.inr rfl), hi, hk⟩
          · rintro ⟨e, h1, h2, h3⟩
            rcases (mem_take hj).1 h1 with h4 | rfl
            · exact .inl ⟨e, h4, h2, h3⟩
            · exact .inr (by omega)
        · rw [if_neg h]
          obtain ⟨m', b1, b2, b3⟩ := hI i2 hi2
          refine ⟨m', b1, b2, fun k2 hk2 => (b3 k2 hk2).trans ?_⟩
          constructor
          · rintro ⟨e, h1, h2⟩
            exact ⟨e, (mem_take hj).2 (.inl h1), h2⟩
          · rintro ⟨e, h1, h2, h3⟩
            rcases (mem_take hj).1 h1 with h4 | rfl
            · exact ⟨e, h4, h2, h3⟩
            · omega)
    (fun t _ => he t) (0, 0, 0, 0, 0, 0, 0, 0, 0, 0, 0, 0, 0, 0, 0, 0) (by
      intro i hi
      have h : i = 0 ∨ i = 1 ∨ i = 2 ∨ i = 3 ∨ i = 4 ∨ i = 5 ∨ i = 6 ∨ i = 7 ∨ i = 8 ∨ i = 9 ∨ i = 10 ∨ i = 11 ∨ i = 12 ∨ i = 13 ∨ i = 14 ∨ i = 15 := by omega
      refine ⟨0, by decide, ?_, fun k _ => ?_⟩
      · rcases h with rfl | rfl | rfl | rfl | rfl | rfl | rfl | rfl | rfl | rfl | rfl | rfl | rfl | rfl | rfl | rfl <;> rfl
      · rw [Nat.zero_testBit]; simp)
  rw [List.take_length] at h1
  exact ⟨t, h2, h1⟩
theorem pred_eq (l : Es) (n : Int) (ok : Ok n l) (hl : l.length ≤ 1000000000) : ∃ t, graph_predecessors l = some t ∧ Sets (fun i k => J l k i) t := by
  have hb : ∀ e ∈ l, 0 ≤ e.2 ∧ e.2 < 16 ∧ 0 ≤ e.1 ∧ e.1 < 16 := fun e he => by have := ok.2.2 e he; have := ok.2.1; omega
  obtain ⟨t, h1, h2⟩ := sets_loop l n ok hl (·.2) (·.1) hb (graph_predecessors_l1 l) (fun j hj t => by
    show graph_predecessors_l1 l ((j : Int), t.1, t.2) = _
    unfold graph_predecessors_l1
    simp only
    rw [if_pos (by omega), ix_nat (List.getElem?_eq_getElem hj)]; rfl) (fun t => by
    show graph_predecessors_l1 l ((l.length : Int), t.1, t.2) = _
    unfold graph_predecessors_l1
    simp only
    rw [if_neg (by omega)])
  refine ⟨t, ?_, fun i hi => ?_⟩
  · unfold graph_predecessors
    rw [h1]; rfl
  · obtain ⟨m, a1, a2, a3⟩ := h2 i hi
    refine ⟨m, a1, a2, fun k hk => (a3 k hk).trans ⟨?_, fun h => ⟨_, h, rfl, rfl⟩⟩⟩
    rintro ⟨⟨a, b⟩, h3, h4, h5⟩
    simp only at h4 h5
    subst h4 h5; exact h3
theorem succ_eq (l : Es) (n : Int) (ok : Ok n l) (hl : l.length ≤ 1000000000) : ∃ t, graph_successors l = some t ∧ Sets (fun i k => J l i k) t := by
  have hb : ∀ e ∈ l, 0 ≤ e.1 ∧ e.1 < 16 ∧ 0 ≤ e.2 ∧ e.2 < 16 := fun e he => by have := ok.2.2 e he; have := ok.2.1; omega
  obtain ⟨t, h1, h2⟩ := sets_loop l n ok hl (·.1) (·.2) hb (graph_successors_l1 l) (fun j hj t => by
    show graph_successors_l1 l ((j : Int), t.1, t.2) = _
    unfold graph_successors_l1
    simp only
    rw [if_pos (by omega), ix_nat (List.getElem?_eq_getElem hj)]; rfl) (fun t => by
    show graph_successors_l1 l ((l.length : Int), t.1, t.2) = _
    unfold graph_successors_l1
    simp only
    rw [if_neg (by omega)])
  refine ⟨t, ?_, fun i hi => ?_⟩
  · unfold graph_successors
    rw [h1]; rfl
  · obtain ⟨m, a1, a2, a3⟩ := h2 i hi
    refine ⟨m, a1, a2, fun k hk => (a3 k hk).trans ⟨?_, fun h => ⟨_, h, rfl, rfl⟩⟩⟩
    rintro ⟨⟨a, b⟩, h3, h4, h5⟩
    simp only at h4 h5
    subst h4 h5; exact h3

/-! ### Orders -/
/-- May a node stand next? -/
abbrev Free (n : Nat) (l : Es) (out : List Int) (i : Nat) : Prop := (i : Int) ∉ out ∧ ∀ k, k < n → J l k i → (k : Int) ∈ out
def nextF (n : Nat) (l : Es) (out : List Int) (a : Nat) : Int := match (List.range' a (n - a)).findSome? (fun i => if Free n l out i then some (i : Int) else none) with | some e => e | none => -1
/-- The bits of what a list holds. -/
abbrev Bits (c : Nat) (out : List Int) : Prop := c < 65536 ∧ ∀ k : Nat, k < 16 → (c.testBit k = true ↔ (k : Int) ∈ out)
theorem J_lt {n : Nat} {l : Es} (ok : Ok (n : Int) l) {i k : Nat} (h : J l i k) : i < n ∧ k < n := by have := ok.2.2 _ h; simp only at this; omega
theorem smallestFree_eq {n : Nat} {l : Es} (ok : Ok (n : Int) l) {t : T16} (ht : Sets (fun i k => J l k i) t) {c : Nat} {out : List Int} (hc : Bits c out) : graph_smallestFree (n : Int) t (c : Int) = some (nextF n l out 0) := by
  have hn := ok.2.1
  unfold graph_smallestFree
  rw [search n _ (fun i => if Free n l out i then some (i : Int) else none) (fun i hi => by
    unfold graph_smallestFree_l1
    rw [if_pos (by omega), has_eq c i hc.1 (by omega), Option.bind_some]
    obtain ⟨m, h1, h2, h3⟩ := ht i (by omega)
    have h2' : ix ([t.1, t.2.1, t.2.2.1, t.2.2.2.1, t.2.2.2.2.1, t.2.2.2.2.2.1, t.2.2.2.2.2.2.1, t.2.2.2.2.2.2.2.1, t.2.2.2.2.2.2.2.2.1, t.2.2.2.2.2.2.2.2.2.1, t.2.2.2.2.2.2.2.2.2.2.1, t.2.2.2.2.2.2.2.2.2.2.2.1, t.2.2.2.2.2.2.2.2.2.2.2.2.1, t.2.2.2.2.2.2.2.2.2.2.2.2.2.1, t.2.2.2.2.2.2.2.2.2.2.2.2.2.2.1, t.2.2.2.2.2.2.2.2.2.2.2.2.2.2.2] : List Int) (i : Int) = some (m : Int) := h2
    rw [h2', Option.bind_some, w64_id (by omega)]
    have hb := hc.2 i (by omega)
    by_cases hf : Free n l out i
    · rw [if_pos hf]
      have e1 : c.testBit i = false := by
        cases hx : c.testBit i
        · rfl
        · exact absurd (hb.1 hx) hf.1
      have e2 : andNotI .u32 (m : Int) (c : Int) = 0 := (andnot m c h1 hc.1).2 fun k hk hm => (hc.2 k hk).2 (hf.2 k (J_lt ok ((h3 k hk).1 hm)).1 ((h3 k hk).1 hm))
      rw [e1, decide_eq_true e2]; rfl
    · rw [if_neg hf]
      by_cases h4 : (i : Int) ∈ out
      · rw [hb.2 h4]; rfl
      · have e1 : c.testBit i = false := by
          cases hx : c.testBit i
          · rfl
          · exact absurd (hb.1 hx) h4
        have e2 : ¬ andNotI .u32 (m : Int) (c : Int) = 0 := fun h0 => hf ⟨h4, fun k hk hj => (hc.2 k (by omega)).1 ((andnot m c h1 hc.1).1 h0 k (by omega) ((h3 k (by omega)).2 hj))⟩
        rw [e1, decide_eq_false e2]; rfl) (by unfold graph_smallestFree_l1; rw [if_neg (by omega)])]
  unfold nextF
  rw [Nat.sub_zero, ← List.range_eq_range']
  cases (List.range n).findSome? (fun i => if Free n l out i then some (i : Int) else none) <;> rfl
theorem rfree_eq {n : Nat} {l : Es} (ok : Ok (n : Int) l) (hl : l.length ≤ 1000000000) {out : List Int} (ho : out.length ≤ 1000000000) (i : Nat) : r20_free (n : Int) l out (i : Int) = some (decide (Free n l out i)) := by
  have hn := ok.2.1
  unfold r20_free
  rw [rhas_eq _ _ ho, Option.bind_some]
  by_cases h4 : (i : Int) ∈ out
  · rw [decide_eq_true h4, if_pos rfl, decide_eq_false (fun h => h.1 h4)]
  · rw [decide_eq_false h4, if_neg Bool.false_ne_true, search_any n _ (fun k => J l k i ∧ ¬ (k : Int) ∈ out) false (fun k hk => by
      unfold r20_free_l1
      rw [if_pos (by omega), redge_eq _ _ _ hl, rhas_eq _ _ ho, w64_id (by omega)]
      simp only [Option.bind_some]
      by_cases c1 : J l k i
      · rw [decide_eq_true c1, if_pos rfl]
        by_cases c2 : (k : Int) ∈ out
        · rw [decide_eq_true c2, if_neg (fun h => h.2 c2)]; rfl
        · rw [decide_eq_false c2, if_pos ⟨c1, c2⟩]; rfl
      · rw [decide_eq_false c1, if_neg Bool.false_ne_true, if_neg (fun h => c1 h.1)]; rfl) (by unfold r20_free_l1; rw [if_neg (by omega)])]
    unfold orR
    by_cases hx : ∃ k, k < n ∧ J l k i ∧ ¬ (k : Int) ∈ out
    · rw [if_pos hx, decide_eq_false (p := Free n l out i) (fun h => by obtain ⟨k, h1, h2, h3⟩ := hx; exact h3 (h.2 k h1 h2))]; rfl
    · rw [if_neg hx, decide_eq_true (p := Free n l out i) ⟨h4, fun k h1 h2 => Classical.byContradiction fun h3 => hx ⟨k, h1, h2, h3⟩⟩]; rfl
theorem nextF_step (n : Nat) (l : Es) (out : List Int) {a : Nat} (h : a < n) : nextF n l out a = if Free n l out a then (a : Int) else nextF n l out (a + 1) := by
  unfold nextF
  rw [show n - a = (n - (a + 1)) + 1 by omega, List.range'_succ, List.findSome?_cons]
  by_cases hf : Free n l out a
  · rw [if_pos hf, if_pos hf]
  · rw [if_neg hf, if_neg hf]
theorem nextF_end (n : Nat) (l : Es) (out : List Int) : nextF n l out n = -1 := by unfold nextF; rw [Nat.sub_self]; rfl
theorem order_l2 {n : Nat} {l : Es} (ok : Ok (n : Int) l) (hl : l.length ≤ 1000000000) {out : List Int} (ho : out.length ≤ 1000000000) : loopW (r20_Order_l2 (n : Int) l out) (-1, w64 ((n : Int) - 1)) = some (nextF n l out 0) := by
  have hn := ok.2.1
  have key : ∀ a : Nat, a ≤ n → loopW (r20_Order_l2 (n : Int) l out) (nextF n l out a, (a : Int) - 1) = some (nextF n l out 0) := by
    intro a
    induction a with
    | zero =>
      intro _
      exact loopW_end (by rw [r20_Order_l2, if_neg (by omega)])
    | succ a ih =>
      intro ha
      have := ih (by omega)
      refine (loopW_go (s' := (nextF n l out a, (a : Int) - 1)) ?_).trans this
      rw [show ((a + 1 : Nat) : Int) - 1 = (a : Int) by omega, r20_Order_l2, if_pos (by omega), rfree_eq ok hl ho, Option.bind_some, w64_id (by omega), nextF_step n l out (show a < n by omega)]
      by_cases hf : Free n l out a
      · rw [if_pos hf, decide_eq_true hf]; rfl
      · rw [if_neg hf, decide_eq_false hf]; rfl
  have := key n (Nat.le_refl _)
  rw [nextF_end] at this
  rw [w64_id (by have := ok.1; omega)]; exact this
/-- The order, node by node. -/
def ord (n : Nat) (l : Es) : Nat → List Int → Option (List Int)
  | 0, out => some out
  | d + 1, out => if nextF n l out 0 < 0 then none else ord n l d (out ++ [nextF n l out 0])
theorem nextF_cases (n : Nat) (l : Es) (out : List Int) : (nextF n l out 0 = -1 ∧ ∀ i, i < n → ¬ Free n l out i) ∨ ∃ i : Nat, i < n ∧ nextF n l out 0 = (i : Int) ∧ Free n l out i ∧ ∀ k, k < i → ¬ Free n l out k := by
  have key : ∀ (d a : Nat), a + d = n → (nextF n l out a = -1 ∧ ∀ i, a ≤ i → i < n → ¬ Free n l out i) ∨ ∃ i : Nat, a ≤ i ∧ i < n ∧ nextF n l out a = (i : Int) ∧ Free n l out i ∧ ∀ k, a ≤ k → k < i → ¬ Free n l out k := by
    intro d
    induction d with
    | zero =>
      intro a ha
      obtain rfl : a = n := by omega
      exact .inl ⟨nextF_end _ _ _, fun i h1 h2 => by omega⟩
    | succ d ih =>
      intro a ha
      rw [nextF_step n l out (show a < n by omega)]
      by_cases hf : Free n l out a
      · rw [if_pos hf]
        exact .inr ⟨a, Nat.le_refl _, by omega, rfl, hf, fun k h1 h2 => by omega⟩
      · rw [if_neg hf]
        rcases ih (a + 1) (by omega) with ⟨h1, h2⟩ | ⟨i, h1, h2, h3, h4, h5⟩
        · exact .inl ⟨h1, fun i h3 h4 => by
            by_cases h : i = a
            · rw [h]; exact hf
            · exact h2 i (by omega) h4⟩
        · exact .inr ⟨i, by omega, h2, h3, h4, fun k h6 h7 => by
            by_cases h : k = a
            · rw [h]; exact hf
            · exact h5 k (by omega) h7⟩
  rcases key n 0 (by omega) with ⟨h1, h2⟩ | ⟨i, _, h2, h3, h4, h5⟩
  · exact .inl ⟨h1, fun i hi => h2 i (by omega) hi⟩
  · exact .inr ⟨i, h2, h3, h4, fun k hk => h5 k (by omega) hk⟩
theorem order_l1 {n : Nat} {l : Es} (ok : Ok (n : Int) l) (hl : l.length ≤ 1000000000) : ∀ (d : Nat) (out : List Int), out.length + d = n → loopW (r20_Order_l1 (n : Int) l) out = some (match ord n l d out with | some o => .inl o | none => .inr ([], false)) := by
  have hn := ok.2.1
  intro d
  induction d with
  | zero =>
    intro out ho
    exact loopW_end (by rw [r20_Order_l1, if_neg (by omega)]; rfl)
  | succ d ih =>
    intro out ho
    unfold ord
    rcases nextF_cases n l out with ⟨h1, _⟩ | ⟨i, _, h1, _⟩
    · rw [if_pos (by omega)]
      exact loopW_end (by rw [r20_Order_l1, if_pos (by omega), order_l2 ok hl (by omega), Option.bind_some, if_pos h1])
    · rw [if_neg (by omega)]
      refine (loopW_go ?_).trans (ih (out ++ [nextF n l out 0]) (by simp; omega))
      rw [r20_Order_l1, if_pos (by omega), order_l2 ok hl (by omega), Option.bind_some, if_neg (by omega), app_is (by simp; omega)]; rfl
theorem porder_l1 {n : Nat} {l : Es} (ok : Ok (n : Int) l) {t : T16} (ht : Sets (fun i k => J l k i) t) : ∀ (d : Nat) (out : List Int) (c : Nat), out.length + d = n → Bits c out → loopW (graph_Order_l1 (n : Int) t) (out, (c : Int), (out.length : Int)) = some (match ord n l d out with | some o => .inl o | none => .inr ([], false)) := by
  have hn := ok.2.1
  intro d
  induction d with
  | zero =>
    intro out c ho hc
    exact loopW_end (by rw [graph_Order_l1, if_neg (by omega)]; rfl)
  | succ d ih =>
    intro out c ho hc
    unfold ord
    rcases nextF_cases n l out with ⟨h1, _⟩ | ⟨i, hi, h1, _⟩
    · rw [if_pos (by omega)]
      exact loopW_end (by rw [graph_Order_l1, if_pos (by omega), smallestFree_eq ok ht hc, Option.bind_some, if_pos (by omega)])
    · have hw := with_eq c i hc.1 (by omega)
      rw [if_neg (by omega), h1]
      have := ih (out ++ [(i : Int)]) (c ||| 2 ^ i) (by simp; omega) ⟨hw.2, fun k hk => by
        rw [with_bit, Bool.or_eq_true, hc.2 k hk, decide_eq_true_eq, List.mem_append, List.mem_singleton]
        exact or_congr Iff.rfl (by omega)⟩
      rw [List.length_append, List.length_singleton] at this
      refine (loopW_go ?_).trans this
      rw [graph_Order_l1, if_pos (by omega), smallestFree_eq ok ht hc, Option.bind_some, h1, if_neg (by omega), app_is (by simp; omega), Option.bind_some, hw.1, Option.bind_some, w64_id (by omega)]; rfl
def orderV (n : Nat) (l : Es) : List Int × Bool := match ord n l n [] with | some o => (o, true) | none => ([], false)
theorem rorder_eq {n : Nat} {l : Es} (ok : Ok (n : Int) l) (hl : l.length ≤ 1000000000) : r20_Order (n : Int) l = some (orderV n l) := by
  unfold r20_Order orderV
  rw [rright_eq _ _ hl, decide_eq_true ok, Option.bind_some, if_neg (by decide), order_l1 ok hl n [] (by simp)]
  cases ord n l n [] <;> rfl
theorem porder_eq {n : Nat} {l : Es} (ok : Ok (n : Int) l) (hl : l.length ≤ 1000000000) : graph_Order (n : Int) l = some (orderV n l) := by
  obtain ⟨t, h1, h2⟩ := pred_eq l n ok hl
  unfold graph_Order orderV
  rw [right_eq _ _ hl, decide_eq_true ok, Option.bind_some, if_neg (by decide), h1, Option.bind_some]
  have := porder_l1 ok h2 n [] 0 (by simp) ⟨by decide, fun k _ => by rw [Nat.zero_testBit]; simp⟩
  have e : loopW (graph_Order_l1 (n : Int) t) ([], 0, 0) = some (match ord n l n [] with | some o => .inl o | none => .inr ([], false)) := this
  rw [e]
  cases ord n l n [] <;> rfl
theorem order_bad {n : Int} {l : Es} (ok : ¬ Ok n l) (hl : l.length ≤ 1000000000) : graph_Order n l = some ([], false) ∧ r20_Order n l = some ([], false) := by
  unfold graph_Order r20_Order
  rw [right_eq _ _ hl, rright_eq _ _ hl, decide_eq_false ok]
  exact ⟨rfl, rfl⟩

/-! ### Where one comes -/
inductive Rch (l : Es) (a : Nat) : Nat → Prop
  | refl : Rch l a a
  | step {b c : Nat} : Rch l a b → J l b c → Rch l a c
def filt (p : Nat → Bool) (m : Nat) : List Int := ((List.range m).filter p).map (fun k : Nat => (k : Int))
theorem filt_succ (p : Nat → Bool) (m : Nat) : filt p (m + 1) = if p m = true then filt p m ++ [(m : Int)] else filt p m := by
  unfold filt
  rw [List.range_succ, List.filter_append, List.map_append]
  cases h : p m <;> simp [h]
theorem filt_len (p : Nat → Bool) (m : Nat) : (filt p m).length ≤ m := by
  unfold filt
  rw [List.length_map]
  have := List.length_filter_le p (List.range m)
  rw [List.length_range] at this; exact this
theorem filt_ext {p q : Nat → Bool} {m : Nat} (h : ∀ k, k < m → p k = q k) : filt p m = filt q m := by
  unfold filt
  congr 1
  refine List.filter_congr fun k hk => h k (List.mem_range.1 hk)
theorem filt_more {p : Nat → Bool} {n m : Nat} (hnm : n ≤ m) (h : ∀ k, n ≤ k → k < m → p k = false) : filt p m = filt p n := by
  induction m with
  | zero => rw [show n = 0 by omega]
  | succ m ih =>
    by_cases e : n = m + 1
    · rw [e]
    · rw [filt_succ, h m (by omega) (by omega), if_neg Bool.false_ne_true]
      exact ih (by omega) fun k h1 h2 => h k h1 (by omega)
theorem nodes_eq {s : Nat} (hs : s < 65536) : graph_nodes (s : Int) = some (filt s.testBit 16) := by
  unfold graph_nodes
  obtain ⟨r, h1, h2⟩ := loop_cnt 16 (fun (o : List Int) (k : Nat) => (o, (k : Int))) (graph_nodes_l1 (s : Int)) id (fun o k => o = filt s.testBit k)
    (fun o k hk hI => by
      refine ⟨filt s.testBit (k + 1), ?_, rfl⟩
      have hlen := filt_len s.testBit k
      rw [hI, graph_nodes_l1, if_pos (by omega), has_eq s k hs (by omega), Option.bind_some, filt_succ, w64_id (by omega)]
      cases s.testBit k
      · rfl
      · rw [if_pos rfl, if_pos rfl, app_is (by simp; omega)]; rfl)
    (fun o _ => by rw [graph_nodes_l1, if_neg (by omega)]; rfl) [] rfl
  have e : loopW (graph_nodes_l1 (s : Int)) ([], 0) = some r := h2
  rw [e, h1]; rfl
theorem rnodes_eq {n : Nat} (hn : n ≤ 16) {got : List Int} (hg : got.length ≤ 1000000000) : loopW (r20_Reach_l3 (n : Int) got) ([], 0) = some (filt (fun k => decide ((k : Int) ∈ got)) n) := by
  obtain ⟨r, h1, h2⟩ := loop_cnt n (fun (o : List Int) (k : Nat) => (o, (k : Int))) (r20_Reach_l3 (n : Int) got) id (fun o k => o = filt (fun k => decide ((k : Int) ∈ got)) k)
    (fun o k hk hI => by
      refine ⟨filt (fun k => decide ((k : Int) ∈ got)) (k + 1), ?_, rfl⟩
      have hlen := filt_len (fun k => decide ((k : Int) ∈ got)) k
      rw [hI, r20_Reach_l3, if_pos (by omega), rhas_eq _ _ hg, Option.bind_some, filt_succ, w64_id (by omega)]
      by_cases hc : (k : Int) ∈ got
      · rw [decide_eq_true hc, if_pos rfl, if_pos rfl, app_is (by simp; omega)]; rfl
      · rw [decide_eq_false hc]; rfl)
    (fun o _ => by rw [r20_Reach_l3, if_neg (by omega)]; rfl) [] rfl
  have e : loopW (r20_Reach_l3 (n : Int) got) ([], 0) = some r := h2
  rw [e, h1]
theorem bit_lt {s k : Nat} (hs : s < 65536) (h : s.testBit k = true) : k < 16 := by
  refine Classical.byContradiction fun hk => ?_
  rw [Nat.testBit_lt_two_pow (show s < 2 ^ k from Nat.lt_of_lt_of_le hs (Nat.pow_le_pow_right (n := 2) (by decide) (show 16 ≤ k by omega)))] at h
  cases h
/-- A round of the closure. -/
structure Round (l : Es) (s s' : Nat) (j : Nat) : Prop where
  lt : s' < 65536
  inc : ∀ k, s.testBit k = true → s'.testBit k = true
  suc : ∀ k c, k < j → s.testBit k = true → J l k c → s'.testBit c = true
  cl : ∀ Q : Nat → Prop, (∀ k, s.testBit k = true → Q k) → (∀ k c, Q k → J l k c → Q c) → ∀ k, s'.testBit k = true → Q k
theorem round_eq {n : Nat} {l : Es} (ok : Ok (n : Int) l) {t : T16} (ht : Sets (fun i k => J l i k) t) {s : Nat} (hs : s < 65536) : ∃ s', Round l s s' n ∧ loopW (graph_reached_l2 (n : Int) t) ((s : Int), 0) = some (s' : Int) := by
  have hn := ok.2.1
  obtain ⟨r, h1, h2⟩ := loop_cnt n (fun (x : Nat) (k : Nat) => ((x : Int), (k : Int))) (graph_reached_l2 (n : Int) t) (fun x => (x : Int)) (fun x k => Round l s x k)
    (fun x k hk hI => by
      obtain ⟨m, m1, m2, m3⟩ := ht k (by omega)
      have m2' : ix ([t.1, t.2.1, t.2.2.1, t.2.2.2.1, t.2.2.2.2.1, t.2.2.2.2.2.1, t.2.2.2.2.2.2.1, t.2.2.2.2.2.2.2.1, t.2.2.2.2.2.2.2.2.1, t.2.2.2.2.2.2.2.2.2.1, t.2.2.2.2.2.2.2.2.2.2.1, t.2.2.2.2.2.2.2.2.2.2.2.1, t.2.2.2.2.2.2.2.2.2.2.2.2.1, t.2.2.2.2.2.2.2.2.2.2.2.2.2.1, t.2.2.2.2.2.2.2.2.2.2.2.2.2.2.1, t.2.2.2.2.2.2.2.2.2.2.2.2.2.2.2] : List Int) (k : Int) = some (m : Int) := m2
      cases hb : x.testBit k
      · refine ⟨x, ?_, hI.lt, hI.inc, fun a c ha hsa hj => ?_, hI.cl⟩
        · rw [graph_reached_l2, if_pos (by omega), has_eq x k hI.lt (by omega), hb, w64_id (by omega)]; rfl
        · by_cases hak : a = k
          · subst hak
            rw [hI.inc _ hsa] at hb; cases hb
          · exact hI.suc a c (by omega) hsa hj
      · have ho := or_u32 x m hI.lt m1
        refine ⟨x ||| m, ?_, ho.2, fun a ha => ?_, fun a c ha hsa hj => ?_, fun Q q1 q2 a ha => ?_⟩
        · rw [graph_reached_l2, if_pos (by omega), has_eq x k hI.lt (by omega), hb, Option.bind_some, if_pos rfl, m2', Option.bind_some, ho.1, w64_id (by omega)]; rfl
        · rw [Nat.testBit_or, hI.inc a ha]; rfl
        · rw [Nat.testBit_or, Bool.or_eq_true]
          by_cases hak : a = k
          · subst hak
            have := J_lt ok hj
            exact .inr ((m3 c (by omega)).2 hj)
          · exact .inl (hI.suc a c (by omega) hsa hj)
        · rw [Nat.testBit_or, Bool.or_eq_true] at ha
          rcases ha with ha | ha
          · exact hI.cl Q q1 q2 a ha
          · exact q2 k a (hI.cl Q q1 q2 k hb) ((m3 a (bit_lt m1 ha)).1 ha))
    (fun x _ => by rw [graph_reached_l2, if_neg (by omega)]) s ⟨hs, fun _ h => h, fun _ _ h => by omega, fun Q q1 _ k hk => q1 k hk⟩
  exact ⟨r, h1, h2⟩
theorem cnt_le (p : Nat → Bool) (m : Nat) : (List.range m).countP p ≤ m := by
  have := List.countP_le_length (p := p) (l := List.range m)
  rw [List.length_range] at this; exact this
theorem cnt_lt {p q : Nat → Bool} {m : Nat} (h : ∀ k, k < m → p k = true → q k = true) {c : Nat} (hc : c < m) (h1 : p c = false) (h2 : q c = true) : (List.range m).countP p < (List.range m).countP q := by
  induction m with
  | zero => omega
  | succ m ih =>
    rw [List.range_succ, List.countP_append, List.countP_append]
    have hle : ∀ m' : Nat, m' ≤ m → (List.range m').countP p ≤ (List.range m').countP q := fun m' hm => List.countP_mono_left fun k hk hp => h k (by have := List.mem_range.1 hk; omega) hp
    by_cases e : c = m
    · subst e
      have := hle c (Nat.le_refl _)
      simp [h1, h2]; omega
    · have := ih (fun k hk => h k (by omega)) (by omega)
      have h3 : List.countP p [m] ≤ List.countP q [m] := List.countP_mono_left fun k hk hp => h k (by rw [List.mem_singleton.1 hk]; omega) hp
      omega
theorem reached_eq {n : Nat} {l : Es} (ok : Ok (n : Int) l) {t : T16} (ht : Sets (fun i k => J l i k) t) {f : Nat} (hf : f < n) : ∃ s : Nat, s < 65536 ∧ graph_reached (n : Int) t (f : Int) = some (s : Int) ∧ ∀ k, s.testBit k = true ↔ Rch l f k := by
  have hn := ok.2.1
  have hw := with_eq 0 f (by decide) (by omega)
  obtain ⟨r, h1, h2⟩ := loop_cnt n (fun (x : Nat) (k : Nat) => ((x : Int), (k : Int))) (graph_reached_l1 (n : Int) t) (fun x => (x : Int))
    (fun x k => x < 65536 ∧ x.testBit f = true ∧ (∀ a, x.testBit a = true → Rch l f a) ∧ ((∀ a c, x.testBit a = true → J l a c → x.testBit c = true) ∨ k + 1 ≤ (List.range n).countP x.testBit))
    (fun x k hk hI => by
      obtain ⟨a1, a2, a3, a4⟩ := hI
      obtain ⟨y, b1, b2⟩ := round_eq ok ht a1
      refine ⟨y, ?_, b1.lt, b1.inc _ a2, fun a ha => b1.cl (Rch l f) a3 (fun a c h1 h2 => .step h1 h2) a ha, ?_⟩
      · rw [graph_reached_l1, if_pos (by omega), b2, Option.bind_some, w64_id (by omega)]; rfl
      · rcases Classical.em (∀ a c, x.testBit a = true → J l a c → x.testBit c = true) with hcl | hcl
        · left
          have hback := b1.cl (fun a => x.testBit a = true) (fun _ h => h) (fun a c h1 h2 => hcl a c h1 h2)
          exact fun a c h1 h2 => b1.inc _ (hcl a c (hback a h1) h2)
        · right
          have hk1 := a4.resolve_left hcl
          obtain ⟨a, ha⟩ := Classical.not_forall.1 hcl
          obtain ⟨c, hc⟩ := Classical.not_forall.1 ha
          obtain ⟨h3, hc⟩ := Classical.not_forall.1 hc
          obtain ⟨h4, h5⟩ := Classical.not_forall.1 hc
          have hlt := J_lt ok h4
          have := cnt_lt (p := x.testBit) (q := y.testBit) (m := n) (fun k _ h => b1.inc k h) hlt.2 (by simpa using h5) (b1.suc a c hlt.1 h3 h4)
          omega)
    (fun x _ => by rw [graph_reached_l1, if_neg (by omega)]) (0 ||| 2 ^ f) ⟨hw.2, by rw [with_bit]; simp, fun a ha => by
      rw [with_bit, Nat.zero_testBit, Bool.false_or, decide_eq_true_eq] at ha
      subst ha; exact .refl, .inr (by
        refine Nat.pos_of_ne_zero fun h0 => ?_
        rw [List.countP_eq_zero] at h0
        exact h0 f (List.mem_range.2 hf) (by rw [with_bit]; simp))⟩
  refine ⟨r, h1.1, ?_, fun k => ⟨h1.2.2.1 k, fun hr => ?_⟩⟩
  · unfold graph_reached
    have e : graph_set_with 0 (f : Int) = some ((0 ||| 2 ^ f : Nat) : Int) := hw.1
    have e2 : loopW (graph_reached_l1 (n : Int) t) (((0 ||| 2 ^ f : Nat) : Int), 0) = some (r : Int) := h2
    rw [e, Option.bind_some, e2]; rfl
  · have hcl := h1.2.2.2.resolve_right (by have := cnt_le r.testBit n; omega)
    induction hr with
    | refl => exact h1.2.1
    | step _ hj ih => exact hcl _ _ ih hj
/-- What one has got of what the first k lead to. -/
structure Got (n : Nat) (l : Es) (f : Nat) (got : List Int) (k : Nat) : Prop where
  nd : got.Nodup
  ran : ∀ x ∈ got, ∃ a : Nat, x = (a : Int) ∧ a < n ∧ Rch l f a
  has : (f : Int) ∈ got
  suc : ∀ j, j < k → ∀ a : Nat, got[j]? = some (a : Int) → ∀ c, J l a c → (c : Int) ∈ got
theorem nodup_len {n : Nat} : ∀ (m : Nat) (got : List Int), got.Nodup → (∀ x ∈ got, 0 ≤ x ∧ x < (m : Int)) → got.length ≤ m
  | 0, got, _, h => by
    cases got with
    | nil => simp
    | cons x l => have := h x (List.mem_cons_self ..); omega
  | m + 1, got, hn, h => by
    have h2 := nodup_len (n := n) m (got.erase (m : Int)) (hn.erase _) (fun x hx => by
      have h3 := h x (List.mem_of_mem_erase hx)
      have h4 : x ≠ (m : Int) := fun e => by
        subst e
        exact (List.Nodup.not_mem_erase hn) hx
      omega)
    have h5 := List.length_erase_le (a := (m : Int)) (l := got)
    by_cases hm : (m : Int) ∈ got
    · rw [List.length_erase_of_mem hm] at h2; omega
    · rw [List.erase_of_not_mem hm] at h2; omega
theorem got_len {n : Nat} {l : Es} {f : Nat} {got : List Int} {k : Nat} (h : Got n l f got k) : got.length ≤ n :=
  nodup_len (n := n) n got h.nd fun x hx => by obtain ⟨a, rfl, ha, _⟩ := h.ran x hx; omega
theorem reach_l2 {n : Nat} {l : Es} (ok : Ok (n : Int) l) (hl : l.length ≤ 1000000000) {f : Nat} {got : List Int} {k : Nat} (h : Got n l f got k) (hk : k < got.length) : ∃ got', k < got'.length ∧ Got n l f got' (k + 1) ∧ loopW (r20_Reach_l2 (n : Int) l (k : Int)) (got, 0) = some got' := by
  have hn := ok.2.1
  obtain ⟨a, ha, han, har⟩ := h.ran got[k] (List.getElem_mem hk)
  have hg0 : got[k]? = some (a : Int) := by rw [List.getElem?_eq_getElem hk, ha]
  obtain ⟨r, h1, h2⟩ := loop_cnt n (fun (o : List Int) (i : Nat) => (o, (i : Int))) (r20_Reach_l2 (n : Int) l (k : Int)) id (fun o i => Got n l f o k ∧ (∀ (j : Nat) (x : Int), got[j]? = some x → o[j]? = some x) ∧ ∀ c, c < i → J l a c → (c : Int) ∈ o)
    (fun o i hi hI => by
      obtain ⟨g, pre, su⟩ := hI
      have hol := got_len g
      have hstep : r20_Reach_l2 (n : Int) l (k : Int) (o, (i : Int)) = ((if J l a i ∧ (i : Int) ∉ o then app o [(i : Int)] else some o).bind fun x => some (.inl (x, ((i + 1 : Nat) : Int)))) := by
        rw [r20_Reach_l2, if_pos (by omega), ix_nat (pre _ _ hg0), Option.bind_some, redge_eq _ _ _ hl, Option.bind_some, w64_id (by omega), rhas_eq _ _ (by omega)]
        by_cases c1 : J l a i
        · rw [decide_eq_true c1, if_pos rfl]
          by_cases c2 : (i : Int) ∈ o
          · rw [decide_eq_true c2, if_neg (fun h => h.2 c2)]; rfl
          · rw [decide_eq_false c2, if_pos ⟨c1, c2⟩, app_is (by simp; omega)]; rfl
        · rw [decide_eq_false c1, if_neg Bool.false_ne_true, if_neg (fun h => c1 h.1)]; rfl
      by_cases c1 : J l a i ∧ (i : Int) ∉ o
      · refine ⟨o ++ [(i : Int)], by rw [hstep, if_pos c1, app_is (by simp; omega)]; rfl, ⟨?_, ?_, ?_, ?_⟩, ?_, ?_⟩
        · rw [List.nodup_append]
          refine ⟨g.nd, by simp, fun x hx y hy => ?_⟩
          rw [List.mem_singleton] at hy
          subst hy
          exact fun e => c1.2 (e ▸ hx)
        · intro x hx
          rcases List.mem_append.1 hx with h3 | h3
          · exact g.ran x h3
          · rw [List.mem_singleton] at h3
            exact ⟨i, h3, hi, .step har c1.1⟩
        · exact List.mem_append_left _ g.has
        · intro j hj b hb c hc
          have hjl : j < o.length := by
            have h6 : j < got.length := by omega
            have := pre j got[j] (List.getElem?_eq_getElem h6)
            exact (List.getElem?_eq_some_iff.1 this).1
          rw [List.getElem?_append_left hjl] at hb
          exact List.mem_append_left _ (g.suc j hj b hb c hc)
        · intro j x hx
          have := pre j x hx
          rw [List.getElem?_append_left (List.getElem?_eq_some_iff.1 this).1]; exact this
        · intro c hc hj
          by_cases e : c = i
          · subst e; exact List.mem_append_right _ (by simp)
          · exact List.mem_append_left _ (su c (by omega) hj)
      · refine ⟨o, by rw [hstep, if_neg c1]; rfl, g, pre, fun c hc hj => ?_⟩
        by_cases e : c = i
        · subst e
          exact Classical.byContradiction fun h => c1 ⟨hj, h⟩
        · exact su c (by omega) hj)
    (fun o _ => by rw [r20_Reach_l2, if_neg (by omega)]; rfl) got ⟨h, fun _ _ h => h, fun _ h => by omega⟩
  refine ⟨r, (List.getElem?_eq_some_iff.1 (h1.2.1 _ _ hg0)).1, ⟨h1.1.nd, h1.1.ran, h1.1.has, fun j hj b hb c hc => ?_⟩, h2⟩
  by_cases e : j = k
  · subst e
    rw [h1.2.1 _ _ hg0] at hb
    have hab : a = b := by have := Option.some.inj hb; omega
    subst hab
    exact h1.2.2 c (J_lt ok hc).2 hc
  · exact h1.1.suc j (by omega) b hb c hc
theorem reach_l1 {n : Nat} {l : Es} (ok : Ok (n : Int) l) (hl : l.length ≤ 1000000000) {f : Nat} (hf : f < n) : ∃ got : List Int, got.length ≤ n ∧ loopW (r20_Reach_l1 (n : Int) l) ([(f : Int)], 0) = some got ∧ ∀ k : Nat, (k : Int) ∈ got ↔ Rch l f k := by
  have hn := ok.2.1
  obtain ⟨got, h1, h2⟩ := loopW_ex (step := r20_Reach_l1 (n : Int) l) (fun s => ∃ k : Nat, s.2 = (k : Int) ∧ k ≤ s.1.length ∧ Got n l f s.1 k) (fun s => n - s.2.toNat) (fun got => ∃ k : Nat, k = got.length ∧ Got n l f got k)
    (by
      rintro ⟨got, _⟩ ⟨k, rfl, hk, g⟩
      simp only at hk g
      have hgl := got_len g
      by_cases h : k < got.length
      · left
        obtain ⟨got', hgl2, h3, h4⟩ := reach_l2 ok hl g h
        exact ⟨(got', ((k + 1 : Nat) : Int)), by rw [r20_Reach_l1, if_pos (by omega), h4, Option.bind_some, w64_id (by omega)]; rfl, ⟨k + 1, rfl, by simp only; omega, h3⟩, by simp only [Int.toNat_natCast]; omega⟩
      · right
        exact ⟨got, by rw [r20_Reach_l1, if_neg (by omega)], k, by omega, g⟩) ([(f : Int)], 0) ⟨0, rfl, by simp, ⟨by simp, fun x hx => ⟨f, List.mem_singleton.1 hx, hf, .refl⟩, by simp, fun j hj => by omega⟩⟩
  obtain ⟨k, rfl, g⟩ := h2
  refine ⟨got, got_len g, h1, fun k => ⟨fun h => ?_, fun h => ?_⟩⟩
  · obtain ⟨a, ha, _, hr⟩ := g.ran _ h
    rwa [show k = a by omega]
  · induction h with
    | refl => exact g.has
    | step _ hj ih =>
      obtain ⟨j, hj1, hj2⟩ := List.getElem_of_mem ih
      exact g.suc j hj1 _ (by rw [List.getElem?_eq_getElem hj1, hj2]) _ hj
theorem reach_eq {n : Nat} {l : Es} (ok : Ok (n : Int) l) (hl : l.length ≤ 1000000000) (p : Int) : ∃ r, graph_Reach (n : Int) l p = some r ∧ r20_Reach (n : Int) l p = some r ∧ r.length ≤ 16 := by
  have hn := ok.2.1
  unfold graph_Reach r20_Reach
  rw [right_eq _ _ hl, rright_eq _ _ hl, decide_eq_true ok]
  by_cases hp : p < 0 ∨ (n : Int) ≤ p
  · refine ⟨[], ?_, ?_, by simp⟩
    · by_cases h : p < 0
      · simp [h]
      · have h2 : (n : Int) ≤ p := by omega
        simp [h, h2]
    · by_cases h : p < 0
      · simp [h]
      · have h2 : (n : Int) ≤ p := by omega
        simp [h, h2]
  · obtain ⟨f, rfl⟩ : ∃ f : Nat, p = (f : Int) := ⟨p.toNat, by omega⟩
    have hf : f < n := by omega
    obtain ⟨t, h1, h2⟩ := succ_eq l n ok hl
    obtain ⟨s, h3, h4, h5⟩ := reached_eq ok h2 hf
    obtain ⟨got, g1, g2, g3⟩ := reach_l1 ok hl hf
    have hge : ∀ k, s.testBit k = decide ((k : Int) ∈ got) := by
      intro k
      by_cases h : Rch l f k
      · rw [(h5 k).2 h, decide_eq_true ((g3 k).2 h)]
      · rw [decide_eq_false (fun h2 => h ((g3 k).1 h2))]
        cases hb : s.testBit k
        · rfl
        · exact absurd ((h5 k).1 hb) h
    have hlt : ∀ k, n ≤ k → s.testBit k = false := by
      intro k hk
      cases hb : s.testBit k
      · rfl
      · have hr := (h5 k).1 hb
        cases hr with
        | refl => omega
        | step _ hj => have := J_lt ok hj; omega
    refine ⟨filt s.testBit 16, ?_, ?_, filt_len _ _⟩
    · rw [Option.bind_some, if_neg (by decide), if_neg (by omega), decide_eq_false (by omega), Option.bind_some, if_neg (by decide), h1, Option.bind_some, h4, Option.bind_some, nodes_eq h3]; rfl
    · rw [Option.bind_some, if_neg (by decide), if_neg (by omega), decide_eq_false (by omega), Option.bind_some, if_neg (by decide), g2, Option.bind_some, rnodes_eq (by omega) (by omega), Option.bind_some, filt_more (show n ≤ 16 by omega) (fun k h1 _ => hlt k h1), filt_ext (fun k _ => hge k)]
theorem reach_bad {n : Int} {l : Es} (ok : ¬ Ok n l) (hl : l.length ≤ 1000000000) (p : Int) : graph_Reach n l p = some [] ∧ r20_Reach n l p = some [] := by
  unfold graph_Reach r20_Reach
  rw [right_eq _ _ hl, rright_eq _ _ hl, decide_eq_false ok]
  exact ⟨rfl, rfl⟩

/-! ### How far each node is -/
/-- Each node of the list is free behind those ahead of it. -/
def Good (n : Nat) (l : Es) (o : List Int) : Prop := ∀ (j : Nat) (x : Int), o[j]? = some x → ∃ i : Nat, i < n ∧ x = (i : Int) ∧ Free n l (o.take j) i
theorem ord_good {n : Nat} {l : Es} : ∀ (d : Nat) (out o : List Int), ord n l d out = some o → Good n l out → Good n l o ∧ o.length = out.length + d
  | 0, out, o, h, g => by cases h; exact ⟨g, rfl⟩
  | d + 1, out, o, h, g => by
    unfold ord at h
    rcases nextF_cases n l out with ⟨h1, _⟩ | ⟨i, hi, h1, hf, _⟩
    · rw [if_pos (by omega)] at h; cases h
    · rw [if_neg (by omega), h1] at h
      have := ord_good d (out ++ [(i : Int)]) o h (fun j x hx => by
        by_cases hj : j < out.length
        · rw [List.getElem?_append_left hj] at hx
          rw [List.take_append_of_le_length (by omega)]
          exact g j x hx
        · have hj2 := (List.getElem?_eq_some_iff.1 hx).1
          rw [List.length_append, List.length_singleton] at hj2
          obtain rfl : j = out.length := by omega
          rw [List.getElem?_append_right (Nat.le_refl _), Nat.sub_self] at hx
          have hx : (i : Int) = x := by simpa using hx
          rw [List.take_append_of_le_length (Nat.le_refl _), List.take_length]
          exact ⟨i, hi, hx.symm, hf⟩)
      rw [List.length_append, List.length_singleton] at this
      exact ⟨this.1, by omega⟩
theorem good_nodup {n : Nat} {l : Es} : ∀ (o : List Int), Good n l o → o.Nodup := by
  refine snoc_ind (by intro _; simp) (fun o x ih g => ?_)
  have g' : Good n l o := fun j y hy => by
    have hj := (List.getElem?_eq_some_iff.1 hy).1
    have := g j y (by rw [List.getElem?_append_left hj]; exact hy)
    rwa [List.take_append_of_le_length (by omega)] at this
  obtain ⟨i, hi, rfl, hf⟩ := g o.length x (by rw [List.getElem?_append_right (Nat.le_refl _), Nat.sub_self]; rfl)
  rw [List.take_append_of_le_length (Nat.le_refl _), List.take_length] at hf
  rw [List.nodup_append]
  refine ⟨ih g', by simp, fun a ha b hb => ?_⟩
  rw [List.mem_singleton] at hb
  subst hb
  exact fun e => hf.1 (e ▸ ha)
theorem good_all {n : Nat} {l : Es} {o : List Int} (g : Good n l o) (ho : o.length = n) {b : Nat} (hb : b < n) : (b : Int) ∈ o := by
  refine Classical.byContradiction fun h => ?_
  have hn : (o ++ [(b : Int)]).Nodup := by
    rw [List.nodup_append]
    refine ⟨good_nodup o g, by simp, fun x hx y hy => ?_⟩
    rw [List.mem_singleton] at hy
    subst hy
    exact fun e => h (e ▸ hx)
  have := nodup_len (n := n) n _ hn (fun x hx => by
    rcases List.mem_append.1 hx with h1 | h1
    · obtain ⟨j, hj, rfl⟩ := List.getElem_of_mem h1
      obtain ⟨i, hi, he, _⟩ := g j o[j] (List.getElem?_eq_getElem hj)
      omega
    · rw [List.mem_singleton] at h1; omega)
  rw [List.length_append, List.length_singleton] at this
  omega
def lst (F : Nat → Nat) (n : Nat) : List Int := (List.range n).map (fun k => (F k : Int))
theorem lst_len (F : Nat → Nat) (n : Nat) : (lst F n).length = n := by unfold lst; simp
theorem lst_get {F : Nat → Nat} {n k : Nat} (hk : k < n) : ix (lst F n) (k : Int) = some (F k : Int) := by
  refine ix_nat ?_
  unfold lst
  rw [List.getElem?_map, List.getElem?_range hk]; rfl
def put (F : Nat → Nat) (i v : Nat) : Nat → Nat := fun k => if k = i then v else F k
theorem lst_set {F : Nat → Nat} {n i v : Nat} (hi : i < n) : setAt (lst F n) (i : Int) (v : Int) = lst (put F i v) n := by
  unfold setAt
  rw [Int.toNat_natCast]
  refine List.ext_getElem? fun k => ?_
  unfold lst put
  rw [List.getElem?_set]
  by_cases h : k < n
  · rw [List.getElem?_map, List.getElem?_map, List.getElem?_range h]
    by_cases e : i = k
    · subst e; simp [hi]
    · have e2 : ¬ k = i := fun h => e h.symm
      simp [e, e2]
  · have e : ¬ i = k := by omega
    rw [if_neg e]
    simp [h]
theorem lst_zero (n : Nat) : List.replicate n (0 : Int) = lst (fun _ => 0) n := by
  unfold lst
  simp [List.map_const']
/-- All edges lead further. -/
abbrev Closed (l : Es) (F : Nat → Nat) : Prop := ∀ a b, J l a b → F a + 1 ≤ F b
/-- What has been told once the first nodes of an order are told. -/
structure Told (l : Es) (done : List Int) (F : Nat → Nat) : Prop where
  bd : ∀ k, F k ≤ done.length
  zero : ∀ k : Nat, (k : Int) ∉ done → F k = 0
  cl : ∀ a b : Nat, (b : Int) ∈ done → J l a b → F a + 1 ≤ F b
  ti : ∀ b : Nat, F b = 0 ∨ ∃ a, J l a b ∧ F b = F a + 1
  pr : ∀ a b : Nat, (b : Int) ∈ done → J l a b → (a : Int) ∈ done
theorem put_same (F : Nat → Nat) (i v : Nat) : put F i v i = v := if_pos rfl
theorem put_ne (F : Nat → Nat) {i k : Nat} (v : Nat) (h : k ≠ i) : put F i v k = F k := if_neg h
theorem put_put (F : Nat → Nat) (i v w : Nat) : put (put F i v) i w = put F i w := by
  funext k
  unfold put
  by_cases h : k = i
  · rw [if_pos h, if_pos h]
  · rw [if_neg h, if_neg h, if_neg h]
theorem put_self (F : Nat → Nat) (i : Nat) : put F i (F i) = F := by
  funext k
  unfold put
  by_cases h : k = i
  · rw [if_pos h, h]
  · rw [if_neg h]
theorem far_l2 {n : Nat} {l : Es} (ok : Ok (n : Int) l) {t : T16} (ht : Sets (fun i k => J l k i) t) {done : List Int} (hd : done.length ≤ 16) {F : Nat → Nat} (hF : Told l done F) {b : Nat} (hb : b < n) (hf : Free n l done b) : ∃ v : Nat, Told l (done ++ [(b : Int)]) (put F b v) ∧ loopW (graph_Far_l2 (n : Int) t (b : Int)) (lst F n, 0) = some (lst (put F b v) n) := by
  have hn := ok.2.1
  have hFb : F b = 0 := hF.zero b hf.1
  obtain ⟨m, m1, m2, m3⟩ := ht b (by omega)
  have m2' : ix ([t.1, t.2.1, t.2.2.1, t.2.2.2.1, t.2.2.2.2.1, t.2.2.2.2.2.1, t.2.2.2.2.2.2.1, t.2.2.2.2.2.2.2.1, t.2.2.2.2.2.2.2.2.1, t.2.2.2.2.2.2.2.2.2.1, t.2.2.2.2.2.2.2.2.2.2.1, t.2.2.2.2.2.2.2.2.2.2.2.1, t.2.2.2.2.2.2.2.2.2.2.2.2.1, t.2.2.2.2.2.2.2.2.2.2.2.2.2.1, t.2.2.2.2.2.2.2.2.2.2.2.2.2.2.1, t.2.2.2.2.2.2.2.2.2.2.2.2.2.2.2] : List Int) (b : Int) = some (m : Int) := m2
  obtain ⟨v, h1, h2⟩ := loop_cnt n (fun (v : Nat) (k : Nat) => (lst (put F b v) n, (k : Int))) (graph_Far_l2 (n : Int) t (b : Int)) (fun v => lst (put F b v) n)
    (fun v k => v ≤ done.length + 1 ∧ (∀ a, a < k → J l a b → F a + 1 ≤ v) ∧ (v = 0 ∨ ∃ a, J l a b ∧ v = F a + 1))
    (fun v k hk hI => by
      obtain ⟨i1, i2, i3⟩ := hI
      by_cases hj : J l k b
      · have hkb : k ≠ b := fun e => hf.1 (e ▸ hf.2 k hk hj)
        have hbd := hF.bd k
        refine ⟨max v (F k + 1), ?_, by omega, fun a ha hja => ?_, ?_⟩
        · rw [graph_Far_l2, if_pos (by omega), m2', Option.bind_some, has_eq m k m1 (by omega), (m3 k (by omega)).2 hj, Option.bind_some, if_pos rfl, lst_get hb, lst_get hk]
          simp only [Option.bind_some]
          rw [put_same, put_ne F v hkb, w64_id (by omega), w64_id (by omega), show max (v : Int) ((F k : Int) + 1) = ((max v (F k + 1) : Nat) : Int) by omega, lst_set hb, put_put]; rfl
        · by_cases e : a = k
          · subst e; omega
          · have := i2 a (by omega) hja; omega
        · by_cases h : v ≤ F k + 1
          · exact .inr ⟨k, hj, by omega⟩
          · rcases i3 with h3 | ⟨a, h3, h4⟩
            · omega
            · exact .inr ⟨a, h3, by omega⟩
      · refine ⟨v, ?_, i1, fun a ha hja => ?_, i3⟩
        · have hb0 : m.testBit k = false := by
            cases hx : m.testBit k
            · rfl
            · exact absurd ((m3 k (by omega)).1 hx) hj
          rw [graph_Far_l2, if_pos (by omega), m2', Option.bind_some, has_eq m k m1 (by omega), hb0, Option.bind_some, if_neg Bool.false_ne_true, w64_id (by omega)]; rfl
        · by_cases e : a = k
          · subst e; exact absurd hja hj
          · exact i2 a (by omega) hja)
    (fun v _ => by rw [graph_Far_l2, if_neg (by omega)]) 0 ⟨by omega, fun _ h => by omega, .inl rfl⟩
  have e0 : put F b 0 = F := by rw [← hFb]; exact put_self F b
  simp only [e0] at h2
  refine ⟨v, ⟨fun k => ?_, fun k hk => ?_, fun a c hc hj => ?_, fun c => ?_, fun a c hc hj => ?_⟩, h2⟩
  · rw [List.length_append, List.length_singleton]
    by_cases e : k = b
    · subst e; rw [put_same]; exact h1.1
    · rw [put_ne F v e]; have := hF.bd k; omega
  · rw [List.mem_append, List.mem_singleton] at hk
    rw [put_ne F v (fun e => hk (.inr (by rw [e])))]
    exact hF.zero k fun h => hk (.inl h)
  · rw [List.mem_append, List.mem_singleton] at hc
    by_cases e : c = b
    · subst e
      have han := (J_lt ok hj).1
      have hne : a ≠ c := fun e => hf.1 (by rw [← e]; exact hf.2 a han hj)
      rw [put_same, put_ne F v hne]
      exact h1.2.1 a han hj
    · have hcd : (c : Int) ∈ done := hc.resolve_right (by omega)
      have had := hF.pr a c hcd hj
      have hne : a ≠ b := fun e => hf.1 (by rw [← e]; exact had)
      rw [put_ne F v e, put_ne F v hne]
      exact hF.cl a c hcd hj
  · by_cases e : c = b
    · subst e
      rw [put_same]
      refine h1.2.2.imp id fun ⟨a, h3, h4⟩ => ⟨a, h3, ?_⟩
      have hne : a ≠ c := fun e => hf.1 (by rw [← e]; exact hf.2 a (J_lt ok h3).1 h3)
      rw [put_ne F v hne]; exact h4
    · rw [put_ne F v e]
      refine (hF.ti c).imp id fun ⟨a, h3, h4⟩ => ⟨a, h3, ?_⟩
      by_cases e2 : a = b
      · subst e2
        by_cases hcd : (c : Int) ∈ done
        · exact absurd (hF.pr a c hcd h3) hf.1
        · have := hF.zero c hcd; omega
      · rw [put_ne F v e2]; exact h4
  · rw [List.mem_append, List.mem_singleton] at hc ⊢
    by_cases e : c = b
    · subst e; exact .inl (hf.2 a (J_lt ok hj).1 hj)
    · exact .inl (hF.pr a c (hc.resolve_right (by omega)) hj)
theorem pfar_l1 {n : Nat} {l : Es} (ok : Ok (n : Int) l) {t : T16} (ht : Sets (fun i k => J l k i) t) {o : List Int} (g : Good n l o) (ho : o.length = n) (q : Bool) : ∃ F, Told l o F ∧ loopW (graph_Far_l1 (n : Int) (o, q) t) (lst (fun _ => 0) n, 0) = some (lst F n) := by
  have hn := ok.2.1
  obtain ⟨F, h1, h2⟩ := loop_cnt n (fun (F : Nat → Nat) (k : Nat) => (lst F n, (k : Int))) (graph_Far_l1 (n : Int) (o, q) t) (fun F => lst F n) (fun F k => Told l (o.take k) F)
    (fun F k hk hI => by
      have hk2 : k < o.length := by omega
      obtain ⟨b, hb, hx, hf⟩ := g k o[k] (List.getElem?_eq_getElem hk2)
      obtain ⟨v, h3, h4⟩ := far_l2 ok ht (by rw [List.length_take]; omega) hI hb hf
      refine ⟨put F b v, ?_, ?_⟩
      · rw [graph_Far_l1, if_pos (by simp only; omega), ix_nat (List.getElem?_eq_getElem hk2), Option.bind_some, hx, h4, Option.bind_some, w64_id (by omega)]; rfl
      · rw [List.take_add_one, List.getElem?_eq_getElem hk2, hx]; exact h3)
    (fun F _ => by rw [graph_Far_l1, if_neg (by simp only; omega)]) (fun _ => 0) ⟨fun _ => Nat.zero_le _, fun _ _ => rfl, fun a b h => by simp at h, fun _ => .inl rfl, fun a b h => by simp at h⟩
  rw [← ho, List.take_length] at h1
  exact ⟨F, h1, h2⟩
/-- A round of the document's answer. -/
structure Turn (l : Es) (F G : Nat → Nat) (D : Nat → Nat) (done : Es) : Prop where
  inc : ∀ k, F k ≤ G k
  le : ∀ k, G k ≤ D k
  suc : ∀ a b : Nat, ((a : Int), (b : Int)) ∈ done → F a + 1 ≤ G b
theorem rfar_l3 {n : Nat} {l : Es} (ok : Ok (n : Int) l) (hl : l.length ≤ 1000000000) {D : Nat → Nat} (hD : Closed l D) (hDb : ∀ k, D k ≤ 16) {F : Nat → Nat} (hF : ∀ k, F k ≤ D k) : ∃ G, Turn l F G D l ∧ loopW (r20_Far_l3 l) (lst F n, 0) = some (lst G n) := by
  have hn := ok.2.1
  obtain ⟨G, h1, h2⟩ := loop_cnt l.length (fun (G : Nat → Nat) (k : Nat) => (lst G n, (k : Int))) (r20_Far_l3 l) (fun G => lst G n) (fun G k => Turn l F G D (l.take k))
    (fun G j hj hI => by
      have hm : l[j] ∈ l := List.getElem_mem hj
      have hr := ok.2.2 _ hm
      obtain ⟨a, ha⟩ : ∃ a : Nat, l[j].1 = (a : Int) := ⟨l[j].1.toNat, by omega⟩
      obtain ⟨b, hb⟩ : ∃ b : Nat, l[j].2 = (b : Int) := ⟨l[j].2.toNat, by omega⟩
      have hab : l[j] = ((a : Int), (b : Int)) := by rw [← ha, ← hb]
      have hjj : J l a b := by unfold J; rw [← hab]; exact hm
      have hDa := hDb a
      have hDc := hD a b hjj
      have hGa := hI.le a
      have hGb := hI.le b
      have hFa := hI.inc a
      have hst : r20_Far_l3 l (lst G n, (j : Int)) = some (.inl (if G b < G a + 1 then lst (put G b (G a + 1)) n else lst G n, ((j + 1 : Nat) : Int))) := by
        rw [r20_Far_l3, if_pos (by omega), ix_nat (List.getElem?_eq_getElem hj), hab]
        simp only [Option.bind_some]
        rw [lst_get (by omega), lst_get (by omega)]
        simp only [Option.bind_some]
        rw [w64_id (by omega), w64_id (by omega)]
        by_cases h : G b < G a + 1
        · rw [if_pos h, if_pos (by omega)]
          have := lst_set (F := G) (n := n) (i := b) (v := G a + 1) (by omega)
          rw [show ((G a : Int) + 1) = ((G a + 1 : Nat) : Int) by omega, this]; rfl
        · rw [if_neg h, if_neg (by omega)]; rfl
      by_cases h : G b < G a + 1
      · rw [if_pos h] at hst
        refine ⟨put G b (G a + 1), hst, fun k => ?_, fun k => ?_, fun c d hcd => ?_⟩
        · by_cases e : k = b
          · subst e; rw [put_same]; have := hI.inc k; omega
          · rw [put_ne G _ e]; exact hI.inc k
        · by_cases e : k = b
          · subst e; rw [put_same]; omega
          · rw [put_ne G _ e]; exact hI.le k
        · rcases (mem_take hj).1 hcd with h3 | h3
          · have := hI.suc c d h3
            by_cases e : d = b
            · subst e; rw [put_same]; omega
            · rw [put_ne G _ e]; exact this
          · rw [hab] at h3
            have e1 : c = a := by have := congrArg Prod.fst h3; simp only at this; omega
            have e2 : d = b := by have := congrArg Prod.snd h3; simp only at this; omega
            subst e1 e2
            rw [put_same]; omega
      · rw [if_neg h] at hst
        refine ⟨G, hst, hI.inc, hI.le, fun c d hcd => ?_⟩
        rcases (mem_take hj).1 hcd with h3 | h3
        · exact hI.suc c d h3
        · rw [hab] at h3
          have e1 : c = a := by have := congrArg Prod.fst h3; simp only at this; omega
          have e2 : d = b := by have := congrArg Prod.snd h3; simp only at this; omega
          subst e1 e2
          omega)
    (fun G _ => by rw [r20_Far_l3, if_neg (by omega)]) F ⟨fun _ => Nat.le_refl _, hF, fun a b h => by simp at h⟩
  rw [List.take_length] at h1
  exact ⟨G, h1, h2⟩
theorem lst_ext {F G : Nat → Nat} {n : Nat} (h : ∀ k, k < n → F k = G k) : lst F n = lst G n := by
  unfold lst
  refine List.map_congr_left fun k hk => by rw [h k (List.mem_range.1 hk)]
theorem rfar_l2 {n : Nat} {l : Es} (ok : Ok (n : Int) l) (hl : l.length ≤ 1000000000) {o : List Int} (g : Good n l o) (ho : o.length = n) {D : Nat → Nat} (hT : Told l o D) : loopW (r20_Far_l2 (n : Int) l) (lst (fun _ => 0) n, 0) = some (lst D n) := by
  have hn := ok.2.1
  have hD : Closed l D := fun a b hj => hT.cl a b (good_all g ho (J_lt ok hj).2) hj
  have hDb : ∀ k, D k ≤ 16 := fun k => by have := hT.bd k; omega
  obtain ⟨G, h1, h2⟩ := loop_cnt n (fun (G : Nat → Nat) (k : Nat) => (lst G n, (k : Int))) (r20_Far_l2 (n : Int) l) (fun G => lst G n) (fun G k => (∀ i, G i ≤ D i) ∧ ∀ (j : Nat) (b : Nat), j < k → o[j]? = some (b : Int) → G b = D b)
    (fun F k hk hI => by
      obtain ⟨G, h3, h4⟩ := rfar_l3 ok hl hD hDb hI.1
      refine ⟨G, ?_, h3.le, fun j b hj hb => ?_⟩
      · rw [r20_Far_l2, if_pos (by omega), h4, Option.bind_some, w64_id (by omega)]; rfl
      · have hle := h3.le b
        rcases hT.ti b with h | ⟨a, ha, h⟩
        · omega
        · obtain ⟨i, hi, hib, hf⟩ := g j b hb
          obtain rfl : b = i := by omega
          have := hf.2 a (J_lt ok ha).1 ha
          obtain ⟨j2, hj2, hj3⟩ := List.getElem_of_mem this
          rw [List.length_take] at hj2
          rw [List.getElem_take] at hj3
          have h5 := hI.2 j2 a (by omega) (by rw [List.getElem?_eq_getElem (by omega), hj3])
          have := h3.suc a b ha
          omega)
    (fun G _ => by rw [r20_Far_l2, if_neg (by omega)]) (fun _ => 0) ⟨fun _ => Nat.zero_le _, fun _ _ h => by omega⟩
  have h3 : loopW (r20_Far_l2 (n : Int) l) (lst (fun _ => 0) n, 0) = some (lst G n) := h2
  rw [h3]
  congr 1
  refine lst_ext fun b hb => ?_
  obtain ⟨j, hj1, hj2⟩ := List.getElem_of_mem (good_all g ho hb)
  exact h1.2 j b (by omega) (by rw [List.getElem?_eq_getElem hj1, hj2])
theorem rfar_l1 {n : Nat} (hn : n ≤ 16) : loopW (r20_Far_l1 (n : Int)) ([], 0) = some (lst (fun _ => 0) n) := by
  obtain ⟨r, h1, h2⟩ := loop_cnt n (fun (o : List Int) (k : Nat) => (o, (k : Int))) (r20_Far_l1 (n : Int)) id (fun o k => o = lst (fun _ => 0) k)
    (fun o k hk hI => by
      refine ⟨lst (fun _ => 0) (k + 1), ?_, rfl⟩
      have hlen := lst_len (fun _ => 0) k
      rw [hI, r20_Far_l1, if_pos (by omega), app_is (by simp; omega), Option.bind_some, w64_id (by omega)]
      unfold lst
      rw [List.range_succ, List.map_append]; rfl)
    (fun o _ => by rw [r20_Far_l1, if_neg (by omega)]; rfl) [] rfl
  have e : loopW (r20_Far_l1 (n : Int)) ([], 0) = some r := h2
  rw [e, h1]
theorem far_eq {n : Nat} {l : Es} (ok : Ok (n : Int) l) (hl : l.length ≤ 1000000000) : ∃ r, graph_Far (n : Int) l = some r ∧ r20_Far (n : Int) l = some r ∧ ((∃ o F, ord n l n [] = some o ∧ Told l o F ∧ r = (lst F n, true)) ∨ ord n l n [] = none ∧ r = ([], false)) := by
  have hn := ok.2.1
  obtain ⟨t, h1, h2⟩ := pred_eq l n ok hl
  unfold graph_Far r20_Far
  rw [porder_eq ok hl, rorder_eq ok hl]
  simp only [Option.bind_some]
  unfold orderV
  cases h : ord n l n [] with
  | none => exact ⟨([], false), rfl, rfl, .inr ⟨rfl, rfl⟩⟩
  | some o =>
    have hg := ord_good n [] o h (fun j x hx => by simp at hx)
    obtain ⟨F, f1, f2⟩ := pfar_l1 ok h2 hg.1 (by simpa using hg.2) true
    refine ⟨(lst F n, true), ?_, ?_, .inl ⟨o, F, rfl, f1, rfl⟩⟩
    · simp only
      rw [if_neg (by decide), h1, Option.bind_some, mk_is (by omega), Option.bind_some, Int.toNat_natCast, lst_zero, f2]; rfl
    · simp only
      rw [if_neg (by decide), rfar_l1 (by omega), Option.bind_some, rfar_l2 ok hl hg.1 (by simpa using hg.2) f1]; rfl
theorem far_bad {n : Int} {l : Es} (ok : ¬ Ok n l) (hl : l.length ≤ 1000000000) : graph_Far n l = some ([], false) ∧ r20_Far n l = some ([], false) := by
  unfold graph_Far r20_Far
  rw [(order_bad ok hl).1, (order_bad ok hl).2]
  exact ⟨rfl, rfl⟩

/-! ### Walks -/
def wk (n : Nat) (l : Es) : Nat → Nat → Nat → Bool
  | 0, a, b => decide (a = b)
  | k + 1, a, b => (List.range n).any fun c => decide (J l a c) && wk n l k c b
theorem W_succ {n : Nat} {l : Es} (ok : Ok (n : Int) l) {k a b : Nat} : wk n l (k + 1) a b = true ↔ ∃ c, J l a c ∧ wk n l k c b = true := by
  show ((List.range n).any fun c => decide (J l a c) && wk n l k c b) = true ↔ _
  rw [List.any_eq_true]
  constructor
  · rintro ⟨c, _, h⟩
    rw [Bool.and_eq_true, decide_eq_true_eq] at h
    exact ⟨c, h⟩
  · rintro ⟨c, h1, h2⟩
    exact ⟨c, List.mem_range.2 (J_lt ok h1).2, by rw [Bool.and_eq_true, decide_eq_true_eq]; exact ⟨h1, h2⟩⟩
theorem W_zero {n : Nat} {l : Es} {a b : Nat} : wk n l 0 a b = true ↔ a = b := by
  simp only [wk, decide_eq_true_eq]
theorem W_snoc {n : Nat} {l : Es} (ok : Ok (n : Int) l) {k a b : Nat} : wk n l (k + 1) a b = true ↔ ∃ c, wk n l k a c = true ∧ J l c b := by
  induction k generalizing a with
  | zero =>
    rw [W_succ ok]
    constructor
    · rintro ⟨c, h1, h2⟩
      rw [W_zero] at h2
      exact ⟨a, W_zero.2 rfl, h2 ▸ h1⟩
    · rintro ⟨c, h1, h2⟩
      rw [W_zero] at h1
      exact ⟨b, h1 ▸ h2, W_zero.2 rfl⟩
  | succ k ih =>
    rw [W_succ ok]
    constructor
    · rintro ⟨c, h1, h2⟩
      obtain ⟨d, h3, h4⟩ := ih.1 h2
      exact ⟨d, (W_succ ok).2 ⟨c, h1, h3⟩, h4⟩
    · rintro ⟨d, h1, h2⟩
      obtain ⟨c, h3, h4⟩ := (W_succ ok).1 h1
      exact ⟨c, h3, ih.2 ⟨d, h4, h2⟩⟩
/-- The shortest walk from a to s has d edges. -/
abbrev Dist (n : Nat) (l : Es) (s a d : Nat) : Prop := wk n l d a s = true ∧ ∀ k, k < d → wk n l k a s = false
theorem dist_fun {n : Nat} {l : Es} {s a d e : Nat} (h1 : Dist n l s a d) (h2 : Dist n l s a e) : d = e := by
  rcases Nat.lt_trichotomy d e with h | h | h
  · have := h2.2 d h; rw [h1.1] at this; cases this
  · exact h
  · have := h1.2 e h; rw [h2.1] at this; cases this
theorem dist_le {n : Nat} {l : Es} {s a k : Nat} (h : wk n l k a s = true) : ∃ d, d ≤ k ∧ Dist n l s a d := by
  induction k using Nat.strongRecOn with
  | _ k ih =>
    by_cases hx : ∃ j, j < k ∧ wk n l j a s = true
    · obtain ⟨j, h1, h2⟩ := hx
      obtain ⟨d, h3, h4⟩ := ih j h1 h2
      exact ⟨d, by omega, h4⟩
    · exact ⟨k, Nat.le_refl _, h, fun j hj => by
        cases hb : wk n l j a s
        · rfl
        · exact absurd ⟨j, hj, hb⟩ hx⟩
/-- One edge nearer. -/
theorem dist_next {n : Nat} {l : Es} (ok : Ok (n : Int) l) {s a d : Nat} (h : Dist n l s a (d + 1)) : ∃ c, J l a c ∧ Dist n l s c d := by
  obtain ⟨c, h1, h2⟩ := (W_succ ok).1 h.1
  refine ⟨c, h1, h2, fun k hk => ?_⟩
  cases hb : wk n l k c s
  · rfl
  · have := h.2 (k + 1) (by omega)
    rw [(W_succ ok).2 ⟨c, h1, hb⟩] at this; cases this
theorem dist_lt {n : Nat} {l : Es} (ok : Ok (n : Int) l) {s a d : Nat} (hs : s < n) (h : Dist n l s a d) : d < n := by
  have key : ∀ (d a : Nat), Dist n l s a d → ∃ L : List Int, L.length = d + 1 ∧ L.Nodup ∧ ∀ x ∈ L, ∃ c e : Nat, x = (c : Int) ∧ c < n ∧ e ≤ d ∧ Dist n l s c e := by
    intro d
    induction d with
    | zero =>
      intro a h
      have := W_zero.1 h.1
      exact ⟨[(a : Int)], rfl, by simp, fun x hx => ⟨a, 0, List.mem_singleton.1 hx, by omega, Nat.le_refl _, h⟩⟩
    | succ d ih =>
      intro a h
      obtain ⟨c, h1, h2⟩ := dist_next ok h
      obtain ⟨L, h3, h4, h5⟩ := ih c h2
      refine ⟨(a : Int) :: L, by rw [List.length_cons, h3], ?_, fun x hx => ?_⟩
      · rw [List.nodup_cons]
        refine ⟨fun hm => ?_, h4⟩
        obtain ⟨c2, e, h6, _, h7, h8⟩ := h5 _ hm
        obtain rfl : a = c2 := by omega
        have := dist_fun h h8
        omega
      · rcases List.mem_cons.1 hx with rfl | h6
        · exact ⟨a, d + 1, rfl, (J_lt ok h1).1, Nat.le_refl _, h⟩
        · obtain ⟨c2, e, h7, h8, h9, h10⟩ := h5 x h6
          exact ⟨c2, e, h7, h8, by omega, h10⟩
  obtain ⟨L, h1, h2, h3⟩ := key d a h
  have := nodup_len (n := n) n L h2 (fun x hx => by obtain ⟨c, _, rfl, h4, _⟩ := h3 x hx; omega)
  omega

/-! ### The document's walks -/
theorem ways_l3 {l : Es} (hl : l.length ≤ 1000000000) {at' : List Int} (ha : at'.length ≤ 1000000000) (i : Nat) {nx : List Int} (hx : nx.length ≤ 100) : loopW (r20_ways_l3 l at' (i : Int)) (nx, 0) = some (if (i : Int) ∉ nx ∧ ∃ x ∈ at', (x, (i : Int)) ∈ l then nx ++ [(i : Int)] else nx) := by
  obtain ⟨r, h1, h2⟩ := loop_cnt at'.length (fun (o : List Int) (j : Nat) => (o, (j : Int))) (r20_ways_l3 l at' (i : Int)) id (fun o j => o = if (i : Int) ∉ nx ∧ ∃ x ∈ at'.take j, (x, (i : Int)) ∈ l then nx ++ [(i : Int)] else nx)
    (fun o j hj hI => by
      refine ⟨_, ?_, rfl⟩
      have hol : o.length ≤ 200 := by
        rw [hI]
        split
        · rw [List.length_append, List.length_singleton]; omega
        · omega
      have hmt : ∀ x, x ∈ at'.take (j + 1) ↔ x ∈ at'.take j ∨ x = at'[j] := fun x => by
        rw [List.take_add_one, List.getElem?_eq_getElem hj, List.mem_append]; simp
      rw [r20_ways_l3, if_pos (by omega), ix_nat (List.getElem?_eq_getElem hj), Option.bind_some, redge_eq _ _ _ hl, Option.bind_some, rhas_eq _ _ (by omega), w64_id (by omega)]
      by_cases c1 : (at'[j], (i : Int)) ∈ l
      · rw [decide_eq_true c1, if_pos rfl]
        by_cases c2 : (i : Int) ∈ nx
        · rw [if_neg (fun h => h.1 c2)] at hI
          rw [hI, decide_eq_true c2, if_neg (fun h => h.1 c2)]; rfl
        · rw [if_pos (c := (i : Int) ∉ nx ∧ ∃ x ∈ at'.take (j + 1), (x, (i : Int)) ∈ l) ⟨c2, _, (hmt _).2 (.inr rfl), c1⟩]
          by_cases c3 : ∃ x ∈ at'.take j, (x, (i : Int)) ∈ l
          · rw [if_pos ⟨c2, c3⟩] at hI
            rw [hI, decide_eq_true (p := (i : Int) ∈ nx ++ [(i : Int)]) (by simp)]; rfl
          · rw [if_neg (fun h => c3 h.2)] at hI
            rw [hI, decide_eq_false c2, app_is (by simp; omega)]; rfl
      · rw [decide_eq_false c1, if_neg Bool.false_ne_true]
        have e : (∃ x ∈ at'.take (j + 1), (x, (i : Int)) ∈ l) ↔ ∃ x ∈ at'.take j, (x, (i : Int)) ∈ l := by
          constructor
          · rintro ⟨x, h3, h4⟩
            rcases (hmt x).1 h3 with h5 | rfl
            · exact ⟨x, h5, h4⟩
            · exact absurd h4 c1
          · rintro ⟨x, h3, h4⟩
            exact ⟨x, (hmt x).2 (.inl h3), h4⟩
        rw [hI]
        by_cases c3 : (i : Int) ∉ nx ∧ ∃ x ∈ at'.take j, (x, (i : Int)) ∈ l
        · rw [if_pos c3, if_pos ⟨c3.1, e.2 c3.2⟩]; rfl
        · rw [if_neg c3, if_neg (fun h => c3 ⟨h.1, e.1 h.2⟩)]; rfl)
    (fun o _ => by rw [r20_ways_l3, if_neg (by omega)]; rfl) nx (by rw [if_neg (by simp)])
  rw [List.take_length] at h1
  rw [← h1]; exact h2
theorem ways_l2 {n : Nat} {l : Es} (ok : Ok (n : Int) l) (hl : l.length ≤ 1000000000) {at' : List Int} (ha : at'.length ≤ 1000000000) : ∃ nx : List Int, loopW (r20_ways_l2 (n : Int) l at') ([], 0) = some nx ∧ nx.length ≤ n ∧ (∀ y ∈ nx, ∃ i : Nat, y = (i : Int)) ∧ ∀ i : Nat, (i : Int) ∈ nx ↔ ∃ x ∈ at', (x, (i : Int)) ∈ l := by
  have hn := ok.2.1
  obtain ⟨r, h1, h2⟩ := loop_cnt n (fun (o : List Int) (j : Nat) => (o, (j : Int))) (r20_ways_l2 (n : Int) l at') id (fun o j => o.length ≤ j ∧ (∀ y ∈ o, ∃ i : Nat, y = (i : Int) ∧ i < j) ∧ ∀ i : Nat, (i : Int) ∈ o ↔ i < j ∧ ∃ x ∈ at', (x, (i : Int)) ∈ l)
    (fun o j hj hI => by
      obtain ⟨a1, a2, a3⟩ := hI
      refine ⟨_, by rw [r20_ways_l2, if_pos (by omega), ways_l3 hl ha j (by omega), Option.bind_some, w64_id (by omega)]; rfl, ?_⟩
      have hnm : (j : Int) ∉ o := fun h => by have := (a3 j).1 h; omega
      by_cases c : ∃ x ∈ at', (x, (j : Int)) ∈ l
      · rw [if_pos ⟨hnm, c⟩]
        refine ⟨by simp; omega, fun y hy => ?_, fun i => ?_⟩
        · rcases List.mem_append.1 hy with h | h
          · obtain ⟨i, h3, h4⟩ := a2 y h; exact ⟨i, h3, by omega⟩
          · exact ⟨j, List.mem_singleton.1 h, by omega⟩
        · rw [List.mem_append, a3 i, List.mem_singleton]
          constructor
          · rintro (⟨h3, h4⟩ | h3)
            · exact ⟨by omega, h4⟩
            · obtain rfl : i = j := by omega
              exact ⟨by omega, c⟩
          · rintro ⟨h3, h4⟩
            by_cases e : i = j
            · exact .inr (by rw [e])
            · exact .inl ⟨by omega, h4⟩
      · rw [if_neg (fun h => c h.2)]
        refine ⟨by omega, fun y hy => by obtain ⟨i, h3, h4⟩ := a2 y hy; exact ⟨i, h3, by omega⟩, fun i => ?_⟩
        rw [a3 i]
        constructor
        · rintro ⟨h3, h4⟩; exact ⟨by omega, h4⟩
        · rintro ⟨h3, h4⟩
          by_cases e : i = j
          · subst e; exact absurd h4 c
          · exact ⟨by omega, h4⟩)
    (fun o _ => by rw [r20_ways_l2, if_neg (by omega)]; rfl) [] ⟨by simp, by simp, by simp⟩
  refine ⟨r, h2, h1.1, fun y hy => by obtain ⟨i, h3, _⟩ := h1.2.1 y hy; exact ⟨i, h3⟩, fun i => (h1.2.2 i).trans ⟨fun h => h.2, fun h => ⟨?_, h⟩⟩⟩
  obtain ⟨x, _, h3⟩ := h
  have := ok.2.2 _ h3
  simp only at this; omega
/-- In how many edges one comes from a to b; 0: not at all. -/
def wy (n : Nat) (l : Es) (a b : Nat) : Int := match (List.range' 1 n).findSome? (fun k => if wk n l k a b then some (k : Int) else none) with | some k => k | none => 0
theorem ways_eq {n : Nat} {l : Es} (ok : Ok (n : Int) l) (hl : l.length ≤ 1000000000) (a b : Nat) : r20_ways (n : Int) l (a : Int) (b : Int) = some (wy n l a b) := by
  have hn := ok.2.1
  have key : ∀ (d k : Nat) (at' : List Int), k + d = n → at'.length ≤ 16 → (∀ y ∈ at', ∃ i : Nat, y = (i : Int)) → (∀ i : Nat, (i : Int) ∈ at' ↔ wk n l k a i = true) → loopW (r20_ways_l1 (n : Int) l (b : Int)) (at', ((k + 1 : Nat) : Int)) = some (match (List.range' (k + 1) d).findSome? (fun k => if wk n l k a b then some (k : Int) else none) with | some k => .inr k | none => .inl ()) := by
    intro d
    induction d with
    | zero =>
      intro k at' hk h1 h2 h3
      exact loopW_end (by rw [r20_ways_l1, if_neg (by omega)]; rfl)
    | succ d ih =>
      intro k at' hk h1 h2 h3
      obtain ⟨nx, g1, g2, g3, g4⟩ := ways_l2 ok hl (at' := at') (by omega)
      have g5 : ∀ i : Nat, (i : Int) ∈ nx ↔ wk n l (k + 1) a i = true := by
        intro i
        rw [g4, W_snoc ok]
        constructor
        · rintro ⟨x, h4, h5⟩
          obtain ⟨c, rfl⟩ := h2 x h4
          exact ⟨c, (h3 c).1 h4, h5⟩
        · rintro ⟨c, h4, h5⟩
          exact ⟨c, (h3 c).2 h4, h5⟩
      rw [List.range'_succ, List.findSome?_cons]
      by_cases hw : wk n l (k + 1) a b = true
      · rw [if_pos hw]
        exact loopW_end (by rw [r20_ways_l1, if_pos (by omega), g1, Option.bind_some, rhas_eq _ _ (by omega), decide_eq_true ((g5 b).2 hw)]; rfl)
      · rw [if_neg hw]
        refine (loopW_go ?_).trans (ih (k + 1) nx (by omega) (by omega) g3 g5)
        rw [r20_ways_l1, if_pos (by omega), g1, Option.bind_some, rhas_eq _ _ (by omega), decide_eq_false (fun h => hw ((g5 b).1 h)), w64_id (by omega)]; rfl
  have := key n 0 [(a : Int)] (by omega) (by simp) (fun y hy => ⟨a, List.mem_singleton.1 hy⟩) (fun i => by rw [List.mem_singleton, W_zero]; omega)
  unfold r20_ways wy
  have e : loopW (r20_ways_l1 (n : Int) l (b : Int)) ([(a : Int)], 1) = _ := this
  rw [e]
  cases (List.range' (0 + 1) n).findSome? (fun k => if wk n l k a b then some (k : Int) else none) <;> rfl

/-! ### Distances -/
def StR (t : T16) (G : Nat → Int) : Prop := ∀ i : Nat, i < 16 → ix (rowL t) (i : Int) = some (G i)
theorem StR_upd {t : T16} {G : Nat → Int} (h : StR t G) (v : Nat) (x : Int) : StR (upd t (v : Int) x) (fun i => if i = v then x else G i) := by
  intro i hi
  rw [row_upd _ _ _ _ hi]
  dsimp only
  by_cases e : v = i
  · rw [if_pos e, if_pos e.symm]
  · rw [if_neg e, if_neg (Ne.symm e), h i hi]
theorem StR_ex (t : T16) : ∃ G, StR t G := by
  refine ⟨fun i => ((rowL t)[i]?).getD 0, fun i hi => ?_⟩
  have hl : (rowL t).length = 16 := rfl
  obtain ⟨x, h1, h2⟩ := ix_getD (l := rowL t) (i := (i : Int)) (by omega) (by omega)
  rw [Int.toNat_natCast] at h2
  rw [h1]
  dsimp only
  rw [h2]; rfl
theorem dist_l1 : ∃ t, loopW graph_distances_l1 (0, 0, 0, 0, 0, 0, 0, 0, 0, 0, 0, 0, 0, 0, 0, 0, 0) = some t ∧ StR t (fun _ => -1) := by
  obtain ⟨t, h1, h2⟩ := loop_cnt 16 (fun (t : T16) (k : Nat) => ((k : Int), t)) graph_distances_l1 id (fun t k => ∀ i : Nat, i < k → ix (rowL t) (i : Int) = some (-1))
    (fun t k hk hI => by
      obtain ⟨G, hG⟩ := StR_ex t
      have hg : ix ([t.1, t.2.1, t.2.2.1, t.2.2.2.1, t.2.2.2.2.1, t.2.2.2.2.2.1, t.2.2.2.2.2.2.1, t.2.2.2.2.2.2.2.1, t.2.2.2.2.2.2.2.2.1, t.2.2.2.2.2.2.2.2.2.1, t.2.2.2.2.2.2.2.2.2.2.1, t.2.2.2.2.2.2.2.2.2.2.2.1, t.2.2.2.2.2.2.2.2.2.2.2.2.1, t.2.2.2.2.2.2.2.2.2.2.2.2.2.1, t.2.2.2.2.2.2.2.2.2.2.2.2.2.2.1, t.2.2.2.2.2.2.2.2.2.2.2.2.2.2.2] : List Int) (k : Int) = some (G k) := hG k (by omega)
      refine ⟨upd t (k : Int) (-1), ?_, fun i hi => ?_⟩
      · show graph_distances_l1 ((k : Int), t.1, t.2) = _
        unfold graph_distances_l1
        simp only
        rw [if_pos (by omega), hg, Option.bind_some, w64_id (by omega)]; rfl
      · rw [row_upd _ _ _ _ (by omega)]
        by_cases e : k = i
        · rw [if_pos e]
        · rw [if_neg e]; exact hI i (by omega))
    (fun t _ => by
      show graph_distances_l1 ((16 : Nat), t.1, t.2) = _
      unfold graph_distances_l1
      simp only
      rw [if_neg (by omega)]; rfl) (0, 0, 0, 0, 0, 0, 0, 0, 0, 0, 0, 0, 0, 0, 0, 0) (fun _ h => by omega)
  exact ⟨t, h2, fun i hi => h1 i hi⟩
theorem dist_l3 {n : Nat} {l : Es} (ok : Ok (n : Int) l) {p : T16} (hp : Sets (fun i k => J l k i) p) {fr seen : Nat} (hfr : fr < 65536) (hse : seen < 65536) {d : Nat} (hd : d ≤ 100) {t : T16} {G : Nat → Int} (hG : StR t G) :
    ∃ (fu : Nat) (t' : T16), loopW (graph_distances_l3 (n : Int) p (fr : Int) (seen : Int) (d : Int)) (0, 0, t) = some ((fu : Int), t') ∧ fu < 65536 ∧ (∀ a, fu.testBit a = true ↔ ∃ c, c < n ∧ fr.testBit c = true ∧ seen.testBit c = false ∧ J l a c) ∧ StR t' (fun i => if i < n ∧ fr.testBit i = true ∧ seen.testBit i = false then ((d + 1 : Nat) : Int) else G i) := by
  have hn := ok.2.1
  obtain ⟨s, h1, h2⟩ := loop_cnt n (fun (s : Nat × T16) (k : Nat) => ((s.1 : Int), (k : Int), s.2)) (graph_distances_l3 (n : Int) p (fr : Int) (seen : Int) (d : Int)) (fun s => ((s.1 : Int), s.2))
    (fun s k => s.1 < 65536 ∧ (∀ a, s.1.testBit a = true ↔ ∃ c, c < k ∧ fr.testBit c = true ∧ seen.testBit c = false ∧ J l a c) ∧ StR s.2 (fun i => if i < k ∧ fr.testBit i = true ∧ seen.testBit i = false then ((d + 1 : Nat) : Int) else G i))
    (fun s k hk hI => by
      obtain ⟨fu, t⟩ := s
      obtain ⟨a1, a2, a3⟩ := hI
      simp only at a1 a2 a3
      obtain ⟨m, m1, m2, m3⟩ := hp k (by omega)
      have m2' : ix ([p.1, p.2.1, p.2.2.1, p.2.2.2.1, p.2.2.2.2.1, p.2.2.2.2.2.1, p.2.2.2.2.2.2.1, p.2.2.2.2.2.2.2.1, p.2.2.2.2.2.2.2.2.1, p.2.2.2.2.2.2.2.2.2.1, p.2.2.2.2.2.2.2.2.2.2.1, p.2.2.2.2.2.2.2.2.2.2.2.1, p.2.2.2.2.2.2.2.2.2.2.2.2.1, p.2.2.2.2.2.2.2.2.2.2.2.2.2.1, p.2.2.2.2.2.2.2.2.2.2.2.2.2.2.1, p.2.2.2.2.2.2.2.2.2.2.2.2.2.2.2] : List Int) (k : Int) = some (m : Int) := m2
      obtain ⟨g, hg0⟩ : ∃ g, ix (rowL t) (k : Int) = some g := ⟨_, a3 k (by omega)⟩
      have hg : ix ([t.1, t.2.1, t.2.2.1, t.2.2.2.1, t.2.2.2.2.1, t.2.2.2.2.2.1, t.2.2.2.2.2.2.1, t.2.2.2.2.2.2.2.1, t.2.2.2.2.2.2.2.2.1, t.2.2.2.2.2.2.2.2.2.1, t.2.2.2.2.2.2.2.2.2.2.1, t.2.2.2.2.2.2.2.2.2.2.2.1, t.2.2.2.2.2.2.2.2.2.2.2.2.1, t.2.2.2.2.2.2.2.2.2.2.2.2.2.1, t.2.2.2.2.2.2.2.2.2.2.2.2.2.2.1, t.2.2.2.2.2.2.2.2.2.2.2.2.2.2.2] : List Int) (k : Int) = some g := hg0
      by_cases hc : fr.testBit k = true ∧ seen.testBit k = false
      · have ho := or_u32 fu m a1 m1
        refine ⟨(fu ||| m, upd t (k : Int) ((d + 1 : Nat) : Int)), ?_, ho.2, fun a => ?_, ?_⟩
        · show graph_distances_l3 (n : Int) p (fr : Int) (seen : Int) (d : Int) ((fu : Int), (k : Int), t.1, t.2) = _
          unfold graph_distances_l3
          simp only
          rw [if_pos (by omega), has_eq fr k hfr (by omega), hc.1, Option.bind_some, if_pos rfl, has_eq seen k hse (by omega), hc.2]
          simp only [Option.bind_some, Bool.not_false, if_pos]
          rw [hg, m2', Option.bind_some, Option.bind_some, ho.1, w64_id (by omega), w64_id (by omega)]; rfl
        · rw [Nat.testBit_or, Bool.or_eq_true, a2 a]
          constructor
          · rintro (⟨c, h3, h4⟩ | h3)
            · exact ⟨c, by omega, h4⟩
            · exact ⟨k, by omega, hc.1, hc.2, (m3 a (bit_lt m1 h3)).1 h3⟩
          · rintro ⟨c, h3, h4, h5, h6⟩
            by_cases e : c = k
            · subst e; exact .inr ((m3 a (by have := J_lt ok h6; omega)).2 h6)
            · exact .inl ⟨c, by omega, h4, h5, h6⟩
        · intro i hi
          rw [StR_upd a3 k _ i hi]
          dsimp only
          by_cases e : i = k
          · subst e
            rw [if_pos rfl, if_pos ⟨by omega, hc⟩]
          · rw [if_neg e]
            by_cases h3 : i < k ∧ fr.testBit i = true ∧ seen.testBit i = false
            · rw [if_pos h3, if_pos ⟨by omega, h3.2⟩]
            · rw [if_neg h3, if_neg (fun h => h3 ⟨by omega, h.2⟩)]
      · refine ⟨(fu, t), ?_, a1, fun a => ?_, ?_⟩
        · show graph_distances_l3 (n : Int) p (fr : Int) (seen : Int) (d : Int) ((fu : Int), (k : Int), t.1, t.2) = _
          unfold graph_distances_l3
          simp only
          rw [if_pos (by omega), has_eq fr k hfr (by omega), Option.bind_some, has_eq seen k hse (by omega), w64_id (x := (k : Int) + 1) (by omega)]
          cases h3 : fr.testBit k
          · rfl
          · cases h4 : seen.testBit k
            · exact absurd ⟨h3, h4⟩ hc
            · rfl
        · rw [a2 a]
          constructor
          · rintro ⟨c, h3, h4⟩; exact ⟨c, by omega, h4⟩
          · rintro ⟨c, h3, h4, h5, h6⟩
            by_cases e : c = k
            · subst e; exact absurd ⟨h4, h5⟩ hc
            · exact ⟨c, by omega, h4, h5, h6⟩
        · intro i hi
          rw [a3 i hi]
          dsimp only
          by_cases e : i = k
          · subst e
            rw [if_neg (fun h => by omega), if_neg (fun h => hc h.2)]
          · by_cases h3 : i < k ∧ fr.testBit i = true ∧ seen.testBit i = false
            · rw [if_pos h3, if_pos ⟨by omega, h3.2⟩]
            · rw [if_neg h3, if_neg (fun h => h3 ⟨by omega, h.2⟩)])
    (fun s _ => by
      obtain ⟨fu, t⟩ := s
      show graph_distances_l3 (n : Int) p (fr : Int) (seen : Int) (d : Int) ((fu : Int), (n : Int), t.1, t.2) = _
      unfold graph_distances_l3
      simp only
      rw [if_neg (by omega)]) (0, t) ⟨(by decide : (0 : Nat) < 65536), fun a => by simp, fun i hi => by
      rw [hG i hi]
      dsimp only
      rw [if_neg (fun h => by omega)]⟩
  exact ⟨s.1, s.2, h2, h1.1, h1.2.1, h1.2.2⟩
theorem dist_l2 {n : Nat} {l : Es} (ok : Ok (n : Int) l) {p : T16} (hp : Sets (fun i k => J l k i) p) {s : Nat} (hs : s < n) {t : T16} {G : Nat → Int} (hG : StR t G) (hG0 : ∀ i, i < 16 → G i = if i = s then 0 else -1) {fr : Nat} (hf : fr < 65536) (hfb : ∀ a, fr.testBit a = true ↔ J l a s) :
    ∃ (t' : T16) (G' : Nat → Int), loopW (graph_distances_l2 (n : Int) p) ((fr : Int), ((0 ||| 2 ^ s : Nat) : Int), 0, t) = some t' ∧ StR t' G' ∧ ∀ a, a < 16 → (∀ d, Dist n l s a d → G' a = (d : Int)) ∧ ((∀ d, ¬ Dist n l s a d) → G' a = -1) := by
  have hn := ok.2.1
  have hd0 : ∀ c, Dist n l s c 0 ↔ c = s := fun c => ⟨fun h => W_zero.1 h.1, fun h => ⟨W_zero.2 h, fun k hk => by omega⟩⟩
  obtain ⟨r, h1, h2⟩ := loop_cnt n (fun (x : Nat × Nat × T16) (k : Nat) => ((x.1 : Int), (x.2.1 : Int), (k : Int), x.2.2)) (graph_distances_l2 (n : Int) p) (fun x => x.2.2)
    (fun x k => x.1 < 65536 ∧ x.2.1 < 65536 ∧ (∀ a, x.2.1.testBit a = true ↔ ∃ j, j ≤ k ∧ wk n l j a s = true) ∧ (∀ a, x.1.testBit a = true ↔ ∃ c, J l a c ∧ Dist n l s c k) ∧ ∃ G, StR x.2.2 G ∧ ∀ a, a < 16 → (∀ d, d ≤ k → Dist n l s a d → G a = (d : Int)) ∧ ((∀ d, d ≤ k → ¬ Dist n l s a d) → G a = -1))
    (fun x k hk hI => by
      obtain ⟨fr, seen, t⟩ := x
      obtain ⟨a1, a2, a3, a4, G, a5, a6⟩ := hI
      dsimp only at a1 a2 a3 a4 a5
      obtain ⟨fu, t', b1, b2, b3, b4⟩ := dist_l3 ok hp a1 a2 (d := k) (by omega) a5
      have ho := or_u32 seen fr a2 a1
      have hnew : ∀ c, (c < n ∧ fr.testBit c = true ∧ seen.testBit c = false) ↔ Dist n l s c (k + 1) := by
        intro c
        constructor
        · rintro ⟨_, h3, h4⟩
          obtain ⟨e, h5, h6⟩ := (a4 c).1 h3
          refine ⟨(W_succ ok).2 ⟨e, h5, h6.1⟩, fun j hj => ?_⟩
          cases hb : wk n l j c s
          · rfl
          · rw [(a3 c).2 ⟨j, by omega, hb⟩] at h4; cases h4
        · intro h
          obtain ⟨e, h5, h6⟩ := dist_next ok h
          refine ⟨(J_lt ok h5).1, (a4 c).2 ⟨e, h5, h6⟩, ?_⟩
          cases hb : seen.testBit c
          · rfl
          · obtain ⟨j, h7, h8⟩ := (a3 c).1 hb
            have := h.2 j (by omega)
            rw [h8] at this; cases this
      refine ⟨(fu, seen ||| fr, t'), ?_, b2, ho.2, fun a => ?_, fun a => ?_, _, b4, fun a ha => ⟨fun d hd hD => ?_, fun hD => ?_⟩⟩
      · show graph_distances_l2 (n : Int) p ((fr : Int), (seen : Int), (k : Int), t.1, t.2) = _
        unfold graph_distances_l2
        dsimp only
        rw [if_pos (by omega)]
        show ((loopW (graph_distances_l3 (n : Int) p (fr : Int) (seen : Int) (k : Int)) (0, 0, t)).bind fun x => some x).bind (fun x => (some (Sum.inl (x.1, orI .u32 (seen : Int) (fr : Int), w64 ((k : Int) + 1), x.2)) : Option ((Int × Int × Int × T16) ⊕ T16))) = _
        rw [b1, Option.bind_some, Option.bind_some, ho.1, w64_id (by omega)]; rfl
      · try dsimp only
        rw [Nat.testBit_or, Bool.or_eq_true, a3 a, a4 a]
        constructor
        · rintro (⟨j, h3, h4⟩ | ⟨c, h3, h4⟩)
          · exact ⟨j, by omega, h4⟩
          · exact ⟨k + 1, Nat.le_refl _, (W_succ ok).2 ⟨c, h3, h4.1⟩⟩
        · rintro ⟨j, h3, h4⟩
          by_cases e : j = k + 1
          · subst e
            obtain ⟨c, h5, h6⟩ := (W_succ ok).1 h4
            obtain ⟨d, h7, h8⟩ := dist_le h6
            by_cases e2 : d = k
            · subst e2; exact .inr ⟨c, h5, h8⟩
            · exact .inl ⟨d + 1, by omega, (W_succ ok).2 ⟨c, h5, h8.1⟩⟩
          · exact .inl ⟨j, by omega, h4⟩
      · try dsimp only
        rw [b3 a]
        constructor
        · rintro ⟨c, h3, h4, h5, h6⟩
          exact ⟨c, h6, (hnew c).1 ⟨h3, h4, h5⟩⟩
        · rintro ⟨c, h3, h4⟩
          have := (hnew c).2 h4
          exact ⟨c, this.1, this.2.1, this.2.2, h3⟩
      · try dsimp only
        by_cases e : d = k + 1
        · subst e
          rw [if_pos ((hnew a).2 hD)]
        · rw [if_neg (fun h => e (dist_fun hD ((hnew a).1 h)))]
          exact (a6 a ha).1 d (by omega) hD
      · try dsimp only
        rw [if_neg (fun h => hD (k + 1) (Nat.le_refl _) ((hnew a).1 h))]
        exact (a6 a ha).2 fun d hd => hD d (by omega))
    (fun x _ => by
      obtain ⟨fr, seen, t⟩ := x
      show graph_distances_l2 (n : Int) p ((fr : Int), (seen : Int), (n : Int), t.1, t.2) = _
      unfold graph_distances_l2
      dsimp only
      rw [if_neg (by omega)]) (fr, 0 ||| 2 ^ s, t) ⟨hf, (with_eq 0 s (by decide) (by omega)).2, fun a => by
        rw [with_bit, Nat.zero_testBit, Bool.false_or, decide_eq_true_eq]
        constructor
        · rintro rfl; exact ⟨0, Nat.le_refl _, W_zero.2 rfl⟩
        · rintro ⟨j, h3, h4⟩
          obtain rfl : j = 0 := by omega
          exact (W_zero.1 h4).symm, fun a => by
        rw [hfb]
        constructor
        · intro h; exact ⟨s, h, (hd0 s).2 rfl⟩
        · rintro ⟨c, h3, h4⟩
          rw [(hd0 c).1 h4] at h3; exact h3, G, hG, fun a ha => ⟨fun d hd hD => by
        obtain rfl : d = 0 := by omega
        rw [hG0 a ha, if_pos ((hd0 a).1 hD)]; rfl, fun h => by rw [hG0 a ha, if_neg (fun e => h 0 (Nat.le_refl _) ((hd0 a).2 e))]⟩⟩
  obtain ⟨_, _, _, _, G', g1, g2⟩ := h1
  refine ⟨r.2.2, G', h2, g1, fun a ha => ⟨fun d hD => (g2 a ha).1 d (by have := dist_lt ok hs hD; omega) hD, fun h => (g2 a ha).2 fun d _ => h d⟩⟩
theorem distances_eq {n : Nat} {l : Es} (ok : Ok (n : Int) l) {p : T16} (hp : Sets (fun i k => J l k i) p) {s : Nat} (hs : s < n) :
    ∃ (t : T16) (G : Nat → Int), graph_distances (n : Int) p (s : Int) = some t ∧ StR t G ∧ ∀ a, a < 16 → (∀ d, Dist n l s a d → G a = (d : Int)) ∧ ((∀ d, ¬ Dist n l s a d) → G a = -1) := by
  have hn := ok.2.1
  obtain ⟨t0, h1, h2⟩ := dist_l1
  obtain ⟨m, m1, m2, m3⟩ := hp s (by omega)
  have hw := with_eq 0 s (by decide) (by omega)
  have h3 := StR_upd h2 s 0
  obtain ⟨t, G, g1, g2, g3⟩ := dist_l2 ok hp hs h3 (fun i _ => rfl) m1 (fun a => ⟨fun h => (m3 a (bit_lt m1 h)).1 h, fun h => (m3 a (by have := J_lt ok h; omega)).2 h⟩)
  refine ⟨t, G, ?_, g2, g3⟩
  unfold graph_distances
  rw [h1, Option.bind_some]
  have e1 : ix (rowL t0) (s : Int) = some (-1) := h2 s (by omega)
  have e2 : graph_set_with 0 (s : Int) = some ((0 ||| 2 ^ s : Nat) : Int) := hw.1
  show (ix (rowL t0) (s : Int)).bind (fun _ => (ix (rowL p) (s : Int)).bind fun x36 => (graph_set_with 0 (s : Int)).bind fun x37 => (loopW (graph_distances_l2 (n : Int) p) (x36, x37, 0, upd t0 (s : Int) 0)).bind fun x => some x) = _
  rw [e1, Option.bind_some, m2, Option.bind_some, e2, Option.bind_some, g1]; rfl

/-! ### Loops -/
/-- The first of the nodes that an edge of a leads to that are d edges from s. -/
def nxF (n : Nat) (l : Es) (s a d : Nat) : Option Nat := (List.range n).find? (fun i => decide (J l a i ∧ Dist n l s i d))
def nxN (n : Nat) (l : Es) (s a d : Nat) : Nat := (nxF n l s a d).getD 0
theorem first_of {n : Nat} {q : Nat → Bool} {i : Nat} (hi : i < n) (h1 : q i = true) (h2 : ∀ k, k < i → q k = false) : (List.range n).find? q = some i := by
  have key : ∀ (d a : Nat), a + d = n → a ≤ i → (List.range' a d).find? q = some i := by
    intro d
    induction d with
    | zero => intro a h3 h4; omega
    | succ d ih =>
      intro a h3 h4
      rw [List.range'_succ, List.find?_cons]
      by_cases e : a = i
      · subst e; rw [h1]
      · rw [h2 a (by omega)]
        exact ih (a + 1) (by omega) (by omega)
  rw [List.range_eq_range']
  exact key n 0 (by omega) (by omega)
theorem nxN_is {n : Nat} {l : Es} {s a d i : Nat} (hi : i < n) (h1 : J l a i ∧ Dist n l s i d) (h2 : ∀ k, k < i → ¬ (J l a k ∧ Dist n l s k d)) : nxN n l s a d = i := by
  unfold nxN nxF
  rw [first_of hi (decide_eq_true h1) (fun k hk => decide_eq_false (h2 k hk))]; rfl
theorem nxN_spec {n : Nat} {l : Es} (ok : Ok (n : Int) l) {s a d : Nat} (h : ∃ i, J l a i ∧ Dist n l s i d) : J l a (nxN n l s a d) ∧ Dist n l s (nxN n l s a d) d ∧ ∀ k, k < nxN n l s a d → ¬ (J l a k ∧ Dist n l s k d) := by
  have key : ∀ m, (∃ i, i ≤ m ∧ J l a i ∧ Dist n l s i d) → ∃ i, (J l a i ∧ Dist n l s i d) ∧ ∀ k, k < i → ¬ (J l a k ∧ Dist n l s k d) := by
    intro m
    induction m using Nat.strongRecOn with
    | _ m ih =>
      rintro ⟨i, h1, h2⟩
      by_cases hx : ∃ k, k < i ∧ J l a k ∧ Dist n l s k d
      · obtain ⟨k, h3, h4⟩ := hx
        exact ih k (by omega) ⟨k, Nat.le_refl _, h4⟩
      · exact ⟨i, h2, fun k hk h => hx ⟨k, hk, h⟩⟩
  obtain ⟨i0, hi0⟩ := h
  obtain ⟨i, h1, h2⟩ := key i0 ⟨i0, Nat.le_refl _, hi0⟩
  rw [nxN_is (J_lt ok h1.1).2 h1 h2]
  exact ⟨h1.1, h1.2, h2⟩
def path (n : Nat) (l : Es) (s : Nat) : Nat → Nat → List Int
  | 0, _ => []
  | d + 1, a => (a : Int) :: path n l s d (nxN n l s a d)
theorem near_eq {n : Nat} {l : Es} (ok : Ok (n : Int) l) {a m : Nat} (hm : m < 65536) (hmb : ∀ k, k < 16 → (m.testBit k = true ↔ J l a k)) {t : T16} {G : Nat → Int} (hG : StR t G) :
    ∃ r, graph_nearest (n : Int) (m : Int) t = some r ∧ ((r = -1 ∧ ∀ i, i < n → J l a i → G i < 0) ∨ ∃ i : Nat, i < n ∧ r = (i : Int) ∧ J l a i ∧ 0 ≤ G i ∧ (∀ k, k < n → J l a k → 0 ≤ G k → G i ≤ G k) ∧ ∀ k, k < i → J l a k → 0 ≤ G k → G i < G k) := by
  have hn := ok.2.1
  obtain ⟨r, h1, h2⟩ := loop_cnt n (fun (b : Int) (k : Nat) => (b, (k : Int))) (graph_nearest_l1 (n : Int) (m : Int) t) id
    (fun b j => (b = -1 ∧ ∀ i, i < j → J l a i → G i < 0) ∨ ∃ i : Nat, i < j ∧ b = (i : Int) ∧ J l a i ∧ 0 ≤ G i ∧ (∀ k, k < j → J l a k → 0 ≤ G k → G i ≤ G k) ∧ ∀ k, k < i → J l a k → 0 ≤ G k → G i < G k)
    (fun b j hj hI => by
      have hgj : ix ([t.1, t.2.1, t.2.2.1, t.2.2.2.1, t.2.2.2.2.1, t.2.2.2.2.2.1, t.2.2.2.2.2.2.1, t.2.2.2.2.2.2.2.1, t.2.2.2.2.2.2.2.2.1, t.2.2.2.2.2.2.2.2.2.1, t.2.2.2.2.2.2.2.2.2.2.1, t.2.2.2.2.2.2.2.2.2.2.2.1, t.2.2.2.2.2.2.2.2.2.2.2.2.1, t.2.2.2.2.2.2.2.2.2.2.2.2.2.1, t.2.2.2.2.2.2.2.2.2.2.2.2.2.2.1, t.2.2.2.2.2.2.2.2.2.2.2.2.2.2.2] : List Int) (j : Int) = some (G j) := hG j (by omega)
      by_cases hJ : J l a j ∧ 0 ≤ G j
      · have hb : m.testBit j = true := (hmb j (by omega)).2 hJ.1
        rcases hI with ⟨rfl, h3⟩ | ⟨i, h3, rfl, h4, h5, h6, h7⟩
        · refine ⟨(j : Int), ?_, .inr ⟨j, by omega, rfl, hJ.1, hJ.2, fun k hk hjk hgk => ?_, fun k hk hjk hgk => ?_⟩⟩
          · rw [graph_nearest_l1, if_pos (by omega), has_eq m j hm (by omega), hb, Option.bind_some, if_pos rfl, hgj, Option.bind_some, if_pos hJ.2, if_pos (by omega), w64_id (by omega)]; rfl
          · by_cases e : k = j
            · subst e; exact Int.le_refl _
            · have := h3 k (by omega) hjk; omega
          · have := h3 k (by omega) hjk; omega
        · have hgi : ix ([t.1, t.2.1, t.2.2.1, t.2.2.2.1, t.2.2.2.2.1, t.2.2.2.2.2.1, t.2.2.2.2.2.2.1, t.2.2.2.2.2.2.2.1, t.2.2.2.2.2.2.2.2.1, t.2.2.2.2.2.2.2.2.2.1, t.2.2.2.2.2.2.2.2.2.2.1, t.2.2.2.2.2.2.2.2.2.2.2.1, t.2.2.2.2.2.2.2.2.2.2.2.2.1, t.2.2.2.2.2.2.2.2.2.2.2.2.2.1, t.2.2.2.2.2.2.2.2.2.2.2.2.2.2.1, t.2.2.2.2.2.2.2.2.2.2.2.2.2.2.2] : List Int) (i : Int) = some (G i) := hG i (by omega)
          have hst : graph_nearest_l1 (n : Int) (m : Int) t ((i : Int), (j : Int)) = some (.inl (if G j < G i then (j : Int) else (i : Int), ((j + 1 : Nat) : Int))) := by
            rw [graph_nearest_l1, if_pos (by omega), has_eq m j hm (by omega), hb, Option.bind_some, if_pos rfl, hgj, Option.bind_some, if_pos hJ.2, if_neg (by omega), hgi, Option.bind_some, Option.bind_some, Option.bind_some, w64_id (by omega)]
            by_cases h : G j < G i
            · rw [decide_eq_true h, if_pos h]; rfl
            · rw [decide_eq_false h, if_neg h]; rfl
          by_cases h : G j < G i
          · rw [if_pos h] at hst
            refine ⟨_, hst, .inr ⟨j, by omega, rfl, hJ.1, hJ.2, fun k hk hjk hgk => ?_, fun k hk hjk hgk => ?_⟩⟩
            · by_cases e : k = j
              · subst e; exact Int.le_refl _
              · have := h6 k (by omega) hjk hgk; omega
            · have := h6 k (by omega) hjk hgk; omega
          · rw [if_neg h] at hst
            refine ⟨_, hst, .inr ⟨i, by omega, rfl, h4, h5, fun k hk hjk hgk => ?_, h7⟩⟩
            by_cases e : k = j
            · subst e; omega
            · exact h6 k (by omega) hjk hgk
      · have hst : graph_nearest_l1 (n : Int) (m : Int) t (b, (j : Int)) = some (.inl (b, ((j + 1 : Nat) : Int))) := by
          rw [graph_nearest_l1, if_pos (by omega), has_eq m j hm (by omega), w64_id (by omega), Option.bind_some]
          by_cases hj2 : J l a j
          · rw [(hmb j (by omega)).2 hj2, if_pos rfl, hgj, Option.bind_some, if_neg (fun h => hJ ⟨hj2, h⟩)]; rfl
          · have hb0 : m.testBit j = false := by
              cases hx : m.testBit j
              · rfl
              · exact absurd ((hmb j (by omega)).1 hx) hj2
            rw [hb0]; rfl
        refine ⟨b, hst, ?_⟩
        rcases hI with ⟨h0, h3⟩ | ⟨i, h3, h0, h4, h5, h6, h7⟩
        · refine .inl ⟨h0, fun k hk hjk => ?_⟩
          by_cases e : k = j
          · subst e
            exact Int.not_le.1 fun h => hJ ⟨hjk, h⟩
          · exact h3 k (by omega) hjk
        · refine .inr ⟨i, by omega, h0, h4, h5, fun k hk hjk hgk => ?_, h7⟩
          by_cases e : k = j
          · subst e; exact absurd ⟨hjk, hgk⟩ hJ
          · exact h6 k (by omega) hjk hgk)
    (fun b _ => by rw [graph_nearest_l1, if_neg (by omega)]; rfl) (-1) (.inl ⟨rfl, fun _ h => by omega⟩)
  refine ⟨r, ?_, h1⟩
  unfold graph_nearest
  have e : loopW (graph_nearest_l1 (n : Int) (m : Int) t) (-1, 0) = some r := h2
  rw [e]; rfl
/-- What distances say. -/
abbrev Tell (n : Nat) (l : Es) (s : Nat) (G : Nat → Int) : Prop := ∀ a, a < 16 → (∀ d, Dist n l s a d → G a = (d : Int)) ∧ ((∀ d, ¬ Dist n l s a d) → G a = -1)
theorem near_nx {n : Nat} {l : Es} (ok : Ok (n : Int) l) {s a m : Nat} (hm : m < 65536) (hmb : ∀ k, k < 16 → (m.testBit k = true ↔ J l a k)) {t : T16} {G : Nat → Int} (hG : StR t G) (hT : Tell n l s G) {d : Nat} (h1 : ∃ i, J l a i ∧ Dist n l s i d) (h2 : ∀ i e, J l a i → Dist n l s i e → d ≤ e) : graph_nearest (n : Int) (m : Int) t = some (nxN n l s a d : Int) := by
  have hn := ok.2.1
  obtain ⟨r, h3, h4⟩ := near_eq ok hm hmb hG
  obtain ⟨i0, hi1, hi2⟩ := h1
  have hlt := (J_lt ok hi1).2
  have hg0 := (hT i0 (by omega)).1 d hi2
  rw [h3]
  rcases h4 with ⟨_, h5⟩ | ⟨i, h5, rfl, h6, h7, h8, h9⟩
  · have := h5 i0 hlt hi1; omega
  · have hle := h8 i0 hlt hi1 (by omega)
    have hdi : Dist n l s i d := by
      by_cases hx : ∃ e, Dist n l s i e
      · obtain ⟨e, he⟩ := hx
        have hge := (hT i (by omega)).1 e he
        have := h2 i e h6 he
        obtain rfl : e = d := by omega
        exact he
      · have := (hT i (by omega)).2 fun e he => hx ⟨e, he⟩
        omega
    have hgi := (hT i (by omega)).1 d hdi
    rw [nxN_is h5 ⟨h6, hdi⟩ fun k hk ⟨q1, q2⟩ => by
      have hk2 := (J_lt ok q1).2
      have := (hT k (by omega)).1 d q2
      have := h9 k hk q1 (by omega)
      omega]
theorem loop_l2 {n : Nat} {l : Es} (ok : Ok (n : Int) l) {s : Nat} {x2 : T16} (hx : Sets (fun i k => J l i k) x2) {t : T16} {G : Nat → Int} (hG : StR t G) (hT : Tell n l s G) : ∀ (d a : Nat) (o : List Int), Dist n l s a d → a < n → o.length + d ≤ 1000 → loopW (graph_Loop_l2 (n : Int) x2 (s : Int) t) (o, (a : Int)) = some (o ++ path n l s d a) := by
  have hn := ok.2.1
  intro d
  induction d with
  | zero =>
    intro a o hD _ _
    have : a = s := W_zero.1 hD.1
    subst this
    exact loopW_end (by rw [graph_Loop_l2, if_neg (by simp)]; simp [path])
  | succ d ih =>
    intro a o hD ha ho
    have hne : a ≠ s := fun e => by
      have := hD.2 0 (by omega)
      rw [W_zero.2 e] at this; cases this
    obtain ⟨m, m1, m2, m3⟩ := hx a (by omega)
    have m2' : ix ([x2.1, x2.2.1, x2.2.2.1, x2.2.2.2.1, x2.2.2.2.2.1, x2.2.2.2.2.2.1, x2.2.2.2.2.2.2.1, x2.2.2.2.2.2.2.2.1, x2.2.2.2.2.2.2.2.2.1, x2.2.2.2.2.2.2.2.2.2.1, x2.2.2.2.2.2.2.2.2.2.2.1, x2.2.2.2.2.2.2.2.2.2.2.2.1, x2.2.2.2.2.2.2.2.2.2.2.2.2.1, x2.2.2.2.2.2.2.2.2.2.2.2.2.2.1, x2.2.2.2.2.2.2.2.2.2.2.2.2.2.2.1, x2.2.2.2.2.2.2.2.2.2.2.2.2.2.2.2] : List Int) (a : Int) = some (m : Int) := m2
    have hnx := dist_next ok hD
    have hns := nxN_spec ok hnx
    have hnr := near_nx ok m1 m3 hG hT hnx (fun i e h1 h2 => by
      refine Nat.le_of_not_lt fun hlt => ?_
      have := hD.2 (e + 1) (by omega)
      rw [(W_succ ok).2 ⟨i, h1, h2.1⟩] at this; cases this)
    refine (loopW_go (s' := (o ++ [(a : Int)], (nxN n l s a d : Int))) ?_).trans ?_
    · rw [graph_Loop_l2, if_pos (by omega), app_is (by simp; omega), Option.bind_some, m2', Option.bind_some, hnr]; rfl
    · rw [ih _ (o ++ [(a : Int)]) hns.2.1 (J_lt ok hns.1).2 (by simp; omega)]
      simp [path]
theorem wy_cases (n : Nat) (l : Es) (a b : Nat) : (wy n l a b = 0 ∧ ∀ k, 1 ≤ k → k ≤ n → wk n l k a b = false) ∨ ∃ k : Nat, 1 ≤ k ∧ k ≤ n ∧ wy n l a b = (k : Int) ∧ wk n l k a b = true ∧ ∀ j, 1 ≤ j → j < k → wk n l j a b = false := by
  have key : ∀ (d c : Nat), (((List.range' c d).findSome? (fun k => if wk n l k a b then some (k : Int) else none) = none) ∧ ∀ k, c ≤ k → k < c + d → wk n l k a b = false) ∨ ∃ k : Nat, c ≤ k ∧ k < c + d ∧ (List.range' c d).findSome? (fun k => if wk n l k a b then some (k : Int) else none) = some (k : Int) ∧ wk n l k a b = true ∧ ∀ j, c ≤ j → j < k → wk n l j a b = false := by
    intro d
    induction d with
    | zero => exact fun c => .inl ⟨rfl, fun k h1 h2 => by omega⟩
    | succ d ih =>
      intro c
      rw [List.range'_succ, List.findSome?_cons]
      cases hb : wk n l c a b
      · rw [if_neg Bool.false_ne_true]
        rcases ih (c + 1) with ⟨h1, h2⟩ | ⟨k, h1, h2, h3, h4, h5⟩
        · refine .inl ⟨h1, fun k h3 h4 => ?_⟩
          by_cases e : k = c
          · rw [e]; exact hb
          · exact h2 k (by omega) (by omega)
        · refine .inr ⟨k, by omega, by omega, h3, h4, fun j h6 h7 => ?_⟩
          by_cases e : j = c
          · rw [e]; exact hb
          · exact h5 j (by omega) h7
      · rw [if_pos rfl]
        exact .inr ⟨c, Nat.le_refl _, by omega, rfl, hb, fun j h1 h2 => by omega⟩
  unfold wy
  rcases key n 1 with ⟨h1, h2⟩ | ⟨k, h1, h2, h3, h4, h5⟩
  · rw [h1]; exact .inl ⟨rfl, fun k h3 h4 => h2 k h3 (by omega)⟩
  · rw [h3]; exact .inr ⟨k, h1, by omega, rfl, h4, h5⟩
/-- What a loop's length says of the nodes an edge off. -/
theorem cyc_next {n : Nat} {l : Es} (ok : Ok (n : Int) l) {s c : Nat} (hc : 1 ≤ c) (h : wk n l c s s = true) (hm : ∀ j, 1 ≤ j → j < c → wk n l j s s = false) : (∃ i, J l s i ∧ Dist n l s i (c - 1)) ∧ ∀ i e, J l s i → Dist n l s i e → c - 1 ≤ e := by
  have h2 : ∀ i e, J l s i → Dist n l s i e → c - 1 ≤ e := by
    intro i e h3 h4
    refine Nat.le_of_not_lt fun hlt => ?_
    have := hm (e + 1) (by omega) (by omega)
    rw [(W_succ ok).2 ⟨i, h3, h4.1⟩] at this; cases this
  refine ⟨?_, h2⟩
  obtain ⟨c', rfl⟩ : ∃ c', c = c' + 1 := ⟨c - 1, by omega⟩
  obtain ⟨i, h3, h4⟩ := (W_succ ok).1 h
  obtain ⟨e, h5, h6⟩ := dist_le h4
  have := h2 i e h3 h6
  obtain rfl : e = c' := by omega
  exact ⟨i, h3, h6⟩
theorem wy_dist {n : Nat} {l : Es} (ok : Ok (n : Int) l) {s c : Nat} (hs : s < n) (hm : ∀ j, 1 ≤ j → j < c → wk n l j s s = false) {i d : Nat} (hd : 1 ≤ d) (hdc : d < c) : wy n l i s = (d : Int) ↔ Dist n l s i d := by
  rcases wy_cases n l i s with ⟨h1, h2⟩ | ⟨k, h1, h2, h3, h4, h5⟩
  · constructor
    · intro h; omega
    · intro h
      have := h2 d hd (by have := dist_lt ok hs h; omega)
      rw [h.1] at this; cases this
  · rw [h3]
    constructor
    · intro h
      obtain rfl : k = d := by omega
      refine ⟨h4, fun j hj => ?_⟩
      by_cases e : j = 0
      · subst e
        cases hb : wk n l 0 i s
        · rfl
        · have := W_zero.1 hb
          subst this
          have := hm k hd hdc
          rw [h4] at this; cases this
      · exact h5 j (by omega) hj
    · intro h
      by_cases e : k = d
      · rw [e]
      · by_cases h6 : k < d
        · have := h.2 k h6
          rw [h4] at this; cases this
        · have := h5 d hd (by omega)
          rw [h.1] at this; cases this
theorem rloop_l3 {n : Nat} {l : Es} (ok : Ok (n : Int) l) (hl : l.length ≤ 1000000000) {s c : Nat} (hs : s < n) (hm : ∀ j, 1 ≤ j → j < c → wk n l j s s = false) {o : List Int} {a : Nat} (ho : o.length ≤ 1000) {d : Nat} (hd : 1 ≤ d) (hdc : d < c) (hdn : d ≤ n) (hx : ∃ i, J l a i ∧ Dist n l s i d) : loopW (r20_Loop_l3 (n : Int) l (s : Int) ((d + 1 : Nat) : Int) (o ++ [(a : Int)])) (-1, w64 ((n : Int) - 1)) = some (nxN n l s a d : Int) := by
  have hn := ok.2.1
  obtain ⟨g1, g2, g3⟩ := nxN_spec ok hx
  have hlt := (J_lt ok g1).2
  generalize nxN n l s a d = i at *
  have hlast : ix (o ++ [(a : Int)]) (w64 (((o ++ [(a : Int)]).length : Int) - 1)) = some (a : Int) := by
    rw [List.length_append, List.length_singleton, w64_id (by omega), show ((o.length + 1 : Nat) : Int) - 1 = (o.length : Int) by omega]
    exact ix_nat (by rw [List.getElem?_append_right (Nat.le_refl _), Nat.sub_self]; rfl)
  have hst : ∀ (b : Int) (k : Nat), k < n → r20_Loop_l3 (n : Int) l (s : Int) ((d + 1 : Nat) : Int) (o ++ [(a : Int)]) (b, (k : Int)) = some (.inl (if J l a k ∧ Dist n l s k d then (k : Int) else b, (k : Int) - 1)) := by
    intro b k hk
    rw [r20_Loop_l3, if_pos (by omega), hlast, Option.bind_some, redge_eq _ _ _ hl, Option.bind_some, ways_eq ok hl, w64_id (x := (k : Int) - 1) (by omega), w64_id (x := ((d + 1 : Nat) : Int) - 1) (by omega), show ((d + 1 : Nat) : Int) - 1 = (d : Int) by omega]
    have hwd := wy_dist ok hs hm (i := k) hd hdc
    by_cases c1 : J l a k
    · rw [decide_eq_true c1, if_pos rfl, Option.bind_some]
      by_cases c2 : Dist n l s k d
      · rw [decide_eq_true (hwd.2 c2), if_pos ⟨c1, c2⟩]; rfl
      · rw [decide_eq_false (fun h => c2 (hwd.1 h)), if_neg (fun h => c2 h.2)]; rfl
    · rw [decide_eq_false c1, if_neg Bool.false_ne_true, if_neg (fun h => c1 h.1)]; rfl
  have low : ∀ k : Nat, k ≤ i → loopW (r20_Loop_l3 (n : Int) l (s : Int) ((d + 1 : Nat) : Int) (o ++ [(a : Int)])) ((i : Int), (k : Int) - 1) = some (i : Int) := by
    intro k
    induction k with
    | zero => intro _; exact loopW_end (by rw [r20_Loop_l3, if_neg (by omega)])
    | succ k ih =>
      intro hk
      refine (loopW_go ?_).trans (ih (by omega))
      rw [show ((k + 1 : Nat) : Int) - 1 = (k : Int) by omega, hst _ k (by omega), if_neg (g3 k (by omega))]
  have high : ∀ (e k : Nat) (b : Int), i + 1 + e = k → k ≤ n → loopW (r20_Loop_l3 (n : Int) l (s : Int) ((d + 1 : Nat) : Int) (o ++ [(a : Int)])) (b, (k : Int) - 1) = some (i : Int) := by
    intro e
    induction e with
    | zero =>
      intro k b hk hkn
      refine (loopW_go ?_).trans (low i (Nat.le_refl _))
      rw [show (k : Int) - 1 = (i : Int) by omega, hst _ i hlt, if_pos ⟨g1, g2⟩]
    | succ e ih =>
      intro k b hk hkn
      obtain ⟨k', rfl⟩ : ∃ k', k = k' + 1 := ⟨k - 1, by omega⟩
      refine (loopW_go ?_).trans (ih k' (if J l a k' ∧ Dist n l s k' d then (k' : Int) else b) (by omega) (by omega))
      rw [show ((k' + 1 : Nat) : Int) - 1 = (k' : Int) by omega, hst _ k' (by omega)]
  rw [w64_id (by omega)]
  exact high (n - 1 - i) n (-1) (by omega) (Nat.le_refl _)
theorem rloop_l2 {n : Nat} {l : Es} (ok : Ok (n : Int) l) (hl : l.length ≤ 1000000000) {s c : Nat} (hs : s < n) (hm : ∀ j, 1 ≤ j → j < c → wk n l j s s = false) : ∀ (d a : Nat) (o : List Int), (∃ i, J l a i ∧ Dist n l s i d) → d + 1 ≤ c → d < n → o.length + d ≤ 900 → loopW (r20_Loop_l2 (n : Int) l (s : Int)) (((d + 1 : Nat) : Int), o ++ [(a : Int)]) = some (o ++ [(a : Int)] ++ path n l s d (nxN n l s a d)) := by
  have hn := ok.2.1
  intro d
  induction d with
  | zero =>
    intro a o _ _ _ _
    exact loopW_end (by rw [r20_Loop_l2, if_neg (by omega)]; simp [path])
  | succ d ih =>
    intro a o hx hc hdn ho
    have hns := nxN_spec ok hx
    have := ih (nxN n l s a (d + 1)) (o ++ [(a : Int)]) (dist_next ok hns.2.1) (by omega) (by omega) (by simp; omega)
    refine (loopW_go ?_).trans (this.trans ?_)
    · rw [r20_Loop_l2, if_pos (by omega), rloop_l3 ok hl hs hm (o := o) (a := a) (by omega) (d := d + 1) (by omega) (by omega) (by omega) hx, Option.bind_some, app_is (by simp; omega), Option.bind_some, w64_id (by omega)]
      rw [show ((d + 1 + 1 : Nat) : Int) - 1 = ((d + 1 : Nat) : Int) by omega]
    · simp [path]
def loopP (n : Nat) (l : Es) (s : Nat) : Option (List Int) := if wy n l s s = 0 then none else some ((s : Int) :: path n l s ((wy n l s s).toNat - 1) (nxN n l s s ((wy n l s s).toNat - 1)))
def loopV (n : Nat) (l : Es) : List Int := match (List.range n).findSome? (loopP n l) with | some o => o | none => []
theorem rloop_eq {n : Nat} {l : Es} (ok : Ok (n : Int) l) (hl : l.length ≤ 1000000000) : r20_Loop (n : Int) l = some (loopV n l) := by
  have hn := ok.2.1
  unfold r20_Loop
  rw [rright_eq _ _ hl, decide_eq_true ok, Option.bind_some, if_neg (by decide), search n _ (loopP n l) (fun s hs => by
    unfold r20_Loop_l1
    rw [if_pos (by omega), ways_eq ok hl, Option.bind_some, w64_id (by omega)]
    unfold loopP
    rcases wy_cases n l s s with ⟨h1, h2⟩ | ⟨k, h1, h2, h3, h4, h5⟩
    · rw [if_pos h1, if_pos h1]; rfl
    · rw [if_neg (by omega), if_neg (by omega), h3, Int.toNat_natCast]
      obtain ⟨d, rfl⟩ : ∃ d, k = d + 1 := ⟨k - 1, by omega⟩
      have := rloop_l2 ok hl hs h5 d s [] (cyc_next ok h1 h4 h5).1 (Nat.le_refl _) (by omega) (by simp; omega)
      have e : loopW (r20_Loop_l2 (n : Int) l (s : Int)) (((d + 1 : Nat) : Int), [(s : Int)]) = _ := this
      rw [e]; rfl) (by unfold r20_Loop_l1; rw [if_neg (by omega)])]
  unfold orR loopV
  cases (List.range n).findSome? (loopP n l) <;> rfl
theorem ploop_eq {n : Nat} {l : Es} (ok : Ok (n : Int) l) (hl : l.length ≤ 1000000000) : graph_Loop (n : Int) l = some (loopV n l) := by
  have hn := ok.2.1
  obtain ⟨x2, e1, hx2⟩ := succ_eq l n ok hl
  obtain ⟨p, e2, hp⟩ := pred_eq l n ok hl
  unfold graph_Loop
  rw [right_eq _ _ hl, decide_eq_true ok, Option.bind_some, if_neg (by decide), e1, Option.bind_some, search n _ (loopP n l) (fun s hs => by
    unfold graph_Loop_l1
    obtain ⟨t, G, f1, hG, hT⟩ := distances_eq ok hp hs
    obtain ⟨m, m1, m2, m3⟩ := hx2 s (by omega)
    have m2' : ix ([x2.1, x2.2.1, x2.2.2.1, x2.2.2.2.1, x2.2.2.2.2.1, x2.2.2.2.2.2.1, x2.2.2.2.2.2.2.1, x2.2.2.2.2.2.2.2.1, x2.2.2.2.2.2.2.2.2.1, x2.2.2.2.2.2.2.2.2.2.1, x2.2.2.2.2.2.2.2.2.2.2.1, x2.2.2.2.2.2.2.2.2.2.2.2.1, x2.2.2.2.2.2.2.2.2.2.2.2.2.1, x2.2.2.2.2.2.2.2.2.2.2.2.2.2.1, x2.2.2.2.2.2.2.2.2.2.2.2.2.2.2.1, x2.2.2.2.2.2.2.2.2.2.2.2.2.2.2.2] : List Int) (s : Int) = some (m : Int) := m2
    rw [if_pos (by omega), e2, Option.bind_some, f1, Option.bind_some, m2', Option.bind_some, w64_id (by omega)]
    unfold loopP
    rcases wy_cases n l s s with ⟨h1, h2⟩ | ⟨k, h1, h2, h3, h4, h5⟩
    · rw [if_pos h1]
      obtain ⟨r, r1, r2⟩ := near_eq ok m1 m3 hG
      have hr : r < 0 := by
        rcases r2 with ⟨h, _⟩ | ⟨i, h6, rfl, h7, h8, _⟩
        · omega
        · exfalso
          by_cases hx : ∃ e, Dist n l s i e
          · obtain ⟨e, he⟩ := hx
            have := h2 (e + 1) (by omega) (by have := dist_lt ok hs he; omega)
            rw [(W_succ ok).2 ⟨i, h7, he.1⟩] at this; cases this
          · have := (hT i (by omega)).2 fun e he => hx ⟨e, he⟩
            omega
      rw [r1, Option.bind_some, if_pos hr]; rfl
    · rw [if_neg (by omega), h3, Int.toNat_natCast]
      obtain ⟨c1, c2⟩ := cyc_next ok h1 h4 h5
      have hns := nxN_spec ok c1
      rw [near_nx ok m1 m3 hG hT c1 c2, Option.bind_some, if_neg (by omega)]
      have := loop_l2 ok hx2 hG hT (k - 1) _ [(s : Int)] hns.2.1 (J_lt ok hns.1).2 (by simp; omega)
      rw [this]; rfl) (by unfold graph_Loop_l1; rw [if_neg (by omega)])]
  unfold orR loopV
  cases (List.range n).findSome? (loopP n l) <;> rfl
theorem loop_bad {n : Int} {l : Es} (ok : ¬ Ok n l) (hl : l.length ≤ 1000000000) : graph_Loop n l = some [] ∧ r20_Loop n l = some [] := by
  unfold graph_Loop r20_Loop
  rw [right_eq _ _ hl, rright_eq _ _ hl, decide_eq_false ok]
  exact ⟨rfl, rfl⟩

/-! ### The statements -/
theorem mine_eq {l : Es} (hl : l.length ≤ 1000000) : L20_mine l = some l := by
  unfold L20_mine
  obtain ⟨r, h1, h2⟩ := loop_cnt l.length (fun (o : Es) (k : Nat) => (o, (k : Int))) (L20_mine_l1 l) id (fun o k => o = l.take k)
    (fun o k hk hI => by
      refine ⟨l.take (k + 1), ?_, rfl⟩
      have hlen : (l.take k).length ≤ k := by rw [List.length_take]; omega
      rw [hI, L20_mine_l1, if_pos (by omega), ix_nat (List.getElem?_eq_getElem hk), Option.bind_some, Option.bind_some, app_is (by simp; omega), w64_id (by omega), List.take_add_one, List.getElem?_eq_getElem hk]; rfl)
    (fun o _ => by rw [L20_mine_l1, if_neg (by omega)]; rfl) [] (by simp)
  have e : loopW (L20_mine_l1 l) ([], 0) = some r := h2
  rw [e, h1, List.take_length]; rfl
theorem same_refl {a : List Int} (ha : a.length ≤ 1000000000) : r13_Same a a = some true := by
  unfold r13_Same
  rw [if_neg (by simp), search_any a.length _ (fun _ => False) false (fun k hk => by
    unfold r13_Same_l1
    rw [if_pos (by omega), ix_nat (List.getElem?_eq_getElem hk), Option.bind_some, Option.bind_some, if_neg (by simp), if_neg (by simp), w64_id (by omega)]; rfl) (by unfold r13_Same_l1; rw [if_neg (by omega)]), if_neg (by simp)]
  rfl
theorem awake20 : L20_awake = some true := by
  unfold L20_awake
  have o1 : Ok ((3 : Nat) : Int) [(2, 0), (0, 1)] := by decide
  have o2 : Ok ((2 : Nat) : Int) [(0, 1), (1, 0)] := by decide
  have e1 : graph_Order 3 ([(2, 0), (0, 1)] : Es) = some ([2, 0, 1], true) := (porder_eq o1 (by decide)).trans (by decide)
  have e2 : graph_Loop 3 ([(2, 0), (0, 1)] : Es) = some [] := (ploop_eq o1 (by decide)).trans (by decide)
  have e3 : graph_Loop 2 ([(0, 1), (1, 0)] : Es) = some [0, 1] := (ploop_eq o2 (by decide)).trans (by decide)
  rw [e1, Option.bind_some, if_pos rfl, same_refl (by decide), Option.bind_some, if_pos rfl, e2, Option.bind_some, if_pos (show ((([] : List Int).length : Int) = 0) from rfl), e3, Option.bind_some, same_refl (by decide)]
  rfl
theorem GraphTells_true (p0 : Int) (ok0 : (Lit.int .i64 p0).wf = true) (p1 : List (Int × Int)) (ok1 : okL (okP (fun n => (Lit.int .i64 n).wf = true) (fun n => (Lit.int .i64 n).wf = true)) p1) (p2 : Int) (ok2 : (Lit.int .i64 p2).wf = true) : L20_GraphTells p0 p1 p2 = some true := by
  unfold L20_GraphTells
  by_cases h : 60 < (p1.length : Int)
  · rw [if_pos h, awake20]; rfl
  · have hl : p1.length ≤ 60 := by omega
    rw [if_neg h, mine_eq (by omega), Option.bind_some]
    by_cases ok : Ok p0 p1
    · obtain ⟨n, rfl⟩ : ∃ n : Nat, p0 = (n : Int) := ⟨p0.toNat, by have := ok.1; omega⟩
      have hn := ok.2.1
      obtain ⟨r, r1, r2, r3⟩ := reach_eq ok (by omega) p2
      obtain ⟨f, f1, f2, f3⟩ := far_eq ok (by omega)
      have hlo : (orderV n p1).1.length ≤ 1000000000 := by
        unfold orderV
        cases ho : ord n p1 n [] with
        | none => simp
        | some o =>
          have := (ord_good n [] o ho (fun j x hx => by simp at hx)).2
          simp at this ⊢; omega
      have hlf : f.1.length ≤ 1000000000 := by
        rcases f3 with ⟨o, F, _, _, rfl⟩ | ⟨_, rfl⟩
        · have := lst_len F n
          simp only; omega
        · simp
      have hll : (loopV n p1).length ≤ 1000000000 := by
        unfold loopV
        cases hf : (List.range n).findSome? (loopP n p1) with
        | none => simp
        | some o =>
          obtain ⟨s, _, hs⟩ := List.exists_of_findSome?_eq_some hf
          unfold loopP at hs
          have hpl : ∀ (d b : Nat), (path n p1 s d b).length = d := by
            intro d
            induction d with
            | zero => intro b; rfl
            | succ d ih => intro b; simp [path, ih]
          rcases wy_cases n p1 s s with ⟨h1, _⟩ | ⟨k, h1, h2, h3, _⟩
          · rw [if_pos h1] at hs; cases hs
          · rw [if_neg (by omega), h3, Int.toNat_natCast] at hs
            cases hs
            simp [hpl]; omega
      rw [porder_eq ok (by omega), rorder_eq ok (by omega), right_eq _ _ (by omega), rright_eq _ _ (by omega), r1, r2, f1, f2, ploop_eq ok (by omega), rloop_eq ok (by omega), awake20]
      simp only [Option.bind_some]
      rw [if_neg (by simp), same_refl (by omega), same_refl hlo, same_refl hlf, same_refl hll]
      simp
    · rw [(order_bad ok (by omega)).1, (order_bad ok (by omega)).2, right_eq _ _ (by omega), rright_eq _ _ (by omega), (reach_bad ok (by omega) p2).1, (reach_bad ok (by omega) p2).2, (far_bad ok (by omega)).1, (far_bad ok (by omega)).2, (loop_bad ok (by omega)).1, (loop_bad ok (by omega)).2, awake20]
      simp only [Option.bind_some]
      rw [if_neg (by simp), same_refl (by simp)]
      simp
end Go.Proofs.Ytkgajpmlehfcnaa
