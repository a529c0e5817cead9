/- Layer 25: loops of graphs. Conditions: none. -/
import Derived.Test.YthhoflfhegfmcaaGreatcLP
import Derived.Test.YthhoflfhegfmcaaGreatcA7
namespace Go.Proofs.YthhoflfhegfmcaaGreat
set_option linter.unusedVariables false
set_option linter.unusedSimpArgs false
open Go Go.RowKit
theorem NL (a : Nat) (h : a < 4294967296) : (BitVec.ofInt 32 (a : Int)).toNat = a := by
  rw [BitVec.toNat_ofInt]; omega
theorem RF (a b : Nat) (ha : a < 65536) (hb : b < 65536) : Ta .u32 (a : Int) (b : Int) = ((a ||| b : Nat) : Int) ∧ a ||| b < 65536 := by
  have hl : a ||| b < 2 ^ 16 := Nat.or_lt_two_pow ha hb
  refine ⟨?_, hl⟩
  show IntKind.u32.wrap ((BitVec.ofInt 32 (a : Int) ||| BitVec.ofInt 32 (b : Int)).toNat : Int) = _
  rw [BitVec.toNat_or, NL a (by omega), NL b (by omega), WK]; omega
theorem Vb (a k : Nat) (hk : k < 32) : Jq .u32 (a : Int) (k : Int) = ((a / 2 ^ k : Nat) : Int) := by
  unfold Jq
  rw [Int.toNat_natCast, Nat.min_eq_left (by show k ≤ 32; omega), Int.fdiv_eq_ediv_of_nonneg _ (by have := Int.pow_pos (n := 2) (m := k) (by decide); omega)]
  norm_cast
theorem Vy (k : Nat) (hk : k < 16) : HL .u32 1 (k : Int) = ((2 ^ k : Nat) : Int) ∧ 2 ^ k < 65536 := by
  have hl : 2 ^ k < 2 ^ 16 := Nat.pow_lt_pow_right (by decide) hk
  refine ⟨?_, hl⟩
  unfold HL
  rw [Int.toNat_natCast, Nat.min_eq_left (by show k ≤ 32; omega), WK, Int.one_mul]
  have e : (2 : Int) ^ k = ((2 ^ k : Nat) : Int) := by norm_cast
  rw [e]
  generalize 2 ^ k = z at hl ⊢
  omega
theorem Vu (a : Nat) (ha : a < 65536) : Oa .u32 (a : Int) 1 = ((a % 2 : Nat) : Int) := by
  show IntKind.u32.wrap ((BitVec.ofInt 32 (a : Int) &&& BitVec.ofInt 32 ((1 : Nat) : Int)).toNat : Int) = _
  rw [BitVec.toNat_and, NL a (by omega), NL _ (by decide), Nat.and_two_pow_sub_one_eq_mod a 1, WK]; omega
theorem LG (m i : Nat) (hm : m < 65536) (hi : i < 16) : Ea (m : Int) (i : Int) = some (m.testBit i) := by
  unfold Ea
  rw [Q7 (by omega), Option.bind_some, Vb _ _ (by omega), Vu _ (by have := Nat.div_le_self m (2 ^ i); omega)]
  congr 1
  rw [Nat.testBit_eq_decide_div_mod_eq]
  exact decide_eq_decide.2 (by omega)
theorem PC (m i : Nat) (hm : m < 65536) (hi : i < 16) : C7 (m : Int) (i : Int) = some ((m ||| 2 ^ i : Nat) : Int) ∧ m ||| 2 ^ i < 65536 := by
  have h := Vy i hi
  have h2 := RF m (2 ^ i) hm h.2
  unfold C7
  rw [Q7 (by omega), Option.bind_some, h.1, h2.1]
  exact ⟨rfl, h2.2⟩
theorem Q0 (m i k : Nat) : (m ||| 2 ^ i).testBit k = (m.testBit k || decide (i = k)) := by
  rw [Nat.testBit_or, Nat.testBit_two_pow]
abbrev Es := List (Int × Int)
abbrev Ok (n : Int) (l : Es) : Prop := 0 ≤ n ∧ n ≤ 16 ∧ ∀ e ∈ l, 0 ≤ e.1 ∧ e.1 < n ∧ 0 ≤ e.2 ∧ e.2 < n
abbrev J (l : Es) (i k : Nat) : Prop := ((i : Int), (k : Int)) ∈ l
theorem Ro {α : Type} (l : List α) (hl : l.length ≤ 1000000000) (step : Int → Option (Int ⊕ (Unit ⊕ Bool))) (P : α → Prop) [DecidablePred P] (b : Bool)
    (hs : ∀ k (hk : k < l.length), step (k : Int) = if P l[k] then some (.inr (.inr b)) else some (.inl (An ((k : Int) + 1))))
    (he : step (l.length : Int) = some (.inr (.inl ()))) :
    Aq step 0 = some (if ∃ e ∈ l, P e then .inr b else .inl ()) := by
  have : DecidablePred fun k : Nat => ∃ e, l[k]? = some e ∧ P e := fun _ => Classical.propDecidable _
  rw [Oe l.length step (fun k : Nat => ∃ e, l[k]? = some e ∧ P e) b (fun k hk => by
    rw [hs k hk, Aj (by omega)]
    by_cases h : P l[k]
    · rw [if_pos h, if_pos ((NN hk).2 h)]
    · rw [if_neg h, if_neg (fun h2 => h ((NN hk).1 h2))]; rfl) he]
  by_cases h : ∃ e ∈ l, P e
  · rw [if_pos h, if_pos (P4.2 h)]
  · rw [if_neg h, if_neg (fun h2 => h (P4.1 h2))]
abbrev VH (n : Int) (e : Int × Int) : Prop := e.1 < 0 ∨ n ≤ e.1 ∨ e.2 < 0 ∨ n ≤ e.2
theorem Qs (n : Int) (l : Es) (hl : l.length ≤ 1000000000) : Gr n l = some (decide (Ok n l)) := by
  unfold Gr
  by_cases h0 : n < 0 ∨ 16 < n
  · rw [if_pos (by simpa using h0), decide_eq_false (fun h => by have := h.1; have := h.2.1; omega)]
  · rw [if_neg (by simpa using h0), Ro l hl _ (VH n) false (fun k hk => by
      unfold FJ
      rw [if_pos (by omega), BA (List.getElem?_eq_getElem hk), Option.bind_some]
      by_cases hb : VH n l[k]
      · rw [if_pos hb, if_pos (by simpa using hb)]
      · rw [if_neg hb, if_neg (by simpa using hb)]) (by unfold FJ; rw [if_neg (by omega)])]
    unfold GT
    by_cases hb : ∃ e ∈ l, VH n e
    · obtain ⟨e, h1, h2⟩ := hb
      rw [if_pos ⟨e, h1, h2⟩, decide_eq_false (p := Ok n l) (fun h => by have := h.2.2 e h1; omega)]; rfl
    · rw [if_neg hb, decide_eq_true (p := Ok n l) ⟨by omega, by omega, fun e he => by
        have : ¬ VH n e := fun h => hb ⟨e, he, h⟩
        omega⟩]; rfl
abbrev LT := Int × Int × Int × Int × Int × Int × Int × Int × Int × Int × Int × Int × Int × Int × Int × Int
def LZ (p1 : LT) : List Int := [p1.1, p1.2.1, p1.2.2.1, p1.2.2.2.1, p1.2.2.2.2.1, p1.2.2.2.2.2.1, p1.2.2.2.2.2.2.1, p1.2.2.2.2.2.2.2.1, p1.2.2.2.2.2.2.2.2.1, p1.2.2.2.2.2.2.2.2.2.1, p1.2.2.2.2.2.2.2.2.2.2.1, p1.2.2.2.2.2.2.2.2.2.2.2.1, p1.2.2.2.2.2.2.2.2.2.2.2.2.1, p1.2.2.2.2.2.2.2.2.2.2.2.2.2.1, p1.2.2.2.2.2.2.2.2.2.2.2.2.2.2.1, p1.2.2.2.2.2.2.2.2.2.2.2.2.2.2.2]
def Wj (p1 : LT) (v x : Int) : LT := (if v = 0 then x else p1.1, if v = 1 then x else p1.2.1, if v = 2 then x else p1.2.2.1, if v = 3 then x else p1.2.2.2.1, if v = 4 then x else p1.2.2.2.2.1, if v = 5 then x else p1.2.2.2.2.2.1, if v = 6 then x else p1.2.2.2.2.2.2.1, if v = 7 then x else p1.2.2.2.2.2.2.2.1, if v = 8 then x else p1.2.2.2.2.2.2.2.2.1, if v = 9 then x else p1.2.2.2.2.2.2.2.2.2.1, if v = 10 then x else p1.2.2.2.2.2.2.2.2.2.2.1, if v = 11 then x else p1.2.2.2.2.2.2.2.2.2.2.2.1, if v = 12 then x else p1.2.2.2.2.2.2.2.2.2.2.2.2.1, if v = 13 then x else p1.2.2.2.2.2.2.2.2.2.2.2.2.2.1, if v = 14 then x else p1.2.2.2.2.2.2.2.2.2.2.2.2.2.2.1, if v = 15 then x else p1.2.2.2.2.2.2.2.2.2.2.2.2.2.2.2)
theorem XU (v c : Nat) (x y : Int) : some (if (v : Int) = (c : Int) then x else y) = if v = c then some x else some y := by
  by_cases h : v = c
  · rw [if_pos (by omega), if_pos h]
  · rw [if_neg (by omega), if_neg h]
theorem Pm (t : LT) (v i : Nat) (x : Int) (hi : i < 16) : ix (LZ (Wj t (v : Int) x)) (i : Int) = if v = i then some x else ix (LZ t) (i : Int) := by
  have h : i = 0 ∨ i = 1 ∨ i = 2 ∨ i = 3 ∨ i = 4 ∨ i = 5 ∨ i = 6 ∨ i = 7 ∨ i = 8 ∨ i = 9 ∨ i = 10 ∨ i = 11 ∨ i = 12 ∨ i = 13 ∨ i = 14 ∨ i = 15 := by omega
  rcases h with rfl | rfl | rfl | rfl | rfl | rfl | rfl | rfl | rfl | rfl | rfl | rfl | rfl | rfl | rfl | rfl <;> exact XU v _ x _
def Qg (P : Nat → Nat → Prop) (t : LT) : Prop := ∀ i : Nat, i < 16 → ∃ m : Nat, m < 65536 ∧ ix (LZ t) (i : Int) = some (m : Int) ∧ ∀ k, k < 16 → (m.testBit k = true ↔ P i k)
theorem JQ {l : Es} {e : Int × Int} {j : Nat} (hj : j < l.length) : e ∈ l.take (j + 1) ↔ e ∈ l.take j ∨ e = l[j] := by
  rw [List.take_add_one, List.getElem?_eq_getElem hj, List.mem_append]
  simp
theorem O4 (l : Es) (n : Int) (ok : Ok n l) (hl : l.length ≤ 1000000000) (row mem : Int × Int → Int)
    (hr : ∀ e ∈ l, 0 ≤ row e ∧ row e < 16 ∧ 0 ≤ mem e ∧ mem e < 16) (step : Int × LT → Option ((Int × LT) ⊕ LT))
    (hs : ∀ (j : Nat) (hj : j < l.length) (t : LT), step ((j : Int), t) = (ix (LZ t) (row l[j])).bind fun x => (C7 x (mem l[j])).bind fun y => (ix (LZ t) (row l[j])).bind fun _ => some (.inl (An ((j : Int) + 1), Wj t (row l[j]) y)))
    (he : ∀ t, step ((l.length : Int), t) = some (.inr t)) :
    ∃ t, Aq step (0, (0, 0, 0, 0, 0, 0, 0, 0, 0, 0, 0, 0, 0, 0, 0, 0)) = some t ∧ Qg (fun i k => ∃ e ∈ l, row e = (i : Int) ∧ mem e = (k : Int)) t := by
  obtain ⟨t, h1, h2⟩ := DM l.length (fun (t : LT) (j : Nat) => ((j : Int), t)) step id (fun t j => Qg (fun i k => ∃ e ∈ l.take j, row e = (i : Int) ∧ mem e = (k : Int)) t)
    (fun t j hj hI => by
      have hm : l[j] ∈ l := List.getElem_mem hj
      obtain ⟨a1, a2, a3, a4⟩ := hr _ hm
      obtain ⟨i, hi⟩ : ∃ i : Nat, row l[j] = (i : Int) := ⟨(row l[j]).toNat, by omega⟩
      obtain ⟨k, hk⟩ : ∃ k : Nat, mem l[j] = (k : Int) := ⟨(mem l[j]).toNat, by omega⟩
      obtain ⟨m, hm1, hm2, hm3⟩ := hI i (by omega)
      have hw := PC m k hm1 (by omega)
      refine ⟨Wj t (i : Int) ((m ||| 2 ^ k : Nat) : Int), ?_, ?_⟩
      · rw [hs j hj, hi, hk, hm2, Option.bind_some, hw.1, Option.bind_some, Option.bind_some, Aj (by omega)]; rfl
      · intro i2 hi2
        rw [Pm _ _ _ _ hi2]
        by_cases h : i = i2
        · subst h
          refine ⟨m ||| 2 ^ k, hw.2, by rw [if_pos rfl], fun k2 hk2 => ?_⟩
          rw [Q0, Bool.or_eq_true, decide_eq_true_eq, hm3 k2 hk2]
          constructor
          · rintro (⟨e, h1, h2⟩ | rfl)
            · exact ⟨e, (JQ hj).2 (.inl h1), h2⟩
            · exact ⟨l[j], (JQ hj).2 (.inr rfl), hi, hk⟩
          · rintro ⟨e, h1, h2, h3⟩
            rcases (JQ hj).1 h1 with h4 | rfl
            · exact .inl ⟨e, h4, h2, h3⟩
            · exact .inr (by omega)
        · rw [if_neg h]
          obtain ⟨m', b1, b2, b3⟩ := hI i2 hi2
          refine ⟨m', b1, b2, fun k2 hk2 => (b3 k2 hk2).trans ?_⟩
          constructor
          · rintro ⟨e, h1, h2⟩
            exact ⟨e, (JQ hj).2 (.inl h1), h2⟩
          · rintro ⟨e, h1, h2, h3⟩
            rcases (JQ hj).1 h1 with h4 | rfl
            · exact ⟨e, h4, h2, h3⟩
            · omega)
    (fun t _ => he t) (0, 0, 0, 0, 0, 0, 0, 0, 0, 0, 0, 0, 0, 0, 0, 0) (by
      intro i hi
      have h : i = 0 ∨ i = 1 ∨ i = 2 ∨ i = 3 ∨ i = 4 ∨ i = 5 ∨ i = 6 ∨ i = 7 ∨ i = 8 ∨ i = 9 ∨ i = 10 ∨ i = 11 ∨ i = 12 ∨ i = 13 ∨ i = 14 ∨ i = 15 := by omega
      refine ⟨0, by decide, ?_, fun k _ => ?_⟩
      · rcases h with rfl | rfl | rfl | rfl | rfl | rfl | rfl | rfl | rfl | rfl | rfl | rfl | rfl | rfl | rfl | rfl <;> rfl
      · rw [Nat.zero_testBit]; simp)
  rw [List.take_length] at h1
  exact ⟨t, h2, h1⟩
theorem UZ (l : Es) (n : Int) (ok : Ok n l) (hl : l.length ≤ 1000000000) : ∃ t, DH l = some t ∧ Qg (fun i k => J l k i) t := by
  have hb : ∀ e ∈ l, 0 ≤ e.2 ∧ e.2 < 16 ∧ 0 ≤ e.1 ∧ e.1 < 16 := fun e he => by have := ok.2.2 e he; have := ok.2.1; omega
  obtain ⟨t, h1, h2⟩ := O4 l n ok hl (·.2) (·.1) hb (Cr l) (fun j hj t => by
    show Cr l ((j : Int), t.1, t.2) = _
    unfold Cr
    simp only
    rw [if_pos (by omega), BA (List.getElem?_eq_getElem hj)]; rfl) (fun t => by
    show Cr l ((l.length : Int), t.1, t.2) = _
    unfold Cr
    simp only
    rw [if_neg (by omega)])
  refine ⟨t, ?_, fun i hi => ?_⟩
  · unfold DH
    rw [h1]; rfl
  · obtain ⟨m, a1, a2, a3⟩ := h2 i hi
    refine ⟨m, a1, a2, fun k hk => (a3 k hk).trans ⟨?_, fun h => ⟨_, h, rfl, rfl⟩⟩⟩
    rintro ⟨⟨a, b⟩, h3, h4, h5⟩
    simp only at h4 h5
    subst h4 h5; exact h3
theorem Vs (l : Es) (n : Int) (ok : Ok n l) (hl : l.length ≤ 1000000000) : ∃ t, D5 l = some t ∧ Qg (fun i k => J l i k) t := by
  have hb : ∀ e ∈ l, 0 ≤ e.1 ∧ e.1 < 16 ∧ 0 ≤ e.2 ∧ e.2 < 16 := fun e he => by have := ok.2.2 e he; have := ok.2.1; omega
  obtain ⟨t, h1, h2⟩ := O4 l n ok hl (·.1) (·.2) hb (CL l) (fun j hj t => by
    show CL l ((j : Int), t.1, t.2) = _
    unfold CL
    simp only
    rw [if_pos (by omega), BA (List.getElem?_eq_getElem hj)]; rfl) (fun t => by
    show CL l ((l.length : Int), t.1, t.2) = _
    unfold CL
    simp only
    rw [if_neg (by omega)])
  refine ⟨t, ?_, fun i hi => ?_⟩
  · unfold D5
    rw [h1]; rfl
  · obtain ⟨m, a1, a2, a3⟩ := h2 i hi
    refine ⟨m, a1, a2, fun k hk => (a3 k hk).trans ⟨?_, fun h => ⟨_, h, rfl, rfl⟩⟩⟩
    rintro ⟨⟨a, b⟩, h3, h4, h5⟩
    simp only at h4 h5
    subst h4 h5; exact h3
theorem OM {n : Nat} {l : Es} (ok : Ok (n : Int) l) {i k : Nat} (h : J l i k) : i < n ∧ k < n := by have := ok.2.2 _ h; simp only at this; omega
theorem Tc {s k : Nat} (hs : s < 65536) (h : s.testBit k = true) : k < 16 := by
  refine Classical.byContradiction fun hk => ?_
  rw [Nat.testBit_lt_two_pow (show s < 2 ^ k from Nat.lt_of_lt_of_le hs (Nat.pow_le_pow_right (n := 2) (by decide) (show 16 ≤ k by omega)))] at h
  cases h
theorem Pa {n : Nat} : ∀ (m : Nat) (got : List Int), got.Nodup → (∀ x ∈ got, 0 ≤ x ∧ x < (m : Int)) → got.length ≤ m
  | 0, got, _, h => by
    cases got with
    | nil => simp
    | cons x l => have := h x (List.mem_cons_self ..); omega
  | m + 1, got, hn, h => by
    have h2 := Pa (n := n) m (got.erase (m : Int)) (hn.erase _) (fun x hx => by
      have h3 := h x (List.mem_of_mem_erase hx)
      have h4 : x ≠ (m : Int) := fun e => by
        subst e
        exact (List.Nodup.not_mem_erase hn) hx
      omega)
    have h5 := List.length_erase_le (a := (m : Int)) (l := got)
    by_cases hm : (m : Int) ∈ got
    · rw [List.length_erase_of_mem hm] at h2; omega
    · rw [List.erase_of_not_mem hm] at h2; omega
abbrev Rb (l : Es) (F : Nat → Nat) : Prop := ∀ a b, J l a b → F a + 1 ≤ F b
def wk (n : Nat) (l : Es) : Nat → Nat → Nat → Bool
  | 0, a, b => decide (a = b)
  | k + 1, a, b => (List.range n).any fun c => decide (J l a c) && wk n l k c b
theorem IY {n : Nat} {l : Es} (ok : Ok (n : Int) l) {k a b : Nat} : wk n l (k + 1) a b = true ↔ ∃ c, J l a c ∧ wk n l k c b = true := by
  show ((List.range n).any fun c => decide (J l a c) && wk n l k c b) = true ↔ _
  rw [List.any_eq_true]
  constructor
  · rintro ⟨c, _, h⟩
    rw [Bool.and_eq_true, decide_eq_true_eq] at h
    exact ⟨c, h⟩
  · rintro ⟨c, h1, h2⟩
    exact ⟨c, List.mem_range.2 (OM ok h1).2, by rw [Bool.and_eq_true, decide_eq_true_eq]; exact ⟨h1, h2⟩⟩
theorem KO {n : Nat} {l : Es} {a b : Nat} : wk n l 0 a b = true ↔ a = b := by
  simp only [wk, decide_eq_true_eq]
abbrev FX (n : Nat) (l : Es) (s a d : Nat) : Prop := wk n l d a s = true ∧ ∀ k, k < d → wk n l k a s = false
theorem Qp {n : Nat} {l : Es} {s a d e : Nat} (h1 : FX n l s a d) (h2 : FX n l s a e) : d = e := by
  rcases Nat.lt_trichotomy d e with h | h | h
  · have := h2.2 d h; rw [h1.1] at this; cases this
  · exact h
  · have := h1.2 e h; rw [h2.1] at this; cases this
theorem RY {n : Nat} {l : Es} {s a k : Nat} (h : wk n l k a s = true) : ∃ d, d ≤ k ∧ FX n l s a d := by
  induction k using Nat.strongRecOn with
  | _ k ih =>
    by_cases hx : ∃ j, j < k ∧ wk n l j a s = true
    · obtain ⟨j, h1, h2⟩ := hx
      obtain ⟨d, h3, h4⟩ := ih j h1 h2
      exact ⟨d, by omega, h4⟩
    · exact ⟨k, Nat.le_refl _, h, fun j hj => by
        cases hb : wk n l j a s
        · rfl
        · exact absurd ⟨j, hj, hb⟩ hx⟩
theorem MJ {n : Nat} {l : Es} (ok : Ok (n : Int) l) {s a d : Nat} (h : FX n l s a (d + 1)) : ∃ c, J l a c ∧ FX n l s c d := by
  obtain ⟨c, h1, h2⟩ := (IY ok).1 h.1
  refine ⟨c, h1, h2, fun k hk => ?_⟩
  cases hb : wk n l k c s
  · rfl
  · have := h.2 (k + 1) (by omega)
    rw [(IY ok).2 ⟨c, h1, hb⟩] at this; cases this
theorem RK {n : Nat} {l : Es} (ok : Ok (n : Int) l) {s a d : Nat} (hs : s < n) (h : FX n l s a d) : d < n := by
  have key : ∀ (d a : Nat), FX n l s a d → ∃ L : List Int, L.length = d + 1 ∧ L.Nodup ∧ ∀ x ∈ L, ∃ c e : Nat, x = (c : Int) ∧ c < n ∧ e ≤ d ∧ FX n l s c e := by
    intro d
    induction d with
    | zero =>
      intro a h
      have := KO.1 h.1
      exact ⟨[(a : Int)], rfl, by simp, fun x hx => ⟨a, 0, List.mem_singleton.1 hx, by omega, Nat.le_refl _, h⟩⟩
    | succ d ih =>
      intro a h
      obtain ⟨c, h1, h2⟩ := MJ ok h
      obtain ⟨L, h3, h4, h5⟩ := ih c h2
      refine ⟨(a : Int) :: L, by rw [List.length_cons, h3], ?_, fun x hx => ?_⟩
      · rw [List.nodup_cons]
        refine ⟨fun hm => ?_, h4⟩
        obtain ⟨c2, e, h6, _, h7, h8⟩ := h5 _ hm
        obtain rfl : a = c2 := by omega
        have := Qp h h8
        omega
      · rcases List.mem_cons.1 hx with rfl | h6
        · exact ⟨a, d + 1, rfl, (OM ok h1).1, Nat.le_refl _, h⟩
        · obtain ⟨c2, e, h7, h8, h9, h10⟩ := h5 x h6
          exact ⟨c2, e, h7, h8, by omega, h10⟩
  obtain ⟨L, h1, h2, h3⟩ := key d a h
  have := Pa (n := n) n L h2 (fun x hx => by obtain ⟨c, _, rfl, h4, _⟩ := h3 x hx; omega)
  omega
def wy (n : Nat) (l : Es) (a b : Nat) : Int := match (List.range' 1 n).findSome? (fun k => if wk n l k a b then some (k : Int) else none) with | some k => k | none => 0
def R9 (t : LT) (G : Nat → Int) : Prop := ∀ i : Nat, i < 16 → ix (LZ t) (i : Int) = some (G i)
theorem RV {t : LT} {G : Nat → Int} (h : R9 t G) (v : Nat) (x : Int) : R9 (Wj t (v : Int) x) (fun i => if i = v then x else G i) := by
  intro i hi
  rw [Pm _ _ _ _ hi]
  dsimp only
  by_cases e : v = i
  · rw [if_pos e, if_pos e.symm]
  · rw [if_neg e, if_neg (Ne.symm e), h i hi]
theorem Wv (t : LT) : ∃ G, R9 t G := by
  refine ⟨fun i => ((LZ t)[i]?).getD 0, fun i hi => ?_⟩
  have hl : (LZ t).length = 16 := rfl
  obtain ⟨x, h1, h2⟩ := P5 (l := LZ t) (i := (i : Int)) (by omega) (by omega)
  rw [Int.toNat_natCast] at h2
  rw [h1]
  dsimp only
  rw [h2]; rfl
theorem UO : ∃ t, Aq CB (0, 0, 0, 0, 0, 0, 0, 0, 0, 0, 0, 0, 0, 0, 0, 0, 0) = some t ∧ R9 t (fun _ => -1) := by
  obtain ⟨t, h1, h2⟩ := DM 16 (fun (t : LT) (k : Nat) => ((k : Int), t)) CB id (fun t k => ∀ i : Nat, i < k → ix (LZ t) (i : Int) = some (-1))
    (fun t k hk hI => by
      obtain ⟨G, hG⟩ := Wv t
      have hg : ix ([t.1, t.2.1, t.2.2.1, t.2.2.2.1, t.2.2.2.2.1, t.2.2.2.2.2.1, t.2.2.2.2.2.2.1, t.2.2.2.2.2.2.2.1, t.2.2.2.2.2.2.2.2.1, t.2.2.2.2.2.2.2.2.2.1, t.2.2.2.2.2.2.2.2.2.2.1, t.2.2.2.2.2.2.2.2.2.2.2.1, t.2.2.2.2.2.2.2.2.2.2.2.2.1, t.2.2.2.2.2.2.2.2.2.2.2.2.2.1, t.2.2.2.2.2.2.2.2.2.2.2.2.2.2.1, t.2.2.2.2.2.2.2.2.2.2.2.2.2.2.2] : List Int) (k : Int) = some (G k) := hG k (by omega)
      refine ⟨Wj t (k : Int) (-1), ?_, fun i hi => ?_⟩
      · show CB ((k : Int), t.1, t.2) = _
        unfold CB
        simp only
        rw [if_pos (by omega), hg, Option.bind_some, Aj (by omega)]; rfl
      · rw [Pm _ _ _ _ (by omega)]
        by_cases e : k = i
        · rw [if_pos e]
        · rw [if_neg e]; exact hI i (by omega))
    (fun t _ => by
      show CB ((16 : Nat), t.1, t.2) = _
      unfold CB
      simp only
      rw [if_neg (by omega)]; rfl) (0, 0, 0, 0, 0, 0, 0, 0, 0, 0, 0, 0, 0, 0, 0, 0) (fun _ h => by omega)
  exact ⟨t, h2, fun i hi => h1 i hi⟩
theorem U2 {n : Nat} {l : Es} (ok : Ok (n : Int) l) {p : LT} (hp : Qg (fun i k => J l k i) p) {fr seen : Nat} (hfr : fr < 65536) (hse : seen < 65536) {d : Nat} (hd : d ≤ 100) {t : LT} {G : Nat → Int} (hG : R9 t G) :
    ∃ (fu : Nat) (t' : LT), Aq (BT (n : Int) p (fr : Int) (seen : Int) (d : Int)) (0, 0, t) = some ((fu : Int), t') ∧ fu < 65536 ∧ (∀ a, fu.testBit a = true ↔ ∃ c, c < n ∧ fr.testBit c = true ∧ seen.testBit c = false ∧ J l a c) ∧ R9 t' (fun i => if i < n ∧ fr.testBit i = true ∧ seen.testBit i = false then ((d + 1 : Nat) : Int) else G i) := by
  have hn := ok.2.1
  obtain ⟨s, h1, h2⟩ := DM n (fun (s : Nat × LT) (k : Nat) => ((s.1 : Int), (k : Int), s.2)) (BT (n : Int) p (fr : Int) (seen : Int) (d : Int)) (fun s => ((s.1 : Int), s.2))
    (fun s k => s.1 < 65536 ∧ (∀ a, s.1.testBit a = true ↔ ∃ c, c < k ∧ fr.testBit c = true ∧ seen.testBit c = false ∧ J l a c) ∧ R9 s.2 (fun i => if i < k ∧ fr.testBit i = true ∧ seen.testBit i = false then ((d + 1 : Nat) : Int) else G i))
    (fun s k hk hI => by
      obtain ⟨fu, t⟩ := s
      obtain ⟨a1, a2, a3⟩ := hI
      simp only at a1 a2 a3
      obtain ⟨m, m1, m2, m3⟩ := hp k (by omega)
      have m2' : ix ([p.1, p.2.1, p.2.2.1, p.2.2.2.1, p.2.2.2.2.1, p.2.2.2.2.2.1, p.2.2.2.2.2.2.1, p.2.2.2.2.2.2.2.1, p.2.2.2.2.2.2.2.2.1, p.2.2.2.2.2.2.2.2.2.1, p.2.2.2.2.2.2.2.2.2.2.1, p.2.2.2.2.2.2.2.2.2.2.2.1, p.2.2.2.2.2.2.2.2.2.2.2.2.1, p.2.2.2.2.2.2.2.2.2.2.2.2.2.1, p.2.2.2.2.2.2.2.2.2.2.2.2.2.2.1, p.2.2.2.2.2.2.2.2.2.2.2.2.2.2.2] : List Int) (k : Int) = some (m : Int) := m2
      obtain ⟨g, hg0⟩ : ∃ g, ix (LZ t) (k : Int) = some g := ⟨_, a3 k (by omega)⟩
      have hg : ix ([t.1, t.2.1, t.2.2.1, t.2.2.2.1, t.2.2.2.2.1, t.2.2.2.2.2.1, t.2.2.2.2.2.2.1, t.2.2.2.2.2.2.2.1, t.2.2.2.2.2.2.2.2.1, t.2.2.2.2.2.2.2.2.2.1, t.2.2.2.2.2.2.2.2.2.2.1, t.2.2.2.2.2.2.2.2.2.2.2.1, t.2.2.2.2.2.2.2.2.2.2.2.2.1, t.2.2.2.2.2.2.2.2.2.2.2.2.2.1, t.2.2.2.2.2.2.2.2.2.2.2.2.2.2.1, t.2.2.2.2.2.2.2.2.2.2.2.2.2.2.2] : List Int) (k : Int) = some g := hg0
      by_cases hc : fr.testBit k = true ∧ seen.testBit k = false
      · have ho := RF fu m a1 m1
        refine ⟨(fu ||| m, Wj t (k : Int) ((d + 1 : Nat) : Int)), ?_, ho.2, fun a => ?_, ?_⟩
        · show BT (n : Int) p (fr : Int) (seen : Int) (d : Int) ((fu : Int), (k : Int), t.1, t.2) = _
          unfold BT
          simp only
          rw [if_pos (by omega), LG fr k hfr (by omega), hc.1, Option.bind_some, if_pos rfl, LG seen k hse (by omega), hc.2]
          simp only [Option.bind_some, Bool.not_false, if_pos]
          rw [hg, m2', Option.bind_some, Option.bind_some, ho.1, Aj (by omega), Aj (by omega)]; rfl
        · rw [Nat.testBit_or, Bool.or_eq_true, a2 a]
          constructor
          · rintro (⟨c, h3, h4⟩ | h3)
            · exact ⟨c, by omega, h4⟩
            · exact ⟨k, by omega, hc.1, hc.2, (m3 a (Tc m1 h3)).1 h3⟩
          · rintro ⟨c, h3, h4, h5, h6⟩
            by_cases e : c = k
            · subst e; exact .inr ((m3 a (by have := OM ok h6; omega)).2 h6)
            · exact .inl ⟨c, by omega, h4, h5, h6⟩
        · intro i hi
          rw [RV a3 k _ i hi]
          dsimp only
          by_cases e : i = k
          · subst e
            rw [if_pos rfl, if_pos ⟨by omega, hc⟩]
          · rw [if_neg e]
            by_cases h3 : i < k ∧ fr.testBit i = true ∧ seen.testBit i = false
            · rw [if_pos h3, if_pos ⟨by omega, h3.2⟩]
            · rw [if_neg h3, if_neg (fun h => h3 ⟨by omega, h.2⟩)]
      · refine ⟨(fu, t), ?_, a1, fun a => ?_, ?_⟩
        · show BT (n : Int) p (fr : Int) (seen : Int) (d : Int) ((fu : Int), (k : Int), t.1, t.2) = _
          unfold BT
          simp only
          rw [if_pos (by omega), LG fr k hfr (by omega), Option.bind_some, LG seen k hse (by omega), Aj (x := (k : Int) + 1) (by omega)]
          cases h3 : fr.testBit k
          · rfl
          · cases h4 : seen.testBit k
            · exact absurd ⟨h3, h4⟩ hc
            · rfl
        · rw [a2 a]
          constructor
          · rintro ⟨c, h3, h4⟩; exact ⟨c, by omega, h4⟩
          · rintro ⟨c, h3, h4, h5, h6⟩
            by_cases e : c = k
            · subst e; exact absurd ⟨h4, h5⟩ hc
            · exact ⟨c, by omega, h4, h5, h6⟩
        · intro i hi
          rw [a3 i hi]
          dsimp only
          by_cases e : i = k
          · subst e
            rw [if_neg (fun h => by omega), if_neg (fun h => hc h.2)]
          · by_cases h3 : i < k ∧ fr.testBit i = true ∧ seen.testBit i = false
            · rw [if_pos h3, if_pos ⟨by omega, h3.2⟩]
            · rw [if_neg h3, if_neg (fun h => h3 ⟨by omega, h.2⟩)])
    (fun s _ => by
      obtain ⟨fu, t⟩ := s
      show BT (n : Int) p (fr : Int) (seen : Int) (d : Int) ((fu : Int), (n : Int), t.1, t.2) = _
      unfold BT
      simp only
      rw [if_neg (by omega)]) (0, t) ⟨(by decide : (0 : Nat) < 65536), fun a => by simp, fun i hi => by
      rw [hG i hi]
      dsimp only
      rw [if_neg (fun h => by omega)]⟩
  exact ⟨s.1, s.2, h2, h1.1, h1.2.1, h1.2.2⟩
theorem VC {n : Nat} {l : Es} (ok : Ok (n : Int) l) {p : LT} (hp : Qg (fun i k => J l k i) p) {s : Nat} (hs : s < n) {t : LT} {G : Nat → Int} (hG : R9 t G) (hG0 : ∀ i, i < 16 → G i = if i = s then 0 else -1) {fr : Nat} (hf : fr < 65536) (hfb : ∀ a, fr.testBit a = true ↔ J l a s) :
    ∃ (t' : LT) (G' : Nat → Int), Aq (Cq (n : Int) p) ((fr : Int), ((0 ||| 2 ^ s : Nat) : Int), 0, t) = some t' ∧ R9 t' G' ∧ ∀ a, a < 16 → (∀ d, FX n l s a d → G' a = (d : Int)) ∧ ((∀ d, ¬ FX n l s a d) → G' a = -1) := by
  have hn := ok.2.1
  have hd0 : ∀ c, FX n l s c 0 ↔ c = s := fun c => ⟨fun h => KO.1 h.1, fun h => ⟨KO.2 h, fun k hk => by omega⟩⟩
  obtain ⟨r, h1, h2⟩ := DM n (fun (x : Nat × Nat × LT) (k : Nat) => ((x.1 : Int), (x.2.1 : Int), (k : Int), x.2.2)) (Cq (n : Int) p) (fun x => x.2.2)
    (fun x k => x.1 < 65536 ∧ x.2.1 < 65536 ∧ (∀ a, x.2.1.testBit a = true ↔ ∃ j, j ≤ k ∧ wk n l j a s = true) ∧ (∀ a, x.1.testBit a = true ↔ ∃ c, J l a c ∧ FX n l s c k) ∧ ∃ G, R9 x.2.2 G ∧ ∀ a, a < 16 → (∀ d, d ≤ k → FX n l s a d → G a = (d : Int)) ∧ ((∀ d, d ≤ k → ¬ FX n l s a d) → G a = -1))
    (fun x k hk hI => by
      obtain ⟨fr, seen, t⟩ := x
      obtain ⟨a1, a2, a3, a4, G, a5, a6⟩ := hI
      dsimp only at a1 a2 a3 a4 a5
      obtain ⟨fu, t', b1, b2, b3, b4⟩ := U2 ok hp a1 a2 (d := k) (by omega) a5
      have ho := RF seen fr a2 a1
      have hnew : ∀ c, (c < n ∧ fr.testBit c = true ∧ seen.testBit c = false) ↔ FX n l s c (k + 1) := by
        intro c
        constructor
        · rintro ⟨_, h3, h4⟩
          obtain ⟨e, h5, h6⟩ := (a4 c).1 h3
          refine ⟨(IY ok).2 ⟨e, h5, h6.1⟩, fun j hj => ?_⟩
          cases hb : wk n l j c s
          · rfl
          · rw [(a3 c).2 ⟨j, by omega, hb⟩] at h4; cases h4
        · intro h
          obtain ⟨e, h5, h6⟩ := MJ ok h
          refine ⟨(OM ok h5).1, (a4 c).2 ⟨e, h5, h6⟩, ?_⟩
          cases hb : seen.testBit c
          · rfl
          · obtain ⟨j, h7, h8⟩ := (a3 c).1 hb
            have := h.2 j (by omega)
            rw [h8] at this; cases this
      refine ⟨(fu, seen ||| fr, t'), ?_, b2, ho.2, fun a => ?_, fun a => ?_, _, b4, fun a ha => ⟨fun d hd hD => ?_, fun hD => ?_⟩⟩
      · show Cq (n : Int) p ((fr : Int), (seen : Int), (k : Int), t.1, t.2) = _
        unfold Cq
        dsimp only
        rw [if_pos (by omega)]
        show ((Aq (BT (n : Int) p (fr : Int) (seen : Int) (k : Int)) (0, 0, t)).bind fun x => some x).bind (fun x => (some (Sum.inl (x.1, Ta .u32 (seen : Int) (fr : Int), An ((k : Int) + 1), x.2)) : Option ((Int × Int × Int × LT) ⊕ LT))) = _
        rw [b1, Option.bind_some, Option.bind_some, ho.1, Aj (by omega)]; rfl
      · try dsimp only
        rw [Nat.testBit_or, Bool.or_eq_true, a3 a, a4 a]
        constructor
        · rintro (⟨j, h3, h4⟩ | ⟨c, h3, h4⟩)
          · exact ⟨j, by omega, h4⟩
          · exact ⟨k + 1, Nat.le_refl _, (IY ok).2 ⟨c, h3, h4.1⟩⟩
        · rintro ⟨j, h3, h4⟩
          by_cases e : j = k + 1
          · subst e
            obtain ⟨c, h5, h6⟩ := (IY ok).1 h4
            obtain ⟨d, h7, h8⟩ := RY h6
            by_cases e2 : d = k
            · subst e2; exact .inr ⟨c, h5, h8⟩
            · exact .inl ⟨d + 1, by omega, (IY ok).2 ⟨c, h5, h8.1⟩⟩
          · exact .inl ⟨j, by omega, h4⟩
      · try dsimp only
        rw [b3 a]
        constructor
        · rintro ⟨c, h3, h4, h5, h6⟩
          exact ⟨c, h6, (hnew c).1 ⟨h3, h4, h5⟩⟩
        · rintro ⟨c, h3, h4⟩
          have := (hnew c).2 h4
          exact ⟨c, this.1, this.2.1, this.2.2, h3⟩
      · try dsimp only
        by_cases e : d = k + 1
        · subst e
          rw [if_pos ((hnew a).2 hD)]
        · rw [if_neg (fun h => e (Qp hD ((hnew a).1 h)))]
          exact (a6 a ha).1 d (by omega) hD
      · try dsimp only
        rw [if_neg (fun h => hD (k + 1) (Nat.le_refl _) ((hnew a).1 h))]
        exact (a6 a ha).2 fun d hd => hD d (by omega))
    (fun x _ => by
      obtain ⟨fr, seen, t⟩ := x
      show Cq (n : Int) p ((fr : Int), (seen : Int), (n : Int), t.1, t.2) = _
      unfold Cq
      dsimp only
      rw [if_neg (by omega)]) (fr, 0 ||| 2 ^ s, t) ⟨hf, (PC 0 s (by decide) (by omega)).2, fun a => by
        rw [Q0, Nat.zero_testBit, Bool.false_or, decide_eq_true_eq]
        constructor
        · rintro rfl; exact ⟨0, Nat.le_refl _, KO.2 rfl⟩
        · rintro ⟨j, h3, h4⟩
          obtain rfl : j = 0 := by omega
          exact (KO.1 h4).symm, fun a => by
        rw [hfb]
        constructor
        · intro h; exact ⟨s, h, (hd0 s).2 rfl⟩
        · rintro ⟨c, h3, h4⟩
          rw [(hd0 c).1 h4] at h3; exact h3, G, hG, fun a ha => ⟨fun d hd hD => by
        obtain rfl : d = 0 := by omega
        rw [hG0 a ha, if_pos ((hd0 a).1 hD)]; rfl, fun h => by rw [hG0 a ha, if_neg (fun e => h 0 (Nat.le_refl _) ((hd0 a).2 e))]⟩⟩
  obtain ⟨_, _, _, _, G', g1, g2⟩ := h1
  refine ⟨r.2.2, G', h2, g1, fun a ha => ⟨fun d hD => (g2 a ha).1 d (by have := RK ok hs hD; omega) hD, fun h => (g2 a ha).2 fun d _ => h d⟩⟩
theorem PB {n : Nat} {l : Es} (ok : Ok (n : Int) l) {p : LT} (hp : Qg (fun i k => J l k i) p) {s : Nat} (hs : s < n) :
    ∃ (t : LT) (G : Nat → Int), Em (n : Int) p (s : Int) = some t ∧ R9 t G ∧ ∀ a, a < 16 → (∀ d, FX n l s a d → G a = (d : Int)) ∧ ((∀ d, ¬ FX n l s a d) → G a = -1) := by
  have hn := ok.2.1
  obtain ⟨t0, h1, h2⟩ := UO
  obtain ⟨m, m1, m2, m3⟩ := hp s (by omega)
  have hw := PC 0 s (by decide) (by omega)
  have h3 := RV h2 s 0
  obtain ⟨t, G, g1, g2, g3⟩ := VC ok hp hs h3 (fun i _ => rfl) m1 (fun a => ⟨fun h => (m3 a (Tc m1 h)).1 h, fun h => (m3 a (by have := OM ok h; omega)).2 h⟩)
  refine ⟨t, G, ?_, g2, g3⟩
  unfold Em
  rw [h1, Option.bind_some]
  have e1 : ix (LZ t0) (s : Int) = some (-1) := h2 s (by omega)
  have e2 : C7 0 (s : Int) = some ((0 ||| 2 ^ s : Nat) : Int) := hw.1
  show (ix (LZ t0) (s : Int)).bind (fun _ => (ix (LZ p) (s : Int)).bind fun x36 => (C7 0 (s : Int)).bind fun x37 => (Aq (Cq (n : Int) p) (x36, x37, 0, Wj t0 (s : Int) 0)).bind fun x => some x) = _
  rw [e1, Option.bind_some, m2, Option.bind_some, e2, Option.bind_some, g1]; rfl
def nxF (n : Nat) (l : Es) (s a d : Nat) : Option Nat := (List.range n).find? (fun i => decide (J l a i ∧ FX n l s i d))
def UM (n : Nat) (l : Es) (s a d : Nat) : Nat := (nxF n l s a d).getD 0
theorem Tx {n : Nat} {q : Nat → Bool} {i : Nat} (hi : i < n) (h1 : q i = true) (h2 : ∀ k, k < i → q k = false) : (List.range n).find? q = some i := by
  have key : ∀ (d a : Nat), a + d = n → a ≤ i → (List.range' a d).find? q = some i := by
    intro d
    induction d with
    | zero => intro a h3 h4; omega
    | succ d ih =>
      intro a h3 h4
      rw [List.range'_succ, List.find?_cons]
      by_cases e : a = i
      · subst e; rw [h1]
      · rw [h2 a (by omega)]
        exact ih (a + 1) (by omega) (by omega)
  rw [List.range_eq_range']
  exact key n 0 (by omega) (by omega)
theorem Tv {n : Nat} {l : Es} {s a d i : Nat} (hi : i < n) (h1 : J l a i ∧ FX n l s i d) (h2 : ∀ k, k < i → ¬ (J l a k ∧ FX n l s k d)) : UM n l s a d = i := by
  unfold UM nxF
  rw [Tx hi (decide_eq_true h1) (fun k hk => decide_eq_false (h2 k hk))]; rfl
theorem Qk {n : Nat} {l : Es} (ok : Ok (n : Int) l) {s a d : Nat} (h : ∃ i, J l a i ∧ FX n l s i d) : J l a (UM n l s a d) ∧ FX n l s (UM n l s a d) d ∧ ∀ k, k < UM n l s a d → ¬ (J l a k ∧ FX n l s k d) := by
  have key : ∀ m, (∃ i, i ≤ m ∧ J l a i ∧ FX n l s i d) → ∃ i, (J l a i ∧ FX n l s i d) ∧ ∀ k, k < i → ¬ (J l a k ∧ FX n l s k d) := by
    intro m
    induction m using Nat.strongRecOn with
    | _ m ih =>
      rintro ⟨i, h1, h2⟩
      by_cases hx : ∃ k, k < i ∧ J l a k ∧ FX n l s k d
      · obtain ⟨k, h3, h4⟩ := hx
        exact ih k (by omega) ⟨k, Nat.le_refl _, h4⟩
      · exact ⟨i, h2, fun k hk h => hx ⟨k, hk, h⟩⟩
  obtain ⟨i0, hi0⟩ := h
  obtain ⟨i, h1, h2⟩ := key i0 ⟨i0, Nat.le_refl _, hi0⟩
  rw [Tv (OM ok h1.1).2 h1 h2]
  exact ⟨h1.1, h1.2, h2⟩
def TR (n : Nat) (l : Es) (s : Nat) : Nat → Nat → List Int
  | 0, _ => []
  | d + 1, a => (a : Int) :: TR n l s d (UM n l s a d)
theorem RW {n : Nat} {l : Es} (ok : Ok (n : Int) l) {a m : Nat} (hm : m < 65536) (hmb : ∀ k, k < 16 → (m.testBit k = true ↔ J l a k)) {t : LT} {G : Nat → Int} (hG : R9 t G) :
    ∃ r, D8 (n : Int) (m : Int) t = some r ∧ ((r = -1 ∧ ∀ i, i < n → J l a i → G i < 0) ∨ ∃ i : Nat, i < n ∧ r = (i : Int) ∧ J l a i ∧ 0 ≤ G i ∧ (∀ k, k < n → J l a k → 0 ≤ G k → G i ≤ G k) ∧ ∀ k, k < i → J l a k → 0 ≤ G k → G i < G k) := by
  have hn := ok.2.1
  obtain ⟨r, h1, h2⟩ := DM n (fun (b : Int) (k : Nat) => (b, (k : Int))) (Cy (n : Int) (m : Int) t) id
    (fun b j => (b = -1 ∧ ∀ i, i < j → J l a i → G i < 0) ∨ ∃ i : Nat, i < j ∧ b = (i : Int) ∧ J l a i ∧ 0 ≤ G i ∧ (∀ k, k < j → J l a k → 0 ≤ G k → G i ≤ G k) ∧ ∀ k, k < i → J l a k → 0 ≤ G k → G i < G k)
    (fun b j hj hI => by
      have hgj : ix ([t.1, t.2.1, t.2.2.1, t.2.2.2.1, t.2.2.2.2.1, t.2.2.2.2.2.1, t.2.2.2.2.2.2.1, t.2.2.2.2.2.2.2.1, t.2.2.2.2.2.2.2.2.1, t.2.2.2.2.2.2.2.2.2.1, t.2.2.2.2.2.2.2.2.2.2.1, t.2.2.2.2.2.2.2.2.2.2.2.1, t.2.2.2.2.2.2.2.2.2.2.2.2.1, t.2.2.2.2.2.2.2.2.2.2.2.2.2.1, t.2.2.2.2.2.2.2.2.2.2.2.2.2.2.1, t.2.2.2.2.2.2.2.2.2.2.2.2.2.2.2] : List Int) (j : Int) = some (G j) := hG j (by omega)
      by_cases hJ : J l a j ∧ 0 ≤ G j
      · have hb : m.testBit j = true := (hmb j (by omega)).2 hJ.1
        rcases hI with ⟨rfl, h3⟩ | ⟨i, h3, rfl, h4, h5, h6, h7⟩
        · refine ⟨(j : Int), ?_, .inr ⟨j, by omega, rfl, hJ.1, hJ.2, fun k hk hjk hgk => ?_, fun k hk hjk hgk => ?_⟩⟩
          · rw [Cy, if_pos (by omega), LG m j hm (by omega), hb, Option.bind_some, if_pos rfl, hgj, Option.bind_some, if_pos hJ.2, if_pos (by omega), Aj (by omega)]; rfl
          · by_cases e : k = j
            · subst e; exact Int.le_refl _
            · have := h3 k (by omega) hjk; omega
          · have := h3 k (by omega) hjk; omega
        · have hgi : ix ([t.1, t.2.1, t.2.2.1, t.2.2.2.1, t.2.2.2.2.1, t.2.2.2.2.2.1, t.2.2.2.2.2.2.1, t.2.2.2.2.2.2.2.1, t.2.2.2.2.2.2.2.2.1, t.2.2.2.2.2.2.2.2.2.1, t.2.2.2.2.2.2.2.2.2.2.1, t.2.2.2.2.2.2.2.2.2.2.2.1, t.2.2.2.2.2.2.2.2.2.2.2.2.1, t.2.2.2.2.2.2.2.2.2.2.2.2.2.1, t.2.2.2.2.2.2.2.2.2.2.2.2.2.2.1, t.2.2.2.2.2.2.2.2.2.2.2.2.2.2.2] : List Int) (i : Int) = some (G i) := hG i (by omega)
          have hst : Cy (n : Int) (m : Int) t ((i : Int), (j : Int)) = some (.inl (if G j < G i then (j : Int) else (i : Int), ((j + 1 : Nat) : Int))) := by
            rw [Cy, if_pos (by omega), LG m j hm (by omega), hb, Option.bind_some, if_pos rfl, hgj, Option.bind_some, if_pos hJ.2, if_neg (by omega), hgi, Option.bind_some, Option.bind_some, Option.bind_some, Aj (by omega)]
            by_cases h : G j < G i
            · rw [decide_eq_true h, if_pos h]; rfl
            · rw [decide_eq_false h, if_neg h]; rfl
          by_cases h : G j < G i
          · rw [if_pos h] at hst
            refine ⟨_, hst, .inr ⟨j, by omega, rfl, hJ.1, hJ.2, fun k hk hjk hgk => ?_, fun k hk hjk hgk => ?_⟩⟩
            · by_cases e : k = j
              · subst e; exact Int.le_refl _
              · have := h6 k (by omega) hjk hgk; omega
            · have := h6 k (by omega) hjk hgk; omega
          · rw [if_neg h] at hst
            refine ⟨_, hst, .inr ⟨i, by omega, rfl, h4, h5, fun k hk hjk hgk => ?_, h7⟩⟩
            by_cases e : k = j
            · subst e; omega
            · exact h6 k (by omega) hjk hgk
      · have hst : Cy (n : Int) (m : Int) t (b, (j : Int)) = some (.inl (b, ((j + 1 : Nat) : Int))) := by
          rw [Cy, if_pos (by omega), LG m j hm (by omega), Aj (by omega), Option.bind_some]
          by_cases hj2 : J l a j
          · rw [(hmb j (by omega)).2 hj2, if_pos rfl, hgj, Option.bind_some, if_neg (fun h => hJ ⟨hj2, h⟩)]; rfl
          · have hb0 : m.testBit j = false := by
              cases hx : m.testBit j
              · rfl
              · exact absurd ((hmb j (by omega)).1 hx) hj2
            rw [hb0]; rfl
        refine ⟨b, hst, ?_⟩
        rcases hI with ⟨h0, h3⟩ | ⟨i, h3, h0, h4, h5, h6, h7⟩
        · refine .inl ⟨h0, fun k hk hjk => ?_⟩
          by_cases e : k = j
          · subst e
            exact Int.not_le.1 fun h => hJ ⟨hjk, h⟩
          · exact h3 k (by omega) hjk
        · refine .inr ⟨i, by omega, h0, h4, h5, fun k hk hjk hgk => ?_, h7⟩
          by_cases e : k = j
          · subst e; exact absurd ⟨hjk, hgk⟩ hJ
          · exact h6 k (by omega) hjk hgk)
    (fun b _ => by rw [Cy, if_neg (by omega)]; rfl) (-1) (.inl ⟨rfl, fun _ h => by omega⟩)
  refine ⟨r, ?_, h1⟩
  unfold D8
  have e : Aq (Cy (n : Int) (m : Int) t) (-1, 0) = some r := h2
  rw [e]; rfl
abbrev XT (n : Nat) (l : Es) (s : Nat) (G : Nat → Int) : Prop := ∀ a, a < 16 → (∀ d, FX n l s a d → G a = (d : Int)) ∧ ((∀ d, ¬ FX n l s a d) → G a = -1)
theorem R2 {n : Nat} {l : Es} (ok : Ok (n : Int) l) {s a m : Nat} (hm : m < 65536) (hmb : ∀ k, k < 16 → (m.testBit k = true ↔ J l a k)) {t : LT} {G : Nat → Int} (hG : R9 t G) (hT : XT n l s G) {d : Nat} (h1 : ∃ i, J l a i ∧ FX n l s i d) (h2 : ∀ i e, J l a i → FX n l s i e → d ≤ e) : D8 (n : Int) (m : Int) t = some (UM n l s a d : Int) := by
  have hn := ok.2.1
  obtain ⟨r, h3, h4⟩ := RW ok hm hmb hG
  obtain ⟨i0, hi1, hi2⟩ := h1
  have hlt := (OM ok hi1).2
  have hg0 := (hT i0 (by omega)).1 d hi2
  rw [h3]
  rcases h4 with ⟨_, h5⟩ | ⟨i, h5, rfl, h6, h7, h8, h9⟩
  · have := h5 i0 hlt hi1; omega
  · have hle := h8 i0 hlt hi1 (by omega)
    have hdi : FX n l s i d := by
      by_cases hx : ∃ e, FX n l s i e
      · obtain ⟨e, he⟩ := hx
        have hge := (hT i (by omega)).1 e he
        have := h2 i e h6 he
        obtain rfl : e = d := by omega
        exact he
      · have := (hT i (by omega)).2 fun e he => hx ⟨e, he⟩
        omega
    have hgi := (hT i (by omega)).1 d hdi
    rw [Tv h5 ⟨h6, hdi⟩ fun k hk ⟨q1, q2⟩ => by
      have hk2 := (OM ok q1).2
      have := (hT k (by omega)).1 d q2
      have := h9 k hk q1 (by omega)
      omega]
theorem UR {n : Nat} {l : Es} (ok : Ok (n : Int) l) {s : Nat} {x2 : LT} (hx : Qg (fun i k => J l i k) x2) {t : LT} {G : Nat → Int} (hG : R9 t G) (hT : XT n l s G) : ∀ (d a : Nat) (o : List Int), FX n l s a d → a < n → o.length + d ≤ 1000 → Aq (Ff (n : Int) x2 (s : Int) t) (o, (a : Int)) = some (o ++ TR n l s d a) := by
  have hn := ok.2.1
  intro d
  induction d with
  | zero =>
    intro a o hD _ _
    have : a = s := KO.1 hD.1
    subst this
    exact Av (by rw [Ff, if_neg (by simp)]; simp [TR])
  | succ d ih =>
    intro a o hD ha ho
    have hne : a ≠ s := fun e => by
      have := hD.2 0 (by omega)
      rw [KO.2 e] at this; cases this
    obtain ⟨m, m1, m2, m3⟩ := hx a (by omega)
    have m2' : ix ([x2.1, x2.2.1, x2.2.2.1, x2.2.2.2.1, x2.2.2.2.2.1, x2.2.2.2.2.2.1, x2.2.2.2.2.2.2.1, x2.2.2.2.2.2.2.2.1, x2.2.2.2.2.2.2.2.2.1, x2.2.2.2.2.2.2.2.2.2.1, x2.2.2.2.2.2.2.2.2.2.2.1, x2.2.2.2.2.2.2.2.2.2.2.2.1, x2.2.2.2.2.2.2.2.2.2.2.2.2.1, x2.2.2.2.2.2.2.2.2.2.2.2.2.2.1, x2.2.2.2.2.2.2.2.2.2.2.2.2.2.2.1, x2.2.2.2.2.2.2.2.2.2.2.2.2.2.2.2] : List Int) (a : Int) = some (m : Int) := m2
    have hnx := MJ ok hD
    have hns := Qk ok hnx
    have hnr := R2 ok m1 m3 hG hT hnx (fun i e h1 h2 => by
      refine Nat.le_of_not_lt fun hlt => ?_
      have := hD.2 (e + 1) (by omega)
      rw [(IY ok).2 ⟨i, h1, h2.1⟩] at this; cases this)
    refine (A7 (s' := (o ++ [(a : Int)], (UM n l s a d : Int))) ?_).trans ?_
    · rw [Ff, if_pos (by omega), EC (by simp; omega), Option.bind_some, m2', Option.bind_some, hnr]; rfl
    · rw [ih _ (o ++ [(a : Int)]) hns.2.1 (OM ok hns.1).2 (by simp; omega)]
      simp [TR]
theorem Qh (n : Nat) (l : Es) (a b : Nat) : (wy n l a b = 0 ∧ ∀ k, 1 ≤ k → k ≤ n → wk n l k a b = false) ∨ ∃ k : Nat, 1 ≤ k ∧ k ≤ n ∧ wy n l a b = (k : Int) ∧ wk n l k a b = true ∧ ∀ j, 1 ≤ j → j < k → wk n l j a b = false := by
  have key : ∀ (d c : Nat), (((List.range' c d).findSome? (fun k => if wk n l k a b then some (k : Int) else none) = none) ∧ ∀ k, c ≤ k → k < c + d → wk n l k a b = false) ∨ ∃ k : Nat, c ≤ k ∧ k < c + d ∧ (List.range' c d).findSome? (fun k => if wk n l k a b then some (k : Int) else none) = some (k : Int) ∧ wk n l k a b = true ∧ ∀ j, c ≤ j → j < k → wk n l j a b = false := by
    intro d
    induction d with
    | zero => exact fun c => .inl ⟨rfl, fun k h1 h2 => by omega⟩
    | succ d ih =>
      intro c
      rw [List.range'_succ, List.findSome?_cons]
      cases hb : wk n l c a b
      · rw [if_neg Bool.false_ne_true]
        rcases ih (c + 1) with ⟨h1, h2⟩ | ⟨k, h1, h2, h3, h4, h5⟩
        · refine .inl ⟨h1, fun k h3 h4 => ?_⟩
          by_cases e : k = c
          · rw [e]; exact hb
          · exact h2 k (by omega) (by omega)
        · refine .inr ⟨k, by omega, by omega, h3, h4, fun j h6 h7 => ?_⟩
          by_cases e : j = c
          · rw [e]; exact hb
          · exact h5 j (by omega) h7
      · rw [if_pos rfl]
        exact .inr ⟨c, Nat.le_refl _, by omega, rfl, hb, fun j h1 h2 => by omega⟩
  unfold wy
  rcases key n 1 with ⟨h1, h2⟩ | ⟨k, h1, h2, h3, h4, h5⟩
  · rw [h1]; exact .inl ⟨rfl, fun k h3 h4 => h2 k h3 (by omega)⟩
  · rw [h3]; exact .inr ⟨k, h1, by omega, rfl, h4, h5⟩
theorem Tw {n : Nat} {l : Es} (ok : Ok (n : Int) l) {s c : Nat} (hc : 1 ≤ c) (h : wk n l c s s = true) (hm : ∀ j, 1 ≤ j → j < c → wk n l j s s = false) : (∃ i, J l s i ∧ FX n l s i (c - 1)) ∧ ∀ i e, J l s i → FX n l s i e → c - 1 ≤ e := by
  have h2 : ∀ i e, J l s i → FX n l s i e → c - 1 ≤ e := by
    intro i e h3 h4
    refine Nat.le_of_not_lt fun hlt => ?_
    have := hm (e + 1) (by omega) (by omega)
    rw [(IY ok).2 ⟨i, h3, h4.1⟩] at this; cases this
  refine ⟨?_, h2⟩
  obtain ⟨c', rfl⟩ : ∃ c', c = c' + 1 := ⟨c - 1, by omega⟩
  obtain ⟨i, h3, h4⟩ := (IY ok).1 h
  obtain ⟨e, h5, h6⟩ := RY h4
  have := h2 i e h3 h6
  obtain rfl : e = c' := by omega
  exact ⟨i, h3, h6⟩
def QK (n : Nat) (l : Es) (s : Nat) : Option (List Int) := if wy n l s s = 0 then none else some ((s : Int) :: TR n l s ((wy n l s s).toNat - 1) (UM n l s s ((wy n l s s).toNat - 1)))
def RN (n : Nat) (l : Es) : List Int := match (List.range n).findSome? (QK n l) with | some o => o | none => []
theorem Qz {n : Nat} {l : Es} (ok : Ok (n : Int) l) (hl : l.length ≤ 1000000000) : Er (n : Int) l = some (RN n l) := by
  have hn := ok.2.1
  obtain ⟨x2, e1, hx2⟩ := Vs l n ok hl
  obtain ⟨p, e2, hp⟩ := UZ l n ok hl
  unfold Er
  rw [Qs _ _ hl, decide_eq_true ok, Option.bind_some, if_neg (by decide), e1, Option.bind_some, PI n _ (QK n l) (fun s hs => by
    unfold F4
    obtain ⟨t, G, f1, hG, hT⟩ := PB ok hp hs
    obtain ⟨m, m1, m2, m3⟩ := hx2 s (by omega)
    have m2' : ix ([x2.1, x2.2.1, x2.2.2.1, x2.2.2.2.1, x2.2.2.2.2.1, x2.2.2.2.2.2.1, x2.2.2.2.2.2.2.1, x2.2.2.2.2.2.2.2.1, x2.2.2.2.2.2.2.2.2.1, x2.2.2.2.2.2.2.2.2.2.1, x2.2.2.2.2.2.2.2.2.2.2.1, x2.2.2.2.2.2.2.2.2.2.2.2.1, x2.2.2.2.2.2.2.2.2.2.2.2.2.1, x2.2.2.2.2.2.2.2.2.2.2.2.2.2.1, x2.2.2.2.2.2.2.2.2.2.2.2.2.2.2.1, x2.2.2.2.2.2.2.2.2.2.2.2.2.2.2.2] : List Int) (s : Int) = some (m : Int) := m2
    rw [if_pos (by omega), e2, Option.bind_some, f1, Option.bind_some, m2', Option.bind_some, Aj (by omega)]
    unfold QK
    rcases Qh n l s s with ⟨h1, h2⟩ | ⟨k, h1, h2, h3, h4, h5⟩
    · rw [if_pos h1]
      obtain ⟨r, r1, r2⟩ := RW ok m1 m3 hG
      have hr : r < 0 := by
        rcases r2 with ⟨h, _⟩ | ⟨i, h6, rfl, h7, h8, _⟩
        · omega
        · exfalso
          by_cases hx : ∃ e, FX n l s i e
          · obtain ⟨e, he⟩ := hx
            have := h2 (e + 1) (by omega) (by have := RK ok hs he; omega)
            rw [(IY ok).2 ⟨i, h7, he.1⟩] at this; cases this
          · have := (hT i (by omega)).2 fun e he => hx ⟨e, he⟩
            omega
      rw [r1, Option.bind_some, if_pos hr]; rfl
    · rw [if_neg (by omega), h3, Int.toNat_natCast]
      obtain ⟨c1, c2⟩ := Tw ok h1 h4 h5
      have hns := Qk ok c1
      rw [R2 ok m1 m3 hG hT c1 c2, Option.bind_some, if_neg (by omega)]
      have := UR ok hx2 hG hT (k - 1) _ [(s : Int)] hns.2.1 (OM ok hns.1).2 (by simp; omega)
      rw [this]; rfl) (by unfold F4; rw [if_neg (by omega)])]
  unfold GT RN
  cases (List.range n).findSome? (QK n l) <;> rfl
theorem Ni {n : Nat} {l : Es} (ok : Ok (n : Int) l) {F : Nat → Nat} (hF : Rb l F) : ∀ (k a b : Nat), wk n l k a b = true → F a + k ≤ F b
  | 0, a, b, h => by rw [KO.1 h]; omega
  | k + 1, a, b, h => by
    obtain ⟨c, h1, h2⟩ := (IY ok).1 h
    have := Ni ok hF k c b h2
    have := hF a c h1
    omega
theorem QN {n : Nat} {l : Es} (ok : Ok (n : Int) l) {F : Nat → Nat} (hF : Rb l F) : RN n l = [] := by
  unfold RN
  rw [Lf fun s hs => ?_]
  unfold QK
  rcases Qh n l s s with ⟨h1, _⟩ | ⟨k, h1, _, _, h2, _⟩
  · rw [if_pos h1]
  · have := Ni ok hF k s s h2; omega
end Go.Proofs.YthhoflfhegfmcaaGreat
