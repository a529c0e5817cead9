/- Layer 25: loops of graphs. Conditions: none. -/
import Derived.Test.YthhoflfhegfmcaaGreatbLP
import Derived.Test.YthhoflfhegfmcaaGreatbA7
namespace Go.Proofs.YthhoflfhegfmcaaGreat
set_option linter.unusedVariables false
set_option linter.unusedSimpArgs false
open Go Go.RowKit
theorem NF (a : Nat) (h : a < 4294967296) : (BitVec.ofInt 32 (a : Int)).toNat = a := by
  rw [BitVec.toNat_ofInt]; omega
theorem Q9 (a b : Nat) (ha : a < 65536) (hb : b < 65536) : SY .u32 (a : Int) (b : Int) = ((a ||| b : Nat) : Int) ∧ a ||| b < 65536 := by
  have hl : a ||| b < 2 ^ 16 := Nat.or_lt_two_pow ha hb
  refine ⟨?_, hl⟩
  show IntKind.u32.wrap ((BitVec.ofInt 32 (a : Int) ||| BitVec.ofInt 32 (b : Int)).toNat : Int) = _
  rw [BitVec.toNat_or, NF a (by omega), NF b (by omega), WL]; omega
theorem Vp (a k : Nat) (hk : k < 32) : Jk .u32 (a : Int) (k : Int) = ((a / 2 ^ k : Nat) : Int) := by
  unfold Jk
  rw [Int.toNat_natCast, Nat.min_eq_left (by show k ≤ 32; omega), Int.fdiv_eq_ediv_of_nonneg _ (by have := Int.pow_pos (n := 2) (m := k) (by decide); omega)]
  norm_cast
theorem UO (k : Nat) (hk : k < 16) : HG .u32 1 (k : Int) = ((2 ^ k : Nat) : Int) ∧ 2 ^ k < 65536 := by
  have hl : 2 ^ k < 2 ^ 16 := Nat.pow_lt_pow_right (by decide) hk
  refine ⟨?_, hl⟩
  unfold HG
  rw [Int.toNat_natCast, Nat.min_eq_left (by show k ≤ 32; omega), WL, Int.one_mul]
  have e : (2 : Int) ^ k = ((2 ^ k : Nat) : Int) := by norm_cast
  rw [e]
  generalize 2 ^ k = z at hl ⊢
  omega
theorem Vr (a : Nat) (ha : a < 65536) : N6 .u32 (a : Int) 1 = ((a % 2 : Nat) : Int) := by
  show IntKind.u32.wrap ((BitVec.ofInt 32 (a : Int) &&& BitVec.ofInt 32 ((1 : Nat) : Int)).toNat : Int) = _
  rw [BitVec.toNat_and, NF a (by omega), NF _ (by decide), Nat.and_two_pow_sub_one_eq_mod a 1, WL]; omega
theorem Lt (m i : Nat) (hm : m < 65536) (hi : i < 16) : Eb (m : Int) (i : Int) = some (m.testBit i) := by
  unfold Eb
  rw [QY (by omega), Option.bind_some, Vp _ _ (by omega), Vr _ (by have := Nat.div_le_self m (2 ^ i); omega)]
  congr 1
  rw [Nat.testBit_eq_decide_div_mod_eq]
  exact decide_eq_decide.2 (by omega)
theorem Pi (m i : Nat) (hm : m < 65536) (hi : i < 16) : C6 (m : Int) (i : Int) = some ((m ||| 2 ^ i : Nat) : Int) ∧ m ||| 2 ^ i < 65536 := by
  have h := UO i hi
  have h2 := Q9 m (2 ^ i) hm h.2
  unfold C6
  rw [QY (by omega), Option.bind_some, h.1, h2.1]
  exact ⟨rfl, h2.2⟩
theorem Qr (m i k : Nat) : (m ||| 2 ^ i).testBit k = (m.testBit k || decide (i = k)) := by
  rw [Nat.testBit_or, Nat.testBit_two_pow]
abbrev Es := List (Int × Int)
abbrev Ok (n : Int) (l : Es) : Prop := 0 ≤ n ∧ n ≤ 16 ∧ ∀ e ∈ l, 0 ≤ e.1 ∧ e.1 < n ∧ 0 ≤ e.2 ∧ e.2 < n
abbrev J (l : Es) (i k : Nat) : Prop := ((i : Int), (k : Int)) ∈ l
theorem Rn {α : Type} (l : List α) (hl : l.length ≤ 1000000000) (step : Int → Option (Int ⊕ (Unit ⊕ Bool))) (P : α → Prop) [DecidablePred P] (b : Bool)
    (hs : ∀ k (hk : k < l.length), step (k : Int) = if P l[k] then some (.inr (.inr b)) else some (.inl (An ((k : Int) + 1))))
    (he : step (l.length : Int) = some (.inr (.inl ()))) :
    Ap step 0 = some (if ∃ e ∈ l, P e then .inr b else .inl ()) := by
  have : DecidablePred fun k : Nat => ∃ e, l[k]? = some e ∧ P e := fun _ => Classical.propDecidable _
  rw [NW l.length step (fun k : Nat => ∃ e, l[k]? = some e ∧ P e) b (fun k hk => by
    rw [hs k hk, Aj (by omega)]
    by_cases h : P l[k]
    · rw [if_pos h, if_pos ((NC hk).2 h)]
    · rw [if_neg h, if_neg (fun h2 => h ((NC hk).1 h2))]; rfl) he]
  by_cases h : ∃ e ∈ l, P e
  · rw [if_pos h, if_pos (PM.2 h)]
  · rw [if_neg h, if_neg (fun h2 => h (PM.1 h2))]
abbrev Vu (n : Int) (e : Int × Int) : Prop := e.1 < 0 ∨ n ≤ e.1 ∨ e.2 < 0 ∨ n ≤ e.2
theorem Qi (n : Int) (l : Es) (hl : l.length ≤ 1000000000) : GA n l = some (decide (Ok n l)) := by
  unfold GA
  by_cases h0 : n < 0 ∨ 16 < n
  · rw [if_pos (by simpa using h0), decide_eq_false (fun h => by have := h.1; have := h.2.1; omega)]
  · rw [if_neg (by simpa using h0), Rn l hl _ (Vu n) false (fun k hk => by
      unfold FB
      rw [if_pos (by omega), BF (List.getElem?_eq_getElem hk), Option.bind_some]
      by_cases hb : Vu n l[k]
      · rw [if_pos hb, if_pos (by simpa using hb)]
      · rw [if_neg hb, if_neg (by simpa using hb)]) (by unfold FB; rw [if_neg (by omega)])]
    unfold GN
    by_cases hb : ∃ e ∈ l, Vu n e
    · obtain ⟨e, h1, h2⟩ := hb
      rw [if_pos ⟨e, h1, h2⟩, decide_eq_false (p := Ok n l) (fun h => by have := h.2.2 e h1; omega)]; rfl
    · rw [if_neg hb, decide_eq_true (p := Ok n l) ⟨by omega, by omega, fun e he => by
        have : ¬ Vu n e := fun h => hb ⟨e, he, h⟩
        omega⟩]; rfl
abbrev LP := Int × Int × Int × Int × Int × Int × Int × Int × Int × Int × Int × Int × Int × Int × Int × Int
def Mq (p1 : LP) : List Int := [p1.1, p1.2.1, p1.2.2.1, p1.2.2.2.1, p1.2.2.2.2.1, p1.2.2.2.2.2.1, p1.2.2.2.2.2.2.1, p1.2.2.2.2.2.2.2.1, p1.2.2.2.2.2.2.2.2.1, p1.2.2.2.2.2.2.2.2.2.1, p1.2.2.2.2.2.2.2.2.2.2.1, p1.2.2.2.2.2.2.2.2.2.2.2.1, p1.2.2.2.2.2.2.2.2.2.2.2.2.1, p1.2.2.2.2.2.2.2.2.2.2.2.2.2.1, p1.2.2.2.2.2.2.2.2.2.2.2.2.2.2.1, p1.2.2.2.2.2.2.2.2.2.2.2.2.2.2.2]
def WY (p1 : LP) (v x : Int) : LP := (if v = 0 then x else p1.1, if v = 1 then x else p1.2.1, if v = 2 then x else p1.2.2.1, if v = 3 then x else p1.2.2.2.1, if v = 4 then x else p1.2.2.2.2.1, if v = 5 then x else p1.2.2.2.2.2.1, if v = 6 then x else p1.2.2.2.2.2.2.1, if v = 7 then x else p1.2.2.2.2.2.2.2.1, if v = 8 then x else p1.2.2.2.2.2.2.2.2.1, if v = 9 then x else p1.2.2.2.2.2.2.2.2.2.1, if v = 10 then x else p1.2.2.2.2.2.2.2.2.2.2.1, if v = 11 then x else p1.2.2.2.2.2.2.2.2.2.2.2.1, if v = 12 then x else p1.2.2.2.2.2.2.2.2.2.2.2.2.1, if v = 13 then x else p1.2.2.2.2.2.2.2.2.2.2.2.2.2.1, if v = 14 then x else p1.2.2.2.2.2.2.2.2.2.2.2.2.2.2.1, if v = 15 then x else p1.2.2.2.2.2.2.2.2.2.2.2.2.2.2.2)
theorem Xi (v c : Nat) (x y : Int) : some (if (v : Int) = (c : Int) then x else y) = if v = c then some x else some y := by
  by_cases h : v = c
  · rw [if_pos (by omega), if_pos h]
  · rw [if_neg (by omega), if_neg h]
theorem Po (t : LP) (v i : Nat) (x : Int) (hi : i < 16) : ix (Mq (WY t (v : Int) x)) (i : Int) = if v = i then some x else ix (Mq t) (i : Int) := by
  have h : i = 0 ∨ i = 1 ∨ i = 2 ∨ i = 3 ∨ i = 4 ∨ i = 5 ∨ i = 6 ∨ i = 7 ∨ i = 8 ∨ i = 9 ∨ i = 10 ∨ i = 11 ∨ i = 12 ∨ i = 13 ∨ i = 14 ∨ i = 15 := by omega
  rcases h with rfl | rfl | rfl | rfl | rfl | rfl | rfl | rfl | rfl | rfl | rfl | rfl | rfl | rfl | rfl | rfl <;> exact Xi v _ x _
def QR (P : Nat → Nat → Prop) (t : LP) : Prop := ∀ i : Nat, i < 16 → ∃ m : Nat, m < 65536 ∧ ix (Mq t) (i : Int) = some (m : Int) ∧ ∀ k, k < 16 → (m.testBit k = true ↔ P i k)
theorem JH {l : Es} {e : Int × Int} {j : Nat} (hj : j < l.length) : e ∈ l.take (j + 1) ↔ e ∈ l.take j ∨ e = l[j] := by
  rw [List.take_add_one, List.getElem?_eq_getElem hj, List.mem_append]
  simp
theorem Pc (l : Es) (n : Int) (ok : Ok n l) (hl : l.length ≤ 1000000000) (row mem : Int × Int → Int)
    (hr : ∀ e ∈ l, 0 ≤ row e ∧ row e < 16 ∧ 0 ≤ mem e ∧ mem e < 16) (step : Int × LP → Option ((Int × LP) ⊕ LP))
    (hs : ∀ (j : Nat) (hj : j < l.length) (t : LP), step ((j : Int), t) = (ix (Mq t) (row l[j])).bind fun x => (C6 x (mem l[j])).bind fun y => (ix (Mq t) (row l[j])).bind fun _ => some (.inl (An ((j : Int) + 1), WY t (row l[j]) y)))
    (he : ∀ t, step ((l.length : Int), t) = some (.inr t)) :
    ∃ t, Ap step (0, (0, 0, 0, 0, 0, 0, 0, 0, 0, 0, 0, 0, 0, 0, 0, 0)) = some t ∧ QR (fun i k => ∃ e ∈ l, row e = (i : Int) ∧ mem e = (k : Int)) t := by
  obtain ⟨t, h1, h2⟩ := DK l.length (fun (t : LP) (j : Nat) => ((j : Int), t)) step id (fun t j => QR (fun i k => ∃ e ∈ l.take j, row e = (i : Int) ∧ mem e = (k : Int)) t)
    (fun t j hj hI => by
      have hm : l[j] ∈ l := List.getElem_mem hj
      obtain ⟨a1, a2, a3, a4⟩ := hr _ hm
      obtain ⟨i, hi⟩ : ∃ i : Nat, row l[j] = (i : Int) := ⟨(row l[j]).toNat, by omega⟩
      obtain ⟨k, hk⟩ : ∃ k : Nat, mem l[j] = (k : Int) := ⟨(mem l[j]).toNat, by omega⟩
      obtain ⟨m, hm1, hm2, hm3⟩ := hI i (by omega)
      have hw := Pi m k hm1 (by omega)
      refine ⟨WY t (i : Int) ((m ||| 2 ^ k : Nat) : Int), ?_, ?_⟩
      · rw [hs j hj, hi, hk, hm2, Option.bind_some, hw.1, Option.bind_some, Option.bind_some, Aj (by omega)]; rfl
      · intro i2 hi2
        rw [Po _ _ _ _ hi2]
        by_cases h : i = i2
        · subst h
          refine ⟨m ||| 2 ^ k, hw.2, by rw [if_pos rfl], fun k2 hk2 => ?_⟩
          rw [Qr, Bool.or_eq_true, decide_eq_true_eq, hm3 k2 hk2]
          constructor
          · rintro (⟨e, h1, h2⟩ | rfl)
            · exact ⟨e, (JH hj).2 (.inl h1), h2⟩
            · exact ⟨l[j], (JH hj).2 (.inr rfl), hi, hk⟩
          · rintro ⟨e, h1, h2, h3⟩
            rcases (JH hj).1 h1 with h4 | rfl
            · exact .inl ⟨e, h4, h2, h3⟩
            · exact .inr (by omega)
        · rw [if_neg h]
          obtain ⟨m', b1, b2, b3⟩ := hI i2 hi2
          refine ⟨m', b1, b2, fun k2 hk2 => (b3 k2 hk2).trans ?_⟩
          constructor
          · rintro ⟨e, h1, h2⟩
            exact ⟨e, (JH hj).2 (.inl h1), h2⟩
          · rintro ⟨e, h1, h2, h3⟩
            rcases (JH hj).1 h1 with h4 | rfl
            · exact ⟨e, h4, h2, h3⟩
            · omega)
    (fun t _ => he t) (0, 0, 0, 0, 0, 0, 0, 0, 0, 0, 0, 0, 0, 0, 0, 0) (by
      intro i hi
      have h : i = 0 ∨ i = 1 ∨ i = 2 ∨ i = 3 ∨ i = 4 ∨ i = 5 ∨ i = 6 ∨ i = 7 ∨ i = 8 ∨ i = 9 ∨ i = 10 ∨ i = 11 ∨ i = 12 ∨ i = 13 ∨ i = 14 ∨ i = 15 := by omega
      refine ⟨0, by decide, ?_, fun k _ => ?_⟩
      · rcases h with rfl | rfl | rfl | rfl | rfl | rfl | rfl | rfl | rfl | rfl | rfl | rfl | rfl | rfl | rfl | rfl <;> rfl
      · rw [Nat.zero_testBit]; simp)
  rw [List.take_length] at h1
  exact ⟨t, h2, h1⟩
theorem Vo (l : Es) (n : Int) (ok : Ok n l) (hl : l.length ≤ 1000000000) : ∃ t, DH l = some t ∧ QR (fun i k => J l k i) t := by
  have hb : ∀ e ∈ l, 0 ≤ e.2 ∧ e.2 < 16 ∧ 0 ≤ e.1 ∧ e.1 < 16 := fun e he => by have := ok.2.2 e he; have := ok.2.1; omega
  obtain ⟨t, h1, h2⟩ := Pc l n ok hl (·.2) (·.1) hb (Cq l) (fun j hj t => by
    show Cq l ((j : Int), t.1, t.2) = _
    unfold Cq
    simp only
    rw [if_pos (by omega), BF (List.getElem?_eq_getElem hj)]; rfl) (fun t => by
    show Cq l ((l.length : Int), t.1, t.2) = _
    unfold Cq
    simp only
    rw [if_neg (by omega)])
  refine ⟨t, ?_, fun i hi => ?_⟩
  · unfold DH
    rw [h1]; rfl
  · obtain ⟨m, a1, a2, a3⟩ := h2 i hi
    refine ⟨m, a1, a2, fun k hk => (a3 k hk).trans ⟨?_, fun h => ⟨_, h, rfl, rfl⟩⟩⟩
    rintro ⟨⟨a, b⟩, h3, h4, h5⟩
    simp only at h4 h5
    subst h4 h5; exact h3
theorem Uw (l : Es) (n : Int) (ok : Ok n l) (hl : l.length ≤ 1000000000) : ∃ t, D4 l = some t ∧ QR (fun i k => J l i k) t := by
  have hb : ∀ e ∈ l, 0 ≤ e.1 ∧ e.1 < 16 ∧ 0 ≤ e.2 ∧ e.2 < 16 := fun e he => by have := ok.2.2 e he; have := ok.2.1; omega
  obtain ⟨t, h1, h2⟩ := Pc l n ok hl (·.1) (·.2) hb (CH l) (fun j hj t => by
    show CH l ((j : Int), t.1, t.2) = _
    unfold CH
    simp only
    rw [if_pos (by omega), BF (List.getElem?_eq_getElem hj)]; rfl) (fun t => by
    show CH l ((l.length : Int), t.1, t.2) = _
    unfold CH
    simp only
    rw [if_neg (by omega)])
  refine ⟨t, ?_, fun i hi => ?_⟩
  · unfold D4
    rw [h1]; rfl
  · obtain ⟨m, a1, a2, a3⟩ := h2 i hi
    refine ⟨m, a1, a2, fun k hk => (a3 k hk).trans ⟨?_, fun h => ⟨_, h, rfl, rfl⟩⟩⟩
    rintro ⟨⟨a, b⟩, h3, h4, h5⟩
    simp only at h4 h5
    subst h4 h5; exact h3
theorem OQ {n : Nat} {l : Es} (ok : Ok (n : Int) l) {i k : Nat} (h : J l i k) : i < n ∧ k < n := by have := ok.2.2 _ h; simp only at this; omega
theorem TU {s k : Nat} (hs : s < 65536) (h : s.testBit k = true) : k < 16 := by
  refine Classical.byContradiction fun hk => ?_
  rw [Nat.testBit_lt_two_pow (show s < 2 ^ k from Nat.lt_of_lt_of_le hs (Nat.pow_le_pow_right (n := 2) (by decide) (show 16 ≤ k by omega)))] at h
  cases h
theorem O3 {n : Nat} : ∀ (m : Nat) (got : List Int), got.Nodup → (∀ x ∈ got, 0 ≤ x ∧ x < (m : Int)) → got.length ≤ m
  | 0, got, _, h => by
    cases got with
    | nil => simp
    | cons x l => have := h x (List.mem_cons_self ..); omega
  | m + 1, got, hn, h => by
    have h2 := O3 (n := n) m (got.erase (m : Int)) (hn.erase _) (fun x hx => by
      have h3 := h x (List.mem_of_mem_erase hx)
      have h4 : x ≠ (m : Int) := fun e => by
        subst e
        exact (List.Nodup.not_mem_erase hn) hx
      omega)
    have h5 := List.length_erase_le (a := (m : Int)) (l := got)
    by_cases hm : (m : Int) ∈ got
    · rw [List.length_erase_of_mem hm] at h2; omega
    · rw [List.erase_of_not_mem hm] at h2; omega
abbrev Rl (l : Es) (F : Nat → Nat) : Prop := ∀ a b, J l a b → F a + 1 ≤ F b
def wk (n : Nat) (l : Es) : Nat → Nat → Nat → Bool
  | 0, a, b => decide (a = b)
  | k + 1, a, b => (List.range n).any fun c => decide (J l a c) && wk n l k c b
theorem I3 {n : Nat} {l : Es} (ok : Ok (n : Int) l) {k a b : Nat} : wk n l (k + 1) a b = true ↔ ∃ c, J l a c ∧ wk n l k c b = true := by
  show ((List.range n).any fun c => decide (J l a c) && wk n l k c b) = true ↔ _
  rw [List.any_eq_true]
  constructor
  · rintro ⟨c, _, h⟩
    rw [Bool.and_eq_true, decide_eq_true_eq] at h
    exact ⟨c, h⟩
  · rintro ⟨c, h1, h2⟩
    exact ⟨c, List.mem_range.2 (OQ ok h1).2, by rw [Bool.and_eq_true, decide_eq_true_eq]; exact ⟨h1, h2⟩⟩
theorem KA {n : Nat} {l : Es} {a b : Nat} : wk n l 0 a b = true ↔ a = b := by
  simp only [wk, decide_eq_true_eq]
abbrev F3 (n : Nat) (l : Es) (s a d : Nat) : Prop := wk n l d a s = true ∧ ∀ k, k < d → wk n l k a s = false
theorem Qx {n : Nat} {l : Es} {s a d e : Nat} (h1 : F3 n l s a d) (h2 : F3 n l s a e) : d = e := by
  rcases Nat.lt_trichotomy d e with h | h | h
  · have := h2.2 d h; rw [h1.1] at this; cases this
  · exact h
  · have := h1.2 e h; rw [h2.1] at this; cases this
theorem RB {n : Nat} {l : Es} {s a k : Nat} (h : wk n l k a s = true) : ∃ d, d ≤ k ∧ F3 n l s a d := by
  induction k using Nat.strongRecOn with
  | _ k ih =>
    by_cases hx : ∃ j, j < k ∧ wk n l j a s = true
    · obtain ⟨j, h1, h2⟩ := hx
      obtain ⟨d, h3, h4⟩ := ih j h1 h2
      exact ⟨d, by omega, h4⟩
    · exact ⟨k, Nat.le_refl _, h, fun j hj => by
        cases hb : wk n l j a s
        · rfl
        · exact absurd ⟨j, hj, hb⟩ hx⟩
theorem Mw {n : Nat} {l : Es} (ok : Ok (n : Int) l) {s a d : Nat} (h : F3 n l s a (d + 1)) : ∃ c, J l a c ∧ F3 n l s c d := by
  obtain ⟨c, h1, h2⟩ := (I3 ok).1 h.1
  refine ⟨c, h1, h2, fun k hk => ?_⟩
  cases hb : wk n l k c s
  · rfl
  · have := h.2 (k + 1) (by omega)
    rw [(I3 ok).2 ⟨c, h1, hb⟩] at this; cases this
theorem RP {n : Nat} {l : Es} (ok : Ok (n : Int) l) {s a d : Nat} (hs : s < n) (h : F3 n l s a d) : d < n := by
  have key : ∀ (d a : Nat), F3 n l s a d → ∃ L : List Int, L.length = d + 1 ∧ L.Nodup ∧ ∀ x ∈ L, ∃ c e : Nat, x = (c : Int) ∧ c < n ∧ e ≤ d ∧ F3 n l s c e := by
    intro d
    induction d with
    | zero =>
      intro a h
      have := KA.1 h.1
      exact ⟨[(a : Int)], rfl, by simp, fun x hx => ⟨a, 0, List.mem_singleton.1 hx, by omega, Nat.le_refl _, h⟩⟩
    | succ d ih =>
      intro a h
      obtain ⟨c, h1, h2⟩ := Mw ok h
      obtain ⟨L, h3, h4, h5⟩ := ih c h2
      refine ⟨(a : Int) :: L, by rw [List.length_cons, h3], ?_, fun x hx => ?_⟩
      · rw [List.nodup_cons]
        refine ⟨fun hm => ?_, h4⟩
        obtain ⟨c2, e, h6, _, h7, h8⟩ := h5 _ hm
        obtain rfl : a = c2 := by omega
        have := Qx h h8
        omega
      · rcases List.mem_cons.1 hx with rfl | h6
        · exact ⟨a, d + 1, rfl, (OQ ok h1).1, Nat.le_refl _, h⟩
        · obtain ⟨c2, e, h7, h8, h9, h10⟩ := h5 x h6
          exact ⟨c2, e, h7, h8, by omega, h10⟩
  obtain ⟨L, h1, h2, h3⟩ := key d a h
  have := O3 (n := n) n L h2 (fun x hx => by obtain ⟨c, _, rfl, h4, _⟩ := h3 x hx; omega)
  omega
def wy (n : Nat) (l : Es) (a b : Nat) : Int := match (List.range' 1 n).findSome? (fun k => if wk n l k a b then some (k : Int) else none) with | some k => k | none => 0
def RC (t : LP) (G : Nat → Int) : Prop := ∀ i : Nat, i < 16 → ix (Mq t) (i : Int) = some (G i)
theorem RW {t : LP} {G : Nat → Int} (h : RC t G) (v : Nat) (x : Int) : RC (WY t (v : Int) x) (fun i => if i = v then x else G i) := by
  intro i hi
  rw [Po _ _ _ _ hi]
  dsimp only
  by_cases e : v = i
  · rw [if_pos e, if_pos e.symm]
  · rw [if_neg e, if_neg (Ne.symm e), h i hi]
theorem Wf (t : LP) : ∃ G, RC t G := by
  refine ⟨fun i => ((Mq t)[i]?).getD 0, fun i hi => ?_⟩
  have hl : (Mq t).length = 16 := rfl
  obtain ⟨x, h1, h2⟩ := PA (l := Mq t) (i := (i : Int)) (by omega) (by omega)
  rw [Int.toNat_natCast] at h2
  rw [h1]
  dsimp only
  rw [h2]; rfl
theorem Vd : ∃ t, Ap CD (0, 0, 0, 0, 0, 0, 0, 0, 0, 0, 0, 0, 0, 0, 0, 0, 0) = some t ∧ RC t (fun _ => -1) := by
  obtain ⟨t, h1, h2⟩ := DK 16 (fun (t : LP) (k : Nat) => ((k : Int), t)) CD id (fun t k => ∀ i : Nat, i < k → ix (Mq t) (i : Int) = some (-1))
    (fun t k hk hI => by
      obtain ⟨G, hG⟩ := Wf t
      have hg : ix ([t.1, t.2.1, t.2.2.1, t.2.2.2.1, t.2.2.2.2.1, t.2.2.2.2.2.1, t.2.2.2.2.2.2.1, t.2.2.2.2.2.2.2.1, t.2.2.2.2.2.2.2.2.1, t.2.2.2.2.2.2.2.2.2.1, t.2.2.2.2.2.2.2.2.2.2.1, t.2.2.2.2.2.2.2.2.2.2.2.1, t.2.2.2.2.2.2.2.2.2.2.2.2.1, t.2.2.2.2.2.2.2.2.2.2.2.2.2.1, t.2.2.2.2.2.2.2.2.2.2.2.2.2.2.1, t.2.2.2.2.2.2.2.2.2.2.2.2.2.2.2] : List Int) (k : Int) = some (G k) := hG k (by omega)
      refine ⟨WY t (k : Int) (-1), ?_, fun i hi => ?_⟩
      · show CD ((k : Int), t.1, t.2) = _
        unfold CD
        simp only
        rw [if_pos (by omega), hg, Option.bind_some, Aj (by omega)]; rfl
      · rw [Po _ _ _ _ (by omega)]
        by_cases e : k = i
        · rw [if_pos e]
        · rw [if_neg e]; exact hI i (by omega))
    (fun t _ => by
      show CD ((16 : Nat), t.1, t.2) = _
      unfold CD
      simp only
      rw [if_neg (by omega)]; rfl) (0, 0, 0, 0, 0, 0, 0, 0, 0, 0, 0, 0, 0, 0, 0, 0) (fun _ h => by omega)
  exact ⟨t, h2, fun i hi => h1 i hi⟩
theorem Vx {n : Nat} {l : Es} (ok : Ok (n : Int) l) {p : LP} (hp : QR (fun i k => J l k i) p) {fr seen : Nat} (hfr : fr < 65536) (hse : seen < 65536) {d : Nat} (hd : d ≤ 100) {t : LP} {G : Nat → Int} (hG : RC t G) :
    ∃ (fu : Nat) (t' : LP), Ap (BV (n : Int) p (fr : Int) (seen : Int) (d : Int)) (0, 0, t) = some ((fu : Int), t') ∧ fu < 65536 ∧ (∀ a, fu.testBit a = true ↔ ∃ c, c < n ∧ fr.testBit c = true ∧ seen.testBit c = false ∧ J l a c) ∧ RC t' (fun i => if i < n ∧ fr.testBit i = true ∧ seen.testBit i = false then ((d + 1 : Nat) : Int) else G i) := by
  have hn := ok.2.1
  obtain ⟨s, h1, h2⟩ := DK n (fun (s : Nat × LP) (k : Nat) => ((s.1 : Int), (k : Int), s.2)) (BV (n : Int) p (fr : Int) (seen : Int) (d : Int)) (fun s => ((s.1 : Int), s.2))
    (fun s k => s.1 < 65536 ∧ (∀ a, s.1.testBit a = true ↔ ∃ c, c < k ∧ fr.testBit c = true ∧ seen.testBit c = false ∧ J l a c) ∧ RC s.2 (fun i => if i < k ∧ fr.testBit i = true ∧ seen.testBit i = false then ((d + 1 : Nat) : Int) else G i))
    (fun s k hk hI => by
      obtain ⟨fu, t⟩ := s
      obtain ⟨a1, a2, a3⟩ := hI
      simp only at a1 a2 a3
      obtain ⟨m, m1, m2, m3⟩ := hp k (by omega)
      have m2' : ix ([p.1, p.2.1, p.2.2.1, p.2.2.2.1, p.2.2.2.2.1, p.2.2.2.2.2.1, p.2.2.2.2.2.2.1, p.2.2.2.2.2.2.2.1, p.2.2.2.2.2.2.2.2.1, p.2.2.2.2.2.2.2.2.2.1, p.2.2.2.2.2.2.2.2.2.2.1, p.2.2.2.2.2.2.2.2.2.2.2.1, p.2.2.2.2.2.2.2.2.2.2.2.2.1, p.2.2.2.2.2.2.2.2.2.2.2.2.2.1, p.2.2.2.2.2.2.2.2.2.2.2.2.2.2.1, p.2.2.2.2.2.2.2.2.2.2.2.2.2.2.2] : List Int) (k : Int) = some (m : Int) := m2
      obtain ⟨g, hg0⟩ : ∃ g, ix (Mq t) (k : Int) = some g := ⟨_, a3 k (by omega)⟩
      have hg : ix ([t.1, t.2.1, t.2.2.1, t.2.2.2.1, t.2.2.2.2.1, t.2.2.2.2.2.1, t.2.2.2.2.2.2.1, t.2.2.2.2.2.2.2.1, t.2.2.2.2.2.2.2.2.1, t.2.2.2.2.2.2.2.2.2.1, t.2.2.2.2.2.2.2.2.2.2.1, t.2.2.2.2.2.2.2.2.2.2.2.1, t.2.2.2.2.2.2.2.2.2.2.2.2.1, t.2.2.2.2.2.2.2.2.2.2.2.2.2.1, t.2.2.2.2.2.2.2.2.2.2.2.2.2.2.1, t.2.2.2.2.2.2.2.2.2.2.2.2.2.2.2] : List Int) (k : Int) = some g := hg0
      by_cases hc : fr.testBit k = true ∧ seen.testBit k = false
      · have ho := Q9 fu m a1 m1
        refine ⟨(fu ||| m, WY t (k : Int) ((d + 1 : Nat) : Int)), ?_, ho.2, fun a => ?_, ?_⟩
        · show BV (n : Int) p (fr : Int) (seen : Int) (d : Int) ((fu : Int), (k : Int), t.1, t.2) = _
          unfold BV
          simp only
          rw [if_pos (by omega), Lt fr k hfr (by omega), hc.1, Option.bind_some, if_pos rfl, Lt seen k hse (by omega), hc.2]
          simp only [Option.bind_some, Bool.not_false, if_pos]
          rw [hg, m2', Option.bind_some, Option.bind_some, ho.1, Aj (by omega), Aj (by omega)]; rfl
        · rw [Nat.testBit_or, Bool.or_eq_true, a2 a]
          constructor
          · rintro (⟨c, h3, h4⟩ | h3)
            · exact ⟨c, by omega, h4⟩
            · exact ⟨k, by omega, hc.1, hc.2, (m3 a (TU m1 h3)).1 h3⟩
          · rintro ⟨c, h3, h4, h5, h6⟩
            by_cases e : c = k
            · subst e; exact .inr ((m3 a (by have := OQ ok h6; omega)).2 h6)
            · exact .inl ⟨c, by omega, h4, h5, h6⟩
        · intro i hi
          rw [RW a3 k _ i hi]
          dsimp only
          by_cases e : i = k
          · subst e
            rw [if_pos rfl, if_pos ⟨by omega, hc⟩]
          · rw [if_neg e]
            by_cases h3 : i < k ∧ fr.testBit i = true ∧ seen.testBit i = false
            · rw [if_pos h3, if_pos ⟨by omega, h3.2⟩]
            · rw [if_neg h3, if_neg (fun h => h3 ⟨by omega, h.2⟩)]
      · refine ⟨(fu, t), ?_, a1, fun a => ?_, ?_⟩
        · show BV (n : Int) p (fr : Int) (seen : Int) (d : Int) ((fu : Int), (k : Int), t.1, t.2) = _
          unfold BV
          simp only
          rw [if_pos (by omega), Lt fr k hfr (by omega), Option.bind_some, Lt seen k hse (by omega), Aj (x := (k : Int) + 1) (by omega)]
          cases h3 : fr.testBit k
          · rfl
          · cases h4 : seen.testBit k
            · exact absurd ⟨h3, h4⟩ hc
            · rfl
        · rw [a2 a]
          constructor
          · rintro ⟨c, h3, h4⟩; exact ⟨c, by omega, h4⟩
          · rintro ⟨c, h3, h4, h5, h6⟩
            by_cases e : c = k
            · subst e; exact absurd ⟨h4, h5⟩ hc
            · exact ⟨c, by omega, h4, h5, h6⟩
        · intro i hi
          rw [a3 i hi]
          dsimp only
          by_cases e : i = k
          · subst e
            rw [if_neg (fun h => by omega), if_neg (fun h => hc h.2)]
          · by_cases h3 : i < k ∧ fr.testBit i = true ∧ seen.testBit i = false
            · rw [if_pos h3, if_pos ⟨by omega, h3.2⟩]
            · rw [if_neg h3, if_neg (fun h => h3 ⟨by omega, h.2⟩)])
    (fun s _ => by
      obtain ⟨fu, t⟩ := s
      show BV (n : Int) p (fr : Int) (seen : Int) (d : Int) ((fu : Int), (n : Int), t.1, t.2) = _
      unfold BV
      simp only
      rw [if_neg (by omega)]) (0, t) ⟨(by decide : (0 : Nat) < 65536), fun a => by simp, fun i hi => by
      rw [hG i hi]
      dsimp only
      rw [if_neg (fun h => by omega)]⟩
  exact ⟨s.1, s.2, h2, h1.1, h1.2.1, h1.2.2⟩
theorem UY {n : Nat} {l : Es} (ok : Ok (n : Int) l) {p : LP} (hp : QR (fun i k => J l k i) p) {s : Nat} (hs : s < n) {t : LP} {G : Nat → Int} (hG : RC t G) (hG0 : ∀ i, i < 16 → G i = if i = s then 0 else -1) {fr : Nat} (hf : fr < 65536) (hfb : ∀ a, fr.testBit a = true ↔ J l a s) :
    ∃ (t' : LP) (G' : Nat → Int), Ap (Cp (n : Int) p) ((fr : Int), ((0 ||| 2 ^ s : Nat) : Int), 0, t) = some t' ∧ RC t' G' ∧ ∀ a, a < 16 → (∀ d, F3 n l s a d → G' a = (d : Int)) ∧ ((∀ d, ¬ F3 n l s a d) → G' a = -1) := by
  have hn := ok.2.1
  have hd0 : ∀ c, F3 n l s c 0 ↔ c = s := fun c => ⟨fun h => KA.1 h.1, fun h => ⟨KA.2 h, fun k hk => by omega⟩⟩
  obtain ⟨r, h1, h2⟩ := DK n (fun (x : Nat × Nat × LP) (k : Nat) => ((x.1 : Int), (x.2.1 : Int), (k : Int), x.2.2)) (Cp (n : Int) p) (fun x => x.2.2)
    (fun x k => x.1 < 65536 ∧ x.2.1 < 65536 ∧ (∀ a, x.2.1.testBit a = true ↔ ∃ j, j ≤ k ∧ wk n l j a s = true) ∧ (∀ a, x.1.testBit a = true ↔ ∃ c, J l a c ∧ F3 n l s c k) ∧ ∃ G, RC x.2.2 G ∧ ∀ a, a < 16 → (∀ d, d ≤ k → F3 n l s a d → G a = (d : Int)) ∧ ((∀ d, d ≤ k → ¬ F3 n l s a d) → G a = -1))
    (fun x k hk hI => by
      obtain ⟨fr, seen, t⟩ := x
      obtain ⟨a1, a2, a3, a4, G, a5, a6⟩ := hI
      dsimp only at a1 a2 a3 a4 a5
      obtain ⟨fu, t', b1, b2, b3, b4⟩ := Vx ok hp a1 a2 (d := k) (by omega) a5
      have ho := Q9 seen fr a2 a1
      have hnew : ∀ c, (c < n ∧ fr.testBit c = true ∧ seen.testBit c = false) ↔ F3 n l s c (k + 1) := by
        intro c
        constructor
        · rintro ⟨_, h3, h4⟩
          obtain ⟨e, h5, h6⟩ := (a4 c).1 h3
          refine ⟨(I3 ok).2 ⟨e, h5, h6.1⟩, fun j hj => ?_⟩
          cases hb : wk n l j c s
          · rfl
          · rw [(a3 c).2 ⟨j, by omega, hb⟩] at h4; cases h4
        · intro h
          obtain ⟨e, h5, h6⟩ := Mw ok h
          refine ⟨(OQ ok h5).1, (a4 c).2 ⟨e, h5, h6⟩, ?_⟩
          cases hb : seen.testBit c
          · rfl
          · obtain ⟨j, h7, h8⟩ := (a3 c).1 hb
            have := h.2 j (by omega)
            rw [h8] at this; cases this
      refine ⟨(fu, seen ||| fr, t'), ?_, b2, ho.2, fun a => ?_, fun a => ?_, _, b4, fun a ha => ⟨fun d hd hD => ?_, fun hD => ?_⟩⟩
      · show Cp (n : Int) p ((fr : Int), (seen : Int), (k : Int), t.1, t.2) = _
        unfold Cp
        dsimp only
        rw [if_pos (by omega)]
        show ((Ap (BV (n : Int) p (fr : Int) (seen : Int) (k : Int)) (0, 0, t)).bind fun x => some x).bind (fun x => (some (Sum.inl (x.1, SY .u32 (seen : Int) (fr : Int), An ((k : Int) + 1), x.2)) : Option ((Int × Int × Int × LP) ⊕ LP))) = _
        rw [b1, Option.bind_some, Option.bind_some, ho.1, Aj (by omega)]; rfl
      · try dsimp only
        rw [Nat.testBit_or, Bool.or_eq_true, a3 a, a4 a]
        constructor
        · rintro (⟨j, h3, h4⟩ | ⟨c, h3, h4⟩)
          · exact ⟨j, by omega, h4⟩
          · exact ⟨k + 1, Nat.le_refl _, (I3 ok).2 ⟨c, h3, h4.1⟩⟩
        · rintro ⟨j, h3, h4⟩
          by_cases e : j = k + 1
          · subst e
            obtain ⟨c, h5, h6⟩ := (I3 ok).1 h4
            obtain ⟨d, h7, h8⟩ := RB h6
            by_cases e2 : d = k
            · subst e2; exact .inr ⟨c, h5, h8⟩
            · exact .inl ⟨d + 1, by omega, (I3 ok).2 ⟨c, h5, h8.1⟩⟩
          · exact .inl ⟨j, by omega, h4⟩
      · try dsimp only
        rw [b3 a]
        constructor
        · rintro ⟨c, h3, h4, h5, h6⟩
          exact ⟨c, h6, (hnew c).1 ⟨h3, h4, h5⟩⟩
        · rintro ⟨c, h3, h4⟩
          have := (hnew c).2 h4
          exact ⟨c, this.1, this.2.1, this.2.2, h3⟩
      · try dsimp only
        by_cases e : d = k + 1
        · subst e
          rw [if_pos ((hnew a).2 hD)]
        · rw [if_neg (fun h => e (Qx hD ((hnew a).1 h)))]
          exact (a6 a ha).1 d (by omega) hD
      · try dsimp only
        rw [if_neg (fun h => hD (k + 1) (Nat.le_refl _) ((hnew a).1 h))]
        exact (a6 a ha).2 fun d hd => hD d (by omega))
    (fun x _ => by
      obtain ⟨fr, seen, t⟩ := x
      show Cp (n : Int) p ((fr : Int), (seen : Int), (n : Int), t.1, t.2) = _
      unfold Cp
      dsimp only
      rw [if_neg (by omega)]) (fr, 0 ||| 2 ^ s, t) ⟨hf, (Pi 0 s (by decide) (by omega)).2, fun a => by
        rw [Qr, Nat.zero_testBit, Bool.false_or, decide_eq_true_eq]
        constructor
        · rintro rfl; exact ⟨0, Nat.le_refl _, KA.2 rfl⟩
        · rintro ⟨j, h3, h4⟩
          obtain rfl : j = 0 := by omega
          exact (KA.1 h4).symm, fun a => by
        rw [hfb]
        constructor
        · intro h; exact ⟨s, h, (hd0 s).2 rfl⟩
        · rintro ⟨c, h3, h4⟩
          rw [(hd0 c).1 h4] at h3; exact h3, G, hG, fun a ha => ⟨fun d hd hD => by
        obtain rfl : d = 0 := by omega
        rw [hG0 a ha, if_pos ((hd0 a).1 hD)]; rfl, fun h => by rw [hG0 a ha, if_neg (fun e => h 0 (Nat.le_refl _) ((hd0 a).2 e))]⟩⟩
  obtain ⟨_, _, _, _, G', g1, g2⟩ := h1
  refine ⟨r.2.2, G', h2, g1, fun a ha => ⟨fun d hD => (g2 a ha).1 d (by have := RP ok hs hD; omega) hD, fun h => (g2 a ha).2 fun d _ => h d⟩⟩
theorem Pw {n : Nat} {l : Es} (ok : Ok (n : Int) l) {p : LP} (hp : QR (fun i k => J l k i) p) {s : Nat} (hs : s < n) :
    ∃ (t : LP) (G : Nat → Int), En (n : Int) p (s : Int) = some t ∧ RC t G ∧ ∀ a, a < 16 → (∀ d, F3 n l s a d → G a = (d : Int)) ∧ ((∀ d, ¬ F3 n l s a d) → G a = -1) := by
  have hn := ok.2.1
  obtain ⟨t0, h1, h2⟩ := Vd
  obtain ⟨m, m1, m2, m3⟩ := hp s (by omega)
  have hw := Pi 0 s (by decide) (by omega)
  have h3 := RW h2 s 0
  obtain ⟨t, G, g1, g2, g3⟩ := UY ok hp hs h3 (fun i _ => rfl) m1 (fun a => ⟨fun h => (m3 a (TU m1 h)).1 h, fun h => (m3 a (by have := OQ ok h; omega)).2 h⟩)
  refine ⟨t, G, ?_, g2, g3⟩
  unfold En
  rw [h1, Option.bind_some]
  have e1 : ix (Mq t0) (s : Int) = some (-1) := h2 s (by omega)
  have e2 : C6 0 (s : Int) = some ((0 ||| 2 ^ s : Nat) : Int) := hw.1
  show (ix (Mq t0) (s : Int)).bind (fun _ => (ix (Mq p) (s : Int)).bind fun x36 => (C6 0 (s : Int)).bind fun x37 => (Ap (Cp (n : Int) p) (x36, x37, 0, WY t0 (s : Int) 0)).bind fun x => some x) = _
  rw [e1, Option.bind_some, m2, Option.bind_some, e2, Option.bind_some, g1]; rfl
def nxF (n : Nat) (l : Es) (s a d : Nat) : Option Nat := (List.range n).find? (fun i => decide (J l a i ∧ F3 n l s i d))
def Vy (n : Nat) (l : Es) (s a d : Nat) : Nat := (nxF n l s a d).getD 0
theorem T5 {n : Nat} {q : Nat → Bool} {i : Nat} (hi : i < n) (h1 : q i = true) (h2 : ∀ k, k < i → q k = false) : (List.range n).find? q = some i := by
  have key : ∀ (d a : Nat), a + d = n → a ≤ i → (List.range' a d).find? q = some i := by
    intro d
    induction d with
    | zero => intro a h3 h4; omega
    | succ d ih =>
      intro a h3 h4
      rw [List.range'_succ, List.find?_cons]
      by_cases e : a = i
      · subst e; rw [h1]
      · rw [h2 a (by omega)]
        exact ih (a + 1) (by omega) (by omega)
  rw [List.range_eq_range']
  exact key n 0 (by omega) (by omega)
theorem T6 {n : Nat} {l : Es} {s a d i : Nat} (hi : i < n) (h1 : J l a i ∧ F3 n l s i d) (h2 : ∀ k, k < i → ¬ (J l a k ∧ F3 n l s k d)) : Vy n l s a d = i := by
  unfold Vy nxF
  rw [T5 hi (decide_eq_true h1) (fun k hk => decide_eq_false (h2 k hk))]; rfl
theorem Qu {n : Nat} {l : Es} (ok : Ok (n : Int) l) {s a d : Nat} (h : ∃ i, J l a i ∧ F3 n l s i d) : J l a (Vy n l s a d) ∧ F3 n l s (Vy n l s a d) d ∧ ∀ k, k < Vy n l s a d → ¬ (J l a k ∧ F3 n l s k d) := by
  have key : ∀ m, (∃ i, i ≤ m ∧ J l a i ∧ F3 n l s i d) → ∃ i, (J l a i ∧ F3 n l s i d) ∧ ∀ k, k < i → ¬ (J l a k ∧ F3 n l s k d) := by
    intro m
    induction m using Nat.strongRecOn with
    | _ m ih =>
      rintro ⟨i, h1, h2⟩
      by_cases hx : ∃ k, k < i ∧ J l a k ∧ F3 n l s k d
      · obtain ⟨k, h3, h4⟩ := hx
        exact ih k (by omega) ⟨k, Nat.le_refl _, h4⟩
      · exact ⟨i, h2, fun k hk h => hx ⟨k, hk, h⟩⟩
  obtain ⟨i0, hi0⟩ := h
  obtain ⟨i, h1, h2⟩ := key i0 ⟨i0, Nat.le_refl _, hi0⟩
  rw [T6 (OQ ok h1.1).2 h1 h2]
  exact ⟨h1.1, h1.2, h2⟩
def TK (n : Nat) (l : Es) (s : Nat) : Nat → Nat → List Int
  | 0, _ => []
  | d + 1, a => (a : Int) :: TK n l s d (Vy n l s a d)
theorem RK {n : Nat} {l : Es} (ok : Ok (n : Int) l) {a m : Nat} (hm : m < 65536) (hmb : ∀ k, k < 16 → (m.testBit k = true ↔ J l a k)) {t : LP} {G : Nat → Int} (hG : RC t G) :
    ∃ r, D7 (n : Int) (m : Int) t = some r ∧ ((r = -1 ∧ ∀ i, i < n → J l a i → G i < 0) ∨ ∃ i : Nat, i < n ∧ r = (i : Int) ∧ J l a i ∧ 0 ≤ G i ∧ (∀ k, k < n → J l a k → 0 ≤ G k → G i ≤ G k) ∧ ∀ k, k < i → J l a k → 0 ≤ G k → G i < G k) := by
  have hn := ok.2.1
  obtain ⟨r, h1, h2⟩ := DK n (fun (b : Int) (k : Nat) => (b, (k : Int))) (Cx (n : Int) (m : Int) t) id
    (fun b j => (b = -1 ∧ ∀ i, i < j → J l a i → G i < 0) ∨ ∃ i : Nat, i < j ∧ b = (i : Int) ∧ J l a i ∧ 0 ≤ G i ∧ (∀ k, k < j → J l a k → 0 ≤ G k → G i ≤ G k) ∧ ∀ k, k < i → J l a k → 0 ≤ G k → G i < G k)
    (fun b j hj hI => by
      have hgj : ix ([t.1, t.2.1, t.2.2.1, t.2.2.2.1, t.2.2.2.2.1, t.2.2.2.2.2.1, t.2.2.2.2.2.2.1, t.2.2.2.2.2.2.2.1, t.2.2.2.2.2.2.2.2.1, t.2.2.2.2.2.2.2.2.2.1, t.2.2.2.2.2.2.2.2.2.2.1, t.2.2.2.2.2.2.2.2.2.2.2.1, t.2.2.2.2.2.2.2.2.2.2.2.2.1, t.2.2.2.2.2.2.2.2.2.2.2.2.2.1, t.2.2.2.2.2.2.2.2.2.2.2.2.2.2.1, t.2.2.2.2.2.2.2.2.2.2.2.2.2.2.2] : List Int) (j : Int) = some (G j) := hG j (by omega)
      by_cases hJ : J l a j ∧ 0 ≤ G j
      · have hb : m.testBit j = true := (hmb j (by omega)).2 hJ.1
        rcases hI with ⟨rfl, h3⟩ | ⟨i, h3, rfl, h4, h5, h6, h7⟩
        · refine ⟨(j : Int), ?_, .inr ⟨j, by omega, rfl, hJ.1, hJ.2, fun k hk hjk hgk => ?_, fun k hk hjk hgk => ?_⟩⟩
          · rw [Cx, if_pos (by omega), Lt m j hm (by omega), hb, Option.bind_some, if_pos rfl, hgj, Option.bind_some, if_pos hJ.2, if_pos (by omega), Aj (by omega)]; rfl
          · by_cases e : k = j
            · subst e; exact Int.le_refl _
            · have := h3 k (by omega) hjk; omega
          · have := h3 k (by omega) hjk; omega
        · have hgi : ix ([t.1, t.2.1, t.2.2.1, t.2.2.2.1, t.2.2.2.2.1, t.2.2.2.2.2.1, t.2.2.2.2.2.2.1, t.2.2.2.2.2.2.2.1, t.2.2.2.2.2.2.2.2.1, t.2.2.2.2.2.2.2.2.2.1, t.2.2.2.2.2.2.2.2.2.2.1, t.2.2.2.2.2.2.2.2.2.2.2.1, t.2.2.2.2.2.2.2.2.2.2.2.2.1, t.2.2.2.2.2.2.2.2.2.2.2.2.2.1, t.2.2.2.2.2.2.2.2.2.2.2.2.2.2.1, t.2.2.2.2.2.2.2.2.2.2.2.2.2.2.2] : List Int) (i : Int) = some (G i) := hG i (by omega)
          have hst : Cx (n : Int) (m : Int) t ((i : Int), (j : Int)) = some (.inl (if G j < G i then (j : Int) else (i : Int), ((j + 1 : Nat) : Int))) := by
            rw [Cx, if_pos (by omega), Lt m j hm (by omega), hb, Option.bind_some, if_pos rfl, hgj, Option.bind_some, if_pos hJ.2, if_neg (by omega), hgi, Option.bind_some, Option.bind_some, Option.bind_some, Aj (by omega)]
            by_cases h : G j < G i
            · rw [decide_eq_true h, if_pos h]; rfl
            · rw [decide_eq_false h, if_neg h]; rfl
          by_cases h : G j < G i
          · rw [if_pos h] at hst
            refine ⟨_, hst, .inr ⟨j, by omega, rfl, hJ.1, hJ.2, fun k hk hjk hgk => ?_, fun k hk hjk hgk => ?_⟩⟩
            · by_cases e : k = j
              · subst e; exact Int.le_refl _
              · have := h6 k (by omega) hjk hgk; omega
            · have := h6 k (by omega) hjk hgk; omega
          · rw [if_neg h] at hst
            refine ⟨_, hst, .inr ⟨i, by omega, rfl, h4, h5, fun k hk hjk hgk => ?_, h7⟩⟩
            by_cases e : k = j
            · subst e; omega
            · exact h6 k (by omega) hjk hgk
      · have hst : Cx (n : Int) (m : Int) t (b, (j : Int)) = some (.inl (b, ((j + 1 : Nat) : Int))) := by
          rw [Cx, if_pos (by omega), Lt m j hm (by omega), Aj (by omega), Option.bind_some]
          by_cases hj2 : J l a j
          · rw [(hmb j (by omega)).2 hj2, if_pos rfl, hgj, Option.bind_some, if_neg (fun h => hJ ⟨hj2, h⟩)]; rfl
          · have hb0 : m.testBit j = false := by
              cases hx : m.testBit j
              · rfl
              · exact absurd ((hmb j (by omega)).1 hx) hj2
            rw [hb0]; rfl
        refine ⟨b, hst, ?_⟩
        rcases hI with ⟨h0, h3⟩ | ⟨i, h3, h0, h4, h5, h6, h7⟩
        · refine .inl ⟨h0, fun k hk hjk => ?_⟩
          by_cases e : k = j
          · subst e
            exact Int.not_le.1 fun h => hJ ⟨hjk, h⟩
          · exact h3 k (by omega) hjk
        · refine .inr ⟨i, by omega, h0, h4, h5, fun k hk hjk hgk => ?_, h7⟩
          by_cases e : k = j
          · subst e; exact absurd ⟨hjk, hgk⟩ hJ
          · exact h6 k (by omega) hjk hgk)
    (fun b _ => by rw [Cx, if_neg (by omega)]; rfl) (-1) (.inl ⟨rfl, fun _ h => by omega⟩)
  refine ⟨r, ?_, h1⟩
  unfold D7
  have e : Ap (Cx (n : Int) (m : Int) t) (-1, 0) = some r := h2
  rw [e]; rfl
abbrev XA (n : Nat) (l : Es) (s : Nat) (G : Nat → Int) : Prop := ∀ a, a < 16 → (∀ d, F3 n l s a d → G a = (d : Int)) ∧ ((∀ d, ¬ F3 n l s a d) → G a = -1)
theorem R8 {n : Nat} {l : Es} (ok : Ok (n : Int) l) {s a m : Nat} (hm : m < 65536) (hmb : ∀ k, k < 16 → (m.testBit k = true ↔ J l a k)) {t : LP} {G : Nat → Int} (hG : RC t G) (hT : XA n l s G) {d : Nat} (h1 : ∃ i, J l a i ∧ F3 n l s i d) (h2 : ∀ i e, J l a i → F3 n l s i e → d ≤ e) : D7 (n : Int) (m : Int) t = some (Vy n l s a d : Int) := by
  have hn := ok.2.1
  obtain ⟨r, h3, h4⟩ := RK ok hm hmb hG
  obtain ⟨i0, hi1, hi2⟩ := h1
  have hlt := (OQ ok hi1).2
  have hg0 := (hT i0 (by omega)).1 d hi2
  rw [h3]
  rcases h4 with ⟨_, h5⟩ | ⟨i, h5, rfl, h6, h7, h8, h9⟩
  · have := h5 i0 hlt hi1; omega
  · have hle := h8 i0 hlt hi1 (by omega)
    have hdi : F3 n l s i d := by
      by_cases hx : ∃ e, F3 n l s i e
      · obtain ⟨e, he⟩ := hx
        have hge := (hT i (by omega)).1 e he
        have := h2 i e h6 he
        obtain rfl : e = d := by omega
        exact he
      · have := (hT i (by omega)).2 fun e he => hx ⟨e, he⟩
        omega
    have hgi := (hT i (by omega)).1 d hdi
    rw [T6 h5 ⟨h6, hdi⟩ fun k hk ⟨q1, q2⟩ => by
      have hk2 := (OQ ok q1).2
      have := (hT k (by omega)).1 d q2
      have := h9 k hk q1 (by omega)
      omega]
theorem Vw {n : Nat} {l : Es} (ok : Ok (n : Int) l) {s : Nat} {x2 : LP} (hx : QR (fun i k => J l i k) x2) {t : LP} {G : Nat → Int} (hG : RC t G) (hT : XA n l s G) : ∀ (d a : Nat) (o : List Int), F3 n l s a d → a < n → o.length + d ≤ 1000 → Ap (Fa (n : Int) x2 (s : Int) t) (o, (a : Int)) = some (o ++ TK n l s d a) := by
  have hn := ok.2.1
  intro d
  induction d with
  | zero =>
    intro a o hD _ _
    have : a = s := KA.1 hD.1
    subst this
    exact Av (by rw [Fa, if_neg (by simp)]; simp [TK])
  | succ d ih =>
    intro a o hD ha ho
    have hne : a ≠ s := fun e => by
      have := hD.2 0 (by omega)
      rw [KA.2 e] at this; cases this
    obtain ⟨m, m1, m2, m3⟩ := hx a (by omega)
    have m2' : ix ([x2.1, x2.2.1, x2.2.2.1, x2.2.2.2.1, x2.2.2.2.2.1, x2.2.2.2.2.2.1, x2.2.2.2.2.2.2.1, x2.2.2.2.2.2.2.2.1, x2.2.2.2.2.2.2.2.2.1, x2.2.2.2.2.2.2.2.2.2.1, x2.2.2.2.2.2.2.2.2.2.2.1, x2.2.2.2.2.2.2.2.2.2.2.2.1, x2.2.2.2.2.2.2.2.2.2.2.2.2.1, x2.2.2.2.2.2.2.2.2.2.2.2.2.2.1, x2.2.2.2.2.2.2.2.2.2.2.2.2.2.2.1, x2.2.2.2.2.2.2.2.2.2.2.2.2.2.2.2] : List Int) (a : Int) = some (m : Int) := m2
    have hnx := Mw ok hD
    have hns := Qu ok hnx
    have hnr := R8 ok m1 m3 hG hT hnx (fun i e h1 h2 => by
      refine Nat.le_of_not_lt fun hlt => ?_
      have := hD.2 (e + 1) (by omega)
      rw [(I3 ok).2 ⟨i, h1, h2.1⟩] at this; cases this)
    refine (A4 (s' := (o ++ [(a : Int)], (Vy n l s a d : Int))) ?_).trans ?_
    · rw [Fa, if_pos (by omega), Fb (by simp; omega), Option.bind_some, m2', Option.bind_some, hnr]; rfl
    · rw [ih _ (o ++ [(a : Int)]) hns.2.1 (OQ ok hns.1).2 (by simp; omega)]
      simp [TK]
theorem Qe (n : Nat) (l : Es) (a b : Nat) : (wy n l a b = 0 ∧ ∀ k, 1 ≤ k → k ≤ n → wk n l k a b = false) ∨ ∃ k : Nat, 1 ≤ k ∧ k ≤ n ∧ wy n l a b = (k : Int) ∧ wk n l k a b = true ∧ ∀ j, 1 ≤ j → j < k → wk n l j a b = false := by
  have key : ∀ (d c : Nat), (((List.range' c d).findSome? (fun k => if wk n l k a b then some (k : Int) else none) = none) ∧ ∀ k, c ≤ k → k < c + d → wk n l k a b = false) ∨ ∃ k : Nat, c ≤ k ∧ k < c + d ∧ (List.range' c d).findSome? (fun k => if wk n l k a b then some (k : Int) else none) = some (k : Int) ∧ wk n l k a b = true ∧ ∀ j, c ≤ j → j < k → wk n l j a b = false := by
    intro d
    induction d with
    | zero => exact fun c => .inl ⟨rfl, fun k h1 h2 => by omega⟩
    | succ d ih =>
      intro c
      rw [List.range'_succ, List.findSome?_cons]
      cases hb : wk n l c a b
      · rw [if_neg Bool.false_ne_true]
        rcases ih (c + 1) with ⟨h1, h2⟩ | ⟨k, h1, h2, h3, h4, h5⟩
        · refine .inl ⟨h1, fun k h3 h4 => ?_⟩
          by_cases e : k = c
          · rw [e]; exact hb
          · exact h2 k (by omega) (by omega)
        · refine .inr ⟨k, by omega, by omega, h3, h4, fun j h6 h7 => ?_⟩
          by_cases e : j = c
          · rw [e]; exact hb
          · exact h5 j (by omega) h7
      · rw [if_pos rfl]
        exact .inr ⟨c, Nat.le_refl _, by omega, rfl, hb, fun j h1 h2 => by omega⟩
  unfold wy
  rcases key n 1 with ⟨h1, h2⟩ | ⟨k, h1, h2, h3, h4, h5⟩
  · rw [h1]; exact .inl ⟨rfl, fun k h3 h4 => h2 k h3 (by omega)⟩
  · rw [h3]; exact .inr ⟨k, h1, by omega, rfl, h4, h5⟩
theorem Uo {n : Nat} {l : Es} (ok : Ok (n : Int) l) {s c : Nat} (hc : 1 ≤ c) (h : wk n l c s s = true) (hm : ∀ j, 1 ≤ j → j < c → wk n l j s s = false) : (∃ i, J l s i ∧ F3 n l s i (c - 1)) ∧ ∀ i e, J l s i → F3 n l s i e → c - 1 ≤ e := by
  have h2 : ∀ i e, J l s i → F3 n l s i e → c - 1 ≤ e := by
    intro i e h3 h4
    refine Nat.le_of_not_lt fun hlt => ?_
    have := hm (e + 1) (by omega) (by omega)
    rw [(I3 ok).2 ⟨i, h3, h4.1⟩] at this; cases this
  refine ⟨?_, h2⟩
  obtain ⟨c', rfl⟩ : ∃ c', c = c' + 1 := ⟨c - 1, by omega⟩
  obtain ⟨i, h3, h4⟩ := (I3 ok).1 h
  obtain ⟨e, h5, h6⟩ := RB h4
  have := h2 i e h3 h6
  obtain rfl : e = c' := by omega
  exact ⟨i, h3, h6⟩
def P9 (n : Nat) (l : Es) (s : Nat) : Option (List Int) := if wy n l s s = 0 then none else some ((s : Int) :: TK n l s ((wy n l s s).toNat - 1) (Vy n l s s ((wy n l s s).toNat - 1)))
def Sa (n : Nat) (l : Es) : List Int := match (List.range n).findSome? (P9 n l) with | some o => o | none => []
theorem QI {n : Nat} {l : Es} (ok : Ok (n : Int) l) (hl : l.length ≤ 1000000000) : Em (n : Int) l = some (Sa n l) := by
  have hn := ok.2.1
  obtain ⟨x2, e1, hx2⟩ := Uw l n ok hl
  obtain ⟨p, e2, hp⟩ := Vo l n ok hl
  unfold Em
  rw [Qi _ _ hl, decide_eq_true ok, Option.bind_some, if_neg (by decide), e1, Option.bind_some, Ph n _ (P9 n l) (fun s hs => by
    unfold F4
    obtain ⟨t, G, f1, hG, hT⟩ := Pw ok hp hs
    obtain ⟨m, m1, m2, m3⟩ := hx2 s (by omega)
    have m2' : ix ([x2.1, x2.2.1, x2.2.2.1, x2.2.2.2.1, x2.2.2.2.2.1, x2.2.2.2.2.2.1, x2.2.2.2.2.2.2.1, x2.2.2.2.2.2.2.2.1, x2.2.2.2.2.2.2.2.2.1, x2.2.2.2.2.2.2.2.2.2.1, x2.2.2.2.2.2.2.2.2.2.2.1, x2.2.2.2.2.2.2.2.2.2.2.2.1, x2.2.2.2.2.2.2.2.2.2.2.2.2.1, x2.2.2.2.2.2.2.2.2.2.2.2.2.2.1, x2.2.2.2.2.2.2.2.2.2.2.2.2.2.2.1, x2.2.2.2.2.2.2.2.2.2.2.2.2.2.2.2] : List Int) (s : Int) = some (m : Int) := m2
    rw [if_pos (by omega), e2, Option.bind_some, f1, Option.bind_some, m2', Option.bind_some, Aj (by omega)]
    unfold P9
    rcases Qe n l s s with ⟨h1, h2⟩ | ⟨k, h1, h2, h3, h4, h5⟩
    · rw [if_pos h1]
      obtain ⟨r, r1, r2⟩ := RK ok m1 m3 hG
      have hr : r < 0 := by
        rcases r2 with ⟨h, _⟩ | ⟨i, h6, rfl, h7, h8, _⟩
        · omega
        · exfalso
          by_cases hx : ∃ e, F3 n l s i e
          · obtain ⟨e, he⟩ := hx
            have := h2 (e + 1) (by omega) (by have := RP ok hs he; omega)
            rw [(I3 ok).2 ⟨i, h7, he.1⟩] at this; cases this
          · have := (hT i (by omega)).2 fun e he => hx ⟨e, he⟩
            omega
      rw [r1, Option.bind_some, if_pos hr]; rfl
    · rw [if_neg (by omega), h3, Int.toNat_natCast]
      obtain ⟨c1, c2⟩ := Uo ok h1 h4 h5
      have hns := Qu ok c1
      rw [R8 ok m1 m3 hG hT c1 c2, Option.bind_some, if_neg (by omega)]
      have := Vw ok hx2 hG hT (k - 1) _ [(s : Int)] hns.2.1 (OQ ok hns.1).2 (by simp; omega)
      rw [this]; rfl) (by unfold F4; rw [if_neg (by omega)])]
  unfold GN Sa
  cases (List.range n).findSome? (P9 n l) <;> rfl
theorem MX {n : Nat} {l : Es} (ok : Ok (n : Int) l) {F : Nat → Nat} (hF : Rl l F) : ∀ (k a b : Nat), wk n l k a b = true → F a + k ≤ F b
  | 0, a, b, h => by rw [KA.1 h]; omega
  | k + 1, a, b, h => by
    obtain ⟨c, h1, h2⟩ := (I3 ok).1 h
    have := MX ok hF k c b h2
    have := hF a c h1
    omega
theorem QF {n : Nat} {l : Es} (ok : Ok (n : Int) l) {F : Nat → Nat} (hF : Rl l F) : Sa n l = [] := by
  unfold Sa
  rw [K0 fun s hs => ?_]
  unfold P9
  rcases Qe n l s s with ⟨h1, _⟩ | ⟨k, h1, _, _, h2, _⟩
  · rw [if_pos h1]
  · have := MX ok hF k s s h2; omega
end Go.Proofs.YthhoflfhegfmcaaGreat
