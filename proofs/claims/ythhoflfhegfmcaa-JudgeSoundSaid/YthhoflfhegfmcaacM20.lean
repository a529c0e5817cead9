/- Layer 25: loops of graphs. Conditions: none. -/
import Derived.Test.YthhoflfhegfmcaacLP
import Derived.Test.YthhoflfhegfmcaacA7
namespace Go.Proofs.Ythhoflfhegfmcaa
set_option linter.unusedVariables false
set_option linter.unusedSimpArgs false
open Go Go.RowKit
theorem KL (a : Nat) (h : a < 4294967296) : (BitVec.ofInt 32 (a : Int)).toNat = a := by
  rw [BitVec.toNat_ofInt]; omega
theorem Oj (a b : Nat) (ha : a < 65536) (hb : b < 65536) : PV .u32 (a : Int) (b : Int) = ((a ||| b : Nat) : Int) ∧ a ||| b < 65536 := by
  have hl : a ||| b < 2 ^ 16 := Nat.or_lt_two_pow ha hb
  refine ⟨?_, hl⟩
  show IntKind.u32.wrap ((BitVec.ofInt 32 (a : Int) ||| BitVec.ofInt 32 (b : Int)).toNat : Int) = _
  rw [BitVec.toNat_or, KL a (by omega), KL b (by omega), Tc]; omega
theorem RX (a k : Nat) (hk : k < 32) : Pz .u32 (a : Int) (k : Int) = ((a / 2 ^ k : Nat) : Int) := by
  unfold Pz
  rw [Int.toNat_natCast, Nat.min_eq_left (by show k ≤ 32; omega), Int.fdiv_eq_ediv_of_nonneg _ (by have := Int.pow_pos (n := 2) (m := k) (by decide); omega)]
  norm_cast
theorem Sa (k : Nat) (hk : k < 16) : PB .u32 1 (k : Int) = ((2 ^ k : Nat) : Int) ∧ 2 ^ k < 65536 := by
  have hl : 2 ^ k < 2 ^ 16 := Nat.pow_lt_pow_right (by decide) hk
  refine ⟨?_, hl⟩
  unfold PB
  rw [Int.toNat_natCast, Nat.min_eq_left (by show k ≤ 32; omega), Tc, Int.one_mul]
  have e : (2 : Int) ^ k = ((2 ^ k : Nat) : Int) := by norm_cast
  rw [e]
  generalize 2 ^ k = z at hl ⊢
  omega
theorem R0 (a : Nat) (ha : a < 65536) : PD .u32 (a : Int) 1 = ((a % 2 : Nat) : Int) := by
  show IntKind.u32.wrap ((BitVec.ofInt 32 (a : Int) &&& BitVec.ofInt 32 ((1 : Nat) : Int)).toNat : Int) = _
  rw [BitVec.toNat_and, KL a (by omega), KL _ (by decide), Nat.and_two_pow_sub_one_eq_mod a 1, Tc]; omega
theorem I6 (m i : Nat) (hm : m < 65536) (hi : i < 16) : CH (m : Int) (i : Int) = some (m.testBit i) := by
  unfold CH
  rw [Rc (by omega), Option.bind_some, RX _ _ (by omega), R0 _ (by have := Nat.div_le_self m (2 ^ i); omega)]
  congr 1
  rw [Nat.testBit_eq_decide_div_mod_eq]
  exact decide_eq_decide.2 (by omega)
theorem ME (m i : Nat) (hm : m < 65536) (hi : i < 16) : BQ (m : Int) (i : Int) = some ((m ||| 2 ^ i : Nat) : Int) ∧ m ||| 2 ^ i < 65536 := by
  have h := Sa i hi
  have h2 := Oj m (2 ^ i) hm h.2
  unfold BQ
  rw [Rc (by omega), Option.bind_some, h.1, h2.1]
  exact ⟨rfl, h2.2⟩
theorem NA (m i k : Nat) : (m ||| 2 ^ i).testBit k = (m.testBit k || decide (i = k)) := by
  rw [Nat.testBit_or, Nat.testBit_two_pow]
abbrev Es := List (Int × Int)
abbrev Ok (n : Int) (l : Es) : Prop := 0 ≤ n ∧ n ≤ 16 ∧ ∀ e ∈ l, 0 ≤ e.1 ∧ e.1 < n ∧ 0 ≤ e.2 ∧ e.2 < n
abbrev J (l : Es) (i k : Nat) : Prop := ((i : Int), (k : Int)) ∈ l
theorem HE {α : Type} (l : List α) (hl : l.length ≤ 1000000000) (step : Int → Option (Int ⊕ (Unit ⊕ Bool))) (P : α → Prop) [DecidablePred P] (b : Bool)
    (hs : ∀ k (hk : k < l.length), step (k : Int) = if P l[k] then some (.inr (.inr b)) else some (.inl (A7 ((k : Int) + 1))))
    (he : step (l.length : Int) = some (.inr (.inl ()))) :
    An step 0 = some (if ∃ e ∈ l, P e then .inr b else .inl ()) := by
  have : DecidablePred fun k : Nat => ∃ e, l[k]? = some e ∧ P e := fun _ => Classical.propDecidable _
  rw [Lw l.length step (fun k : Nat => ∃ e, l[k]? = some e ∧ P e) b (fun k hk => by
    rw [hs k hk, AL (by omega)]
    by_cases h : P l[k]
    · rw [if_pos h, if_pos ((KM hk).2 h)]
    · rw [if_neg h, if_neg (fun h2 => h ((KM hk).1 h2))]; rfl) he]
  by_cases h : ∃ e ∈ l, P e
  · rw [if_pos h, if_pos (MT.2 h)]
  · rw [if_neg h, if_neg (fun h2 => h (MT.1 h2))]
abbrev NW (n : Int) (e : Int × Int) : Prop := e.1 < 0 ∨ n ≤ e.1 ∨ e.2 < 0 ∨ n ≤ e.2
theorem NV (n : Int) (l : Es) (hl : l.length ≤ 1000000000) : En n l = some (decide (Ok n l)) := by
  unfold En
  by_cases h0 : n < 0 ∨ 16 < n
  · rw [if_pos (by simpa using h0), decide_eq_false (fun h => by have := h.1; have := h.2.1; omega)]
  · rw [if_neg (by simpa using h0), HE l hl _ (NW n) false (fun k hk => by
      unfold DD
      rw [if_pos (by omega), AV (List.getElem?_eq_getElem hk), Option.bind_some]
      by_cases hb : NW n l[k]
      · rw [if_pos hb, if_pos (by simpa using hb)]
      · rw [if_neg hb, if_neg (by simpa using hb)]) (by unfold DD; rw [if_neg (by omega)])]
    unfold EZ
    by_cases hb : ∃ e ∈ l, NW n e
    · obtain ⟨e, h1, h2⟩ := hb
      rw [if_pos ⟨e, h1, h2⟩, decide_eq_false (p := Ok n l) (fun h => by have := h.2.2 e h1; omega)]; rfl
    · rw [if_neg hb, decide_eq_true (p := Ok n l) ⟨by omega, by omega, fun e he => by
        have : ¬ NW n e := fun h => hb ⟨e, he, h⟩
        omega⟩]; rfl
theorem LY (n : Int) (l : Es) (hl : l.length ≤ 1000000000) : J6 n l = some (decide (Ok n l)) := by
  unfold J6
  rw [HE l hl _ (NW n) false (fun k hk => by
      unfold HD
      rw [if_pos (by omega), AV (List.getElem?_eq_getElem hk)]
      simp only [Option.bind_some]
      by_cases hb : NW n l[k]
      · rw [if_pos hb]
        by_cases c1 : l[k].1 < 0
        · rw [if_pos c1]; rfl
        · rw [if_neg c1]
          by_cases c2 : n ≤ l[k].1
          · rw [if_pos c2]; rfl
          · rw [if_neg c2]
            by_cases c3 : l[k].2 < 0
            · rw [if_pos c3]; rfl
            · rw [if_neg c3, decide_eq_true (by omega)]; rfl
      · rw [if_neg hb, if_neg (by omega), if_neg (by omega), if_neg (by omega), decide_eq_false (by omega)]; rfl) (by unfold HD; rw [if_neg (by omega)])]
  unfold EZ
  by_cases hb : ∃ e ∈ l, NW n e
  · obtain ⟨e, h1, h2⟩ := hb
    rw [if_pos ⟨e, h1, h2⟩, decide_eq_false (p := Ok n l) (fun h => by have := h.2.2 e h1; omega)]; rfl
  · rw [if_neg hb]
    simp only [Option.bind_some]
    congr 1
    rw [← Bool.decide_and]
    refine decide_eq_decide.2 ⟨fun h => ⟨h.1, h.2, fun e he => ?_⟩, fun h => ⟨h.1, h.2.1⟩⟩
    have : ¬ NW n e := fun h => hb ⟨e, he, h⟩
    omega
theorem MG (l : List Int) (x : Int) (hl : l.length ≤ 1000000000) : KQ l x = some (decide (x ∈ l)) := by
  unfold KQ
  rw [HE l hl _ (· = x) true (fun k hk => by
      unfold I1
      rw [if_pos (by omega), AV (List.getElem?_eq_getElem hk)]; rfl) (by unfold I1; rw [if_neg (by omega)])]
  unfold EZ
  by_cases h : x ∈ l
  · rw [if_pos ⟨x, h, rfl⟩, decide_eq_true h]; rfl
  · rw [if_neg (by rintro ⟨e, h1, rfl⟩; exact h h1), decide_eq_false h]; rfl
theorem Nx (l : Es) (i k : Int) (hl : l.length ≤ 1000000000) : JG l i k = some (decide ((i, k) ∈ l)) := by
  unfold JG
  rw [HE l hl _ (· = (i, k)) true (fun j hj => by
      unfold Ih
      rw [if_pos (by omega), AV (List.getElem?_eq_getElem hj)]
      simp only [Option.bind_some]
      generalize l[j] = e
      obtain ⟨a, b⟩ := e
      simp only [Prod.mk.injEq]
      by_cases h1 : a = i
      · rw [if_pos h1]
        by_cases h2 : b = k
        · rw [if_pos ⟨h1, h2⟩, decide_eq_true h2]; rfl
        · rw [if_neg (fun h => h2 h.2), decide_eq_false h2]; rfl
      · rw [if_neg h1, if_neg (fun h => h1 h.1)]; rfl) (by unfold Ih; rw [if_neg (by omega)])]
  unfold EZ
  by_cases h : (i, k) ∈ l
  · rw [if_pos ⟨_, h, rfl⟩, decide_eq_true h]; rfl
  · rw [if_neg (by rintro ⟨e, h1, rfl⟩; exact h h1), decide_eq_false h]; rfl
abbrev Jk := Int × Int × Int × Int × Int × Int × Int × Int × Int × Int × Int × Int × Int × Int × Int × Int
def JH (p1 : Jk) : List Int := [p1.1, p1.2.1, p1.2.2.1, p1.2.2.2.1, p1.2.2.2.2.1, p1.2.2.2.2.2.1, p1.2.2.2.2.2.2.1, p1.2.2.2.2.2.2.2.1, p1.2.2.2.2.2.2.2.2.1, p1.2.2.2.2.2.2.2.2.2.1, p1.2.2.2.2.2.2.2.2.2.2.1, p1.2.2.2.2.2.2.2.2.2.2.2.1, p1.2.2.2.2.2.2.2.2.2.2.2.2.1, p1.2.2.2.2.2.2.2.2.2.2.2.2.2.1, p1.2.2.2.2.2.2.2.2.2.2.2.2.2.2.1, p1.2.2.2.2.2.2.2.2.2.2.2.2.2.2.2]
def S2 (p1 : Jk) (v x : Int) : Jk := (if v = 0 then x else p1.1, if v = 1 then x else p1.2.1, if v = 2 then x else p1.2.2.1, if v = 3 then x else p1.2.2.2.1, if v = 4 then x else p1.2.2.2.2.1, if v = 5 then x else p1.2.2.2.2.2.1, if v = 6 then x else p1.2.2.2.2.2.2.1, if v = 7 then x else p1.2.2.2.2.2.2.2.1, if v = 8 then x else p1.2.2.2.2.2.2.2.2.1, if v = 9 then x else p1.2.2.2.2.2.2.2.2.2.1, if v = 10 then x else p1.2.2.2.2.2.2.2.2.2.2.1, if v = 11 then x else p1.2.2.2.2.2.2.2.2.2.2.2.1, if v = 12 then x else p1.2.2.2.2.2.2.2.2.2.2.2.2.1, if v = 13 then x else p1.2.2.2.2.2.2.2.2.2.2.2.2.2.1, if v = 14 then x else p1.2.2.2.2.2.2.2.2.2.2.2.2.2.2.1, if v = 15 then x else p1.2.2.2.2.2.2.2.2.2.2.2.2.2.2.2)
theorem TS (v c : Nat) (x y : Int) : some (if (v : Int) = (c : Int) then x else y) = if v = c then some x else some y := by
  by_cases h : v = c
  · rw [if_pos (by omega), if_pos h]
  · rw [if_neg (by omega), if_neg h]
theorem Mz (t : Jk) (v i : Nat) (x : Int) (hi : i < 16) : ix (JH (S2 t (v : Int) x)) (i : Int) = if v = i then some x else ix (JH t) (i : Int) := by
  have h : i = 0 ∨ i = 1 ∨ i = 2 ∨ i = 3 ∨ i = 4 ∨ i = 5 ∨ i = 6 ∨ i = 7 ∨ i = 8 ∨ i = 9 ∨ i = 10 ∨ i = 11 ∨ i = 12 ∨ i = 13 ∨ i = 14 ∨ i = 15 := by omega
  rcases h with rfl | rfl | rfl | rfl | rfl | rfl | rfl | rfl | rfl | rfl | rfl | rfl | rfl | rfl | rfl | rfl <;> exact TS v _ x _
def NI (P : Nat → Nat → Prop) (t : Jk) : Prop := ∀ i : Nat, i < 16 → ∃ m : Nat, m < 65536 ∧ ix (JH t) (i : Int) = some (m : Int) ∧ ∀ k, k < 16 → (m.testBit k = true ↔ P i k)
theorem Iw {l : Es} {e : Int × Int} {j : Nat} (hj : j < l.length) : e ∈ l.take (j + 1) ↔ e ∈ l.take j ∨ e = l[j] := by
  rw [List.take_add_one, List.getElem?_eq_getElem hj, List.mem_append]
  simp
theorem Mi (l : Es) (n : Int) (ok : Ok n l) (hl : l.length ≤ 1000000000) (row mem : Int × Int → Int)
    (hr : ∀ e ∈ l, 0 ≤ row e ∧ row e < 16 ∧ 0 ≤ mem e ∧ mem e < 16) (step : Int × Jk → Option ((Int × Jk) ⊕ Jk))
    (hs : ∀ (j : Nat) (hj : j < l.length) (t : Jk), step ((j : Int), t) = (ix (JH t) (row l[j])).bind fun x => (BQ x (mem l[j])).bind fun y => (ix (JH t) (row l[j])).bind fun _ => some (.inl (A7 ((j : Int) + 1), S2 t (row l[j]) y)))
    (he : ∀ t, step ((l.length : Int), t) = some (.inr t)) :
    ∃ t, An step (0, (0, 0, 0, 0, 0, 0, 0, 0, 0, 0, 0, 0, 0, 0, 0, 0)) = some t ∧ NI (fun i k => ∃ e ∈ l, row e = (i : Int) ∧ mem e = (k : Int)) t := by
  obtain ⟨t, h1, h2⟩ := Cl l.length (fun (t : Jk) (j : Nat) => ((j : Int), t)) step id (fun t j => NI (fun i k => ∃ e ∈ l.take j, row e = (i : Int) ∧ mem e = (k : Int)) t)
    (fun t j hj hI => by
      have hm : l[j] ∈ l := List.getElem_mem hj
      obtain ⟨a1, a2, a3, a4⟩ := hr _ hm
      obtain ⟨i, hi⟩ : ∃ i : Nat, row l[j] = (i : Int) := ⟨(row l[j]).toNat, by omega⟩
      obtain ⟨k, hk⟩ : ∃ k : Nat, mem l[j] = (k : Int) := ⟨(mem l[j]).toNat, by omega⟩
      obtain ⟨m, hm1, hm2, hm3⟩ := hI i (by omega)
      have hw := ME m k hm1 (by omega)
      refine ⟨S2 t (i : Int) ((m ||| 2 ^ k : Nat) : Int), ?_, ?_⟩
      · rw [hs j hj, hi, hk, hm2, Option.bind_some, hw.1, Option.bind_some, Option.bind_some, AL (by omega)]; rfl
      · intro i2 hi2
        rw [Mz _ _ _ _ hi2]
        by_cases h : i = i2
        · subst h
          refine ⟨m ||| 2 ^ k, hw.2, by rw [if_pos rfl], fun k2 hk2 => ?_⟩
          rw [NA, Bool.or_eq_true, decide_eq_true_eq, hm3 k2 hk2]
          constructor
          · rintro (⟨e, h1, h2⟩ | rfl)
            · exact ⟨e, (Iw hj).2 (.inl h1), h2⟩
            · exact ⟨l[j], (Iw hj).2 (.inr rfl), hi, hk⟩
          · rintro ⟨e, h1, h2, h3⟩
            rcases (Iw hj).1 h1 with h4 | rfl
            · exact .inl ⟨e, h4, h2, h3⟩
            · exact .inr (by omega)
        · rw [if_neg h]
          obtain ⟨m', b1, b2, b3⟩ := hI i2 hi2
          refine ⟨m', b1, b2, fun k2 hk2 => (b3 k2 hk2).trans ?_⟩
          constructor
          · rintro ⟨e, h1, h2⟩
            exact ⟨e, (Iw hj).2 (.inl h1), h2⟩
          · rintro ⟨e, h1, h2, h3⟩
            rcases (Iw hj).1 h1 with h4 | rfl
            · exact ⟨e, h4, h2, h3⟩
            · omega)
    (fun t _ => he t) (0, 0, 0, 0, 0, 0, 0, 0, 0, 0, 0, 0, 0, 0, 0, 0) (by
      intro i hi
      have h : i = 0 ∨ i = 1 ∨ i = 2 ∨ i = 3 ∨ i = 4 ∨ i = 5 ∨ i = 6 ∨ i = 7 ∨ i = 8 ∨ i = 9 ∨ i = 10 ∨ i = 11 ∨ i = 12 ∨ i = 13 ∨ i = 14 ∨ i = 15 := by omega
      refine ⟨0, by decide, ?_, fun k _ => ?_⟩
      · rcases h with rfl | rfl | rfl | rfl | rfl | rfl | rfl | rfl | rfl | rfl | rfl | rfl | rfl | rfl | rfl | rfl <;> rfl
      · rw [Nat.zero_testBit]; simp)
  rw [List.take_length] at h1
  exact ⟨t, h2, h1⟩
theorem RE (l : Es) (n : Int) (ok : Ok n l) (hl : l.length ≤ 1000000000) : ∃ t, Ci l = some t ∧ NI (fun i k => J l k i) t := by
  have hb : ∀ e ∈ l, 0 ≤ e.2 ∧ e.2 < 16 ∧ 0 ≤ e.1 ∧ e.1 < 16 := fun e he => by have := ok.2.2 e he; have := ok.2.1; omega
  obtain ⟨t, h1, h2⟩ := Mi l n ok hl (·.2) (·.1) hb (Bf l) (fun j hj t => by
    show Bf l ((j : Int), t.1, t.2) = _
    unfold Bf
    simp only
    rw [if_pos (by omega), AV (List.getElem?_eq_getElem hj)]; rfl) (fun t => by
    show Bf l ((l.length : Int), t.1, t.2) = _
    unfold Bf
    simp only
    rw [if_neg (by omega)])
  refine ⟨t, ?_, fun i hi => ?_⟩
  · unfold Ci
    rw [h1]; rfl
  · obtain ⟨m, a1, a2, a3⟩ := h2 i hi
    refine ⟨m, a1, a2, fun k hk => (a3 k hk).trans ⟨?_, fun h => ⟨_, h, rfl, rfl⟩⟩⟩
    rintro ⟨⟨a, b⟩, h3, h4, h5⟩
    simp only at h4 h5
    subst h4 h5; exact h3
theorem Ru (l : Es) (n : Int) (ok : Ok n l) (hl : l.length ≤ 1000000000) : ∃ t, CD l = some t ∧ NI (fun i k => J l i k) t := by
  have hb : ∀ e ∈ l, 0 ≤ e.1 ∧ e.1 < 16 ∧ 0 ≤ e.2 ∧ e.2 < 16 := fun e he => by have := ok.2.2 e he; have := ok.2.1; omega
  obtain ⟨t, h1, h2⟩ := Mi l n ok hl (·.1) (·.2) hb (Bz l) (fun j hj t => by
    show Bz l ((j : Int), t.1, t.2) = _
    unfold Bz
    simp only
    rw [if_pos (by omega), AV (List.getElem?_eq_getElem hj)]; rfl) (fun t => by
    show Bz l ((l.length : Int), t.1, t.2) = _
    unfold Bz
    simp only
    rw [if_neg (by omega)])
  refine ⟨t, ?_, fun i hi => ?_⟩
  · unfold CD
    rw [h1]; rfl
  · obtain ⟨m, a1, a2, a3⟩ := h2 i hi
    refine ⟨m, a1, a2, fun k hk => (a3 k hk).trans ⟨?_, fun h => ⟨_, h, rfl, rfl⟩⟩⟩
    rintro ⟨⟨a, b⟩, h3, h4, h5⟩
    simp only at h4 h5
    subst h4 h5; exact h3
theorem J9 {n : Nat} {l : Es} (ok : Ok (n : Int) l) {i k : Nat} (h : J l i k) : i < n ∧ k < n := by have := ok.2.2 _ h; simp only at this; omega
theorem Q8 {s k : Nat} (hs : s < 65536) (h : s.testBit k = true) : k < 16 := by
  refine Classical.byContradiction fun hk => ?_
  rw [Nat.testBit_lt_two_pow (show s < 2 ^ k from Nat.lt_of_lt_of_le hs (Nat.pow_le_pow_right (n := 2) (by decide) (show 16 ≤ k by omega)))] at h
  cases h
theorem JZ {n : Nat} : ∀ (m : Nat) (got : List Int), got.Nodup → (∀ x ∈ got, 0 ≤ x ∧ x < (m : Int)) → got.length ≤ m
  | 0, got, _, h => by
    cases got with
    | nil => simp
    | cons x l => have := h x (List.mem_cons_self ..); omega
  | m + 1, got, hn, h => by
    have h2 := JZ (n := n) m (got.erase (m : Int)) (hn.erase _) (fun x hx => by
      have h3 := h x (List.mem_of_mem_erase hx)
      have h4 : x ≠ (m : Int) := fun e => by
        subst e
        exact (List.Nodup.not_mem_erase hn) hx
      omega)
    have h5 := List.length_erase_le (a := (m : Int)) (l := got)
    by_cases hm : (m : Int) ∈ got
    · rw [List.length_erase_of_mem hm] at h2; omega
    · rw [List.erase_of_not_mem hm] at h2; omega
def wk (n : Nat) (l : Es) : Nat → Nat → Nat → Bool
  | 0, a, b => decide (a = b)
  | k + 1, a, b => (List.range n).any fun c => decide (J l a c) && wk n l k c b
theorem Ev {n : Nat} {l : Es} (ok : Ok (n : Int) l) {k a b : Nat} : wk n l (k + 1) a b = true ↔ ∃ c, J l a c ∧ wk n l k c b = true := by
  show ((List.range n).any fun c => decide (J l a c) && wk n l k c b) = true ↔ _
  rw [List.any_eq_true]
  constructor
  · rintro ⟨c, _, h⟩
    rw [Bool.and_eq_true, decide_eq_true_eq] at h
    exact ⟨c, h⟩
  · rintro ⟨c, h1, h2⟩
    exact ⟨c, List.mem_range.2 (J9 ok h1).2, by rw [Bool.and_eq_true, decide_eq_true_eq]; exact ⟨h1, h2⟩⟩
theorem Fe {n : Nat} {l : Es} {a b : Nat} : wk n l 0 a b = true ↔ a = b := by
  simp only [wk, decide_eq_true_eq]
theorem P6 {n : Nat} {l : Es} (ok : Ok (n : Int) l) {k a b : Nat} : wk n l (k + 1) a b = true ↔ ∃ c, wk n l k a c = true ∧ J l c b := by
  induction k generalizing a with
  | zero =>
    rw [Ev ok]
    constructor
    · rintro ⟨c, h1, h2⟩
      rw [Fe] at h2
      exact ⟨a, Fe.2 rfl, h2 ▸ h1⟩
    · rintro ⟨c, h1, h2⟩
      rw [Fe] at h1
      exact ⟨b, h1 ▸ h2, Fe.2 rfl⟩
  | succ k ih =>
    rw [Ev ok]
    constructor
    · rintro ⟨c, h1, h2⟩
      obtain ⟨d, h3, h4⟩ := ih.1 h2
      exact ⟨d, (Ev ok).2 ⟨c, h1, h3⟩, h4⟩
    · rintro ⟨d, h1, h2⟩
      obtain ⟨c, h3, h4⟩ := (Ev ok).1 h1
      exact ⟨c, h3, ih.2 ⟨d, h4, h2⟩⟩
abbrev Do (n : Nat) (l : Es) (s a d : Nat) : Prop := wk n l d a s = true ∧ ∀ k, k < d → wk n l k a s = false
theorem N0 {n : Nat} {l : Es} {s a d e : Nat} (h1 : Do n l s a d) (h2 : Do n l s a e) : d = e := by
  rcases Nat.lt_trichotomy d e with h | h | h
  · have := h2.2 d h; rw [h1.1] at this; cases this
  · exact h
  · have := h1.2 e h; rw [h2.1] at this; cases this
theorem Mv {n : Nat} {l : Es} {s a k : Nat} (h : wk n l k a s = true) : ∃ d, d ≤ k ∧ Do n l s a d := by
  induction k using Nat.strongRecOn with
  | _ k ih =>
    by_cases hx : ∃ j, j < k ∧ wk n l j a s = true
    · obtain ⟨j, h1, h2⟩ := hx
      obtain ⟨d, h3, h4⟩ := ih j h1 h2
      exact ⟨d, by omega, h4⟩
    · exact ⟨k, Nat.le_refl _, h, fun j hj => by
        cases hb : wk n l j a s
        · rfl
        · exact absurd ⟨j, hj, hb⟩ hx⟩
theorem IH {n : Nat} {l : Es} (ok : Ok (n : Int) l) {s a d : Nat} (h : Do n l s a (d + 1)) : ∃ c, J l a c ∧ Do n l s c d := by
  obtain ⟨c, h1, h2⟩ := (Ev ok).1 h.1
  refine ⟨c, h1, h2, fun k hk => ?_⟩
  cases hb : wk n l k c s
  · rfl
  · have := h.2 (k + 1) (by omega)
    rw [(Ev ok).2 ⟨c, h1, hb⟩] at this; cases this
theorem KP {n : Nat} {l : Es} (ok : Ok (n : Int) l) {s a d : Nat} (hs : s < n) (h : Do n l s a d) : d < n := by
  have key : ∀ (d a : Nat), Do n l s a d → ∃ L : List Int, L.length = d + 1 ∧ L.Nodup ∧ ∀ x ∈ L, ∃ c e : Nat, x = (c : Int) ∧ c < n ∧ e ≤ d ∧ Do n l s c e := by
    intro d
    induction d with
    | zero =>
      intro a h
      have := Fe.1 h.1
      exact ⟨[(a : Int)], rfl, by simp, fun x hx => ⟨a, 0, List.mem_singleton.1 hx, by omega, Nat.le_refl _, h⟩⟩
    | succ d ih =>
      intro a h
      obtain ⟨c, h1, h2⟩ := IH ok h
      obtain ⟨L, h3, h4, h5⟩ := ih c h2
      refine ⟨(a : Int) :: L, by rw [List.length_cons, h3], ?_, fun x hx => ?_⟩
      · rw [List.nodup_cons]
        refine ⟨fun hm => ?_, h4⟩
        obtain ⟨c2, e, h6, _, h7, h8⟩ := h5 _ hm
        obtain rfl : a = c2 := by omega
        have := N0 h h8
        omega
      · rcases List.mem_cons.1 hx with rfl | h6
        · exact ⟨a, d + 1, rfl, (J9 ok h1).1, Nat.le_refl _, h⟩
        · obtain ⟨c2, e, h7, h8, h9, h10⟩ := h5 x h6
          exact ⟨c2, e, h7, h8, by omega, h10⟩
  obtain ⟨L, h1, h2, h3⟩ := key d a h
  have := JZ (n := n) n L h2 (fun x hx => by obtain ⟨c, _, rfl, h4, _⟩ := h3 x hx; omega)
  omega
theorem Sd {l : Es} (hl : l.length ≤ 1000000000) {at' : List Int} (ha : at'.length ≤ 1000000000) (i : Nat) {nx : List Int} (hx : nx.length ≤ 100) : An (FP l at' (i : Int)) (nx, 0) = some (if (i : Int) ∉ nx ∧ ∃ x ∈ at', (x, (i : Int)) ∈ l then nx ++ [(i : Int)] else nx) := by
  obtain ⟨r, h1, h2⟩ := Cl at'.length (fun (o : List Int) (j : Nat) => (o, (j : Int))) (FP l at' (i : Int)) id (fun o j => o = if (i : Int) ∉ nx ∧ ∃ x ∈ at'.take j, (x, (i : Int)) ∈ l then nx ++ [(i : Int)] else nx)
    (fun o j hj hI => by
      refine ⟨_, ?_, rfl⟩
      have hol : o.length ≤ 200 := by
        rw [hI]
        split
        · rw [List.length_append, List.length_singleton]; omega
        · omega
      have hmt : ∀ x, x ∈ at'.take (j + 1) ↔ x ∈ at'.take j ∨ x = at'[j] := fun x => by
        rw [List.take_add_one, List.getElem?_eq_getElem hj, List.mem_append]; simp
      rw [FP, if_pos (by omega), AV (List.getElem?_eq_getElem hj), Option.bind_some, Nx _ _ _ hl, Option.bind_some, MG _ _ (by omega), AL (by omega)]
      by_cases c1 : (at'[j], (i : Int)) ∈ l
      · rw [decide_eq_true c1, if_pos rfl]
        by_cases c2 : (i : Int) ∈ nx
        · rw [if_neg (fun h => h.1 c2)] at hI
          rw [hI, decide_eq_true c2, if_neg (fun h => h.1 c2)]; rfl
        · rw [if_pos (c := (i : Int) ∉ nx ∧ ∃ x ∈ at'.take (j + 1), (x, (i : Int)) ∈ l) ⟨c2, _, (hmt _).2 (.inr rfl), c1⟩]
          by_cases c3 : ∃ x ∈ at'.take j, (x, (i : Int)) ∈ l
          · rw [if_pos ⟨c2, c3⟩] at hI
            rw [hI, decide_eq_true (p := (i : Int) ∈ nx ++ [(i : Int)]) (by simp)]; rfl
          · rw [if_neg (fun h => c3 h.2)] at hI
            rw [hI, decide_eq_false c2, Du (by simp; omega)]; rfl
      · rw [decide_eq_false c1, if_neg Bool.false_ne_true]
        have e : (∃ x ∈ at'.take (j + 1), (x, (i : Int)) ∈ l) ↔ ∃ x ∈ at'.take j, (x, (i : Int)) ∈ l := by
          constructor
          · rintro ⟨x, h3, h4⟩
            rcases (hmt x).1 h3 with h5 | rfl
            · exact ⟨x, h5, h4⟩
            · exact absurd h4 c1
          · rintro ⟨x, h3, h4⟩
            exact ⟨x, (hmt x).2 (.inl h3), h4⟩
        rw [hI]
        by_cases c3 : (i : Int) ∉ nx ∧ ∃ x ∈ at'.take j, (x, (i : Int)) ∈ l
        · rw [if_pos c3, if_pos ⟨c3.1, e.2 c3.2⟩]; rfl
        · rw [if_neg c3, if_neg (fun h => c3 ⟨h.1, e.1 h.2⟩)]; rfl)
    (fun o _ => by rw [FP, if_neg (by omega)]; rfl) nx (by rw [if_neg (by simp)])
  rw [List.take_length] at h1
  rw [← h1]; exact h2
theorem R2 {n : Nat} {l : Es} (ok : Ok (n : Int) l) (hl : l.length ≤ 1000000000) {at' : List Int} (ha : at'.length ≤ 1000000000) : ∃ nx : List Int, An (FK (n : Int) l at') ([], 0) = some nx ∧ nx.length ≤ n ∧ (∀ y ∈ nx, ∃ i : Nat, y = (i : Int)) ∧ ∀ i : Nat, (i : Int) ∈ nx ↔ ∃ x ∈ at', (x, (i : Int)) ∈ l := by
  have hn := ok.2.1
  obtain ⟨r, h1, h2⟩ := Cl n (fun (o : List Int) (j : Nat) => (o, (j : Int))) (FK (n : Int) l at') id (fun o j => o.length ≤ j ∧ (∀ y ∈ o, ∃ i : Nat, y = (i : Int) ∧ i < j) ∧ ∀ i : Nat, (i : Int) ∈ o ↔ i < j ∧ ∃ x ∈ at', (x, (i : Int)) ∈ l)
    (fun o j hj hI => by
      obtain ⟨a1, a2, a3⟩ := hI
      refine ⟨_, by rw [FK, if_pos (by omega), Sd hl ha j (by omega), Option.bind_some, AL (by omega)]; rfl, ?_⟩
      have hnm : (j : Int) ∉ o := fun h => by have := (a3 j).1 h; omega
      by_cases c : ∃ x ∈ at', (x, (j : Int)) ∈ l
      · rw [if_pos ⟨hnm, c⟩]
        refine ⟨by simp; omega, fun y hy => ?_, fun i => ?_⟩
        · rcases List.mem_append.1 hy with h | h
          · obtain ⟨i, h3, h4⟩ := a2 y h; exact ⟨i, h3, by omega⟩
          · exact ⟨j, List.mem_singleton.1 h, by omega⟩
        · rw [List.mem_append, a3 i, List.mem_singleton]
          constructor
          · rintro (⟨h3, h4⟩ | h3)
            · exact ⟨by omega, h4⟩
            · obtain rfl : i = j := by omega
              exact ⟨by omega, c⟩
          · rintro ⟨h3, h4⟩
            by_cases e : i = j
            · exact .inr (by rw [e])
            · exact .inl ⟨by omega, h4⟩
      · rw [if_neg (fun h => c h.2)]
        refine ⟨by omega, fun y hy => by obtain ⟨i, h3, h4⟩ := a2 y hy; exact ⟨i, h3, by omega⟩, fun i => ?_⟩
        rw [a3 i]
        constructor
        · rintro ⟨h3, h4⟩; exact ⟨by omega, h4⟩
        · rintro ⟨h3, h4⟩
          by_cases e : i = j
          · subst e; exact absurd h4 c
          · exact ⟨by omega, h4⟩)
    (fun o _ => by rw [FK, if_neg (by omega)]; rfl) [] ⟨by simp, by simp, by simp⟩
  refine ⟨r, h2, h1.1, fun y hy => by obtain ⟨i, h3, _⟩ := h1.2.1 y hy; exact ⟨i, h3⟩, fun i => (h1.2.2 i).trans ⟨fun h => h.2, fun h => ⟨?_, h⟩⟩⟩
  obtain ⟨x, _, h3⟩ := h
  have := ok.2.2 _ h3
  simp only at this; omega
def wy (n : Nat) (l : Es) (a b : Nat) : Int := match (List.range' 1 n).findSome? (fun k => if wk n l k a b then some (k : Int) else none) with | some k => k | none => 0
theorem OL {n : Nat} {l : Es} (ok : Ok (n : Int) l) (hl : l.length ≤ 1000000000) (a b : Nat) : Jo (n : Int) l (a : Int) (b : Int) = some (wy n l a b) := by
  have hn := ok.2.1
  have key : ∀ (d k : Nat) (at' : List Int), k + d = n → at'.length ≤ 16 → (∀ y ∈ at', ∃ i : Nat, y = (i : Int)) → (∀ i : Nat, (i : Int) ∈ at' ↔ wk n l k a i = true) → An (EV (n : Int) l (b : Int)) (at', ((k + 1 : Nat) : Int)) = some (match (List.range' (k + 1) d).findSome? (fun k => if wk n l k a b then some (k : Int) else none) with | some k => .inr k | none => .inl ()) := by
    intro d
    induction d with
    | zero =>
      intro k at' hk h1 h2 h3
      exact Bv (by rw [EV, if_neg (by omega)]; rfl)
    | succ d ih =>
      intro k at' hk h1 h2 h3
      obtain ⟨nx, g1, g2, g3, g4⟩ := R2 ok hl (at' := at') (by omega)
      have g5 : ∀ i : Nat, (i : Int) ∈ nx ↔ wk n l (k + 1) a i = true := by
        intro i
        rw [g4, P6 ok]
        constructor
        · rintro ⟨x, h4, h5⟩
          obtain ⟨c, rfl⟩ := h2 x h4
          exact ⟨c, (h3 c).1 h4, h5⟩
        · rintro ⟨c, h4, h5⟩
          exact ⟨c, (h3 c).2 h4, h5⟩
      rw [List.range'_succ, List.findSome?_cons]
      by_cases hw : wk n l (k + 1) a b = true
      · rw [if_pos hw]
        exact Bv (by rw [EV, if_pos (by omega), g1, Option.bind_some, MG _ _ (by omega), decide_eq_true ((g5 b).2 hw)]; rfl)
      · rw [if_neg hw]
        refine (B6 ?_).trans (ih (k + 1) nx (by omega) (by omega) g3 g5)
        rw [EV, if_pos (by omega), g1, Option.bind_some, MG _ _ (by omega), decide_eq_false (fun h => hw ((g5 b).1 h)), AL (by omega)]; rfl
  have := key n 0 [(a : Int)] (by omega) (by simp) (fun y hy => ⟨a, List.mem_singleton.1 hy⟩) (fun i => by rw [List.mem_singleton, Fe]; omega)
  unfold Jo wy
  have e : An (EV (n : Int) l (b : Int)) ([(a : Int)], 1) = _ := this
  rw [e]
  cases (List.range' (0 + 1) n).findSome? (fun k => if wk n l k a b then some (k : Int) else none) <;> rfl
def OW (t : Jk) (G : Nat → Int) : Prop := ∀ i : Nat, i < 16 → ix (JH t) (i : Int) = some (G i)
theorem O2 {t : Jk} {G : Nat → Int} (h : OW t G) (v : Nat) (x : Int) : OW (S2 t (v : Int) x) (fun i => if i = v then x else G i) := by
  intro i hi
  rw [Mz _ _ _ _ hi]
  dsimp only
  by_cases e : v = i
  · rw [if_pos e, if_pos e.symm]
  · rw [if_neg e, if_neg (Ne.symm e), h i hi]
theorem Tj (t : Jk) : ∃ G, OW t G := by
  refine ⟨fun i => ((JH t)[i]?).getD 0, fun i hi => ?_⟩
  have hl : (JH t).length = 16 := rfl
  obtain ⟨x, h1, h2⟩ := MV (l := JH t) (i := (i : Int)) (by omega) (by omega)
  rw [Int.toNat_natCast] at h2
  rw [h1]
  dsimp only
  rw [h2]; rfl
theorem Se : ∃ t, An Bu (0, 0, 0, 0, 0, 0, 0, 0, 0, 0, 0, 0, 0, 0, 0, 0, 0) = some t ∧ OW t (fun _ => -1) := by
  obtain ⟨t, h1, h2⟩ := Cl 16 (fun (t : Jk) (k : Nat) => ((k : Int), t)) Bu id (fun t k => ∀ i : Nat, i < k → ix (JH t) (i : Int) = some (-1))
    (fun t k hk hI => by
      obtain ⟨G, hG⟩ := Tj t
      have hg : ix ([t.1, t.2.1, t.2.2.1, t.2.2.2.1, t.2.2.2.2.1, t.2.2.2.2.2.1, t.2.2.2.2.2.2.1, t.2.2.2.2.2.2.2.1, t.2.2.2.2.2.2.2.2.1, t.2.2.2.2.2.2.2.2.2.1, t.2.2.2.2.2.2.2.2.2.2.1, t.2.2.2.2.2.2.2.2.2.2.2.1, t.2.2.2.2.2.2.2.2.2.2.2.2.1, t.2.2.2.2.2.2.2.2.2.2.2.2.2.1, t.2.2.2.2.2.2.2.2.2.2.2.2.2.2.1, t.2.2.2.2.2.2.2.2.2.2.2.2.2.2.2] : List Int) (k : Int) = some (G k) := hG k (by omega)
      refine ⟨S2 t (k : Int) (-1), ?_, fun i hi => ?_⟩
      · show Bu ((k : Int), t.1, t.2) = _
        unfold Bu
        simp only
        rw [if_pos (by omega), hg, Option.bind_some, AL (by omega)]; rfl
      · rw [Mz _ _ _ _ (by omega)]
        by_cases e : k = i
        · rw [if_pos e]
        · rw [if_neg e]; exact hI i (by omega))
    (fun t _ => by
      show Bu ((16 : Nat), t.1, t.2) = _
      unfold Bu
      simp only
      rw [if_neg (by omega)]; rfl) (0, 0, 0, 0, 0, 0, 0, 0, 0, 0, 0, 0, 0, 0, 0, 0) (fun _ h => by omega)
  exact ⟨t, h2, fun i hi => h1 i hi⟩
theorem RU {n : Nat} {l : Es} (ok : Ok (n : Int) l) {p : Jk} (hp : NI (fun i k => J l k i) p) {fr seen : Nat} (hfr : fr < 65536) (hse : seen < 65536) {d : Nat} (hd : d ≤ 100) {t : Jk} {G : Nat → Int} (hG : OW t G) :
    ∃ (fu : Nat) (t' : Jk), An (AZ (n : Int) p (fr : Int) (seen : Int) (d : Int)) (0, 0, t) = some ((fu : Int), t') ∧ fu < 65536 ∧ (∀ a, fu.testBit a = true ↔ ∃ c, c < n ∧ fr.testBit c = true ∧ seen.testBit c = false ∧ J l a c) ∧ OW t' (fun i => if i < n ∧ fr.testBit i = true ∧ seen.testBit i = false then ((d + 1 : Nat) : Int) else G i) := by
  have hn := ok.2.1
  obtain ⟨s, h1, h2⟩ := Cl n (fun (s : Nat × Jk) (k : Nat) => ((s.1 : Int), (k : Int), s.2)) (AZ (n : Int) p (fr : Int) (seen : Int) (d : Int)) (fun s => ((s.1 : Int), s.2))
    (fun s k => s.1 < 65536 ∧ (∀ a, s.1.testBit a = true ↔ ∃ c, c < k ∧ fr.testBit c = true ∧ seen.testBit c = false ∧ J l a c) ∧ OW s.2 (fun i => if i < k ∧ fr.testBit i = true ∧ seen.testBit i = false then ((d + 1 : Nat) : Int) else G i))
    (fun s k hk hI => by
      obtain ⟨fu, t⟩ := s
      obtain ⟨a1, a2, a3⟩ := hI
      simp only at a1 a2 a3
      obtain ⟨m, m1, m2, m3⟩ := hp k (by omega)
      have m2' : ix ([p.1, p.2.1, p.2.2.1, p.2.2.2.1, p.2.2.2.2.1, p.2.2.2.2.2.1, p.2.2.2.2.2.2.1, p.2.2.2.2.2.2.2.1, p.2.2.2.2.2.2.2.2.1, p.2.2.2.2.2.2.2.2.2.1, p.2.2.2.2.2.2.2.2.2.2.1, p.2.2.2.2.2.2.2.2.2.2.2.1, p.2.2.2.2.2.2.2.2.2.2.2.2.1, p.2.2.2.2.2.2.2.2.2.2.2.2.2.1, p.2.2.2.2.2.2.2.2.2.2.2.2.2.2.1, p.2.2.2.2.2.2.2.2.2.2.2.2.2.2.2] : List Int) (k : Int) = some (m : Int) := m2
      obtain ⟨g, hg0⟩ : ∃ g, ix (JH t) (k : Int) = some g := ⟨_, a3 k (by omega)⟩
      have hg : ix ([t.1, t.2.1, t.2.2.1, t.2.2.2.1, t.2.2.2.2.1, t.2.2.2.2.2.1, t.2.2.2.2.2.2.1, t.2.2.2.2.2.2.2.1, t.2.2.2.2.2.2.2.2.1, t.2.2.2.2.2.2.2.2.2.1, t.2.2.2.2.2.2.2.2.2.2.1, t.2.2.2.2.2.2.2.2.2.2.2.1, t.2.2.2.2.2.2.2.2.2.2.2.2.1, t.2.2.2.2.2.2.2.2.2.2.2.2.2.1, t.2.2.2.2.2.2.2.2.2.2.2.2.2.2.1, t.2.2.2.2.2.2.2.2.2.2.2.2.2.2.2] : List Int) (k : Int) = some g := hg0
      by_cases hc : fr.testBit k = true ∧ seen.testBit k = false
      · have ho := Oj fu m a1 m1
        refine ⟨(fu ||| m, S2 t (k : Int) ((d + 1 : Nat) : Int)), ?_, ho.2, fun a => ?_, ?_⟩
        · show AZ (n : Int) p (fr : Int) (seen : Int) (d : Int) ((fu : Int), (k : Int), t.1, t.2) = _
          unfold AZ
          simp only
          rw [if_pos (by omega), I6 fr k hfr (by omega), hc.1, Option.bind_some, if_pos rfl, I6 seen k hse (by omega), hc.2]
          simp only [Option.bind_some, Bool.not_false, if_pos]
          rw [hg, m2', Option.bind_some, Option.bind_some, ho.1, AL (by omega), AL (by omega)]; rfl
        · rw [Nat.testBit_or, Bool.or_eq_true, a2 a]
          constructor
          · rintro (⟨c, h3, h4⟩ | h3)
            · exact ⟨c, by omega, h4⟩
            · exact ⟨k, by omega, hc.1, hc.2, (m3 a (Q8 m1 h3)).1 h3⟩
          · rintro ⟨c, h3, h4, h5, h6⟩
            by_cases e : c = k
            · subst e; exact .inr ((m3 a (by have := J9 ok h6; omega)).2 h6)
            · exact .inl ⟨c, by omega, h4, h5, h6⟩
        · intro i hi
          rw [O2 a3 k _ i hi]
          dsimp only
          by_cases e : i = k
          · subst e
            rw [if_pos rfl, if_pos ⟨by omega, hc⟩]
          · rw [if_neg e]
            by_cases h3 : i < k ∧ fr.testBit i = true ∧ seen.testBit i = false
            · rw [if_pos h3, if_pos ⟨by omega, h3.2⟩]
            · rw [if_neg h3, if_neg (fun h => h3 ⟨by omega, h.2⟩)]
      · refine ⟨(fu, t), ?_, a1, fun a => ?_, ?_⟩
        · show AZ (n : Int) p (fr : Int) (seen : Int) (d : Int) ((fu : Int), (k : Int), t.1, t.2) = _
          unfold AZ
          simp only
          rw [if_pos (by omega), I6 fr k hfr (by omega), Option.bind_some, I6 seen k hse (by omega), AL (x := (k : Int) + 1) (by omega)]
          cases h3 : fr.testBit k
          · rfl
          · cases h4 : seen.testBit k
            · exact absurd ⟨h3, h4⟩ hc
            · rfl
        · rw [a2 a]
          constructor
          · rintro ⟨c, h3, h4⟩; exact ⟨c, by omega, h4⟩
          · rintro ⟨c, h3, h4, h5, h6⟩
            by_cases e : c = k
            · subst e; exact absurd ⟨h4, h5⟩ hc
            · exact ⟨c, by omega, h4, h5, h6⟩
        · intro i hi
          rw [a3 i hi]
          dsimp only
          by_cases e : i = k
          · subst e
            rw [if_neg (fun h => by omega), if_neg (fun h => hc h.2)]
          · by_cases h3 : i < k ∧ fr.testBit i = true ∧ seen.testBit i = false
            · rw [if_pos h3, if_pos ⟨by omega, h3.2⟩]
            · rw [if_neg h3, if_neg (fun h => h3 ⟨by omega, h.2⟩)])
    (fun s _ => by
      obtain ⟨fu, t⟩ := s
      show AZ (n : Int) p (fr : Int) (seen : Int) (d : Int) ((fu : Int), (n : Int), t.1, t.2) = _
      unfold AZ
      simp only
      rw [if_neg (by omega)]) (0, t) ⟨(by decide : (0 : Nat) < 65536), fun a => by simp, fun i hi => by
      rw [hG i hi]
      dsimp only
      rw [if_neg (fun h => by omega)]⟩
  exact ⟨s.1, s.2, h2, h1.1, h1.2.1, h1.2.2⟩
theorem Rm {n : Nat} {l : Es} (ok : Ok (n : Int) l) {p : Jk} (hp : NI (fun i k => J l k i) p) {s : Nat} (hs : s < n) {t : Jk} {G : Nat → Int} (hG : OW t G) (hG0 : ∀ i, i < 16 → G i = if i = s then 0 else -1) {fr : Nat} (hf : fr < 65536) (hfb : ∀ a, fr.testBit a = true ↔ J l a s) :
    ∃ (t' : Jk) (G' : Nat → Int), An (Be (n : Int) p) ((fr : Int), ((0 ||| 2 ^ s : Nat) : Int), 0, t) = some t' ∧ OW t' G' ∧ ∀ a, a < 16 → (∀ d, Do n l s a d → G' a = (d : Int)) ∧ ((∀ d, ¬ Do n l s a d) → G' a = -1) := by
  have hn := ok.2.1
  have hd0 : ∀ c, Do n l s c 0 ↔ c = s := fun c => ⟨fun h => Fe.1 h.1, fun h => ⟨Fe.2 h, fun k hk => by omega⟩⟩
  obtain ⟨r, h1, h2⟩ := Cl n (fun (x : Nat × Nat × Jk) (k : Nat) => ((x.1 : Int), (x.2.1 : Int), (k : Int), x.2.2)) (Be (n : Int) p) (fun x => x.2.2)
    (fun x k => x.1 < 65536 ∧ x.2.1 < 65536 ∧ (∀ a, x.2.1.testBit a = true ↔ ∃ j, j ≤ k ∧ wk n l j a s = true) ∧ (∀ a, x.1.testBit a = true ↔ ∃ c, J l a c ∧ Do n l s c k) ∧ ∃ G, OW x.2.2 G ∧ ∀ a, a < 16 → (∀ d, d ≤ k → Do n l s a d → G a = (d : Int)) ∧ ((∀ d, d ≤ k → ¬ Do n l s a d) → G a = -1))
    (fun x k hk hI => by
      obtain ⟨fr, seen, t⟩ := x
      obtain ⟨a1, a2, a3, a4, G, a5, a6⟩ := hI
      dsimp only at a1 a2 a3 a4 a5
      obtain ⟨fu, t', b1, b2, b3, b4⟩ := RU ok hp a1 a2 (d := k) (by omega) a5
      have ho := Oj seen fr a2 a1
      have hnew : ∀ c, (c < n ∧ fr.testBit c = true ∧ seen.testBit c = false) ↔ Do n l s c (k + 1) := by
        intro c
        constructor
        · rintro ⟨_, h3, h4⟩
          obtain ⟨e, h5, h6⟩ := (a4 c).1 h3
          refine ⟨(Ev ok).2 ⟨e, h5, h6.1⟩, fun j hj => ?_⟩
          cases hb : wk n l j c s
          · rfl
          · rw [(a3 c).2 ⟨j, by omega, hb⟩] at h4; cases h4
        · intro h
          obtain ⟨e, h5, h6⟩ := IH ok h
          refine ⟨(J9 ok h5).1, (a4 c).2 ⟨e, h5, h6⟩, ?_⟩
          cases hb : seen.testBit c
          · rfl
          · obtain ⟨j, h7, h8⟩ := (a3 c).1 hb
            have := h.2 j (by omega)
            rw [h8] at this; cases this
      refine ⟨(fu, seen ||| fr, t'), ?_, b2, ho.2, fun a => ?_, fun a => ?_, _, b4, fun a ha => ⟨fun d hd hD => ?_, fun hD => ?_⟩⟩
      · show Be (n : Int) p ((fr : Int), (seen : Int), (k : Int), t.1, t.2) = _
        unfold Be
        dsimp only
        rw [if_pos (by omega)]
        show ((An (AZ (n : Int) p (fr : Int) (seen : Int) (k : Int)) (0, 0, t)).bind fun x => some x).bind (fun x => (some (Sum.inl (x.1, PV .u32 (seen : Int) (fr : Int), A7 ((k : Int) + 1), x.2)) : Option ((Int × Int × Int × Jk) ⊕ Jk))) = _
        rw [b1, Option.bind_some, Option.bind_some, ho.1, AL (by omega)]; rfl
      · try dsimp only
        rw [Nat.testBit_or, Bool.or_eq_true, a3 a, a4 a]
        constructor
        · rintro (⟨j, h3, h4⟩ | ⟨c, h3, h4⟩)
          · exact ⟨j, by omega, h4⟩
          · exact ⟨k + 1, Nat.le_refl _, (Ev ok).2 ⟨c, h3, h4.1⟩⟩
        · rintro ⟨j, h3, h4⟩
          by_cases e : j = k + 1
          · subst e
            obtain ⟨c, h5, h6⟩ := (Ev ok).1 h4
            obtain ⟨d, h7, h8⟩ := Mv h6
            by_cases e2 : d = k
            · subst e2; exact .inr ⟨c, h5, h8⟩
            · exact .inl ⟨d + 1, by omega, (Ev ok).2 ⟨c, h5, h8.1⟩⟩
          · exact .inl ⟨j, by omega, h4⟩
      · try dsimp only
        rw [b3 a]
        constructor
        · rintro ⟨c, h3, h4, h5, h6⟩
          exact ⟨c, h6, (hnew c).1 ⟨h3, h4, h5⟩⟩
        · rintro ⟨c, h3, h4⟩
          have := (hnew c).2 h4
          exact ⟨c, this.1, this.2.1, this.2.2, h3⟩
      · try dsimp only
        by_cases e : d = k + 1
        · subst e
          rw [if_pos ((hnew a).2 hD)]
        · rw [if_neg (fun h => e (N0 hD ((hnew a).1 h)))]
          exact (a6 a ha).1 d (by omega) hD
      · try dsimp only
        rw [if_neg (fun h => hD (k + 1) (Nat.le_refl _) ((hnew a).1 h))]
        exact (a6 a ha).2 fun d hd => hD d (by omega))
    (fun x _ => by
      obtain ⟨fr, seen, t⟩ := x
      show Be (n : Int) p ((fr : Int), (seen : Int), (n : Int), t.1, t.2) = _
      unfold Be
      dsimp only
      rw [if_neg (by omega)]) (fr, 0 ||| 2 ^ s, t) ⟨hf, (ME 0 s (by decide) (by omega)).2, fun a => by
        rw [NA, Nat.zero_testBit, Bool.false_or, decide_eq_true_eq]
        constructor
        · rintro rfl; exact ⟨0, Nat.le_refl _, Fe.2 rfl⟩
        · rintro ⟨j, h3, h4⟩
          obtain rfl : j = 0 := by omega
          exact (Fe.1 h4).symm, fun a => by
        rw [hfb]
        constructor
        · intro h; exact ⟨s, h, (hd0 s).2 rfl⟩
        · rintro ⟨c, h3, h4⟩
          rw [(hd0 c).1 h4] at h3; exact h3, G, hG, fun a ha => ⟨fun d hd hD => by
        obtain rfl : d = 0 := by omega
        rw [hG0 a ha, if_pos ((hd0 a).1 hD)]; rfl, fun h => by rw [hG0 a ha, if_neg (fun e => h 0 (Nat.le_refl _) ((hd0 a).2 e))]⟩⟩
  obtain ⟨_, _, _, _, G', g1, g2⟩ := h1
  refine ⟨r.2.2, G', h2, g1, fun a ha => ⟨fun d hD => (g2 a ha).1 d (by have := KP ok hs hD; omega) hD, fun h => (g2 a ha).2 fun d _ => h d⟩⟩
theorem MB {n : Nat} {l : Es} (ok : Ok (n : Int) l) {p : Jk} (hp : NI (fun i k => J l k i) p) {s : Nat} (hs : s < n) :
    ∃ (t : Jk) (G : Nat → Int), CU (n : Int) p (s : Int) = some t ∧ OW t G ∧ ∀ a, a < 16 → (∀ d, Do n l s a d → G a = (d : Int)) ∧ ((∀ d, ¬ Do n l s a d) → G a = -1) := by
  have hn := ok.2.1
  obtain ⟨t0, h1, h2⟩ := Se
  obtain ⟨m, m1, m2, m3⟩ := hp s (by omega)
  have hw := ME 0 s (by decide) (by omega)
  have h3 := O2 h2 s 0
  obtain ⟨t, G, g1, g2, g3⟩ := Rm ok hp hs h3 (fun i _ => rfl) m1 (fun a => ⟨fun h => (m3 a (Q8 m1 h)).1 h, fun h => (m3 a (by have := J9 ok h; omega)).2 h⟩)
  refine ⟨t, G, ?_, g2, g3⟩
  unfold CU
  rw [h1, Option.bind_some]
  have e1 : ix (JH t0) (s : Int) = some (-1) := h2 s (by omega)
  have e2 : BQ 0 (s : Int) = some ((0 ||| 2 ^ s : Nat) : Int) := hw.1
  show (ix (JH t0) (s : Int)).bind (fun _ => (ix (JH p) (s : Int)).bind fun x36 => (BQ 0 (s : Int)).bind fun x37 => (An (Be (n : Int) p) (x36, x37, 0, S2 t0 (s : Int) 0)).bind fun x => some x) = _
  rw [e1, Option.bind_some, m2, Option.bind_some, e2, Option.bind_some, g1]; rfl
def nxF (n : Nat) (l : Es) (s a d : Nat) : Option Nat := (List.range n).find? (fun i => decide (J l a i ∧ Do n l s i d))
def Pt (n : Nat) (l : Es) (s a d : Nat) : Nat := (nxF n l s a d).getD 0
theorem QG {n : Nat} {q : Nat → Bool} {i : Nat} (hi : i < n) (h1 : q i = true) (h2 : ∀ k, k < i → q k = false) : (List.range n).find? q = some i := by
  have key : ∀ (d a : Nat), a + d = n → a ≤ i → (List.range' a d).find? q = some i := by
    intro d
    induction d with
    | zero => intro a h3 h4; omega
    | succ d ih =>
      intro a h3 h4
      rw [List.range'_succ, List.find?_cons]
      by_cases e : a = i
      · subst e; rw [h1]
      · rw [h2 a (by omega)]
        exact ih (a + 1) (by omega) (by omega)
  rw [List.range_eq_range']
  exact key n 0 (by omega) (by omega)
theorem P8 {n : Nat} {l : Es} {s a d i : Nat} (hi : i < n) (h1 : J l a i ∧ Do n l s i d) (h2 : ∀ k, k < i → ¬ (J l a k ∧ Do n l s k d)) : Pt n l s a d = i := by
  unfold Pt nxF
  rw [QG hi (decide_eq_true h1) (fun k hk => decide_eq_false (h2 k hk))]; rfl
theorem JN {n : Nat} {l : Es} (ok : Ok (n : Int) l) {s a d : Nat} (h : ∃ i, J l a i ∧ Do n l s i d) : J l a (Pt n l s a d) ∧ Do n l s (Pt n l s a d) d ∧ ∀ k, k < Pt n l s a d → ¬ (J l a k ∧ Do n l s k d) := by
  have key : ∀ m, (∃ i, i ≤ m ∧ J l a i ∧ Do n l s i d) → ∃ i, (J l a i ∧ Do n l s i d) ∧ ∀ k, k < i → ¬ (J l a k ∧ Do n l s k d) := by
    intro m
    induction m using Nat.strongRecOn with
    | _ m ih =>
      rintro ⟨i, h1, h2⟩
      by_cases hx : ∃ k, k < i ∧ J l a k ∧ Do n l s k d
      · obtain ⟨k, h3, h4⟩ := hx
        exact ih k (by omega) ⟨k, Nat.le_refl _, h4⟩
      · exact ⟨i, h2, fun k hk h => hx ⟨k, hk, h⟩⟩
  obtain ⟨i0, hi0⟩ := h
  obtain ⟨i, h1, h2⟩ := key i0 ⟨i0, Nat.le_refl _, hi0⟩
  rw [P8 (J9 ok h1.1).2 h1 h2]
  exact ⟨h1.1, h1.2, h2⟩
def Ny (n : Nat) (l : Es) (s : Nat) : Nat → Nat → List Int
  | 0, _ => []
  | d + 1, a => (a : Int) :: Ny n l s d (Pt n l s a d)
theorem Ph {n : Nat} {l : Es} (ok : Ok (n : Int) l) {a m : Nat} (hm : m < 65536) (hmb : ∀ k, k < 16 → (m.testBit k = true ↔ J l a k)) {t : Jk} {G : Nat → Int} (hG : OW t G) :
    ∃ r, CF (n : Int) (m : Int) t = some r ∧ ((r = -1 ∧ ∀ i, i < n → J l a i → G i < 0) ∨ ∃ i : Nat, i < n ∧ r = (i : Int) ∧ J l a i ∧ 0 ≤ G i ∧ (∀ k, k < n → J l a k → 0 ≤ G k → G i ≤ G k) ∧ ∀ k, k < i → J l a k → 0 ≤ G k → G i < G k) := by
  have hn := ok.2.1
  obtain ⟨r, h1, h2⟩ := Cl n (fun (b : Int) (k : Nat) => (b, (k : Int))) (Bl (n : Int) (m : Int) t) id
    (fun b j => (b = -1 ∧ ∀ i, i < j → J l a i → G i < 0) ∨ ∃ i : Nat, i < j ∧ b = (i : Int) ∧ J l a i ∧ 0 ≤ G i ∧ (∀ k, k < j → J l a k → 0 ≤ G k → G i ≤ G k) ∧ ∀ k, k < i → J l a k → 0 ≤ G k → G i < G k)
    (fun b j hj hI => by
      have hgj : ix ([t.1, t.2.1, t.2.2.1, t.2.2.2.1, t.2.2.2.2.1, t.2.2.2.2.2.1, t.2.2.2.2.2.2.1, t.2.2.2.2.2.2.2.1, t.2.2.2.2.2.2.2.2.1, t.2.2.2.2.2.2.2.2.2.1, t.2.2.2.2.2.2.2.2.2.2.1, t.2.2.2.2.2.2.2.2.2.2.2.1, t.2.2.2.2.2.2.2.2.2.2.2.2.1, t.2.2.2.2.2.2.2.2.2.2.2.2.2.1, t.2.2.2.2.2.2.2.2.2.2.2.2.2.2.1, t.2.2.2.2.2.2.2.2.2.2.2.2.2.2.2] : List Int) (j : Int) = some (G j) := hG j (by omega)
      by_cases hJ : J l a j ∧ 0 ≤ G j
      · have hb : m.testBit j = true := (hmb j (by omega)).2 hJ.1
        rcases hI with ⟨rfl, h3⟩ | ⟨i, h3, rfl, h4, h5, h6, h7⟩
        · refine ⟨(j : Int), ?_, .inr ⟨j, by omega, rfl, hJ.1, hJ.2, fun k hk hjk hgk => ?_, fun k hk hjk hgk => ?_⟩⟩
          · rw [Bl, if_pos (by omega), I6 m j hm (by omega), hb, Option.bind_some, if_pos rfl, hgj, Option.bind_some, if_pos hJ.2, if_pos (by omega), AL (by omega)]; rfl
          · by_cases e : k = j
            · subst e; exact Int.le_refl _
            · have := h3 k (by omega) hjk; omega
          · have := h3 k (by omega) hjk; omega
        · have hgi : ix ([t.1, t.2.1, t.2.2.1, t.2.2.2.1, t.2.2.2.2.1, t.2.2.2.2.2.1, t.2.2.2.2.2.2.1, t.2.2.2.2.2.2.2.1, t.2.2.2.2.2.2.2.2.1, t.2.2.2.2.2.2.2.2.2.1, t.2.2.2.2.2.2.2.2.2.2.1, t.2.2.2.2.2.2.2.2.2.2.2.1, t.2.2.2.2.2.2.2.2.2.2.2.2.1, t.2.2.2.2.2.2.2.2.2.2.2.2.2.1, t.2.2.2.2.2.2.2.2.2.2.2.2.2.2.1, t.2.2.2.2.2.2.2.2.2.2.2.2.2.2.2] : List Int) (i : Int) = some (G i) := hG i (by omega)
          have hst : Bl (n : Int) (m : Int) t ((i : Int), (j : Int)) = some (.inl (if G j < G i then (j : Int) else (i : Int), ((j + 1 : Nat) : Int))) := by
            rw [Bl, if_pos (by omega), I6 m j hm (by omega), hb, Option.bind_some, if_pos rfl, hgj, Option.bind_some, if_pos hJ.2, if_neg (by omega), hgi, Option.bind_some, Option.bind_some, Option.bind_some, AL (by omega)]
            by_cases h : G j < G i
            · rw [decide_eq_true h, if_pos h]; rfl
            · rw [decide_eq_false h, if_neg h]; rfl
          by_cases h : G j < G i
          · rw [if_pos h] at hst
            refine ⟨_, hst, .inr ⟨j, by omega, rfl, hJ.1, hJ.2, fun k hk hjk hgk => ?_, fun k hk hjk hgk => ?_⟩⟩
            · by_cases e : k = j
              · subst e; exact Int.le_refl _
              · have := h6 k (by omega) hjk hgk; omega
            · have := h6 k (by omega) hjk hgk; omega
          · rw [if_neg h] at hst
            refine ⟨_, hst, .inr ⟨i, by omega, rfl, h4, h5, fun k hk hjk hgk => ?_, h7⟩⟩
            by_cases e : k = j
            · subst e; omega
            · exact h6 k (by omega) hjk hgk
      · have hst : Bl (n : Int) (m : Int) t (b, (j : Int)) = some (.inl (b, ((j + 1 : Nat) : Int))) := by
          rw [Bl, if_pos (by omega), I6 m j hm (by omega), AL (by omega), Option.bind_some]
          by_cases hj2 : J l a j
          · rw [(hmb j (by omega)).2 hj2, if_pos rfl, hgj, Option.bind_some, if_neg (fun h => hJ ⟨hj2, h⟩)]; rfl
          · have hb0 : m.testBit j = false := by
              cases hx : m.testBit j
              · rfl
              · exact absurd ((hmb j (by omega)).1 hx) hj2
            rw [hb0]; rfl
        refine ⟨b, hst, ?_⟩
        rcases hI with ⟨h0, h3⟩ | ⟨i, h3, h0, h4, h5, h6, h7⟩
        · refine .inl ⟨h0, fun k hk hjk => ?_⟩
          by_cases e : k = j
          · subst e
            exact Int.not_le.1 fun h => hJ ⟨hjk, h⟩
          · exact h3 k (by omega) hjk
        · refine .inr ⟨i, by omega, h0, h4, h5, fun k hk hjk hgk => ?_, h7⟩
          by_cases e : k = j
          · subst e; exact absurd ⟨hjk, hgk⟩ hJ
          · exact h6 k (by omega) hjk hgk)
    (fun b _ => by rw [Bl, if_neg (by omega)]; rfl) (-1) (.inl ⟨rfl, fun _ h => by omega⟩)
  refine ⟨r, ?_, h1⟩
  unfold CF
  have e : An (Bl (n : Int) (m : Int) t) (-1, 0) = some r := h2
  rw [e]; rfl
abbrev Uf (n : Nat) (l : Es) (s : Nat) (G : Nat → Int) : Prop := ∀ a, a < 16 → (∀ d, Do n l s a d → G a = (d : Int)) ∧ ((∀ d, ¬ Do n l s a d) → G a = -1)
theorem OG {n : Nat} {l : Es} (ok : Ok (n : Int) l) {s a m : Nat} (hm : m < 65536) (hmb : ∀ k, k < 16 → (m.testBit k = true ↔ J l a k)) {t : Jk} {G : Nat → Int} (hG : OW t G) (hT : Uf n l s G) {d : Nat} (h1 : ∃ i, J l a i ∧ Do n l s i d) (h2 : ∀ i e, J l a i → Do n l s i e → d ≤ e) : CF (n : Int) (m : Int) t = some (Pt n l s a d : Int) := by
  have hn := ok.2.1
  obtain ⟨r, h3, h4⟩ := Ph ok hm hmb hG
  obtain ⟨i0, hi1, hi2⟩ := h1
  have hlt := (J9 ok hi1).2
  have hg0 := (hT i0 (by omega)).1 d hi2
  rw [h3]
  rcases h4 with ⟨_, h5⟩ | ⟨i, h5, rfl, h6, h7, h8, h9⟩
  · have := h5 i0 hlt hi1; omega
  · have hle := h8 i0 hlt hi1 (by omega)
    have hdi : Do n l s i d := by
      by_cases hx : ∃ e, Do n l s i e
      · obtain ⟨e, he⟩ := hx
        have hge := (hT i (by omega)).1 e he
        have := h2 i e h6 he
        obtain rfl : e = d := by omega
        exact he
      · have := (hT i (by omega)).2 fun e he => hx ⟨e, he⟩
        omega
    have hgi := (hT i (by omega)).1 d hdi
    rw [P8 h5 ⟨h6, hdi⟩ fun k hk ⟨q1, q2⟩ => by
      have hk2 := (J9 ok q1).2
      have := (hT k (by omega)).1 d q2
      have := h9 k hk q1 (by omega)
      omega]
theorem Rl {n : Nat} {l : Es} (ok : Ok (n : Int) l) {s : Nat} {x2 : Jk} (hx : NI (fun i k => J l i k) x2) {t : Jk} {G : Nat → Int} (hG : OW t G) (hT : Uf n l s G) : ∀ (d a : Nat) (o : List Int), Do n l s a d → a < n → o.length + d ≤ 1000 → An (Dw (n : Int) x2 (s : Int) t) (o, (a : Int)) = some (o ++ Ny n l s d a) := by
  have hn := ok.2.1
  intro d
  induction d with
  | zero =>
    intro a o hD _ _
    have : a = s := Fe.1 hD.1
    subst this
    exact Bv (by rw [Dw, if_neg (by simp)]; simp [Ny])
  | succ d ih =>
    intro a o hD ha ho
    have hne : a ≠ s := fun e => by
      have := hD.2 0 (by omega)
      rw [Fe.2 e] at this; cases this
    obtain ⟨m, m1, m2, m3⟩ := hx a (by omega)
    have m2' : ix ([x2.1, x2.2.1, x2.2.2.1, x2.2.2.2.1, x2.2.2.2.2.1, x2.2.2.2.2.2.1, x2.2.2.2.2.2.2.1, x2.2.2.2.2.2.2.2.1, x2.2.2.2.2.2.2.2.2.1, x2.2.2.2.2.2.2.2.2.2.1, x2.2.2.2.2.2.2.2.2.2.2.1, x2.2.2.2.2.2.2.2.2.2.2.2.1, x2.2.2.2.2.2.2.2.2.2.2.2.2.1, x2.2.2.2.2.2.2.2.2.2.2.2.2.2.1, x2.2.2.2.2.2.2.2.2.2.2.2.2.2.2.1, x2.2.2.2.2.2.2.2.2.2.2.2.2.2.2.2] : List Int) (a : Int) = some (m : Int) := m2
    have hnx := IH ok hD
    have hns := JN ok hnx
    have hnr := OG ok m1 m3 hG hT hnx (fun i e h1 h2 => by
      refine Nat.le_of_not_lt fun hlt => ?_
      have := hD.2 (e + 1) (by omega)
      rw [(Ev ok).2 ⟨i, h1, h2.1⟩] at this; cases this)
    refine (B6 (s' := (o ++ [(a : Int)], (Pt n l s a d : Int))) ?_).trans ?_
    · rw [Dw, if_pos (by omega), Du (by simp; omega), Option.bind_some, m2', Option.bind_some, hnr]; rfl
    · rw [ih _ (o ++ [(a : Int)]) hns.2.1 (J9 ok hns.1).2 (by simp; omega)]
      simp [Ny]
theorem JI (n : Nat) (l : Es) (a b : Nat) : (wy n l a b = 0 ∧ ∀ k, 1 ≤ k → k ≤ n → wk n l k a b = false) ∨ ∃ k : Nat, 1 ≤ k ∧ k ≤ n ∧ wy n l a b = (k : Int) ∧ wk n l k a b = true ∧ ∀ j, 1 ≤ j → j < k → wk n l j a b = false := by
  have key : ∀ (d c : Nat), (((List.range' c d).findSome? (fun k => if wk n l k a b then some (k : Int) else none) = none) ∧ ∀ k, c ≤ k → k < c + d → wk n l k a b = false) ∨ ∃ k : Nat, c ≤ k ∧ k < c + d ∧ (List.range' c d).findSome? (fun k => if wk n l k a b then some (k : Int) else none) = some (k : Int) ∧ wk n l k a b = true ∧ ∀ j, c ≤ j → j < k → wk n l j a b = false := by
    intro d
    induction d with
    | zero => exact fun c => .inl ⟨rfl, fun k h1 h2 => by omega⟩
    | succ d ih =>
      intro c
      rw [List.range'_succ, List.findSome?_cons]
      cases hb : wk n l c a b
      · rw [if_neg Bool.false_ne_true]
        rcases ih (c + 1) with ⟨h1, h2⟩ | ⟨k, h1, h2, h3, h4, h5⟩
        · refine .inl ⟨h1, fun k h3 h4 => ?_⟩
          by_cases e : k = c
          · rw [e]; exact hb
          · exact h2 k (by omega) (by omega)
        · refine .inr ⟨k, by omega, by omega, h3, h4, fun j h6 h7 => ?_⟩
          by_cases e : j = c
          · rw [e]; exact hb
          · exact h5 j (by omega) h7
      · rw [if_pos rfl]
        exact .inr ⟨c, Nat.le_refl _, by omega, rfl, hb, fun j h1 h2 => by omega⟩
  unfold wy
  rcases key n 1 with ⟨h1, h2⟩ | ⟨k, h1, h2, h3, h4, h5⟩
  · rw [h1]; exact .inl ⟨rfl, fun k h3 h4 => h2 k h3 (by omega)⟩
  · rw [h3]; exact .inr ⟨k, h1, by omega, rfl, h4, h5⟩
theorem NK {n : Nat} {l : Es} (ok : Ok (n : Int) l) {s c : Nat} (hc : 1 ≤ c) (h : wk n l c s s = true) (hm : ∀ j, 1 ≤ j → j < c → wk n l j s s = false) : (∃ i, J l s i ∧ Do n l s i (c - 1)) ∧ ∀ i e, J l s i → Do n l s i e → c - 1 ≤ e := by
  have h2 : ∀ i e, J l s i → Do n l s i e → c - 1 ≤ e := by
    intro i e h3 h4
    refine Nat.le_of_not_lt fun hlt => ?_
    have := hm (e + 1) (by omega) (by omega)
    rw [(Ev ok).2 ⟨i, h3, h4.1⟩] at this; cases this
  refine ⟨?_, h2⟩
  obtain ⟨c', rfl⟩ : ∃ c', c = c' + 1 := ⟨c - 1, by omega⟩
  obtain ⟨i, h3, h4⟩ := (Ev ok).1 h
  obtain ⟨e, h5, h6⟩ := Mv h4
  have := h2 i e h3 h6
  obtain rfl : e = c' := by omega
  exact ⟨i, h3, h6⟩
theorem R7 {n : Nat} {l : Es} (ok : Ok (n : Int) l) {s c : Nat} (hs : s < n) (hm : ∀ j, 1 ≤ j → j < c → wk n l j s s = false) {i d : Nat} (hd : 1 ≤ d) (hdc : d < c) : wy n l i s = (d : Int) ↔ Do n l s i d := by
  rcases JI n l i s with ⟨h1, h2⟩ | ⟨k, h1, h2, h3, h4, h5⟩
  · constructor
    · intro h; omega
    · intro h
      have := h2 d hd (by have := KP ok hs h; omega)
      rw [h.1] at this; cases this
  · rw [h3]
    constructor
    · intro h
      obtain rfl : k = d := by omega
      refine ⟨h4, fun j hj => ?_⟩
      by_cases e : j = 0
      · subst e
        cases hb : wk n l 0 i s
        · rfl
        · have := Fe.1 hb
          subst this
          have := hm k hd hdc
          rw [h4] at this; cases this
      · exact h5 j (by omega) hj
    · intro h
      by_cases e : k = d
      · rw [e]
      · by_cases h6 : k < d
        · have := h.2 k h6
          rw [h4] at this; cases this
        · have := h5 d hd (by omega)
          rw [h.1] at this; cases this
theorem QA {n : Nat} {l : Es} (ok : Ok (n : Int) l) (hl : l.length ≤ 1000000000) {s c : Nat} (hs : s < n) (hm : ∀ j, 1 ≤ j → j < c → wk n l j s s = false) {o : List Int} {a : Nat} (ho : o.length ≤ 1000) {d : Nat} (hd : 1 ≤ d) (hdc : d < c) (hdn : d ≤ n) (hx : ∃ i, J l a i ∧ Do n l s i d) : An (Ec (n : Int) l (s : Int) ((d + 1 : Nat) : Int) (o ++ [(a : Int)])) (-1, A7 ((n : Int) - 1)) = some (Pt n l s a d : Int) := by
  have hn := ok.2.1
  obtain ⟨g1, g2, g3⟩ := JN ok hx
  have hlt := (J9 ok g1).2
  generalize Pt n l s a d = i at *
  have hlast : ix (o ++ [(a : Int)]) (A7 (((o ++ [(a : Int)]).length : Int) - 1)) = some (a : Int) := by
    rw [List.length_append, List.length_singleton, AL (by omega), show ((o.length + 1 : Nat) : Int) - 1 = (o.length : Int) by omega]
    exact AV (by rw [List.getElem?_append_right (Nat.le_refl _), Nat.sub_self]; rfl)
  have hst : ∀ (b : Int) (k : Nat), k < n → Ec (n : Int) l (s : Int) ((d + 1 : Nat) : Int) (o ++ [(a : Int)]) (b, (k : Int)) = some (.inl (if J l a k ∧ Do n l s k d then (k : Int) else b, (k : Int) - 1)) := by
    intro b k hk
    rw [Ec, if_pos (by omega), hlast, Option.bind_some, Nx _ _ _ hl, Option.bind_some, OL ok hl, AL (x := (k : Int) - 1) (by omega), AL (x := ((d + 1 : Nat) : Int) - 1) (by omega), show ((d + 1 : Nat) : Int) - 1 = (d : Int) by omega]
    have hwd := R7 ok hs hm (i := k) hd hdc
    by_cases c1 : J l a k
    · rw [decide_eq_true c1, if_pos rfl, Option.bind_some]
      by_cases c2 : Do n l s k d
      · rw [decide_eq_true (hwd.2 c2), if_pos ⟨c1, c2⟩]; rfl
      · rw [decide_eq_false (fun h => c2 (hwd.1 h)), if_neg (fun h => c2 h.2)]; rfl
    · rw [decide_eq_false c1, if_neg Bool.false_ne_true, if_neg (fun h => c1 h.1)]; rfl
  have low : ∀ k : Nat, k ≤ i → An (Ec (n : Int) l (s : Int) ((d + 1 : Nat) : Int) (o ++ [(a : Int)])) ((i : Int), (k : Int) - 1) = some (i : Int) := by
    intro k
    induction k with
    | zero => intro _; exact Bv (by rw [Ec, if_neg (by omega)])
    | succ k ih =>
      intro hk
      refine (B6 ?_).trans (ih (by omega))
      rw [show ((k + 1 : Nat) : Int) - 1 = (k : Int) by omega, hst _ k (by omega), if_neg (g3 k (by omega))]
  have high : ∀ (e k : Nat) (b : Int), i + 1 + e = k → k ≤ n → An (Ec (n : Int) l (s : Int) ((d + 1 : Nat) : Int) (o ++ [(a : Int)])) (b, (k : Int) - 1) = some (i : Int) := by
    intro e
    induction e with
    | zero =>
      intro k b hk hkn
      refine (B6 ?_).trans (low i (Nat.le_refl _))
      rw [show (k : Int) - 1 = (i : Int) by omega, hst _ i hlt, if_pos ⟨g1, g2⟩]
    | succ e ih =>
      intro k b hk hkn
      obtain ⟨k', rfl⟩ : ∃ k', k = k' + 1 := ⟨k - 1, by omega⟩
      refine (B6 ?_).trans (ih k' (if J l a k' ∧ Do n l s k' d then (k' : Int) else b) (by omega) (by omega))
      rw [show ((k' + 1 : Nat) : Int) - 1 = (k' : Int) by omega, hst _ k' (by omega)]
  rw [AL (by omega)]
  exact high (n - 1 - i) n (-1) (by omega) (Nat.le_refl _)
theorem QX {n : Nat} {l : Es} (ok : Ok (n : Int) l) (hl : l.length ≤ 1000000000) {s c : Nat} (hs : s < n) (hm : ∀ j, 1 ≤ j → j < c → wk n l j s s = false) : ∀ (d a : Nat) (o : List Int), (∃ i, J l a i ∧ Do n l s i d) → d + 1 ≤ c → d < n → o.length + d ≤ 900 → An (FJ (n : Int) l (s : Int)) (((d + 1 : Nat) : Int), o ++ [(a : Int)]) = some (o ++ [(a : Int)] ++ Ny n l s d (Pt n l s a d)) := by
  have hn := ok.2.1
  intro d
  induction d with
  | zero =>
    intro a o _ _ _ _
    exact Bv (by rw [FJ, if_neg (by omega)]; simp [Ny])
  | succ d ih =>
    intro a o hx hc hdn ho
    have hns := JN ok hx
    have := ih (Pt n l s a (d + 1)) (o ++ [(a : Int)]) (IH ok hns.2.1) (by omega) (by omega) (by simp; omega)
    refine (B6 ?_).trans (this.trans ?_)
    · rw [FJ, if_pos (by omega), QA ok hl hs hm (o := o) (a := a) (by omega) (d := d + 1) (by omega) (by omega) (by omega) hx, Option.bind_some, Du (by simp; omega), Option.bind_some, AL (by omega)]
      rw [show ((d + 1 + 1 : Nat) : Int) - 1 = ((d + 1 : Nat) : Int) by omega]
    · simp [Ny]
def IW (n : Nat) (l : Es) (s : Nat) : Option (List Int) := if wy n l s s = 0 then none else some ((s : Int) :: Ny n l s ((wy n l s s).toNat - 1) (Pt n l s s ((wy n l s s).toNat - 1)))
def Ls (n : Nat) (l : Es) : List Int := match (List.range n).findSome? (IW n l) with | some o => o | none => []
theorem QE {n : Nat} {l : Es} (ok : Ok (n : Int) l) (hl : l.length ≤ 1000000000) : In (n : Int) l = some (Ls n l) := by
  have hn := ok.2.1
  unfold In
  rw [LY _ _ hl, decide_eq_true ok, Option.bind_some, if_neg (by decide), LE n _ (IW n l) (fun s hs => by
    unfold Im
    rw [if_pos (by omega), OL ok hl, Option.bind_some, AL (by omega)]
    unfold IW
    rcases JI n l s s with ⟨h1, h2⟩ | ⟨k, h1, h2, h3, h4, h5⟩
    · rw [if_pos h1, if_pos h1]; rfl
    · rw [if_neg (by omega), if_neg (by omega), h3, Int.toNat_natCast]
      obtain ⟨d, rfl⟩ : ∃ d, k = d + 1 := ⟨k - 1, by omega⟩
      have := QX ok hl hs h5 d s [] (NK ok h1 h4 h5).1 (Nat.le_refl _) (by omega) (by simp; omega)
      have e : An (FJ (n : Int) l (s : Int)) (((d + 1 : Nat) : Int), [(s : Int)]) = _ := this
      rw [e]; rfl) (by unfold Im; rw [if_neg (by omega)])]
  unfold EZ Ls
  cases (List.range n).findSome? (IW n l) <;> rfl
theorem N5 {n : Nat} {l : Es} (ok : Ok (n : Int) l) (hl : l.length ≤ 1000000000) : Da (n : Int) l = some (Ls n l) := by
  have hn := ok.2.1
  obtain ⟨x2, e1, hx2⟩ := Ru l n ok hl
  obtain ⟨p, e2, hp⟩ := RE l n ok hl
  unfold Da
  rw [NV _ _ hl, decide_eq_true ok, Option.bind_some, if_neg (by decide), e1, Option.bind_some, LE n _ (IW n l) (fun s hs => by
    unfold D1
    obtain ⟨t, G, f1, hG, hT⟩ := MB ok hp hs
    obtain ⟨m, m1, m2, m3⟩ := hx2 s (by omega)
    have m2' : ix ([x2.1, x2.2.1, x2.2.2.1, x2.2.2.2.1, x2.2.2.2.2.1, x2.2.2.2.2.2.1, x2.2.2.2.2.2.2.1, x2.2.2.2.2.2.2.2.1, x2.2.2.2.2.2.2.2.2.1, x2.2.2.2.2.2.2.2.2.2.1, x2.2.2.2.2.2.2.2.2.2.2.1, x2.2.2.2.2.2.2.2.2.2.2.2.1, x2.2.2.2.2.2.2.2.2.2.2.2.2.1, x2.2.2.2.2.2.2.2.2.2.2.2.2.2.1, x2.2.2.2.2.2.2.2.2.2.2.2.2.2.2.1, x2.2.2.2.2.2.2.2.2.2.2.2.2.2.2.2] : List Int) (s : Int) = some (m : Int) := m2
    rw [if_pos (by omega), e2, Option.bind_some, f1, Option.bind_some, m2', Option.bind_some, AL (by omega)]
    unfold IW
    rcases JI n l s s with ⟨h1, h2⟩ | ⟨k, h1, h2, h3, h4, h5⟩
    · rw [if_pos h1]
      obtain ⟨r, r1, r2⟩ := Ph ok m1 m3 hG
      have hr : r < 0 := by
        rcases r2 with ⟨h, _⟩ | ⟨i, h6, rfl, h7, h8, _⟩
        · omega
        · exfalso
          by_cases hx : ∃ e, Do n l s i e
          · obtain ⟨e, he⟩ := hx
            have := h2 (e + 1) (by omega) (by have := KP ok hs he; omega)
            rw [(Ev ok).2 ⟨i, h7, he.1⟩] at this; cases this
          · have := (hT i (by omega)).2 fun e he => hx ⟨e, he⟩
            omega
      rw [r1, Option.bind_some, if_pos hr]; rfl
    · rw [if_neg (by omega), h3, Int.toNat_natCast]
      obtain ⟨c1, c2⟩ := NK ok h1 h4 h5
      have hns := JN ok c1
      rw [OG ok m1 m3 hG hT c1 c2, Option.bind_some, if_neg (by omega)]
      have := Rl ok hx2 hG hT (k - 1) _ [(s : Int)] hns.2.1 (J9 ok hns.1).2 (by simp; omega)
      rw [this]; rfl) (by unfold D1; rw [if_neg (by omega)])]
  unfold EZ Ls
  cases (List.range n).findSome? (IW n l) <;> rfl
theorem QQ {n : Int} {l : Es} (ok : ¬ Ok n l) (hl : l.length ≤ 1000000000) : Da n l = some [] ∧ In n l = some [] := by
  unfold Da In
  rw [NV _ _ hl, LY _ _ hl, decide_eq_false ok]
  exact ⟨rfl, rfl⟩
end Go.Proofs.Ythhoflfhegfmcaa
