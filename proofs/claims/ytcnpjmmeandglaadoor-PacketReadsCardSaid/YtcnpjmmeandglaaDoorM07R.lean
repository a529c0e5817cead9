/- Layer 7: any bytes and any text. Conditions: none. -/
import Derived.Test.YtcnpjmmeandglaaDoorM07B
namespace Go.Proofs.YtcnpjmmeandglaaDoor
set_option linter.unusedVariables false
set_option linter.unusedSimpArgs false
open Go Go.RowKit
/-! ### Parsing any text -/
theorem parse_none {s : List UInt8} (hs : s.length ≤ 1000) (hno : ¬ ∃ p : P4, Ok4 p ∧ textV p = s) : packet_Parse s = some ((0, 0, 0, 0), 10) := by
  obtain ⟨e, h1, h2⟩ := loopW_ex (step := packet_Parse_l1) (fun st => ∃ (t : List UInt8) (k : Nat) (a b c d : Int), t.length ≤ 1000 ∧ k ≤ 4 ∧ st = (t, (k : Int), a, b, c, d)) (fun st => 4 - st.2.1.toNat)
    (fun e => e = .inr ((0, 0, 0, 0), 10) ∨ ∃ P : P4, e = .inl P)
    (by
      rintro st ⟨t, k, a, b, c, d, ht, hk, rfl⟩
      by_cases hk4 : k < 4
      · have hl := cut_len t (packet_separator (k : Int))
        obtain ⟨r, hr⟩ := atoiP_ex (s := (Lib.cut t (packet_separator (k : Int))).1) (by omega)
        rw [packet_Parse_l1, if_pos (by omega), cutP_is (by omega), Option.bind_some, hr, Option.bind_some]
        cases r with
        | inl v =>
          left
          refine ⟨_, by simp only [altS]; rw [ix4 (a, b, c, d) hk4, Option.bind_some, w64_id (by omega)]; rfl, ⟨_, k + 1, _, _, _, _, by omega, by omega, rfl⟩, ?_⟩
          simp only; omega
        | inr v => right; exact ⟨_, rfl, .inl rfl⟩
      · right
        obtain rfl : k = 4 := by omega
        rw [packet_Parse_l1, if_neg (by decide)]
        exact ⟨_, rfl, .inr ⟨(a, b, c, d), rfl⟩⟩)
    (s, 0, 0, 0, 0, 0) ⟨s, 0, 0, 0, 0, 0, hs, by omega, rfl⟩
  unfold packet_Parse
  rw [h1]
  rcases h2 with rfl | ⟨P, rfl⟩
  · rfl
  · simp only [orR, Option.bind_some]
    show ((packet_Right P).bind _).bind _ = _
    rw [right_eq, Option.bind_some]
    by_cases h : Ok4 P
    · rw [decide_eq_true h, if_neg (by decide)]
      show ((packet_Text P).bind _).bind _ = _
      rw [(text_eq (ok_i4 h)).1, Option.bind_some, decide_eq_true (show textV P ≠ s from fun e => hno ⟨P, h, e⟩)]; rfl
    · rw [decide_eq_false h]; rfl
theorem num_step {s : List UInt8} {j n k : Nat} {b : UInt8} (hk : k < 3) (hn : n ≤ 1000) (hj : j ≤ 1000) (hb : s[j]? = some b) (hd : 48 ≤ b.toNat ∧ b.toNat ≤ 57) : r07_Number_l1 s ((j : Int), (n : Int), (k : Int)) = some (.inl (((j + 1 : Nat) : Int), ((10 * n + (b.toNat - 48) : Nat) : Int), ((k + 1 : Nat) : Int))) := by
  have hl := (List.getElem?_eq_some_iff.1 hb).1
  rw [r07_Number_l1, if_pos (by omega), if_pos (by omega), ix_nat hb]
  simp only [Option.bind_some]
  rw [if_pos (by omega), decide_eq_true (by omega)]
  simp only [Option.bind_some]
  rw [if_pos trivial, w64_id (x := (j : Int) + 1) (by omega), w64_id (x := 10 * (n : Int)) (by omega), w64_id (x := (b.toNat : Int)) (by omega), w64_id (x := 10 * (n : Int) + (b.toNat : Int)) (by omega), w64_id (x := 10 * (n : Int) + (b.toNat : Int) - 48) (by omega), w64_id (x := (k : Int) + 1) (by omega)]
  congr 3
  · congr 1; omega
theorem num_stop {s : List UInt8} {j n k : Nat} (h : 3 ≤ k ∨ s.length ≤ j ∨ ∃ b, s[j]? = some b ∧ (b.toNat < 48 ∨ 57 < b.toNat)) : r07_Number_l1 s ((j : Int), (n : Int), (k : Int)) = some (.inr ((j : Int), (n : Int))) := by
  rw [r07_Number_l1]
  by_cases hk : k < 3
  · rw [if_pos (by omega)]
    by_cases hj : j < s.length
    · rw [if_pos (by omega), ix_nat (List.getElem?_eq_getElem hj)]
      simp only [Option.bind_some]
      rcases h with h | h | ⟨b, hb, h⟩
      · omega
      · omega
      · rw [List.getElem?_eq_getElem hj] at hb
        cases hb
        by_cases c : 48 ≤ (s[j].toNat : Int)
        · rw [if_pos c, decide_eq_false (by omega)]; rfl
        · rw [if_neg c]; rfl
    · rw [if_neg (by omega)]; rfl
  · rw [if_neg (by omega)]; rfl
theorem num_any {s : List UInt8} {j : Nat} (hj : j ≤ 500) : ∃ n j' : Nat, j' ≤ j + 3 ∧ r07_Number s (j : Int) = some ((n : Int), (j' : Int)) := by
  obtain ⟨e, h1, n, j', h2, h3⟩ := loopW_ex (step := r07_Number_l1 s) (fun st => ∃ i n k : Nat, k ≤ 3 ∧ i ≤ j + k ∧ n < 10 ^ k ∧ st = ((i : Int), (n : Int), (k : Int))) (fun st => 3 - st.2.2.toNat) (fun e => ∃ n i : Nat, i ≤ j + 3 ∧ e = ((i : Int), (n : Int)))
    (by
      rintro st ⟨i, n, k, hk, hi, hn, rfl⟩
      have hn3 : n < 1000 := Nat.lt_of_lt_of_le hn (Nat.pow_le_pow_right (n := 10) (by decide) hk)
      by_cases hs : 3 ≤ k ∨ s.length ≤ i ∨ ∃ b, s[i]? = some b ∧ (b.toNat < 48 ∨ 57 < b.toNat)
      · right; exact ⟨_, num_stop hs, n, i, by omega, rfl⟩
      · left
        have hil : i < s.length := Nat.lt_of_not_le fun h => hs (.inr (.inl h))
        have hd : 48 ≤ s[i].toNat ∧ s[i].toNat ≤ 57 := ⟨Nat.le_of_not_lt fun h => hs (.inr (.inr ⟨_, List.getElem?_eq_getElem hil, .inl h⟩)), Nat.le_of_not_lt fun h => hs (.inr (.inr ⟨_, List.getElem?_eq_getElem hil, .inr h⟩))⟩
        have hk3 : k < 3 := Nat.lt_of_not_le fun h => hs (.inl h)
        refine ⟨_, num_step hk3 (by omega) (by omega) (List.getElem?_eq_getElem hil) hd, ⟨i + 1, _, k + 1, by omega, by omega, by rw [Nat.pow_succ]; omega, rfl⟩, by simp only; omega⟩)
    ((j : Int), 0, 0) ⟨j, 0, 0, by decide, by omega, by decide, rfl⟩
  refine ⟨n, j', h2, ?_⟩
  unfold r07_Number
  rw [h1, h3]; rfl
theorem dig {u : Nat} (h : u < 10) : (UInt8.ofNat (48 + u)).toNat = 48 + u := UInt8.toNat_ofNat_of_lt' (by show 48 + u < 256; omega)
theorem num_d3 {s r : List UInt8} {j u : Nat} (hj : j ≤ 500) (hu : u < 256) (hs : s.drop j = d3 u ++ r) (hr : r = [] ∨ ∃ b t, r = b :: t ∧ (b.toNat < 48 ∨ 57 < b.toNat)) : r07_Number s (j : Int) = some ((u : Int), ((j + (d3 u).length : Nat) : Int)) := by
  have hg : ∀ i, s[j + i]? = (d3 u ++ r)[i]? := fun i => by rw [← hs, List.getElem?_drop]
  have hend : ∀ i, i = (d3 u).length → s.length ≤ j + i ∨ ∃ b, s[j + i]? = some b ∧ (b.toNat < 48 ∨ 57 < b.toNat) := by
    rintro i rfl
    rcases hr with rfl | ⟨b, t, rfl, hb⟩
    · left
      have := congrArg List.length hs
      simp at this
      have h3 := d3_len u
      have : 1 ≤ (d3 u).length := by unfold d3; split <;> (try split) <;> simp
      omega
    · right
      refine ⟨b, ?_, hb⟩
      rw [hg, List.getElem?_append_right (Nat.le_refl _), Nat.sub_self]; rfl
  unfold r07_Number
  by_cases h1 : u < 10
  · have hd : d3 u = [UInt8.ofNat (48 + u)] := if_pos h1
    have g0 : s[j]? = some (UInt8.ofNat (48 + u)) := by have := hg 0; rw [hd] at this; exact this
    have s0 := num_step (s := s) (j := j) (n := 0) (k := 0) (by decide) (by decide) (by omega) g0 (by rw [dig h1]; omega)
    have e0 := num_stop (s := s) (j := j + 1) (n := 10 * 0 + ((UInt8.ofNat (48 + u)).toNat - 48)) (k := 0 + 1) (.inr (by have := hend 1 (by rw [hd]; rfl); exact this))
    have := (loopW_go s0).trans (loopW_end e0)
    rw [show loopW (r07_Number_l1 s) ((j : Int), 0, 0) = _ from this, dig h1, hd]
    simp
  · by_cases h2 : u < 100
    · have hd : d3 u = [UInt8.ofNat (48 + u / 10), UInt8.ofNat (48 + u % 10)] := by unfold d3; rw [if_neg h1, if_pos h2]
      have g0 : s[j]? = some (UInt8.ofNat (48 + u / 10)) := by have := hg 0; rw [hd] at this; exact this
      have g1 : s[j + 1]? = some (UInt8.ofNat (48 + u % 10)) := by have := hg 1; rw [hd] at this; exact this
      have s0 := num_step (s := s) (j := j) (n := 0) (k := 0) (by decide) (by decide) (by omega) g0 (by rw [dig (by omega)]; omega)
      have s1 := num_step (s := s) (j := j + 1) (n := 10 * 0 + ((UInt8.ofNat (48 + u / 10)).toNat - 48)) (k := 0 + 1) (by decide) (by rw [dig (by omega)]; omega) (by omega) g1 (by rw [dig (by omega)]; omega)
      have e0 := num_stop (s := s) (j := j + 1 + 1) (n := 10 * (10 * 0 + ((UInt8.ofNat (48 + u / 10)).toNat - 48)) + ((UInt8.ofNat (48 + u % 10)).toNat - 48)) (k := 0 + 1 + 1) (.inr (by have := hend 2 (by rw [hd]; rfl); exact this))
      have := (loopW_go s0).trans ((loopW_go s1).trans (loopW_end e0))
      rw [show loopW (r07_Number_l1 s) ((j : Int), 0, 0) = _ from this, dig (by omega), dig (by omega), hd]
      simp only [Option.bind_some, List.length_cons, List.length_nil]
      congr 2
      · omega
    · have hd : d3 u = [UInt8.ofNat (48 + u / 100), UInt8.ofNat (48 + u / 10 % 10), UInt8.ofNat (48 + u % 10)] := by unfold d3; rw [if_neg h1, if_neg h2]
      have g0 : s[j]? = some (UInt8.ofNat (48 + u / 100)) := by have := hg 0; rw [hd] at this; exact this
      have g1 : s[j + 1]? = some (UInt8.ofNat (48 + u / 10 % 10)) := by have := hg 1; rw [hd] at this; exact this
      have g2 : s[j + 1 + 1]? = some (UInt8.ofNat (48 + u % 10)) := by have := hg 2; rw [hd] at this; exact this
      have s0 := num_step (s := s) (j := j) (n := 0) (k := 0) (by decide) (by decide) (by omega) g0 (by rw [dig (by omega)]; omega)
      have s1 := num_step (s := s) (j := j + 1) (n := 10 * 0 + ((UInt8.ofNat (48 + u / 100)).toNat - 48)) (k := 0 + 1) (by decide) (by rw [dig (by omega)]; omega) (by omega) g1 (by rw [dig (by omega)]; omega)
      have s2 := num_step (s := s) (j := j + 1 + 1) (n := 10 * (10 * 0 + ((UInt8.ofNat (48 + u / 100)).toNat - 48)) + ((UInt8.ofNat (48 + u / 10 % 10)).toNat - 48)) (k := 0 + 1 + 1) (by decide) (by rw [dig (by omega), dig (by omega)]; omega) (by omega) g2 (by rw [dig (by omega)]; omega)
      have e0 := num_stop (s := s) (j := j + 1 + 1 + 1) (n := 10 * (10 * (10 * 0 + ((UInt8.ofNat (48 + u / 100)).toNat - 48)) + ((UInt8.ofNat (48 + u / 10 % 10)).toNat - 48)) + ((UInt8.ofNat (48 + u % 10)).toNat - 48)) (k := 0 + 1 + 1 + 1) (.inl (by decide))
      have := (loopW_go s0).trans ((loopW_go s1).trans ((loopW_go s2).trans (loopW_end e0)))
      rw [show loopW (r07_Number_l1 s) ((j : Int), 0, 0) = _ from this, dig (by omega), dig (by omega), dig (by omega), hd]
      simp only [Option.bind_some, List.length_cons, List.length_nil]
      congr 2
      · omega
theorem rparse_step {s : List UInt8} {k : Nat} (hk : k < 4) {j n j' : Nat} (hj : j' ≤ 900) (hn : r07_Number s (j : Int) = some ((n : Int), (j' : Int))) (a b c d : Int) :
    r07_Parse_l1 s ((j : Int), (k : Int), a, b, c, d) = some (.inl (((j' + 1 : Nat) : Int), ((k + 1 : Nat) : Int), (if (k : Int) = 0 then (n : Int) else a), (if (k : Int) = 1 then (n : Int) else b), (if (k : Int) = 2 then (n : Int) else c), (if (k : Int) = 3 then (n : Int) else d))) := by
  rw [r07_Parse_l1, if_pos (by omega), hn, Option.bind_some, ix4 (a, b, c, d) hk, Option.bind_some, w64_id (by omega), w64_id (by omega)]; rfl
theorem rparse_text {p : P4} (h : Ok4 p) : r07_Parse (textV p) = some (p, true) := by
  have h' := h
  obtain ⟨⟨a0, a1⟩, ⟨b0, b1⟩, ⟨c0, c1⟩, ⟨e0, e1⟩⟩ := h'
  have tl := textV_len (ok_i4 h)
  obtain ⟨a, b, c, d⟩ := p
  simp only at a0 a1 b0 b1 c0 c1 e0 e1
  obtain ⟨a, rfl⟩ : ∃ u : Nat, a = (u : Int) := ⟨a.toNat, by omega⟩
  obtain ⟨b, rfl⟩ : ∃ u : Nat, b = (u : Int) := ⟨b.toNat, by omega⟩
  obtain ⟨c, rfl⟩ : ∃ u : Nat, c = (u : Int) := ⟨c.toNat, by omega⟩
  obtain ⟨d, rfl⟩ : ∃ u : Nat, d = (u : Int) := ⟨d.toNat, by omega⟩
  have ht : textV ((a : Int), (b : Int), (c : Int), (d : Int)) = d3 a ++ 62 :: (d3 b ++ 32 :: (d3 c ++ 32 :: d3 d)) := by
    unfold textV
    rw [itoa_d3 ⟨a0, a1⟩, itoa_d3 ⟨b0, b1⟩, itoa_d3 (v := (c : Int)) (by omega), itoa_d3 ⟨e0, e1⟩]
    simp
  have la := d3_len a
  have lb := d3_len b
  have lc := d3_len c
  have ld := d3_len d
  generalize hs : textV ((a : Int), (b : Int), (c : Int), (d : Int)) = s at ht tl
  have skip : ∀ (x y : List UInt8) (z : UInt8), (x ++ z :: y).drop (x.length + 1) = y := fun x y z => by
    rw [← List.drop_drop, List.drop_left]; rfl
  have d0 : s.drop 0 = d3 a ++ 62 :: (d3 b ++ 32 :: (d3 c ++ 32 :: d3 d)) := ht
  have d1 : s.drop ((d3 a).length + 1) = d3 b ++ 32 :: (d3 c ++ 32 :: d3 d) := by rw [ht, skip]
  have d2 : s.drop ((d3 a).length + 1 + (d3 b).length + 1) = d3 c ++ 32 :: d3 d := by
    rw [show (d3 a).length + 1 + (d3 b).length + 1 = (d3 a).length + 1 + ((d3 b).length + 1) by omega, ← List.drop_drop, d1, skip]
  have d3' : s.drop ((d3 a).length + 1 + (d3 b).length + 1 + (d3 c).length + 1) = d3 d ++ [] := by
    rw [show (d3 a).length + 1 + (d3 b).length + 1 + (d3 c).length + 1 = (d3 a).length + 1 + (d3 b).length + 1 + ((d3 c).length + 1) by omega, ← List.drop_drop, d2, skip, List.append_nil]
  have n0 := num_d3 (s := s) (j := 0) (u := a) (by omega) (by omega) d0 (.inr ⟨62, _, rfl, .inr (by decide)⟩)
  have n1 := num_d3 (s := s) (j := (d3 a).length + 1) (u := b) (by omega) (by omega) d1 (.inr ⟨32, _, rfl, .inl (by decide)⟩)
  have n2 := num_d3 (s := s) (j := (d3 a).length + 1 + (d3 b).length + 1) (u := c) (by omega) (by omega) d2 (.inr ⟨32, _, rfl, .inl (by decide)⟩)
  have n3 := num_d3 (s := s) (j := (d3 a).length + 1 + (d3 b).length + 1 + (d3 c).length + 1) (u := d) (by omega) (by omega) d3' (.inl rfl)
  rw [Nat.zero_add] at n0
  have s0 := rparse_step (k := 0) (by decide) (by omega) n0 0 0 0 0
  have s1 := rparse_step (k := 1) (by decide) (by omega) n1 (a : Int) 0 0 0
  have s2 := rparse_step (k := 2) (by decide) (by omega) n2 (a : Int) (b : Int) 0 0
  have s3 := rparse_step (k := 3) (by decide) (by omega) n3 (a : Int) (b : Int) (c : Int) 0
  have s4 : ∀ j : Int, r07_Parse_l1 s (j, 4, (a : Int), (b : Int), (c : Int), (d : Int)) = some (.inr ((a : Int), (b : Int), (c : Int), (d : Int))) := fun j => by rw [r07_Parse_l1, if_neg (by decide)]
  have e := (loopW_go s0).trans ((loopW_go s1).trans ((loopW_go s2).trans ((loopW_go s3).trans (loopW_end (s4 _)))))
  unfold r07_Parse
  rw [show loopW (r07_Parse_l1 s) (0, 0, 0, 0, 0, 0) = _ from e]
  simp only [Option.bind_some]
  rw [rright_eq, decide_eq_true h, Option.bind_some, if_neg (by decide), (text_eq (ok_i4 h)).2, hs]
  simp
theorem rparse_none {s : List UInt8} (hno : ¬ ∃ p : P4, Ok4 p ∧ textV p = s) : r07_Parse s = some ((0, 0, 0, 0), false) := by
  have key : ∀ (m k : Nat), k + m = 4 → ∀ (j : Nat) (a b c d : Int), j ≤ 4 * k → ∃ P : P4, loopW (r07_Parse_l1 s) ((j : Int), (k : Int), a, b, c, d) = some P := by
    intro m
    induction m with
    | zero =>
      intro k hk j a b c d hj
      obtain rfl : k = 4 := by omega
      exact ⟨(a, b, c, d), loopW_end (by rw [r07_Parse_l1, if_neg (by decide)])⟩
    | succ m ih =>
      intro k hk j a b c d hj
      obtain ⟨n, j', h1, h2⟩ := num_any (s := s) (j := j) (by omega)
      rw [loopW_go (rparse_step (by omega) (by omega) h2 a b c d)]
      exact ih (k + 1) (by omega) (j' + 1) _ _ _ _ (by omega)
  obtain ⟨P, hP⟩ := key 4 0 rfl 0 0 0 0 0 (by decide)
  have hP' : loopW (r07_Parse_l1 s) (0, 0, 0, 0, 0, 0) = some P := hP
  unfold r07_Parse
  rw [hP']
  show ((r07_Right P).bind _).bind _ = _
  rw [rright_eq, Option.bind_some]
  by_cases h : Ok4 P
  · rw [decide_eq_true h, if_neg (by decide)]
    show ((r07_Text P).bind _).bind _ = _
    rw [(text_eq (ok_i4 h)).2, Option.bind_some, decide_eq_true (show textV P ≠ s from fun e => hno ⟨P, h, e⟩)]; rfl
  · rw [decide_eq_false h]; rfl
theorem PacketReads_true (p0 : List UInt8) (ok0 : okS p0) : L07_PacketReads p0 = some true := by
  have hs : ∃ s : List UInt8, s.length ≤ 60 ∧ (if 60 < (p0.length : Int) then (subl p0 0 60).bind fun x2 => some x2 else some p0) = some s := by
    by_cases h : 60 < (p0.length : Int)
    · rw [if_pos h, subl_is (by omega)]
      exact ⟨_, by simp; omega, rfl⟩
    · rw [if_neg h]; exact ⟨p0, by omega, rfl⟩
  obtain ⟨s, hl, hs⟩ := hs
  unfold L07_PacketReads
  rw [hs, Option.bind_some]
  have hrel : Rel (octet_Open s) (s, 0, 0) := ⟨by show (0 : Int) ≤ 0; decide, by simp only; omega, rfl, by simp only; omega⟩
  obtain ⟨P, p', q', g1, g2, g3⟩ := reads_loop 4 0 rfl 0 0 0 0 _ _ hrel
  have hok := rel_ok g3
  have r1 : packet_Read (octet_Open s) = some (if octet_Reader_Ok p' = true then P else (0, 0, 0, 0), p') := by
    unfold packet_Read
    rw [show loopW packet_Read_l1 (0, 0, 0, 0, 0, (octet_Open s).1, (octet_Open s).2) = _ from g1]
    show (if (!(octet_Reader_Ok p')) = true then _ else _) = _
    cases octet_Reader_Ok p' <;> rfl
  have r2 : r07_Read (s, 0, 0) = some (if octet_Reader_Ok p' = true then P else (0, 0, 0, 0), q') := by
    unfold r07_Read
    rw [show loopW r07_Read_l1 (0, 0, 0, 0, 0, s, 0, 0) = _ from g2]
    show (if q'.2.2 ≠ 0 then _ else _) = _
    rw [hok]
    by_cases hq : q'.2.2 = 0
    · rw [if_neg (by simpa using hq), if_pos (by simpa using hq)]
    · rw [if_pos hq, if_neg (by simpa using hq)]
  obtain ⟨q2, k1, k2⟩ := rel_end g3
  rw [r1, r2]
  simp only [Option.bind_some]
  rw [decide_eq_true (by simp), if_neg (by decide), rel_left g3, if_neg (by simp), endR_eq, k1]
  simp only [Option.bind_some]
  rw [decide_eq_false (by simp), if_neg (by decide), awake07]
  by_cases hp : ∃ p : P4, Ok4 p ∧ textV p = s
  · obtain ⟨p, h1, h2⟩ := hp
    subst h2
    rw [parse_text h1, rparse_text h1]
    simp
  · rw [parse_none (by omega) hp, rparse_none hp]
    simp
end Go.Proofs.YtcnpjmmeandglaaDoor
