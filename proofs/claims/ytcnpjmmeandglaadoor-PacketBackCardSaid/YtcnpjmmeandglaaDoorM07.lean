/- Layer 7: packets. Conditions: none. -/
import Derived.Test.YtcnpjmmeandglaaDoorM4
import Derived.Test.YtcnpjmmeandglaaDoorLD
namespace Go.Proofs.YtcnpjmmeandglaaDoor
set_option linter.unusedVariables false
set_option linter.unusedSimpArgs false
open Go Go.RowKit

abbrev P4 := Int × Int × Int × Int
theorem top_cases (f : Int) : ((f = 0 ∨ f = 1 ∨ f = 3) ∧ r07_Top f = 255) ∨ (f = 2 ∧ r07_Top f = 15) ∨ ((f < 0 ∨ 3 < f) ∧ r07_Top f = 0) := by
  unfold r07_Top
  by_cases h2 : f = 2
  · exact .inr (.inl ⟨h2, if_pos h2⟩)
  · rw [if_neg h2]
    by_cases h : f = 0 ∨ f = 1 ∨ f = 3
    · exact .inl ⟨h, if_pos (by simpa using h)⟩
    · exact .inr (.inr ⟨by omega, if_neg (by simpa using h)⟩)
def bitsF (f : Int) : Int := if f = 0 ∨ f = 1 ∨ f = 3 then 8 else if f = 2 then 4 else 0
theorem bits_eq (f : Int) : packet_Bits f = some (bitsF f) := by
  unfold packet_Bits bitsF
  by_cases h0 : f = 0
  · subst h0; rfl
  · rw [if_neg h0]
    by_cases h1 : f = 1
    · subst h1; rfl
    · rw [if_neg h1]
      by_cases h3 : f = 3
      · subst h3; rfl
      · rw [decide_eq_false h3]
        by_cases h2 : f = 2
        · subst h2; rfl
        · simp [h0, h1, h2, h3]
theorem rbits_eq (f : Int) : r07_Bits f = some (bitsF f) := by
  unfold r07_Bits bitsF
  rcases top_cases f with ⟨h, e⟩ | ⟨h, e⟩ | ⟨h, e⟩
  · rw [e, if_pos h, (loopW_iff.2 ⟨9, rfl⟩ : loopW r07_Bits_l1 (0, 255) = some 8)]; rfl
  · rw [e, if_neg (by omega), if_pos h, (loopW_iff.2 ⟨5, rfl⟩ : loopW r07_Bits_l1 (0, 15) = some 4)]; rfl
  · rw [e, if_neg (by omega), if_neg (by omega), (loopW_iff.2 ⟨1, rfl⟩ : loopW r07_Bits_l1 (0, 0) = some 0)]; rfl
theorem top_eq (f : Int) : packet_Top f = some (r07_Top f) := by
  unfold packet_Top
  rw [bits_eq]
  rcases top_cases f with ⟨h, e⟩ | ⟨h, e⟩ | ⟨h, e⟩
  · rw [e, show bitsF f = 8 from if_pos h]; rfl
  · rw [e, show bitsF f = 4 by unfold bitsF; rw [if_neg (by omega), if_pos h]]; rfl
  · rw [e, show bitsF f = 0 by unfold bitsF; rw [if_neg (by omega), if_neg (by omega)]]; rfl
abbrev Fit (f v : Int) : Prop := 0 ≤ v ∧ v ≤ r07_Top f
theorem fits_eq (f v : Int) : packet_fits f v = some (decide (Fit f v)) := by
  unfold packet_fits
  by_cases h : 0 ≤ v
  · rw [if_pos h, top_eq, Option.bind_some, Option.bind_some]
    congr 1
    exact decide_eq_decide.2 ⟨fun h2 => ⟨h, h2⟩, fun h2 => h2.2⟩
  · rw [if_neg h, decide_eq_false (fun h2 => h h2.1)]; rfl
abbrev p4 (p : P4) (k : Nat) : Int := match k with | 0 => p.1 | 1 => p.2.1 | 2 => p.2.2.1 | _ => p.2.2.2
theorem ix4 (p : P4) {k : Nat} (h : k < 4) : ix ([p.1, p.2.1, p.2.2.1, p.2.2.2] : List Int) (k : Int) = some (p4 p k) := by
  have : k = 0 ∨ k = 1 ∨ k = 2 ∨ k = 3 := by omega
  rcases this with rfl | rfl | rfl | rfl <;> rfl
abbrev Ok4 (p : P4) : Prop := (0 ≤ p.1 ∧ p.1 ≤ 255) ∧ (0 ≤ p.2.1 ∧ p.2.1 ≤ 255) ∧ (0 ≤ p.2.2.1 ∧ p.2.2.1 ≤ 15) ∧ (0 ≤ p.2.2.2 ∧ p.2.2.2 ≤ 255)
theorem ok4_iff (p : P4) : Ok4 p ↔ ¬ ∃ k : Nat, k < 4 ∧ ¬ Fit (k : Int) (p4 p k) := by
  constructor
  · rintro ⟨h0, h1, h2, h3⟩ ⟨k, hk, hn⟩
    have : k = 0 ∨ k = 1 ∨ k = 2 ∨ k = 3 := by omega
    rcases this with rfl | rfl | rfl | rfl
    · exact hn h0
    · exact hn h1
    · exact hn h2
    · exact hn h3
  · intro h
    have g : ∀ k : Nat, k < 4 → Fit (k : Int) (p4 p k) := fun k hk => Classical.byContradiction fun hn => h ⟨k, hk, hn⟩
    exact ⟨g 0 (by decide), g 1 (by decide), g 2 (by decide), g 3 (by decide)⟩
theorem right_eq (p : P4) : packet_Right p = some (decide (Ok4 p)) := by
  unfold packet_Right
  rw [search_any 4 _ (fun k => ¬ Fit (k : Int) (p4 p k)) false (fun k hk => by
    unfold packet_Right_l1
    rw [if_pos (by omega), ix4 p hk, Option.bind_some, fits_eq, Option.bind_some, w64_id (by omega)]
    by_cases h : Fit (k : Int) (p4 p k)
    · rw [decide_eq_true h, if_neg (by decide), if_neg (fun h2 => h2 h)]; rfl
    · rw [decide_eq_false h, if_pos (by decide), if_pos h]) (by unfold packet_Right_l1; rw [if_neg (by decide)])]
  unfold orR
  by_cases h : Ok4 p
  · rw [if_neg ((ok4_iff p).1 h), decide_eq_true h]; rfl
  · rw [if_pos (Classical.byContradiction fun h2 => h ((ok4_iff p).2 h2)), decide_eq_false h]; rfl
theorem rright_eq (p : P4) : r07_Right p = some (decide (Ok4 p)) := by
  unfold r07_Right
  rw [search_any 4 _ (fun k => ¬ Fit (k : Int) (p4 p k)) false (fun k hk => by
    unfold r07_Right_l1
    rw [if_pos (by omega), ix4 p hk]
    simp only [Option.bind_some]
    rw [w64_id (by omega)]
    by_cases c : p4 p k < 0
    · rw [if_pos c, if_pos (fun h => by have := h.1; omega)]; rfl
    · rw [if_neg c]
      by_cases c2 : r07_Top (k : Int) < p4 p k
      · rw [decide_eq_true c2, if_pos (fun h => by have := h.2; omega)]; rfl
      · rw [decide_eq_false c2, if_neg (fun h => h ⟨by omega, by omega⟩)]; rfl) (by unfold r07_Right_l1; rw [if_neg (by decide)])]
  unfold orR
  by_cases h : Ok4 p
  · rw [if_neg ((ok4_iff p).1 h), decide_eq_true h]; rfl
  · rw [if_pos (Classical.byContradiction fun h2 => h ((ok4_iff p).2 h2)), decide_eq_false h]; rfl
abbrev put4 (p : P4) (f v : Int) : P4 := ((if f = 0 then v else p.1), (if f = 1 then v else p.2.1), (if f = 2 then v else p.2.2.1), (if f = 3 then v else p.2.2.2))
def withV (p : P4) (f v : Int) : P4 := if 0 ≤ f ∧ f < 4 ∧ Fit f v then put4 p f v else p
theorem ix4' (p : P4) {f : Int} (h : 0 ≤ f ∧ f < 4) : ∃ x, ix ([p.1, p.2.1, p.2.2.1, p.2.2.2] : List Int) f = some x ∧ x = p4 p f.toNat := by
  have := ix4 p (k := f.toNat) (by omega)
  rw [show ((f.toNat : Nat) : Int) = f by omega] at this
  exact ⟨_, this, rfl⟩
theorem with_eq (p : P4) (f v : Int) : packet_With p f v = some (withV p f v) := by
  unfold packet_With withV
  by_cases hk : 0 ≤ f ∧ f < 4
  · obtain ⟨x, hx, _⟩ := ix4' p hk
    rw [if_pos (by simpa [packet_known] using hk), fits_eq, Option.bind_some, Option.bind_some]
    by_cases hf : Fit f v
    · rw [decide_eq_true hf, if_pos (show true = true from rfl), hx]
      show some (put4 p f v) = _
      rw [if_pos ⟨hk.1, hk.2, hf⟩]
    · rw [decide_eq_false hf, if_neg (show ¬ false = true by decide)]
      show some p = _
      rw [if_neg (fun h => hf h.2.2)]
  · rw [if_neg (by simpa [packet_known] using hk), Option.bind_some, if_neg (show ¬ false = true by decide)]
    show some p = _
    rw [if_neg (fun h => hk ⟨h.1, h.2.1⟩)]
theorem rwith_eq (p : P4) (f v : Int) : r07_With p f v = some (withV p f v) := by
  unfold r07_With withV
  by_cases h : 0 ≤ f ∧ f < 4 ∧ Fit f v
  · obtain ⟨x, hx, _⟩ := ix4' p ⟨h.1, h.2.1⟩
    rw [if_pos (by simpa using h), hx]
    show some (put4 p f v) = _
    rw [if_pos h]
  · rw [if_neg (by simpa using h)]
    show some p = _
    rw [if_neg h]
def getV (p : P4) (f : Int) : Int := if 0 ≤ f ∧ f < 4 then p4 p f.toNat else 0
theorem get_eq (p : P4) (f : Int) : packet_Get p f = some (getV p f) := by
  unfold packet_Get getV
  by_cases hk : 0 ≤ f ∧ f < 4
  · obtain ⟨x, hx, he⟩ := ix4' p hk
    have : packet_known f = true := by simpa [packet_known] using hk
    rw [this, if_neg (by decide), hx, Option.bind_some, if_pos hk, he]
  · have : packet_known f = false := by
      cases h : packet_known f
      · rfl
      · exact absurd (by simpa [packet_known] using h) hk
    rw [this, if_pos (by decide), if_neg hk]
def codeV (p : P4) : List UInt8 := if Ok4 p then be 1 p.1 ++ be 1 p.2.1 ++ be 1 p.2.2.1 ++ be 1 p.2.2.2 else []
theorem num1 {v : Int} (h : 0 ≤ v ∧ v ≤ 255) : numS v 1 = be 1 v := by
  unfold numS
  rw [if_pos ⟨by decide, by decide, h.1, by show v < 256; omega⟩]; rfl
theorem code_eq (p : P4) : packet_Code p = some (codeV p) := by
  unfold packet_Code codeV
  rw [right_eq, Option.bind_some]
  by_cases h : Ok4 p
  · rw [decide_eq_true h, if_neg (by decide), if_pos h]
    have hb : ∀ k, k < 4 → 0 ≤ p4 p k ∧ p4 p k ≤ 255 := fun k hk => by
      have : k = 0 ∨ k = 1 ∨ k = 2 ∨ k = 3 := by omega
      obtain ⟨h0, h1, h2, h3⟩ := h
      rcases this with rfl | rfl | rfl | rfl
      · exact h0
      · exact h1
      · exact ⟨h2.1, by have := h2.2; show p.2.2.1 ≤ 255; omega⟩
      · exact h3
    obtain ⟨s, h1, h2⟩ := loop_cnt 4 (fun (o : List UInt8) (k : Nat) => ((k : Int), o)) (packet_Code_l1 p) id (fun o k => o.length = k ∧ o = (be 1 p.1 ++ be 1 p.2.1 ++ be 1 p.2.2.1 ++ be 1 p.2.2.2).take k)
      (fun o k hk hI => by
        refine ⟨o ++ be 1 (p4 p k), ?_, by simp [hI.1, be], ?_⟩
        · rw [packet_Code_l1, if_pos (by omega), ix4 p hk, Option.bind_some, num_eq, Option.bind_some, num1 (hb k hk), app_is (by rw [hI.1]; simp [be]; omega), Option.bind_some, w64_id (by omega)]; rfl
        · rw [hI.2]
          have : k = 0 ∨ k = 1 ∨ k = 2 ∨ k = 3 := by omega
          rcases this with rfl | rfl | rfl | rfl <;> rfl)
      (fun o _ => by rw [packet_Code_l1, if_neg (by decide)]; rfl) [] ⟨rfl, rfl⟩
    have e : loopW (packet_Code_l1 p) (0, ([] : List UInt8)) = some s := h2
    rw [e, Option.bind_some, lenB_is (by rw [h1.1]; decide), Option.bind_some, h1.2]; rfl
  · rw [decide_eq_false h, if_pos (by decide), if_neg h]
theorem rcode_eq (p : P4) : r07_Code p = some (codeV p) := by
  unfold r07_Code codeV
  rw [rright_eq, Option.bind_some]
  by_cases h : Ok4 p
  · rw [decide_eq_true h, if_neg (by decide), if_pos h]
    obtain ⟨h0, h1, h2, h3⟩ := h
    rw [rnum_eq _ _ (by omega), rnum_eq _ _ (by omega), rnum_eq _ _ (by omega), rnum_eq _ _ (by omega), num1 h0, num1 h1, num1 (v := p.2.2.1) (by omega), num1 h3]
    simp only [Option.bind_some]
    rw [app_is (by simp [be])]
    simp only [Option.bind_some]
    rw [app_is (by simp [be])]
    simp only [Option.bind_some]
    rw [app_is (by simp [be])]; rfl
  · rw [decide_eq_false h, if_pos (by decide), if_neg h]
theorem digits_eq {n : Int} (h : i64 n) : r07_Digits n = some (Lib.itoa n) :=
  digits_of (st := r07_Digits_st) (run := r07_Digits_n) (fun _ => rfl) (fun _ _ => rfl) (fun _ _ => rfl) n h
abbrev I4 (p : P4) : Prop := i64 p.1 ∧ i64 p.2.1 ∧ i64 p.2.2.1 ∧ i64 p.2.2.2
def textV (p : P4) : List UInt8 := Lib.itoa p.1 ++ [62] ++ Lib.itoa p.2.1 ++ [32] ++ Lib.itoa p.2.2.1 ++ [32] ++ Lib.itoa p.2.2.2
theorem text_eq {p : P4} (h : I4 p) : packet_Text p = some (textV p) ∧ r07_Text p = some (textV p) := by
  obtain ⟨h0, h1, h2, h3⟩ := h
  have l0 := itoa_len h0
  have l1 := itoa_len h1
  have l2 := itoa_len h2
  have l3 := itoa_len h3
  constructor
  · unfold packet_Text textV
    rw [itoaP_is h0, itoaP_is h1, itoaP_is h2, itoaP_is h3]
    simp only [Option.bind_some]
    rw [app_is (by simp; omega), Option.bind_some, app_is (by simp; omega), Option.bind_some, app_is (by simp; omega), Option.bind_some, app_is (by simp; omega), Option.bind_some, app_is (by simp; omega), Option.bind_some, app_is (by simp; omega), Option.bind_some]
  · unfold r07_Text textV
    rw [digits_eq h0, digits_eq h1, digits_eq h2, digits_eq h3]
    simp only [Option.bind_some]
    rw [app_is (by simp; omega), Option.bind_some, app_is (by simp; omega), Option.bind_some, app_is (by simp; omega), Option.bind_some, app_is (by simp; omega), Option.bind_some, app_is (by simp; omega), Option.bind_some, app_is (by simp; omega), Option.bind_some]
theorem textV_len {p : P4} (h : I4 p) : (textV p).length ≤ 100 := by
  obtain ⟨h0, h1, h2, h3⟩ := h
  have l0 := itoa_len h0
  have l1 := itoa_len h1
  have l2 := itoa_len h2
  have l3 := itoa_len h3
  unfold textV
  simp; omega
theorem ok_i4 {p : P4} (h : Ok4 p) : I4 p := by
  obtain ⟨h0, h1, h2, h3⟩ := h
  exact ⟨by constructor <;> omega, by constructor <;> omega, by constructor <;> omega, by constructor <;> omega⟩

/-! ### Parsing -/
theorem sep_eq (k : Nat) : packet_separator (k : Int) = if k = 0 then [62] else [32] := by
  unfold packet_separator
  by_cases h : k = 0
  · subst h; rfl
  · rw [if_neg (by omega), if_neg h]
theorem itoa_d3 {v : Int} (h : 0 ≤ v ∧ v ≤ 255) : Lib.itoa v = d3 v.toNat := by
  obtain ⟨u, rfl⟩ : ∃ u : Nat, v = (u : Int) := ⟨v.toNat, by omega⟩
  rw [Lib.itoa_nonneg, dec_d3 (by omega), Int.toNat_natCast]
theorem d3_sep {u : Nat} (h : u < 256) : (62 : UInt8) ∉ d3 u ∧ (32 : UInt8) ∉ d3 u := by
  constructor
  · intro hm
    have := d3_mem h hm
    have e : (62 : UInt8).toNat = 62 := rfl
    omega
  · intro hm
    have := d3_mem h hm
    have e : (32 : UInt8).toNat = 32 := rfl
    omega
theorem atoi_d3 {u : Nat} (h : u < 256) : atoiP (d3 u) = some (.inl (u : Int)) := atoiP_ok (by have := d3_len u; omega) (d3_atoi ⟨u, h⟩)
/-- What is told is parsed. -/
theorem parse_text {p : P4} (h : Ok4 p) : packet_Parse (textV p) = some (p, 0) := by
  have h' := h
  obtain ⟨⟨a0, a1⟩, ⟨b0, b1⟩, ⟨c0, c1⟩, ⟨e0, e1⟩⟩ := h'
  have tl := textV_len (ok_i4 h)
  obtain ⟨a, b, c, d⟩ := p
  simp only at a0 a1 b0 b1 c0 c1 e0 e1
  obtain ⟨a, rfl⟩ : ∃ u : Nat, a = (u : Int) := ⟨a.toNat, by omega⟩
  obtain ⟨b, rfl⟩ : ∃ u : Nat, b = (u : Int) := ⟨b.toNat, by omega⟩
  obtain ⟨c, rfl⟩ : ∃ u : Nat, c = (u : Int) := ⟨c.toNat, by omega⟩
  obtain ⟨d, rfl⟩ : ∃ u : Nat, d = (u : Int) := ⟨d.toNat, by omega⟩
  have ht : textV ((a : Int), (b : Int), (c : Int), (d : Int)) = d3 a ++ 62 :: (d3 b ++ 32 :: (d3 c ++ 32 :: d3 d)) := by
    unfold textV
    rw [itoa_d3 ⟨a0, a1⟩, itoa_d3 ⟨b0, b1⟩, itoa_d3 (v := (c : Int)) (by omega), itoa_d3 ⟨e0, e1⟩]
    simp
  have la := d3_len a
  have lb := d3_len b
  have lc := d3_len c
  have ld := d3_len d
  have s0 : packet_Parse_l1 (d3 a ++ 62 :: (d3 b ++ 32 :: (d3 c ++ 32 :: d3 d)), 0, 0, 0, 0, 0) = some (.inl (d3 b ++ 32 :: (d3 c ++ 32 :: d3 d), 1, (a : Int), 0, 0, 0)) := by
    rw [packet_Parse_l1, if_pos (by decide), cutP_is (by simp; omega), Option.bind_some, show packet_separator 0 = [62] from rfl, cut_at (d3_sep (by omega)).1, atoi_d3 (by omega), Option.bind_some]
    rfl
  have s1 : packet_Parse_l1 (d3 b ++ 32 :: (d3 c ++ 32 :: d3 d), 1, (a : Int), 0, 0, 0) = some (.inl (d3 c ++ 32 :: d3 d, 2, (a : Int), (b : Int), 0, 0)) := by
    rw [packet_Parse_l1, if_pos (by decide), cutP_is (by simp; omega), Option.bind_some, show packet_separator 1 = [32] from rfl, cut_at (d3_sep (by omega)).2, atoi_d3 (by omega), Option.bind_some]
    rfl
  have s2 : packet_Parse_l1 (d3 c ++ 32 :: d3 d, 2, (a : Int), (b : Int), 0, 0) = some (.inl (d3 d, 3, (a : Int), (b : Int), (c : Int), 0)) := by
    rw [packet_Parse_l1, if_pos (by decide), cutP_is (by simp; omega), Option.bind_some, show packet_separator 2 = [32] from rfl, cut_at (d3_sep (by omega)).2, atoi_d3 (by omega), Option.bind_some]
    rfl
  have s3 : packet_Parse_l1 (d3 d, 3, (a : Int), (b : Int), (c : Int), 0) = some (.inl ([], 4, (a : Int), (b : Int), (c : Int), (d : Int))) := by
    rw [packet_Parse_l1, if_pos (by decide), cutP_is (by omega), Option.bind_some, show packet_separator 3 = [32] from rfl, cut_no (d3_sep (by omega)).2, atoi_d3 (by omega), Option.bind_some]
    rfl
  have s4 : packet_Parse_l1 ([], 4, (a : Int), (b : Int), (c : Int), (d : Int)) = some (.inr (.inl ((a : Int), (b : Int), (c : Int), (d : Int)))) := by
    rw [packet_Parse_l1, if_neg (by decide)]
  unfold packet_Parse
  rw [ht, loopW_go s0, loopW_go s1, loopW_go s2, loopW_go s3, loopW_end s4]
  simp only [orR, Option.bind_some]
  rw [right_eq, decide_eq_true h, Option.bind_some, if_neg (by decide), (text_eq (ok_i4 h)).1]
  simp only [Option.bind_some]
  rw [ht]
  simp
theorem awake07 : L07_awake = some true := by
  have e : textV (1, 2, 0, 7) = [49, 62, 50, 32, 48, 32, 55] := by
    unfold textV
    rw [itoa_d3 (by decide), itoa_d3 (by decide), itoa_d3 (by decide), itoa_d3 (by decide)]; rfl
  have h : Ok4 (1, 2, 0, 7) := by decide
  unfold L07_awake
  rw [← e, parse_text h]
  simp only [Option.bind_some]
  rw [if_pos trivial, if_pos (by decide), (text_eq (ok_i4 h)).1]
  simp only [Option.bind_some]
  rw [if_pos trivial, right_eq, decide_eq_true h]
  simp only [Option.bind_some]
  rw [if_pos trivial, top_eq]; rfl
theorem PacketTells_true (p0 : Int × Int × Int × Int) (ok0 : okP (fun n => (Lit.int .i64 n).wf = true) (okP (fun n => (Lit.int .i64 n).wf = true) (okP (fun n => (Lit.int .i64 n).wf = true) (fun n => (Lit.int .i64 n).wf = true))) p0) (p1 : Int) (ok1 : (Lit.int .i64 p1).wf = true) (p2 : Int) (ok2 : (Lit.int .i64 p2).wf = true) : L07_PacketTells p0 p1 p2 = some true := by
  have h4 : I4 p0 := ⟨wf_i64 ok0.1, wf_i64 ok0.2.1, wf_i64 ok0.2.2.1, wf_i64 ok0.2.2.2⟩
  unfold L07_PacketTells
  rw [bits_eq, rbits_eq]
  simp only [Option.bind_some]
  rw [if_neg (by simp), top_eq]
  simp only [Option.bind_some]
  rw [if_neg (by simp), right_eq, rright_eq]
  simp only [Option.bind_some]
  rw [if_neg (by simp), with_eq, rwith_eq]
  simp only [Option.bind_some]
  rw [decide_eq_true (by simp), if_neg (by decide), get_eq]
  simp only [Option.bind_some]
  have key : (if 0 ≤ p1 then (if p1 < 4 then (ix ([p0.1, p0.2.1, p0.2.2.1, p0.2.2.2] : List Int) p1).bind fun x11 => (if getV p0 p1 ≠ x11 then some true else (if p1 < 0 then some (decide (getV p0 p1 ≠ 0)) else (if 4 ≤ p1 then some (decide (getV p0 p1 ≠ 0)) else some false))) else (if p1 < 0 then some (decide (getV p0 p1 ≠ 0)) else (if 4 ≤ p1 then some (decide (getV p0 p1 ≠ 0)) else some false))) else (if p1 < 0 then some (decide (getV p0 p1 ≠ 0)) else (if 4 ≤ p1 then some (decide (getV p0 p1 ≠ 0)) else some false))) = some false := by
    by_cases c1 : 0 ≤ p1
    · rw [if_pos c1]
      by_cases c2 : p1 < 4
      · obtain ⟨x, hx, he⟩ := ix4' p0 ⟨c1, c2⟩
        have hg : getV p0 p1 = x := by unfold getV; rw [if_pos ⟨c1, c2⟩, he]
        rw [if_pos c2, hx, Option.bind_some, hg, if_neg (by simp), if_neg (by omega), if_neg (by omega)]
      · have hg : getV p0 p1 = 0 := by unfold getV; rw [if_neg (by omega)]
        rw [if_neg c2, if_neg (by omega), if_pos (by omega), hg]; rfl
    · have hg : getV p0 p1 = 0 := by unfold getV; rw [if_neg (by omega)]
      rw [if_neg c1, if_pos (by omega), hg]; rfl
  rw [key, Option.bind_some, if_neg (by decide), code_eq, rcode_eq]
  simp only [Option.bind_some]
  rw [if_pos trivial, (text_eq h4).1, (text_eq h4).2]
  simp only [Option.bind_some]
  rw [if_pos trivial, awake07]; rfl
end Go.Proofs.YtcnpjmmeandglaaDoor
