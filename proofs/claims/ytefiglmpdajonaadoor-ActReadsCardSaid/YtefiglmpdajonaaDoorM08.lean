/- Layer 9: packets, acts. Conditions: none. -/
import Derived.Test.YtefiglmpdajonaaDoorM4
import Derived.Test.YtefiglmpdajonaaDoorLD
import Derived.Test.YtefiglmpdajonaaDoorRF
namespace Go.Proofs.YtefiglmpdajonaaDoor
set_option linter.unusedVariables false
set_option linter.unusedSimpArgs false
open Go Go.RowKit
abbrev P4 := Int × Int × Int × Int
theorem top_cases (f : Int) : ((f = 0 ∨ f = 1 ∨ f = 3) ∧ r07_Top f = 255) ∨ (f = 2 ∧ r07_Top f = 15) ∨ ((f < 0 ∨ 3 < f) ∧ r07_Top f = 0) := by
  unfold r07_Top
  by_cases h2 : f = 2
  · exact .inr (.inl ⟨h2, if_pos h2⟩)
  · rw [if_neg h2]
    by_cases h : f = 0 ∨ f = 1 ∨ f = 3
    · exact .inl ⟨h, if_pos (by simpa using h)⟩
    · exact .inr (.inr ⟨by omega, if_neg (by simpa using h)⟩)
def bitsF (f : Int) : Int := if f = 0 ∨ f = 1 ∨ f = 3 then 8 else if f = 2 then 4 else 0
theorem bits_eq (f : Int) : packet_Bits f = some (bitsF f) := by
  unfold packet_Bits bitsF
  by_cases h0 : f = 0
  · subst h0; rfl
  · rw [if_neg h0]
    by_cases h1 : f = 1
    · subst h1; rfl
    · rw [if_neg h1]
      by_cases h3 : f = 3
      · subst h3; rfl
      · rw [decide_eq_false h3]
        by_cases h2 : f = 2
        · subst h2; rfl
        · simp [h0, h1, h2, h3]
theorem top_eq (f : Int) : packet_Top f = some (r07_Top f) := by
  unfold packet_Top
  rw [bits_eq]
  rcases top_cases f with ⟨h, e⟩ | ⟨h, e⟩ | ⟨h, e⟩
  · rw [e, show bitsF f = 8 from if_pos h]; rfl
  · rw [e, show bitsF f = 4 by unfold bitsF; rw [if_neg (by omega), if_pos h]]; rfl
  · rw [e, show bitsF f = 0 by unfold bitsF; rw [if_neg (by omega), if_neg (by omega)]]; rfl
abbrev Fit (f v : Int) : Prop := 0 ≤ v ∧ v ≤ r07_Top f
theorem fits_eq (f v : Int) : packet_fits f v = some (decide (Fit f v)) := by
  unfold packet_fits
  by_cases h : 0 ≤ v
  · rw [if_pos h, top_eq, Option.bind_some, Option.bind_some]
    congr 1
    exact decide_eq_decide.2 ⟨fun h2 => ⟨h, h2⟩, fun h2 => h2.2⟩
  · rw [if_neg h, decide_eq_false (fun h2 => h h2.1)]; rfl
abbrev p4 (p : P4) (k : Nat) : Int := match k with | 0 => p.1 | 1 => p.2.1 | 2 => p.2.2.1 | _ => p.2.2.2
theorem ix4 (p : P4) {k : Nat} (h : k < 4) : ix ([p.1, p.2.1, p.2.2.1, p.2.2.2] : List Int) (k : Int) = some (p4 p k) := by
  have : k = 0 ∨ k = 1 ∨ k = 2 ∨ k = 3 := by omega
  rcases this with rfl | rfl | rfl | rfl <;> rfl
abbrev put4 (p : P4) (f v : Int) : P4 := ((if f = 0 then v else p.1), (if f = 1 then v else p.2.1), (if f = 2 then v else p.2.2.1), (if f = 3 then v else p.2.2.2))
def withV (p : P4) (f v : Int) : P4 := if 0 ≤ f ∧ f < 4 ∧ Fit f v then put4 p f v else p
theorem ix4' (p : P4) {f : Int} (h : 0 ≤ f ∧ f < 4) : ∃ x, ix ([p.1, p.2.1, p.2.2.1, p.2.2.2] : List Int) f = some x ∧ x = p4 p f.toNat := by
  have := ix4 p (k := f.toNat) (by omega)
  rw [show ((f.toNat : Nat) : Int) = f by omega] at this
  exact ⟨_, this, rfl⟩
theorem with_eq (p : P4) (f v : Int) : packet_With p f v = some (withV p f v) := by
  unfold packet_With withV
  by_cases hk : 0 ≤ f ∧ f < 4
  · obtain ⟨x, hx, _⟩ := ix4' p hk
    rw [if_pos (by simpa [packet_known] using hk), fits_eq, Option.bind_some, Option.bind_some]
    by_cases hf : Fit f v
    · rw [decide_eq_true hf, if_pos (show true = true from rfl), hx]
      show some (put4 p f v) = _
      rw [if_pos ⟨hk.1, hk.2, hf⟩]
    · rw [decide_eq_false hf, if_neg (show ¬ false = true by decide)]
      show some p = _
      rw [if_neg (fun h => hf h.2.2)]
  · rw [if_neg (by simpa [packet_known] using hk), Option.bind_some, if_neg (show ¬ false = true by decide)]
    show some p = _
    rw [if_neg (fun h => hk ⟨h.1, h.2.1⟩)]
theorem rwith_eq (p : P4) (f v : Int) : r07_With p f v = some (withV p f v) := by
  unfold r07_With withV
  by_cases h : 0 ≤ f ∧ f < 4 ∧ Fit f v
  · obtain ⟨x, hx, _⟩ := ix4' p ⟨h.1, h.2.1⟩
    rw [if_pos (by simpa using h), hx]
    show some (put4 p f v) = _
    rw [if_pos h]
  · rw [if_neg (by simpa using h)]
    show some p = _
    rw [if_neg h]
theorem num1 {v : Int} (h : 0 ≤ v ∧ v ≤ 255) : numS v 1 = be 1 v := by
  unfold numS
  rw [if_pos ⟨by decide, by decide, h.1, by show v < 256; omega⟩]; rfl
theorem digits_eq {n : Int} (h : i64 n) : r07_Digits n = some (Lib.itoa n) :=
  digits_of (st := r07_Digits_st) (run := r07_Digits_n) (fun _ => rfl) (fun _ _ => rfl) (fun _ _ => rfl) n h
theorem itoa_d3 {v : Int} (h : 0 ≤ v ∧ v ≤ 255) : Lib.itoa v = d3 v.toNat := by
  obtain ⟨u, rfl⟩ : ∃ u : Nat, v = (u : Int) := ⟨v.toNat, by omega⟩
  rw [Lib.itoa_nonneg, dec_d3 (by omega), Int.toNat_natCast]
abbrev By (x : Int) : Prop := 0 ≤ x ∧ x ≤ 255
theorem any_loop {ε : Type} (n : Nat) (step : Int → Option (Int ⊕ (Unit ⊕ ε))) (q : Nat → Prop) [DecidablePred q] (e : ε)
    (hs : ∀ k, k < n → step (k : Int) = some (if q k then .inr (.inr e) else .inl ((k + 1 : Nat) : Int))) (he : step (n : Int) = some (.inr (.inl ()))) :
    loopW step 0 = some (if ∃ k : Nat, k < n ∧ q k then .inr e else .inl ()) := by
  by_cases h : ∃ k : Nat, k < n ∧ q k
  · rw [if_pos h]
    have key : ∀ (d k : Nat), k + d = n → (∃ j, k ≤ j ∧ j < n ∧ q j) → loopW step (k : Int) = some (.inr e) := by
      intro d
      induction d with
      | zero => rintro k hk ⟨j, h1, h2, h3⟩; omega
      | succ d ih =>
        rintro k hk ⟨j, h1, h2, h3⟩
        have hs' := hs k (by omega)
        by_cases hq : q k
        · rw [if_pos hq] at hs'; exact loopW_end hs'
        · rw [if_neg hq] at hs'
          rw [loopW_go hs']
          exact ih (k + 1) (by omega) ⟨j, by
            have : k ≠ j := fun e => hq (e ▸ h3)
            omega, h2, h3⟩
    obtain ⟨k, h1, h2⟩ := h
    exact key n 0 (by omega) ⟨k, by omega, h1, h2⟩
  · rw [if_neg h]
    have key : ∀ (d k : Nat), k + d = n → loopW step (k : Int) = some (.inl ()) := by
      intro d
      induction d with
      | zero =>
        intro k hk
        obtain rfl : k = n := by omega
        exact loopW_end he
      | succ d ih =>
        intro k hk
        have hs' := hs k (by omega)
        rw [if_neg (fun hq => h ⟨k, by omega, hq⟩)] at hs'
        rw [loopW_go hs']
        exact ih (k + 1) (by omega)
    exact key n 0 (by omega)
theorem orR_any {E : Prop} [Decidable E] : orR (some (if E then (.inr false : Unit ⊕ Bool) else .inl ())) (fun _ => some true) = some (decide (¬ E)) := by
  by_cases h : E
  · rw [if_pos h, decide_eq_false (fun hn => hn h)]; rfl
  · rw [if_neg h, decide_eq_true h]; rfl
theorem topB {f : Nat} (h : f < 4) : r07_Top (f : Int) = 255 ∨ r07_Top (f : Int) = 15 := by
  have : f = 0 ∨ f = 1 ∨ f = 2 ∨ f = 3 := by omega
  rcases this with rfl | rfl | rfl | rfl
  · exact .inl rfl
  · exact .inl rfl
  · exact .inr rfl
  · exact .inl rfl
abbrev Ws := List (List UInt8)
def nameF (f : Nat) : List UInt8 := match f with | 0 => [115, 114, 99] | 1 => [100, 115, 116] | 2 => [107, 105, 110, 100] | _ => [116, 97, 103]
theorem itoaP_d3 {x : Int} (h : By x) : itoaP x = some (d3 x.toNat) := by
  rw [itoaP_is (by have := h.1; have := h.2; omega), itoa_d3 h]
theorem digits_d3 {x : Int} (h : By x) : r07_Digits x = some (d3 x.toNat) := by
  rw [digits_eq (by have := h.1; have := h.2; constructor <;> omega), itoa_d3 h]
theorem nameF_len (f : Nat) : (nameF f).length ≤ 4 := by unfold nameF; split <;> decide
theorem joinTail_app (sep : List UInt8) (a b : Ws) : Lib.joinTail sep (a ++ b) = Lib.joinTail sep a ++ Lib.joinTail sep b := by simp [Lib.joinTail]
theorem join_tail {l : Ws} (h : l ≠ []) : Lib.joinTail [44, 32] l = [44, 32] ++ Lib.join l [44, 32] := by
  cases l with
  | nil => exact absurd rfl h
  | cons x r => rw [Lib.join_cons]; simp [Lib.joinTail]
theorem setAt_len (x : List (Int × Int × Int)) (v : Int) (t : Int × Int × Int) : (setAt x v t).length = x.length := by unfold setAt; simp
abbrev A3 := Int × Int × Int
abbrev OkA (ports : Int) (a : A3) : Prop := (a.1 = 1 ∧ (0 ≤ a.2.1 ∧ a.2.1 < 4) ∧ (0 ≤ a.2.2 ∧ a.2.2 ≤ r07_Top a.2.1)) ∨ (a.1 = 2 ∧ a.2.1 = 0 ∧ 0 ≤ a.2.2 ∧ a.2.2 < ports) ∨ (a.1 = 3 ∧ a.2.1 = 0 ∧ a.2.2 = 0)
theorem act_eq (a : A3) (ports : Int) : act_right a ports = some (decide (OkA ports a)) := by
  obtain ⟨k, f, v⟩ := a
  unfold act_right
  simp only
  by_cases k1 : k = 1
  · subst k1
    rw [if_pos rfl, top_eq]
    by_cases c : (0 ≤ f ∧ f < 4) ∧ (0 ≤ v ∧ v ≤ r07_Top f)
    · rw [if_pos c.1.1, if_pos c.1.2, if_pos c.2.1, Option.bind_some, decide_eq_true c.2.2, decide_eq_true (show OkA ports (1, f, v) from .inl ⟨rfl, c.1, c.2⟩)]; rfl
    · have hn : ¬ OkA ports (1, f, v) := by
        rintro (⟨_, h1, h2⟩ | ⟨h, _⟩ | ⟨h, _⟩)
        · exact c ⟨h1, h2⟩
        · cases h
        · cases h
      rw [decide_eq_false hn]
      by_cases c1 : 0 ≤ f
      · rw [if_pos c1]
        by_cases c2 : f < 4
        · rw [if_pos c2]
          by_cases c3 : 0 ≤ v
          · rw [if_pos c3, Option.bind_some, decide_eq_false (fun h => c ⟨⟨c1, c2⟩, ⟨c3, h⟩⟩)]; rfl
          · rw [if_neg c3]; rfl
        · rw [if_neg c2]; rfl
      · rw [if_neg c1]; rfl
  · rw [if_neg k1]
    by_cases k2 : k = 2
    · subst k2
      rw [if_pos rfl]
      congr 1
      rw [← Bool.decide_and, ← Bool.decide_and]
      exact decide_eq_decide.2 ⟨fun h => .inr (.inl ⟨rfl, h.1, h.2.1, h.2.2⟩), fun h => by
        rcases h with ⟨h, _⟩ | ⟨_, h⟩ | ⟨h, _⟩
        · cases h
        · exact h
        · cases h⟩
    · rw [if_neg k2]
      by_cases k3 : k = 3
      · subst k3
        rw [if_pos rfl]
        congr 1
        rw [← Bool.decide_and]
        exact decide_eq_decide.2 ⟨fun h => .inr (.inr ⟨rfl, h.1, h.2⟩), fun h => by
          rcases h with ⟨h, _⟩ | ⟨h, _⟩ | ⟨_, h⟩
          · cases h
          · cases h
          · exact h⟩
      · rw [if_neg k3, decide_eq_false (by
          rintro (⟨h, _⟩ | ⟨h, _⟩ | ⟨h, _⟩)
          · exact k1 h
          · exact k2 h
          · exact k3 h)]
theorem one_eq (a : A3) (ports : Int) : r09_One a ports = decide (OkA ports a) := by
  obtain ⟨k, f, v⟩ := a
  unfold r09_One
  simp only
  by_cases k1 : k = 1
  · subst k1
    rw [if_pos rfl, ← Bool.decide_and, ← Bool.decide_and, ← Bool.decide_and]
    exact decide_eq_decide.2 ⟨fun h => .inl ⟨rfl, ⟨h.1, by have := h.2.1; show f < 4; omega⟩, h.2.2⟩, fun h => by
      rcases h with ⟨_, h1, h2⟩ | ⟨h, _⟩ | ⟨h, _⟩
      · exact ⟨h1.1, by have := h1.2; simp only at this; omega, h2⟩
      · cases h
      · cases h⟩
  · rw [if_neg k1]
    by_cases k3 : k = 3
    · subst k3
      rw [if_pos rfl, ← Bool.decide_and]
      exact decide_eq_decide.2 ⟨fun h => .inr (.inr ⟨rfl, h.1, h.2⟩), fun h => by
        rcases h with ⟨h, _⟩ | ⟨h, _⟩ | ⟨_, h⟩
        · cases h
        · cases h
        · exact h⟩
    · rw [if_neg k3, ← Bool.decide_and, ← Bool.decide_and, ← Bool.decide_and]
      exact decide_eq_decide.2 ⟨fun h => .inr (.inl h), fun h => by
        rcases h with ⟨h, _⟩ | h | ⟨h, _⟩
        · exact absurd h k1
        · exact h
        · exact absurd h k3⟩
abbrev OkAs (ports : Int) (l : List A3) : Prop := l.length ≤ 16 ∧ ∀ a ∈ l, OkA ports a
theorem acts_eq (l : List A3) (ports : Int) : act_Right l ports = some (decide (OkAs ports l)) := by
  unfold act_Right
  by_cases hl : 16 < (l.length : Int)
  · rw [if_pos hl, decide_eq_false (fun h => by have := h.1; omega)]
  · rw [if_neg hl, search_in l (by omega) _ (fun a => ¬ OkA ports a) false (fun k hk => by
      unfold act_Right_l1
      rw [if_pos (by omega), ix_nat (List.getElem?_eq_getElem hk), Option.bind_some, act_eq, Option.bind_some]
      by_cases c : OkA ports l[k]
      · rw [decide_eq_true c, if_neg (by decide), if_neg (fun h => h c)]
      · rw [decide_eq_false c, if_pos (by decide), if_pos c]) (by unfold act_Right_l1; rw [if_neg (by omega)]), orR_any]
    congr 1
    exact decide_eq_decide.2 ⟨fun h => ⟨by omega, fun a ha => Classical.byContradiction fun hn => h ⟨a, ha, hn⟩⟩, fun h ⟨a, ha, hn⟩ => hn (h.2 a ha)⟩
theorem racts_eq {l : List A3} (hl : l.length ≤ 9223372036854775807) (ports : Int) : r09_Right l ports = some (decide (OkAs ports l)) := by
  unfold r09_Right
  rw [search_in l hl _ (fun a => ¬ OkA ports a) false (fun k hk => by
      unfold r09_Right_l1
      rw [if_pos (by omega), ix_nat (List.getElem?_eq_getElem hk), Option.bind_some, one_eq]
      by_cases c : OkA ports l[k]
      · rw [decide_eq_true c, if_neg (by decide), if_neg (fun h => h c)]
      · rw [decide_eq_false c, if_pos (by decide), if_pos c]) (by unfold r09_Right_l1; rw [if_neg (by omega)])]
  by_cases h : ∃ a ∈ l, ¬ OkA ports a
  · rw [if_pos h, decide_eq_false (show ¬ OkAs ports l from fun h2 => by obtain ⟨a, ha, hn⟩ := h; exact hn (h2.2 a ha))]; rfl
  · rw [if_neg h]
    show some (decide ((l.length : Int) ≤ 16)) = _
    congr 1
    exact decide_eq_decide.2 ⟨fun h1 => ⟨by omega, fun a ha => Classical.byContradiction fun hn => h ⟨a, ha, hn⟩⟩, fun h1 => by have := h1.1; omega⟩
theorem eq3 {x y : A3} : (x.1 = y.1 ∧ x.2.1 = y.2.1 ∧ x.2.2 = y.2.2) ↔ x = y := by
  obtain ⟨a, b, c⟩ := x
  obtain ⟨a', b', c'⟩ := y
  constructor
  · rintro ⟨h1, h2, h3⟩
    simp only at h1 h2 h3
    subst h1 h2 h3; rfl
  · rintro h; cases h; exact ⟨rfl, rfl, rfl⟩
theorem same_loop {S : Int → Option (Int ⊕ (Unit ⊕ Bool))} {a b : List A3} (hl : a.length ≤ 9223372036854775807) (he : a.length = b.length)
    (hs : ∀ k (h1 : k < a.length) (h2 : k < b.length), S (k : Int) = if (!(decide (a[k].1 = b[k].1 ∧ a[k].2.1 = b[k].2.1 ∧ a[k].2.2 = b[k].2.2))) = true then some (.inr (.inr false)) else some (.inl (w64 ((k : Int) + 1)))) (hE : S (a.length : Int) = some (.inr (.inl ()))) :
    orR (loopW S 0) (fun _ => some true) = some (decide (a = b)) := by
  have hd : DecidablePred fun k : Nat => a[k]? ≠ b[k]? := fun _ => inferInstance
  rw [any_loop a.length S (fun k : Nat => a[k]? ≠ b[k]?) false (fun k hk => by
    have h2 : k < b.length := by omega
    rw [hs k hk h2, w64_id (by omega)]
    by_cases c : a[k] = b[k]
    · have c' : a[k]? = b[k]? := by rw [List.getElem?_eq_getElem hk, List.getElem?_eq_getElem h2, c]
      rw [if_neg (by rw [decide_eq_true (eq3.2 c)]; decide), if_neg (fun h => h c')]; rfl
    · have c' : a[k]? ≠ b[k]? := by rw [List.getElem?_eq_getElem hk, List.getElem?_eq_getElem h2]; simpa using c
      rw [if_pos (by rw [decide_eq_false (fun h => c (eq3.1 h))]; rfl), if_pos c']) hE, orR_any]
  congr 1
  exact decide_eq_decide.2 ⟨fun h => List.ext_getElem? fun k => Classical.byContradiction fun hn => by
    by_cases hk : k < a.length
    · exact h ⟨k, hk, hn⟩
    · exact hn (by rw [List.getElem?_eq_none (by omega), List.getElem?_eq_none (by omega)]), fun h ⟨k, hk, hn⟩ => hn (by rw [h])⟩
theorem same_eq {a b : List A3} (hl : a.length ≤ 9223372036854775807) : act_Same a b = some (decide (a = b)) := by
  unfold act_Same slices_Equal_api_Act_api_Act
  by_cases he : (a.length : Int) ≠ (b.length : Int)
  · rw [if_pos he, decide_eq_false (fun h => he (by rw [h]))]; rfl
  · have he' : a.length = b.length := by omega
    rw [if_neg he, same_loop hl he' (fun k h1 h2 => by
      unfold slices_Equal_api_Act_api_Act_l1
      rw [if_pos (by omega), ix_nat (List.getElem?_eq_getElem h1), Option.bind_some, ix_nat (List.getElem?_eq_getElem h2), Option.bind_some]) (by unfold slices_Equal_api_Act_api_Act_l1; rw [if_neg (by omega)])]; rfl
theorem rsame_eq {a b : List A3} (hl : a.length ≤ 9223372036854775807) : r09_Same a b = some (decide (a = b)) := by
  unfold r09_Same
  by_cases he : (a.length : Int) ≠ (b.length : Int)
  · rw [if_pos he, decide_eq_false (fun h => he (by rw [h]))]
  · have he' : a.length = b.length := by omega
    rw [if_neg he, same_loop hl he' (fun k h1 h2 => by
      unfold r09_Same_l1
      rw [if_pos (by omega), ix_nat (List.getElem?_eq_getElem h1), Option.bind_some, ix_nat (List.getElem?_eq_getElem h2), Option.bind_some]) (by unfold r09_Same_l1; rw [if_neg (by omega)])]
def nameA (f : Int) : List UInt8 := nameF f.toNat
def wordA (a : A3) : List UInt8 := if a.1 = 1 then [115, 101, 116, 32] ++ nameA a.2.1 ++ [32] ++ d3 a.2.2.toNat else if a.1 = 2 then [111, 117, 116, 32] ++ d3 a.2.2.toNat else [98, 97, 99, 107]
theorem wordA_len (a : A3) : (wordA a).length ≤ 12 := by
  have h1 := nameF_len a.2.1.toNat
  have h2 := d3_len a.2.2.toNat
  unfold wordA nameA
  split
  · simp; omega
  · split
    · simp; omega
    · decide
theorem oka_by {ports : Int} (hp : ports ≤ 256) {a : A3} (h : OkA ports a) : By a.1 ∧ By a.2.1 ∧ By a.2.2 := by
  rcases h with ⟨h1, h2, h3⟩ | ⟨h1, h2, h3, h4⟩ | ⟨h1, h2, h3⟩
  · have ht := topB (f := a.2.1.toNat) (by omega)
    rw [show ((a.2.1.toNat : Nat) : Int) = a.2.1 by omega] at ht
    refine ⟨by constructor <;> omega, by constructor <;> omega, by constructor <;> omega⟩
  · refine ⟨by constructor <;> omega, by constructor <;> omega, by constructor <;> omega⟩
  · refine ⟨by constructor <;> omega, by constructor <;> omega, by constructor <;> omega⟩
theorem acttext_eq {ports : Int} (hp : ports ≤ 256) {a : A3} (h : OkA ports a) : act_text a = some (wordA a) := by
  obtain ⟨b1, b2, b3⟩ := oka_by hp h
  have hd := d3_len a.2.2.toNat
  have hn := nameF_len a.2.1.toNat
  unfold act_text wordA
  rw [itoaP_d3 b3]
  rcases h with ⟨h1, h2, h3⟩ | ⟨h1, h2, h3, h4⟩ | ⟨h1, h2, h3⟩
  · have hf : act_fieldName a.2.1 = nameA a.2.1 := by
      have : a.2.1 = 0 ∨ a.2.1 = 1 ∨ a.2.1 = 2 ∨ a.2.1 = 3 := by omega
      rcases this with e | e | e | e <;> rw [e] <;> rfl
    have hna : (nameA a.2.1).length ≤ 4 := hn
    rw [if_pos h1, if_pos h1, hf, app_is (by simp; omega), Option.bind_some, app_is (by simp; omega), Option.bind_some, Option.bind_some, app_is (by simp; omega)]; rfl
  · have n1 : ¬ a.1 = 1 := by omega
    rw [if_neg n1, if_pos h1, if_neg n1, if_pos h1, Option.bind_some, app_is (by simp; omega)]; rfl
  · have n1 : ¬ a.1 = 1 := by omega
    have n2 : ¬ a.1 = 2 := by omega
    rw [if_neg n1, if_neg n2, if_pos h1, if_neg n1, if_neg n2]
def textA (l : List A3) : List UInt8 := if l = [] then [100, 114, 111, 112] else Lib.join (l.map wordA) [44, 32]
theorem tailA_len (l : List A3) : (Lib.joinTail [44, 32] (l.map wordA)).length ≤ 14 * l.length := by
  induction l with
  | nil => simp [Lib.joinTail]
  | cons a l ih =>
    have := wordA_len a
    rw [show (a :: l).map wordA = [wordA a] ++ l.map wordA from rfl, joinTail_app]
    have e : Lib.joinTail [44, 32] [wordA a] = [44, 32] ++ wordA a := by simp [Lib.joinTail]
    rw [e]
    simp; omega
theorem textA_len {ports : Int} {l : List A3} (h : OkAs ports l) : (textA l).length ≤ 300 := by
  unfold textA
  by_cases hl : l = []
  · rw [if_pos hl]; decide
  · have h1 := tailA_len l
    have h2 := congrArg List.length (join_tail (l := l.map wordA) (by simpa using hl))
    have h3 := h.1
    rw [if_neg hl]
    simp at h2; omega
theorem acttexts_eq {ports : Int} (hp : ports ≤ 256) {l : List A3} (h : OkAs ports l) : act_Text l = some (textA l) := by
  have hl := h.1
  unfold act_Text textA
  by_cases c : l = []
  · subst c; rfl
  · have hc : (l.length : Int) ≠ 0 := by
      have : l.length ≠ 0 := by simpa using c
      omega
    have h1 := tailA_len l
    have h2 := congrArg List.length (join_tail (l := l.map wordA) (by simpa using c))
    simp at h2
    rw [if_neg hc, if_neg c, loop_copy l (by omega) wordA (act_Text_l1 l) (fun k hk out ho => by
      rw [act_Text_l1, if_pos (by omega), ix_nat (List.getElem?_eq_getElem hk), Option.bind_some, acttext_eq hp (h.2 _ (List.getElem_mem hk))]; rfl) (fun out => by rw [act_Text_l1, if_neg (by omega)]), Option.bind_some]
    unfold joinP
    rw [if_pos ⟨by simp; omega, by omega⟩]; rfl
theorem rev_eq (l : List (Int × Int × Int)) (hl : l.length ≤ 1000000000) : slices_Reverse_api_Act_api_Act l = some l.reverse := by
  unfold slices_Reverse_api_Act_api_Act
  refine loopW_is (fun s => ∃ k : Nat, k ≤ l.length ∧ s.2.1 = (k : Int) ∧ s.2.2 = (l.length : Int) - 1 - k ∧ s.1.length = l.length ∧ ∀ idx : Nat, idx < l.length → s.1[idx]? = if idx < k ∨ l.length ≤ idx + k then l[l.length - 1 - idx]? else l[idx]?) (fun s => l.length - s.2.1.toNat) _ ?_ _ ⟨0, by omega, rfl, by rw [w64_id (by omega)]; simp, rfl, fun idx hi => by rw [if_neg (by omega)]⟩
  rintro ⟨m, i, j⟩ ⟨k, hk, hi, hj, hm, hg⟩
  simp only at hi hj hm hg
  subst hi hj
  by_cases h : (k : Int) < (l.length : Int) - 1 - k
  · left
    have hj' : (l.length : Int) - 1 - k = ((l.length - 1 - k : Nat) : Int) := by omega
    have g1 : ix m ((l.length - 1 - k : Nat) : Int) = some (l[l.length - 1 - k]'(by omega)) := ix_nat (by rw [hg _ (by omega), if_neg (by omega), List.getElem?_eq_getElem (by omega)])
    have g2 : ix m (k : Int) = some (l[k]'(by omega)) := ix_nat (by rw [hg _ (by omega), if_neg (by omega), List.getElem?_eq_getElem (by omega)])
    have g3 : ∃ y, ix (setAt m (k : Int) (l[l.length - 1 - k]'(by omega))) ((l.length - 1 - k : Nat) : Int) = some y := by
      obtain ⟨y, h1, _⟩ := ix_getD (l := setAt m (k : Int) (l[l.length - 1 - k]'(by omega))) (i := ((l.length - 1 - k : Nat) : Int)) (by omega) (by rw [setAt_len]; omega)
      exact ⟨y, h1⟩
    obtain ⟨y, g3⟩ := g3
    refine ⟨(setAt (setAt m (k : Int) (l[l.length - 1 - k]'(by omega))) ((l.length - 1 - k : Nat) : Int) (l[k]'(by omega)), ((k + 1 : Nat) : Int), (l.length : Int) - 1 - ((k + 1 : Nat) : Int)), ?_, ⟨k + 1, by omega, rfl, rfl, by rw [setAt_len, setAt_len]; exact hm, fun idx hx => ?_⟩, by simp; omega⟩
    · simp only [slices_Reverse_api_Act_api_Act_l1]
      rw [if_pos h, hj', g1, Option.bind_some, g2, Option.bind_some, Option.bind_some, g3, Option.bind_some, w64_id (by omega), w64_id (by omega)]
      congr 4
      omega
    · unfold setAt
      rw [List.getElem?_set, List.getElem?_set, Int.toNat_natCast, Int.toNat_natCast, List.length_set]
      by_cases e1 : l.length - 1 - k = idx
      · rw [if_pos e1, if_pos (by omega), if_pos (by omega)]
        have : l.length - 1 - idx = k := by omega
        simp only [this]
        rw [List.getElem?_eq_getElem (by omega)]
      · rw [if_neg e1]
        by_cases e2 : k = idx
        · subst e2
          rw [if_pos rfl, if_pos (by omega), if_pos (by omega), List.getElem?_eq_getElem (by omega)]
        · rw [if_neg e2, hg idx hx]
          by_cases e3 : idx < k ∨ l.length ≤ idx + k
          · rw [if_pos e3, if_pos (by omega)]
          · rw [if_neg e3, if_neg (by omega)]
  · right
    simp only [slices_Reverse_api_Act_api_Act_l1]
    rw [if_neg h]
    have : m = l.reverse := by
      refine List.ext_getElem? fun idx => ?_
      by_cases hx : idx < l.length
      · rw [hg idx hx, List.getElem?_reverse hx]
        by_cases e : idx < k ∨ l.length ≤ idx + k
        · rw [if_pos e]
        · rw [if_neg e, show l.length - 1 - idx = idx by omega]
      · rw [List.getElem?_eq_none (by omega), List.getElem?_eq_none (by simp; omega)]
    rw [this]
end Go.Proofs.YtefiglmpdajonaaDoor
