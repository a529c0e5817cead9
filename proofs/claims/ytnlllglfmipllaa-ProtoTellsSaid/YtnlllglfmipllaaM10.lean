/- Layer 16: acts and rules. Conditions: none. -/
import Derived.Test.YtnlllglfmipllaaM08
namespace Go.Proofs.Ytnlllglfmipllaa
set_option linter.unusedVariables false
set_option linter.unusedSimpArgs false
open Go Go.RowKit
/-! ### Acts -/
abbrev A3 := Int × Int × Int
abbrev OkA (ports : Int) (a : A3) : Prop := (a.1 = 1 ∧ (0 ≤ a.2.1 ∧ a.2.1 < 4) ∧ (0 ≤ a.2.2 ∧ a.2.2 ≤ r07_Top a.2.1)) ∨ (a.1 = 2 ∧ a.2.1 = 0 ∧ 0 ≤ a.2.2 ∧ a.2.2 < ports) ∨ (a.1 = 3 ∧ a.2.1 = 0 ∧ a.2.2 = 0)
theorem act_eq (a : A3) (ports : Int) : act_right a ports = some (decide (OkA ports a)) := by
  obtain ⟨k, f, v⟩ := a
  unfold act_right
  simp only
  by_cases k1 : k = 1
  · subst k1
    rw [if_pos rfl, top_eq]
    by_cases c : (0 ≤ f ∧ f < 4) ∧ (0 ≤ v ∧ v ≤ r07_Top f)
    · rw [if_pos c.1.1, if_pos c.1.2, if_pos c.2.1, Option.bind_some, decide_eq_true c.2.2, decide_eq_true (show OkA ports (1, f, v) from .inl ⟨rfl, c.1, c.2⟩)]; rfl
    · have hn : ¬ OkA ports (1, f, v) := by
        rintro (⟨_, h1, h2⟩ | ⟨h, _⟩ | ⟨h, _⟩)
        · exact c ⟨h1, h2⟩
        · cases h
        · cases h
      rw [decide_eq_false hn]
      by_cases c1 : 0 ≤ f
      · rw [if_pos c1]
        by_cases c2 : f < 4
        · rw [if_pos c2]
          by_cases c3 : 0 ≤ v
          · rw [if_pos c3, Option.bind_some, decide_eq_false (fun h => c ⟨⟨c1, c2⟩, ⟨c3, h⟩⟩)]; rfl
          · rw [if_neg c3]; rfl
        · rw [if_neg c2]; rfl
      · rw [if_neg c1]; rfl
  · rw [if_neg k1]
    by_cases k2 : k = 2
    · subst k2
      rw [if_pos rfl]
      congr 1
      rw [← Bool.decide_and, ← Bool.decide_and]
      exact decide_eq_decide.2 ⟨fun h => .inr (.inl ⟨rfl, h.1, h.2.1, h.2.2⟩), fun h => by
        rcases h with ⟨h, _⟩ | ⟨_, h⟩ | ⟨h, _⟩
        · cases h
        · exact h
        · cases h⟩
    · rw [if_neg k2]
      by_cases k3 : k = 3
      · subst k3
        rw [if_pos rfl]
        congr 1
        rw [← Bool.decide_and]
        exact decide_eq_decide.2 ⟨fun h => .inr (.inr ⟨rfl, h.1, h.2⟩), fun h => by
          rcases h with ⟨h, _⟩ | ⟨h, _⟩ | ⟨_, h⟩
          · cases h
          · cases h
          · exact h⟩
      · rw [if_neg k3, decide_eq_false (by
          rintro (⟨h, _⟩ | ⟨h, _⟩ | ⟨h, _⟩)
          · exact k1 h
          · exact k2 h
          · exact k3 h)]
theorem one_eq (a : A3) (ports : Int) : r09_One a ports = decide (OkA ports a) := by
  obtain ⟨k, f, v⟩ := a
  unfold r09_One
  simp only
  by_cases k1 : k = 1
  · subst k1
    rw [if_pos rfl, ← Bool.decide_and, ← Bool.decide_and, ← Bool.decide_and]
    exact decide_eq_decide.2 ⟨fun h => .inl ⟨rfl, ⟨h.1, by have := h.2.1; show f < 4; omega⟩, h.2.2⟩, fun h => by
      rcases h with ⟨_, h1, h2⟩ | ⟨h, _⟩ | ⟨h, _⟩
      · exact ⟨h1.1, by have := h1.2; simp only at this; omega, h2⟩
      · cases h
      · cases h⟩
  · rw [if_neg k1]
    by_cases k3 : k = 3
    · subst k3
      rw [if_pos rfl, ← Bool.decide_and]
      exact decide_eq_decide.2 ⟨fun h => .inr (.inr ⟨rfl, h.1, h.2⟩), fun h => by
        rcases h with ⟨h, _⟩ | ⟨h, _⟩ | ⟨_, h⟩
        · cases h
        · cases h
        · exact h⟩
    · rw [if_neg k3, ← Bool.decide_and, ← Bool.decide_and, ← Bool.decide_and]
      exact decide_eq_decide.2 ⟨fun h => .inr (.inl h), fun h => by
        rcases h with ⟨h, _⟩ | h | ⟨h, _⟩
        · exact absurd h k1
        · exact h
        · exact absurd h k3⟩
abbrev OkAs (ports : Int) (l : List A3) : Prop := l.length ≤ 16 ∧ ∀ a ∈ l, OkA ports a
theorem acts_eq (l : List A3) (ports : Int) : act_Right l ports = some (decide (OkAs ports l)) := by
  unfold act_Right
  by_cases hl : 16 < (l.length : Int)
  · rw [if_pos hl, decide_eq_false (fun h => by have := h.1; omega)]
  · rw [if_neg hl, search_in l (by omega) _ (fun a => ¬ OkA ports a) false (fun k hk => by
      unfold act_Right_l1
      rw [if_pos (by omega), ix_nat (List.getElem?_eq_getElem hk), Option.bind_some, act_eq, Option.bind_some]
      by_cases c : OkA ports l[k]
      · rw [decide_eq_true c, if_neg (by decide), if_neg (fun h => h c)]
      · rw [decide_eq_false c, if_pos (by decide), if_pos c]) (by unfold act_Right_l1; rw [if_neg (by omega)]), orR_any]
    congr 1
    exact decide_eq_decide.2 ⟨fun h => ⟨by omega, fun a ha => Classical.byContradiction fun hn => h ⟨a, ha, hn⟩⟩, fun h ⟨a, ha, hn⟩ => hn (h.2 a ha)⟩
theorem racts_eq {l : List A3} (hl : l.length ≤ 9223372036854775807) (ports : Int) : r09_Right l ports = some (decide (OkAs ports l)) := by
  unfold r09_Right
  rw [search_in l hl _ (fun a => ¬ OkA ports a) false (fun k hk => by
      unfold r09_Right_l1
      rw [if_pos (by omega), ix_nat (List.getElem?_eq_getElem hk), Option.bind_some, one_eq]
      by_cases c : OkA ports l[k]
      · rw [decide_eq_true c, if_neg (by decide), if_neg (fun h => h c)]
      · rw [decide_eq_false c, if_pos (by decide), if_pos c]) (by unfold r09_Right_l1; rw [if_neg (by omega)])]
  by_cases h : ∃ a ∈ l, ¬ OkA ports a
  · rw [if_pos h, decide_eq_false (show ¬ OkAs ports l from fun h2 => by obtain ⟨a, ha, hn⟩ := h; exact hn (h2.2 a ha))]; rfl
  · rw [if_neg h]
    show some (decide ((l.length : Int) ≤ 16)) = _
    congr 1
    exact decide_eq_decide.2 ⟨fun h1 => ⟨by omega, fun a ha => Classical.byContradiction fun hn => h ⟨a, ha, hn⟩⟩, fun h1 => by have := h1.1; omega⟩
/-! ### The same acts -/
theorem eq3 {x y : A3} : (x.1 = y.1 ∧ x.2.1 = y.2.1 ∧ x.2.2 = y.2.2) ↔ x = y := by
  obtain ⟨a, b, c⟩ := x
  obtain ⟨a', b', c'⟩ := y
  constructor
  · rintro ⟨h1, h2, h3⟩
    simp only at h1 h2 h3
    subst h1 h2 h3; rfl
  · rintro h; cases h; exact ⟨rfl, rfl, rfl⟩
theorem same_loop {S : Int → Option (Int ⊕ (Unit ⊕ Bool))} {a b : List A3} (hl : a.length ≤ 9223372036854775807) (he : a.length = b.length)
    (hs : ∀ k (h1 : k < a.length) (h2 : k < b.length), S (k : Int) = if (!(decide (a[k].1 = b[k].1 ∧ a[k].2.1 = b[k].2.1 ∧ a[k].2.2 = b[k].2.2))) = true then some (.inr (.inr false)) else some (.inl (w64 ((k : Int) + 1)))) (hE : S (a.length : Int) = some (.inr (.inl ()))) :
    orR (loopW S 0) (fun _ => some true) = some (decide (a = b)) := by
  have hd : DecidablePred fun k : Nat => a[k]? ≠ b[k]? := fun _ => inferInstance
  rw [any_loop a.length S (fun k : Nat => a[k]? ≠ b[k]?) false (fun k hk => by
    have h2 : k < b.length := by omega
    rw [hs k hk h2, w64_id (by omega)]
    by_cases c : a[k] = b[k]
    · have c' : a[k]? = b[k]? := by rw [List.getElem?_eq_getElem hk, List.getElem?_eq_getElem h2, c]
      rw [if_neg (by rw [decide_eq_true (eq3.2 c)]; decide), if_neg (fun h => h c')]; rfl
    · have c' : a[k]? ≠ b[k]? := by rw [List.getElem?_eq_getElem hk, List.getElem?_eq_getElem h2]; simpa using c
      rw [if_pos (by rw [decide_eq_false (fun h => c (eq3.1 h))]; rfl), if_pos c']) hE, orR_any]
  congr 1
  exact decide_eq_decide.2 ⟨fun h => List.ext_getElem? fun k => Classical.byContradiction fun hn => by
    by_cases hk : k < a.length
    · exact h ⟨k, hk, hn⟩
    · exact hn (by rw [List.getElem?_eq_none (by omega), List.getElem?_eq_none (by omega)]), fun h ⟨k, hk, hn⟩ => hn (by rw [h])⟩
theorem same_eq {a b : List A3} (hl : a.length ≤ 9223372036854775807) : act_Same a b = some (decide (a = b)) := by
  unfold act_Same slices_Equal_api_Act_api_Act
  by_cases he : (a.length : Int) ≠ (b.length : Int)
  · rw [if_pos he, decide_eq_false (fun h => he (by rw [h]))]; rfl
  · have he' : a.length = b.length := by omega
    rw [if_neg he, same_loop hl he' (fun k h1 h2 => by
      unfold slices_Equal_api_Act_api_Act_l1
      rw [if_pos (by omega), ix_nat (List.getElem?_eq_getElem h1), Option.bind_some, ix_nat (List.getElem?_eq_getElem h2), Option.bind_some]) (by unfold slices_Equal_api_Act_api_Act_l1; rw [if_neg (by omega)])]; rfl
theorem rsame_eq {a b : List A3} (hl : a.length ≤ 9223372036854775807) : r09_Same a b = some (decide (a = b)) := by
  unfold r09_Same
  by_cases he : (a.length : Int) ≠ (b.length : Int)
  · rw [if_pos he, decide_eq_false (fun h => he (by rw [h]))]
  · have he' : a.length = b.length := by omega
    rw [if_neg he, same_loop hl he' (fun k h1 h2 => by
      unfold r09_Same_l1
      rw [if_pos (by omega), ix_nat (List.getElem?_eq_getElem h1), Option.bind_some, ix_nat (List.getElem?_eq_getElem h2), Option.bind_some]) (by unfold r09_Same_l1; rw [if_neg (by omega)])]
/-! ### Rules -/
abbrev Rl := Int × Mt × List A3
abbrev OkR (ports : Int) (x : Rl) : Prop := (0 ≤ x.1 ∧ x.1 ≤ 65535) ∧ Good x.2.1 ∧ OkAs ports x.2.2
theorem rule_eq {x : Rl} (hI : I4 x.2.1.2.1) (ports : Int) : rule_Right x ports = some (decide (OkR ports x)) := by
  unfold rule_Right
  rw [right_eq hI, acts_eq]
  by_cases h1 : 0 ≤ x.1
  · rw [if_pos h1]
    by_cases h2 : x.1 < 65536
    · rw [if_pos h2, Option.bind_some]
      by_cases h3 : Good x.2.1
      · rw [decide_eq_true h3, if_pos rfl]
        show some (decide _) = _
        congr 1
        exact decide_eq_decide.2 ⟨fun h => ⟨⟨h1, by omega⟩, h3, h⟩, fun h => h.2.2⟩
      · rw [decide_eq_false h3, if_neg (by decide), decide_eq_false (fun h => h3 h.2.1)]; rfl
    · rw [if_neg h2, decide_eq_false (fun h => by have := h.1.2; omega)]; rfl
  · rw [if_neg h1, decide_eq_false (fun h => h1 h.1.1)]; rfl
theorem rrule_eq {x : Rl} (hl : x.2.2.length ≤ 9223372036854775807) (ports : Int) : r10_Right x ports = some (decide (OkR ports x)) := by
  unfold r10_Right
  rw [rright8_eq, racts_eq hl]
  by_cases h1 : 0 ≤ x.1
  · rw [if_pos h1]
    by_cases h2 : x.1 ≤ 65535
    · rw [if_pos h2, Option.bind_some]
      by_cases h3 : Good x.2.1
      · rw [decide_eq_true h3, if_pos rfl]
        show some (decide _) = _
        congr 1
        exact decide_eq_decide.2 ⟨fun h => ⟨⟨h1, h2⟩, h3, h⟩, fun h => h.2.2⟩
      · rw [decide_eq_false h3, if_neg (by decide), decide_eq_false (fun h => h3 h.2.1)]; rfl
    · rw [if_neg h2, decide_eq_false (fun h => by have := h.1.2; omega)]; rfl
  · rw [if_neg h1, decide_eq_false (fun h => h1 h.1.1)]; rfl
theorem key_eq (x y : Rl) : rule_Key x y = decide (x.1 = y.1 ∧ x.2.1 = y.2.1) := by
  show (decide (x.1 = y.1) && decide (eqM x.2.1 y.2.1)) = _
  rw [← Bool.decide_and]
  exact decide_eq_decide.2 ⟨fun h => ⟨h.1, eqM_iff.1 h.2⟩, fun h => ⟨h.1, eqM_iff.2 h.2⟩⟩
abbrev EqR (x y : Rl) : Prop := x.1 = y.1 ∧ x.2.1 = y.2.1 ∧ x.2.2 = y.2.2
theorem eqR_iff {x y : Rl} : EqR x y ↔ x = y := by
  obtain ⟨a, b, c⟩ := x
  obtain ⟨a', b', c'⟩ := y
  constructor
  · rintro ⟨h1, h2, h3⟩
    simp only at h1 h2 h3
    subst h1 h2 h3; rfl
  · rintro h; cases h; exact ⟨rfl, rfl, rfl⟩
theorem rulesame_eq {x y : Rl} (hl : x.2.2.length ≤ 9223372036854775807) : rule_Same x y = some (decide (EqR x y)) := by
  unfold rule_Same
  rw [key_eq, same_eq hl]
  by_cases h : x.1 = y.1 ∧ x.2.1 = y.2.1
  · rw [decide_eq_true h, if_pos rfl]
    show some (decide _) = _
    congr 1
    exact decide_eq_decide.2 ⟨fun h3 => ⟨h.1, h.2, h3⟩, fun e => e.2.2⟩
  · rw [decide_eq_false h, if_neg (by decide), decide_eq_false (show ¬ EqR x y from fun e => h ⟨e.1, e.2.1⟩)]; rfl
theorem rrulesame_eq {x y : Rl} (hl : x.2.2.length ≤ 9223372036854775807) : r10_Same x y = some (decide (EqR x y)) := by
  unfold r10_Same
  rw [rsame_eq hl]
  by_cases h1 : x.1 = y.1
  · rw [if_pos h1]
    by_cases h2 : x.2.1 = y.2.1
    · rw [if_pos (show eqM x.2.1 y.2.1 from eqM_iff.2 h2)]
      show some (decide _) = _
      congr 1
      exact decide_eq_decide.2 ⟨fun h3 => ⟨h1, h2, h3⟩, fun e => e.2.2⟩
    · rw [if_neg (show ¬ eqM x.2.1 y.2.1 from fun h => h2 (eqM_iff.1 h)), decide_eq_false (show ¬ EqR x y from fun e => h2 e.2.1)]; rfl
  · rw [if_neg h1, decide_eq_false (show ¬ EqR x y from fun e => h1 e.1)]; rfl
/-! ### Texts -/
theorem oka_by {ports : Int} (hp : ports ≤ 256) {a : A3} (h : OkA ports a) : By a.1 ∧ By a.2.1 ∧ By a.2.2 := by
  rcases h with ⟨h1, h2, h3⟩ | ⟨h1, h2, h3, h4⟩ | ⟨h1, h2, h3⟩
  · have ht := topB (f := a.2.1.toNat) (by omega)
    rw [show ((a.2.1.toNat : Nat) : Int) = a.2.1 by omega] at ht
    refine ⟨by constructor <;> omega, by constructor <;> omega, by constructor <;> omega⟩
  · refine ⟨by constructor <;> omega, by constructor <;> omega, by constructor <;> omega⟩
  · refine ⟨by constructor <;> omega, by constructor <;> omega, by constructor <;> omega⟩
def byte3 (a : A3) : List UInt8 := be 1 a.1 ++ be 1 a.2.1 ++ be 1 a.2.2
def codeA (l : List A3) : List UInt8 := be 1 (l.length : Int) ++ (l.map byte3).flatten
theorem byte3_len (a : A3) : (byte3 a).length = 3 := by simp [byte3, be]
theorem flat_len (l : List A3) : ((l.map byte3).flatten).length = 3 * l.length := by
  induction l with
  | nil => rfl
  | cons a l ih => simp [byte3_len, ih]; omega
theorem actcode_eq {ports : Int} (hp : ports ≤ 256) {l : List A3} (h : OkAs ports l) : act_Code l = some (codeA l) := by
  have hl := h.1
  obtain ⟨s, h1, h2⟩ := loop_cnt l.length (fun (s : List UInt8) (k : Nat) => ((k : Int), s)) (act_Code_l1 l) id (fun s k => s = be 1 (l.length : Int) ++ ((l.take k).map byte3).flatten)
    (fun s k hk hI => by
      obtain ⟨b1, b2, b3⟩ := oka_by hp (h.2 _ (List.getElem_mem hk))
      have hlen : s.length ≤ 100 := by
        rw [hI, List.length_append, flat_len, List.length_take]
        simp [be]; omega
      refine ⟨s ++ byte3 l[k], ?_, ?_⟩
      · rw [act_Code_l1, if_pos (by omega), ix_nat (List.getElem?_eq_getElem hk), Option.bind_some, num_eq, Option.bind_some, num_eq, Option.bind_some, num_eq, num1 b1, num1 b2, num1 b3, app_is (by simp [be]), Option.bind_some, Option.bind_some, app_is (by simp [be]), Option.bind_some, app_is (by simp [be]; omega), Option.bind_some, w64_id (by omega)]; rfl
      · rw [hI, List.take_succ_eq_append_getElem hk, List.map_append, List.flatten_append]
        simp)
    (fun s _ => by rw [act_Code_l1, if_neg (by omega)]; rfl) (be 1 (l.length : Int)) (by simp)
  have e : loopW (act_Code_l1 l) (0, be 1 (l.length : Int)) = some s := h2
  rw [List.take_length] at h1
  unfold act_Code codeA
  rw [num_eq, Option.bind_some, num1 (by constructor <;> omega), app_is (by simp [be]), Option.bind_some, List.nil_append, e, Option.bind_some, lenB_is (by rw [h1, List.length_append, flat_len]; simp [be]; omega), h1]; rfl
theorem num2 {v : Int} (h : 0 ≤ v ∧ v ≤ 65535) : numS v 2 = be 2 v := by
  unfold numS
  rw [if_pos ⟨by decide, by decide, h.1, by show v < 65536; omega⟩]; rfl
def codeR (x : Rl) : List UInt8 := be 2 x.1 ++ codeM x.2.1 ++ codeA x.2.2
theorem codeM_len (m : Mt) : (codeM m).length = 9 := by simp [codeM, be]
theorem codeA_len {ports : Int} {l : List A3} (h : OkAs ports l) : (codeA l).length ≤ 49 := by
  have := h.1
  unfold codeA
  rw [List.length_append, flat_len]
  simp [be]; omega
theorem rulecode_eq {ports : Int} (hp : ports ≤ 256) {x : Rl} (h : OkR ports x) : rule_Code x = some (codeR x) := by
  have l1 := codeM_len x.2.1
  have l2 := codeA_len h.2.2
  unfold rule_Code codeR
  rw [num_eq, Option.bind_some, num2 h.1, code_eq h.2.1, Option.bind_some, app_is (by simp [be]; omega), Option.bind_some, actcode_eq hp h.2.2, Option.bind_some, app_is (by simp [be]; omega)]; rfl
abbrev Rd := List UInt8 × Int
theorem read_code8g {m : Mt} (h : Good m) (r : List UInt8) (hr : r.length ≤ 1000) : match_Read (codeM m ++ r, 0) = some (m, (r, 0)) := by
  have hp := h.1
  obtain ⟨c, ec, vc⟩ := be1_byte (v := m.1 + 1) (by constructor <;> omega)
  obtain ⟨x0, ex0, vx0⟩ : ∃ x : UInt8, be 1 m.2.1.1 = [x] ∧ (x.toNat : Int) = m.2.1.1 := be1_byte (good_by h (k := 0) (by decide)).1
  obtain ⟨y0, ey0, vy0⟩ : ∃ x : UInt8, be 1 m.2.2.1 = [x] ∧ (x.toNat : Int) = m.2.2.1 := be1_byte (good_by h (k := 0) (by decide)).2
  obtain ⟨x1, ex1, vx1⟩ : ∃ x : UInt8, be 1 m.2.1.2.1 = [x] ∧ (x.toNat : Int) = m.2.1.2.1 := be1_byte (good_by h (k := 1) (by decide)).1
  obtain ⟨y1, ey1, vy1⟩ : ∃ x : UInt8, be 1 m.2.2.2.1 = [x] ∧ (x.toNat : Int) = m.2.2.2.1 := be1_byte (good_by h (k := 1) (by decide)).2
  obtain ⟨x2, ex2, vx2⟩ : ∃ x : UInt8, be 1 m.2.1.2.2.1 = [x] ∧ (x.toNat : Int) = m.2.1.2.2.1 := be1_byte (good_by h (k := 2) (by decide)).1
  obtain ⟨y2, ey2, vy2⟩ : ∃ x : UInt8, be 1 m.2.2.2.2.1 = [x] ∧ (x.toNat : Int) = m.2.2.2.2.1 := be1_byte (good_by h (k := 2) (by decide)).2
  obtain ⟨x3, ex3, vx3⟩ : ∃ x : UInt8, be 1 m.2.1.2.2.2 = [x] ∧ (x.toNat : Int) = m.2.1.2.2.2 := be1_byte (good_by h (k := 3) (by decide)).1
  obtain ⟨y3, ey3, vy3⟩ : ∃ x : UInt8, be 1 m.2.2.2.2.2 = [x] ∧ (x.toNat : Int) = m.2.2.2.2.2 := be1_byte (good_by h (k := 3) (by decide)).2
  have hc : codeM m ++ r = c :: x0 :: y0 :: x1 :: y1 :: x2 :: y2 :: x3 :: y3 :: r := by
    unfold codeM
    rw [ec, ex0, ey0, ex1, ey1, ex2, ey2, ex3, ey3]; rfl
  have s0 := read_step8 (k := 0) (by decide) (0, 0, 0, 0) (0, 0, 0, 0) x0 y0 (x1 :: y1 :: x2 :: y2 :: x3 :: y3 :: r) (by simp; omega)
  have s1 := read_step8 (k := 1) (by decide) ((x0.toNat : Int), 0, 0, 0) ((y0.toNat : Int), 0, 0, 0) x1 y1 (x2 :: y2 :: x3 :: y3 :: r) (by simp; omega)
  have s2 := read_step8 (k := 2) (by decide) ((x0.toNat : Int), (x1.toNat : Int), 0, 0) ((y0.toNat : Int), (y1.toNat : Int), 0, 0) x2 y2 (x3 :: y3 :: r) (by simp; omega)
  have s3 := read_step8 (k := 3) (by decide) ((x0.toNat : Int), (x1.toNat : Int), (x2.toNat : Int), 0) ((y0.toNat : Int), (y1.toNat : Int), (y2.toNat : Int), 0) x3 y3 r (by omega)
  have s4 : match_Read_l1 (4, (x0.toNat : Int), (x1.toNat : Int), (x2.toNat : Int), (x3.toNat : Int), (y0.toNat : Int), (y1.toNat : Int), (y2.toNat : Int), (y3.toNat : Int), r, 0) = some (.inr ((x0.toNat : Int), (x1.toNat : Int), (x2.toNat : Int), (x3.toNat : Int), (y0.toNat : Int), (y1.toNat : Int), (y2.toNat : Int), (y3.toNat : Int), r, 0)) := by rw [match_Read_l1, if_neg (by decide)]
  have e : loopW match_Read_l1 (0, 0, 0, 0, 0, 0, 0, 0, 0, x0 :: y0 :: x1 :: y1 :: x2 :: y2 :: x3 :: y3 :: r, 0) = some ((x0.toNat : Int), (x1.toNat : Int), (x2.toNat : Int), (x3.toNat : Int), (y0.toNat : Int), (y1.toNat : Int), (y2.toNat : Int), (y3.toNat : Int), r, 0) :=
    (loopW_go s0).trans ((loopW_go s1).trans ((loopW_go s2).trans ((loopW_go s3).trans (loopW_end s4))))
  unfold match_Read
  rw [hc, num_byte c _ (by simp; omega), Option.bind_some]
  show (loopW match_Read_l1 (0, 0, 0, 0, 0, 0, 0, 0, 0, x0 :: y0 :: x1 :: y1 :: x2 :: y2 :: x3 :: y3 :: r, 0)).bind _ = _
  rw [e, vc, vx0, vx1, vx2, vx3, vy0, vy1, vy2, vy3, Option.bind_some]
  have hm : ((w64 (m.1 + 1 - 1), (m.2.1.1, m.2.1.2.1, m.2.1.2.2.1, m.2.1.2.2.2), (m.2.2.1, m.2.2.2.1, m.2.2.2.2.1, m.2.2.2.2.2)) : Mt) = m := by
    rw [show m.1 + 1 - 1 = m.1 by omega, w64_id (by omega)]
  show ((match_Right (w64 (m.1 + 1 - 1), (m.2.1.1, m.2.1.2.1, m.2.1.2.2.1, m.2.1.2.2.2), (m.2.2.1, m.2.2.2.1, m.2.2.2.2.1, m.2.2.2.2.2))).bind _).bind _ = _
  rw [hm, right_eq (good_i4 h), decide_eq_true h]
  rfl
end Go.Proofs.Ytnlllglfmipllaa
