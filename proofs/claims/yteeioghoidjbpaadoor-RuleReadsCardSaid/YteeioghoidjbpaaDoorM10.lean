/- Layer 10: acts, rules, the example. Conditions: none. -/
import Derived.Test.YteeioghoidjbpaaDoorM08M
namespace Go.Proofs.YteeioghoidjbpaaDoor
set_option linter.unusedVariables false
set_option linter.unusedSimpArgs false
open Go Go.RowKit
/-! ### Acts -/
abbrev A3 := Int × Int × Int
abbrev OkA (ports : Int) (a : A3) : Prop := (a.1 = 1 ∧ (0 ≤ a.2.1 ∧ a.2.1 < 4) ∧ (0 ≤ a.2.2 ∧ a.2.2 ≤ r07_Top a.2.1)) ∨ (a.1 = 2 ∧ a.2.1 = 0 ∧ 0 ≤ a.2.2 ∧ a.2.2 < ports) ∨ (a.1 = 3 ∧ a.2.1 = 0 ∧ a.2.2 = 0)
theorem act_eq (a : A3) (ports : Int) : act_right a ports = some (decide (OkA ports a)) := by
  obtain ⟨k, f, v⟩ := a
  unfold act_right
  simp only
  by_cases k1 : k = 1
  · subst k1
    rw [if_pos rfl, top_eq]
    by_cases c : (0 ≤ f ∧ f < 4) ∧ (0 ≤ v ∧ v ≤ r07_Top f)
    · rw [if_pos c.1.1, if_pos c.1.2, if_pos c.2.1, Option.bind_some, decide_eq_true c.2.2, decide_eq_true (show OkA ports (1, f, v) from .inl ⟨rfl, c.1, c.2⟩)]; rfl
    · have hn : ¬ OkA ports (1, f, v) := by
        rintro (⟨_, h1, h2⟩ | ⟨h, _⟩ | ⟨h, _⟩)
        · exact c ⟨h1, h2⟩
        · cases h
        · cases h
      rw [decide_eq_false hn]
      by_cases c1 : 0 ≤ f
      · rw [if_pos c1]
        by_cases c2 : f < 4
        · rw [if_pos c2]
          by_cases c3 : 0 ≤ v
          · rw [if_pos c3, Option.bind_some, decide_eq_false (fun h => c ⟨⟨c1, c2⟩, ⟨c3, h⟩⟩)]; rfl
          · rw [if_neg c3]; rfl
        · rw [if_neg c2]; rfl
      · rw [if_neg c1]; rfl
  · rw [if_neg k1]
    by_cases k2 : k = 2
    · subst k2
      rw [if_pos rfl]
      congr 1
      rw [← Bool.decide_and, ← Bool.decide_and]
      exact decide_eq_decide.2 ⟨fun h => .inr (.inl ⟨rfl, h.1, h.2.1, h.2.2⟩), fun h => by
        rcases h with ⟨h, _⟩ | ⟨_, h⟩ | ⟨h, _⟩
        · cases h
        · exact h
        · cases h⟩
    · rw [if_neg k2]
      by_cases k3 : k = 3
      · subst k3
        rw [if_pos rfl]
        congr 1
        rw [← Bool.decide_and]
        exact decide_eq_decide.2 ⟨fun h => .inr (.inr ⟨rfl, h.1, h.2⟩), fun h => by
          rcases h with ⟨h, _⟩ | ⟨h, _⟩ | ⟨_, h⟩
          · cases h
          · cases h
          · exact h⟩
      · rw [if_neg k3, decide_eq_false (by
          rintro (⟨h, _⟩ | ⟨h, _⟩ | ⟨h, _⟩)
          · exact k1 h
          · exact k2 h
          · exact k3 h)]
theorem one_eq (a : A3) (ports : Int) : r09_One a ports = decide (OkA ports a) := by
  obtain ⟨k, f, v⟩ := a
  unfold r09_One
  simp only
  by_cases k1 : k = 1
  · subst k1
    rw [if_pos rfl, ← Bool.decide_and, ← Bool.decide_and, ← Bool.decide_and]
    exact decide_eq_decide.2 ⟨fun h => .inl ⟨rfl, ⟨h.1, by have := h.2.1; show f < 4; omega⟩, h.2.2⟩, fun h => by
      rcases h with ⟨_, h1, h2⟩ | ⟨h, _⟩ | ⟨h, _⟩
      · exact ⟨h1.1, by have := h1.2; simp only at this; omega, h2⟩
      · cases h
      · cases h⟩
  · rw [if_neg k1]
    by_cases k3 : k = 3
    · subst k3
      rw [if_pos rfl, ← Bool.decide_and]
      exact decide_eq_decide.2 ⟨fun h => .inr (.inr ⟨rfl, h.1, h.2⟩), fun h => by
        rcases h with ⟨h, _⟩ | ⟨h, _⟩ | ⟨_, h⟩
        · cases h
        · cases h
        · exact h⟩
    · rw [if_neg k3, ← Bool.decide_and, ← Bool.decide_and, ← Bool.decide_and]
      exact decide_eq_decide.2 ⟨fun h => .inr (.inl h), fun h => by
        rcases h with ⟨h, _⟩ | h | ⟨h, _⟩
        · exact absurd h k1
        · exact h
        · exact absurd h k3⟩
abbrev OkAs (ports : Int) (l : List A3) : Prop := l.length ≤ 16 ∧ ∀ a ∈ l, OkA ports a
theorem acts_eq (l : List A3) (ports : Int) : act_Right l ports = some (decide (OkAs ports l)) := by
  unfold act_Right
  by_cases hl : 16 < (l.length : Int)
  · rw [if_pos hl, decide_eq_false (fun h => by have := h.1; omega)]
  · rw [if_neg hl, search_in l (by omega) _ (fun a => ¬ OkA ports a) false (fun k hk => by
      unfold act_Right_l1
      rw [if_pos (by omega), ix_nat (List.getElem?_eq_getElem hk), Option.bind_some, act_eq, Option.bind_some]
      by_cases c : OkA ports l[k]
      · rw [decide_eq_true c, if_neg (by decide), if_neg (fun h => h c)]
      · rw [decide_eq_false c, if_pos (by decide), if_pos c]) (by unfold act_Right_l1; rw [if_neg (by omega)]), orR_any]
    congr 1
    exact decide_eq_decide.2 ⟨fun h => ⟨by omega, fun a ha => Classical.byContradiction fun hn => h ⟨a, ha, hn⟩⟩, fun h ⟨a, ha, hn⟩ => hn (h.2 a ha)⟩
theorem racts_eq {l : List A3} (hl : l.length ≤ 9223372036854775807) (ports : Int) : r09_Right l ports = some (decide (OkAs ports l)) := by
  unfold r09_Right
  rw [search_in l hl _ (fun a => ¬ OkA ports a) false (fun k hk => by
      unfold r09_Right_l1
      rw [if_pos (by omega), ix_nat (List.getElem?_eq_getElem hk), Option.bind_some, one_eq]
      by_cases c : OkA ports l[k]
      · rw [decide_eq_true c, if_neg (by decide), if_neg (fun h => h c)]
      · rw [decide_eq_false c, if_pos (by decide), if_pos c]) (by unfold r09_Right_l1; rw [if_neg (by omega)])]
  by_cases h : ∃ a ∈ l, ¬ OkA ports a
  · rw [if_pos h, decide_eq_false (show ¬ OkAs ports l from fun h2 => by obtain ⟨a, ha, hn⟩ := h; exact hn (h2.2 a ha))]; rfl
  · rw [if_neg h]
    show some (decide ((l.length : Int) ≤ 16)) = _
    congr 1
    exact decide_eq_decide.2 ⟨fun h1 => ⟨by omega, fun a ha => Classical.byContradiction fun hn => h ⟨a, ha, hn⟩⟩, fun h1 => by have := h1.1; omega⟩
/-! ### The same acts -/
theorem eq3 {x y : A3} : (x.1 = y.1 ∧ x.2.1 = y.2.1 ∧ x.2.2 = y.2.2) ↔ x = y := by
  obtain ⟨a, b, c⟩ := x
  obtain ⟨a', b', c'⟩ := y
  constructor
  · rintro ⟨h1, h2, h3⟩
    simp only at h1 h2 h3
    subst h1 h2 h3; rfl
  · rintro h; cases h; exact ⟨rfl, rfl, rfl⟩
theorem same_loop {S : Int → Option (Int ⊕ (Unit ⊕ Bool))} {a b : List A3} (hl : a.length ≤ 9223372036854775807) (he : a.length = b.length)
    (hs : ∀ k (h1 : k < a.length) (h2 : k < b.length), S (k : Int) = if (!(decide (a[k].1 = b[k].1 ∧ a[k].2.1 = b[k].2.1 ∧ a[k].2.2 = b[k].2.2))) = true then some (.inr (.inr false)) else some (.inl (w64 ((k : Int) + 1)))) (hE : S (a.length : Int) = some (.inr (.inl ()))) :
    orR (loopW S 0) (fun _ => some true) = some (decide (a = b)) := by
  have hd : DecidablePred fun k : Nat => a[k]? ≠ b[k]? := fun _ => inferInstance
  rw [any_loop a.length S (fun k : Nat => a[k]? ≠ b[k]?) false (fun k hk => by
    have h2 : k < b.length := by omega
    rw [hs k hk h2, w64_id (by omega)]
    by_cases c : a[k] = b[k]
    · have c' : a[k]? = b[k]? := by rw [List.getElem?_eq_getElem hk, List.getElem?_eq_getElem h2, c]
      rw [if_neg (by rw [decide_eq_true (eq3.2 c)]; decide), if_neg (fun h => h c')]; rfl
    · have c' : a[k]? ≠ b[k]? := by rw [List.getElem?_eq_getElem hk, List.getElem?_eq_getElem h2]; simpa using c
      rw [if_pos (by rw [decide_eq_false (fun h => c (eq3.1 h))]; rfl), if_pos c']) hE, orR_any]
  congr 1
  exact decide_eq_decide.2 ⟨fun h => List.ext_getElem? fun k => Classical.byContradiction fun hn => by
    by_cases hk : k < a.length
    · exact h ⟨k, hk, hn⟩
    · exact hn (by rw [List.getElem?_eq_none (by omega), List.getElem?_eq_none (by omega)]), fun h ⟨k, hk, hn⟩ => hn (by rw [h])⟩
theorem same_eq {a b : List A3} (hl : a.length ≤ 9223372036854775807) : act_Same a b = some (decide (a = b)) := by
  unfold act_Same slices_Equal_api_Act_api_Act
  by_cases he : (a.length : Int) ≠ (b.length : Int)
  · rw [if_pos he, decide_eq_false (fun h => he (by rw [h]))]; rfl
  · have he' : a.length = b.length := by omega
    rw [if_neg he, same_loop hl he' (fun k h1 h2 => by
      unfold slices_Equal_api_Act_api_Act_l1
      rw [if_pos (by omega), ix_nat (List.getElem?_eq_getElem h1), Option.bind_some, ix_nat (List.getElem?_eq_getElem h2), Option.bind_some]) (by unfold slices_Equal_api_Act_api_Act_l1; rw [if_neg (by omega)])]; rfl
theorem rsame_eq {a b : List A3} (hl : a.length ≤ 9223372036854775807) : r09_Same a b = some (decide (a = b)) := by
  unfold r09_Same
  by_cases he : (a.length : Int) ≠ (b.length : Int)
  · rw [if_pos he, decide_eq_false (fun h => he (by rw [h]))]
  · have he' : a.length = b.length := by omega
    rw [if_neg he, same_loop hl he' (fun k h1 h2 => by
      unfold r09_Same_l1
      rw [if_pos (by omega), ix_nat (List.getElem?_eq_getElem h1), Option.bind_some, ix_nat (List.getElem?_eq_getElem h2), Option.bind_some]) (by unfold r09_Same_l1; rw [if_neg (by omega)])]
/-! ### Rules -/
abbrev Rl := Int × Mt × List A3
abbrev OkR (ports : Int) (x : Rl) : Prop := (0 ≤ x.1 ∧ x.1 ≤ 65535) ∧ Good x.2.1 ∧ OkAs ports x.2.2
theorem rule_eq {x : Rl} (hI : I4 x.2.1.2.1) (ports : Int) : rule_Right x ports = some (decide (OkR ports x)) := by
  unfold rule_Right
  rw [right_eq hI, acts_eq]
  by_cases h1 : 0 ≤ x.1
  · rw [if_pos h1]
    by_cases h2 : x.1 < 65536
    · rw [if_pos h2, Option.bind_some]
      by_cases h3 : Good x.2.1
      · rw [decide_eq_true h3, if_pos rfl]
        show some (decide _) = _
        congr 1
        exact decide_eq_decide.2 ⟨fun h => ⟨⟨h1, by omega⟩, h3, h⟩, fun h => h.2.2⟩
      · rw [decide_eq_false h3, if_neg (by decide), decide_eq_false (fun h => h3 h.2.1)]; rfl
    · rw [if_neg h2, decide_eq_false (fun h => by have := h.1.2; omega)]; rfl
  · rw [if_neg h1, decide_eq_false (fun h => h1 h.1.1)]; rfl
theorem rrule_eq {x : Rl} (hl : x.2.2.length ≤ 9223372036854775807) (ports : Int) : r10_Right x ports = some (decide (OkR ports x)) := by
  unfold r10_Right
  rw [rright8_eq, racts_eq hl]
  by_cases h1 : 0 ≤ x.1
  · rw [if_pos h1]
    by_cases h2 : x.1 ≤ 65535
    · rw [if_pos h2, Option.bind_some]
      by_cases h3 : Good x.2.1
      · rw [decide_eq_true h3, if_pos rfl]
        show some (decide _) = _
        congr 1
        exact decide_eq_decide.2 ⟨fun h => ⟨⟨h1, h2⟩, h3, h⟩, fun h => h.2.2⟩
      · rw [decide_eq_false h3, if_neg (by decide), decide_eq_false (fun h => h3 h.2.1)]; rfl
    · rw [if_neg h2, decide_eq_false (fun h => by have := h.1.2; omega)]; rfl
  · rw [if_neg h1, decide_eq_false (fun h => h1 h.1.1)]; rfl
theorem key_eq (x y : Rl) : rule_Key x y = decide (x.1 = y.1 ∧ x.2.1 = y.2.1) := by
  show (decide (x.1 = y.1) && decide (eqM x.2.1 y.2.1)) = _
  rw [← Bool.decide_and]
  exact decide_eq_decide.2 ⟨fun h => ⟨h.1, eqM_iff.1 h.2⟩, fun h => ⟨h.1, eqM_iff.2 h.2⟩⟩
abbrev EqR (x y : Rl) : Prop := x.1 = y.1 ∧ x.2.1 = y.2.1 ∧ x.2.2 = y.2.2
theorem eqR_iff {x y : Rl} : EqR x y ↔ x = y := by
  obtain ⟨a, b, c⟩ := x
  obtain ⟨a', b', c'⟩ := y
  constructor
  · rintro ⟨h1, h2, h3⟩
    simp only at h1 h2 h3
    subst h1 h2 h3; rfl
  · rintro h; cases h; exact ⟨rfl, rfl, rfl⟩
theorem rulesame_eq {x y : Rl} (hl : x.2.2.length ≤ 9223372036854775807) : rule_Same x y = some (decide (EqR x y)) := by
  unfold rule_Same
  rw [key_eq, same_eq hl]
  by_cases h : x.1 = y.1 ∧ x.2.1 = y.2.1
  · rw [decide_eq_true h, if_pos rfl]
    show some (decide _) = _
    congr 1
    exact decide_eq_decide.2 ⟨fun h3 => ⟨h.1, h.2, h3⟩, fun e => e.2.2⟩
  · rw [decide_eq_false h, if_neg (by decide), decide_eq_false (show ¬ EqR x y from fun e => h ⟨e.1, e.2.1⟩)]; rfl
theorem rrulesame_eq {x y : Rl} (hl : x.2.2.length ≤ 9223372036854775807) : r10_Same x y = some (decide (EqR x y)) := by
  unfold r10_Same
  rw [rsame_eq hl]
  by_cases h1 : x.1 = y.1
  · rw [if_pos h1]
    by_cases h2 : x.2.1 = y.2.1
    · rw [if_pos (show eqM x.2.1 y.2.1 from eqM_iff.2 h2)]
      show some (decide _) = _
      congr 1
      exact decide_eq_decide.2 ⟨fun h3 => ⟨h1, h2, h3⟩, fun e => e.2.2⟩
    · rw [if_neg (show ¬ eqM x.2.1 y.2.1 from fun h => h2 (eqM_iff.1 h)), decide_eq_false (show ¬ EqR x y from fun e => h2 e.2.1)]; rfl
  · rw [if_neg h1, decide_eq_false (show ¬ EqR x y from fun e => h1 e.1)]; rfl
/-! ### Texts -/
def nameA (f : Int) : List UInt8 := nameF f.toNat
def wordA (a : A3) : List UInt8 := if a.1 = 1 then [115, 101, 116, 32] ++ nameA a.2.1 ++ [32] ++ d3 a.2.2.toNat else if a.1 = 2 then [111, 117, 116, 32] ++ d3 a.2.2.toNat else [98, 97, 99, 107]
theorem wordA_len (a : A3) : (wordA a).length ≤ 12 := by
  have h1 := nameF_len a.2.1.toNat
  have h2 := d3_len a.2.2.toNat
  unfold wordA nameA
  split
  · simp; omega
  · split
    · simp; omega
    · decide
theorem oka_by {ports : Int} (hp : ports ≤ 256) {a : A3} (h : OkA ports a) : By a.1 ∧ By a.2.1 ∧ By a.2.2 := by
  rcases h with ⟨h1, h2, h3⟩ | ⟨h1, h2, h3, h4⟩ | ⟨h1, h2, h3⟩
  · have ht := topB (f := a.2.1.toNat) (by omega)
    rw [show ((a.2.1.toNat : Nat) : Int) = a.2.1 by omega] at ht
    refine ⟨by constructor <;> omega, by constructor <;> omega, by constructor <;> omega⟩
  · refine ⟨by constructor <;> omega, by constructor <;> omega, by constructor <;> omega⟩
  · refine ⟨by constructor <;> omega, by constructor <;> omega, by constructor <;> omega⟩
theorem acttext_eq {ports : Int} (hp : ports ≤ 256) {a : A3} (h : OkA ports a) : act_text a = some (wordA a) := by
  obtain ⟨b1, b2, b3⟩ := oka_by hp h
  have hd := d3_len a.2.2.toNat
  have hn := nameF_len a.2.1.toNat
  unfold act_text wordA
  rw [itoaP_d3 b3]
  rcases h with ⟨h1, h2, h3⟩ | ⟨h1, h2, h3, h4⟩ | ⟨h1, h2, h3⟩
  · have hf : act_fieldName a.2.1 = nameA a.2.1 := by
      have : a.2.1 = 0 ∨ a.2.1 = 1 ∨ a.2.1 = 2 ∨ a.2.1 = 3 := by omega
      rcases this with e | e | e | e <;> rw [e] <;> rfl
    have hna : (nameA a.2.1).length ≤ 4 := hn
    rw [if_pos h1, if_pos h1, hf, app_is (by simp; omega), Option.bind_some, app_is (by simp; omega), Option.bind_some, Option.bind_some, app_is (by simp; omega)]; rfl
  · have n1 : ¬ a.1 = 1 := by omega
    rw [if_neg n1, if_pos h1, if_neg n1, if_pos h1, Option.bind_some, app_is (by simp; omega)]; rfl
  · have n1 : ¬ a.1 = 1 := by omega
    have n2 : ¬ a.1 = 2 := by omega
    rw [if_neg n1, if_neg n2, if_pos h1, if_neg n1, if_neg n2]
def textA (l : List A3) : List UInt8 := if l = [] then [100, 114, 111, 112] else Lib.join (l.map wordA) [44, 32]
theorem tailA_len (l : List A3) : (Lib.joinTail [44, 32] (l.map wordA)).length ≤ 14 * l.length := by
  induction l with
  | nil => simp [Lib.joinTail]
  | cons a l ih =>
    have := wordA_len a
    rw [show (a :: l).map wordA = [wordA a] ++ l.map wordA from rfl, joinTail_app]
    have e : Lib.joinTail [44, 32] [wordA a] = [44, 32] ++ wordA a := by simp [Lib.joinTail]
    rw [e]
    simp; omega
theorem textA_len {ports : Int} {l : List A3} (h : OkAs ports l) : (textA l).length ≤ 300 := by
  unfold textA
  by_cases hl : l = []
  · rw [if_pos hl]; decide
  · have h1 := tailA_len l
    have h2 := congrArg List.length (join_tail (l := l.map wordA) (by simpa using hl))
    have h3 := h.1
    rw [if_neg hl]
    simp at h2; omega
theorem acttexts_eq {ports : Int} (hp : ports ≤ 256) {l : List A3} (h : OkAs ports l) : act_Text l = some (textA l) := by
  have hl := h.1
  unfold act_Text textA
  by_cases c : l = []
  · subst c; rfl
  · have hc : (l.length : Int) ≠ 0 := by
      have : l.length ≠ 0 := by simpa using c
      omega
    have h1 := tailA_len l
    have h2 := congrArg List.length (join_tail (l := l.map wordA) (by simpa using c))
    simp at h2
    rw [if_neg hc, if_neg c, loop_copy l (by omega) wordA (act_Text_l1 l) (fun k hk out ho => by
      rw [act_Text_l1, if_pos (by omega), ix_nat (List.getElem?_eq_getElem hk), Option.bind_some, acttext_eq hp (h.2 _ (List.getElem_mem hk))]; rfl) (fun out => by rw [act_Text_l1, if_neg (by omega)]), Option.bind_some]
    unfold joinP
    rw [if_pos ⟨by simp; omega, by omega⟩]; rfl
def ruleT (x : Rl) : List UInt8 := Lib.itoa x.1 ++ [32] ++ textM x.2.1 ++ [58, 32] ++ textA x.2.2
theorem textM_len (m : Mt) : (textM m).length ≤ 70 := by
  unfold textM
  by_cases hw : wordsF m = []
  · rw [if_pos hw]; decide
  · have h1 := tail_len m
    have h2 := congrArg List.length (join_tail hw)
    rw [if_neg hw]
    simp at h2; omega
theorem ruletext_eq {ports : Int} (hp : ports ≤ 256) {x : Rl} (h : OkR ports x) : rule_Text x = some (ruleT x) := by
  have h1 := h.1
  have hi : i64 x.1 := by constructor <;> omega
  have l1 := itoa_len hi
  have l2 := textM_len x.2.1
  have l3 := textA_len h.2.2
  unfold rule_Text ruleT
  rw [itoaP_is hi, Option.bind_some, app_is (by simp; omega), Option.bind_some, text_eq8 h.2.1, Option.bind_some, app_is (by simp; omega), Option.bind_some, app_is (by simp; omega), Option.bind_some, acttexts_eq hp h.2.2, Option.bind_some, app_is (by simp; omega)]; rfl
/-! ### The example -/
theorem awake10 : L10_awake = some true := by
  have o3 : OkR 3 (10, (-1, (0, 3, 0, 0), (0, 255, 0, 0)), [(2, 0, 2)]) := ⟨by decide, by decide, by decide, fun a ha => by
    rw [List.mem_singleton] at ha; subst ha; decide⟩
  have o0 : OkR 3 (10, (-1, (0, 3, 0, 0), (0, 255, 0, 0)), []) := ⟨by decide, by decide, by decide, fun a ha => by cases ha⟩
  have n2 : ¬ OkR 2 (10, (-1, (0, 3, 0, 0), (0, 255, 0, 0)), [(2, 0, 2)]) := fun h => absurd (h.2.2.2 (2, 0, 2) (by simp)) (by decide)
  have h1 : match_Of 1 3 = some (-1, (0, 3, 0, 0), (0, 255, 0, 0)) := of_eq 1 3
  have t1 := ruletext_eq (by decide) o3
  have t0 := ruletext_eq (by decide) o0
  have r3 := rule_eq (x := (10, (-1, (0, 3, 0, 0), (0, 255, 0, 0)), [(2, 0, 2)])) (by decide) 3
  have r2 := rule_eq (x := (10, (-1, (0, 3, 0, 0), (0, 255, 0, 0)), [(2, 0, 2)])) (by decide) 2
  rw [decide_eq_true o3] at r3
  rw [decide_eq_false n2] at r2
  have e10 : Lib.itoa 10 = [49, 48] := itoa_d3 (v := 10) (by decide)
  have e1 : ruleT (10, (-1, (0, 3, 0, 0), (0, 255, 0, 0)), [(2, 0, 2)]) = [49, 48, 32, 100, 115, 116, 32, 51, 58, 32, 111, 117, 116, 32, 50] := by
    unfold ruleT; simp only; rw [e10]; decide
  have e0 : ruleT (10, (-1, (0, 3, 0, 0), (0, 255, 0, 0)), []) = [49, 48, 32, 100, 115, 116, 32, 51, 58, 32, 100, 114, 111, 112] := by
    unfold ruleT; simp only; rw [e10]; decide
  rw [e1] at t1
  rw [e0] at t0
  unfold L10_awake rule_Plain rule_Drop
  simp only [h1, Option.bind_some, t1, t0, r3, r2]
  rfl
/-! ### Statements -/
theorem RuleMakes_true (p0 : Int) {A : Prop} (_ : A) (p1 : Int) {B : Prop} (_ : B) (p2 : Int) {C : Prop} (_ : C) (p3 : Int) {D : Prop} (_ : D) : L10_RuleMakes p0 p1 p2 p3 = some true := by
  unfold L10_RuleMakes r10_Plain rule_Plain rule_Drop
  rw [of_eq, rof_eq, awake10]
  simp only [Option.bind_some]
  rw [rrulesame_eq (by simp), decide_eq_true (eqR_iff.2 rfl)]
  simp only [Option.bind_some]
  rw [if_neg (by decide), rrulesame_eq (by simp), decide_eq_true (eqR_iff.2 rfl)]; rfl
theorem over_eq {x y : Rl} (hx : Good x.2.1) (hy : Good y.2.1) : rule_Overlaps x y = some (decide (x.1 = y.1 ∧ x.2.1 ≠ y.2.1 ∧ ¬ Clash x.2.1 y.2.1)) := by
  unfold rule_Overlaps
  rw [meet_eq hx hy, Option.bind_some]
  show some (decide (x.1 = y.1) && (!(decide (eqM x.2.1 y.2.1)) && (meetR x.2.1 y.2.1).2)) = _
  congr 1
  have e1 : decide (eqM x.2.1 y.2.1) = decide (x.2.1 = y.2.1) := decide_eq_decide.2 eqM_iff
  rw [e1]
  by_cases c : Clash x.2.1 y.2.1
  · rw [show meetR x.2.1 y.2.1 = (zeroM, false) from if_pos c, decide_eq_false (show ¬ (x.1 = y.1 ∧ x.2.1 ≠ y.2.1 ∧ ¬ Clash x.2.1 y.2.1) from fun h => h.2.2 c)]; simp
  · rw [show meetR x.2.1 y.2.1 = (meetM x.2.1 y.2.1, true) from if_neg c]
    by_cases h1 : x.1 = y.1 <;> by_cases h2 : x.2.1 = y.2.1 <;> simp [h1, h2, c]
theorem rover_eq {x y : Rl} (hx : Good x.2.1) (hy : Good y.2.1) : r10_Overlaps x y = some (decide (x.1 = y.1 ∧ x.2.1 ≠ y.2.1 ∧ ¬ Clash x.2.1 y.2.1)) := by
  unfold r10_Overlaps
  rw [rmeet_eq hx hy]
  show (if (decide (x.1 ≠ y.1) || decide (eqM x.2.1 y.2.1)) = true then some false else (some (meetR x.2.1 y.2.1)).bind fun x1 => some x1.2) = _
  have e1 : decide (eqM x.2.1 y.2.1) = decide (x.2.1 = y.2.1) := decide_eq_decide.2 eqM_iff
  rw [e1]
  by_cases h1 : x.1 = y.1
  · by_cases h2 : x.2.1 = y.2.1
    · rw [if_pos (by simp [h2]), decide_eq_false (fun h => h.2.1 h2)]
    · rw [if_neg (by simp [h1, h2]), Option.bind_some]
      by_cases c : Clash x.2.1 y.2.1
      · rw [show meetR x.2.1 y.2.1 = (zeroM, false) from if_pos c, decide_eq_false (fun h => h.2.2 c)]
      · rw [show meetR x.2.1 y.2.1 = (meetM x.2.1 y.2.1, true) from if_neg c, decide_eq_true ⟨h1, h2, c⟩]
  · rw [if_pos (by simp [h1]), decide_eq_false (fun h => h1 h.1)]
theorem hit_val {m : Mt} {port : Int} (hp : m.1 = -1 ∨ m.1 = port) : Hit m port m.2.1 := ⟨hp, fun _ _ _ _ _ => rfl⟩
theorem RuleOverlaps_core (p0 p1 : Rl) (p2 : Int) (h0 : p0.2.2.length ≤ 9223372036854775807) (h1 : p1.2.2.length ≤ 9223372036854775807) : L10_RuleOverlaps p0 p1 p2 = some true := by
  unfold L10_RuleOverlaps
  rw [rrule_eq h0, rrule_eq h1, awake10]
  simp only [Option.bind_some]
  by_cases c0 : OkR p2 p0
  · rw [decide_eq_true c0, if_neg (by decide)]
    by_cases c1 : OkR p2 p1
    · have ha := c0.2.1
      have hb := c1.2.1
      have eo : rule_Overlaps p0 p0 = some false := by
        rw [over_eq ha ha]
        congr 1
        exact decide_eq_false (fun h => h.2.1 rfl)
      rw [decide_eq_true c1, Option.bind_some, if_neg (by decide), over_eq ha hb, over_eq hb ha, eo, meet_eq ha hb]
      simp only [Option.bind_some]
      have es : decide (p1.1 = p0.1 ∧ p1.2.1 ≠ p0.2.1 ∧ ¬ Clash p1.2.1 p0.2.1) = decide (p0.1 = p1.1 ∧ p0.2.1 ≠ p1.2.1 ∧ ¬ Clash p0.2.1 p1.2.1) := decide_eq_decide.2 ⟨fun h => ⟨h.1.symm, fun e => h.2.1 e.symm, fun c => h.2.2 (clash_symm c)⟩, fun h => ⟨h.1.symm, fun e => h.2.1 e.symm, fun c => h.2.2 (clash_symm c)⟩⟩
      rw [es, if_neg (by simp), if_neg (by decide), key_eq]
      by_cases co : p0.1 = p1.1 ∧ p0.2.1 ≠ p1.2.1 ∧ ¬ Clash p0.2.1 p1.2.1
      · have e1 : rule_Ahead p0 p1 = false := decide_eq_false (by have := co.1; omega)
        have e2 : rule_Ahead p1 p0 = false := decide_eq_false (by have := co.1; omega)
        rw [decide_eq_true co, if_pos rfl, e1, if_neg (by decide), e2, if_neg (by decide), decide_eq_false (fun h => co.2.1 h.2), show meetR p0.2.1 p1.2.1 = (meetM p0.2.1 p1.2.1, true) from if_neg co.2.2]
        simp only [Option.bind_some]
        have gm := good_meet ha hb
        have hmb : Bys (meetM p0.2.1 p1.2.1).2.1 := fun k hk => (good_by gm hk).1
        have hm : Hit (meetM p0.2.1 p1.2.1) (max (meetM p0.2.1 p1.2.1).1 0) (meetM p0.2.1 p1.2.1).2.1 := hit_val (by have := gm.1; omega)
        obtain ⟨k1, k2⟩ := (hit_meet ha hb _ _).2 ⟨co.2.2, hm⟩
        rw [if_neg (by decide), if_neg (by decide), hits_eq ha _ hmb, decide_eq_true k1, Option.bind_some, if_pos rfl, hits_eq hb _ hmb, decide_eq_true k2]; rfl
      · rw [decide_eq_false co, if_neg (by decide)]
        simp
    · rw [decide_eq_false c1]; rfl
  · rw [decide_eq_false c0, if_pos (by decide)]; rfl
end Go.Proofs.YteeioghoidjbpaaDoor
