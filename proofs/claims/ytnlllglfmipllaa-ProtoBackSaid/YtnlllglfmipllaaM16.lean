/- Layer 16: messages. Conditions: none. -/
import Derived.Test.YtnlllglfmipllaaM10
namespace Go.Proofs.Ytnlllglfmipllaa
set_option linter.unusedVariables false
set_option linter.unusedSimpArgs false
open Go Go.RowKit
abbrev Mo := Int × Rl × Bool
abbrev Ms := Int × Int × Int × Int × Int × Int × Int × Int × Int × List Mo
instance dP4 : DecidableEq P4 := inferInstanceAs (DecidableEq (Int × Int × Int × Int))
instance dMt : DecidableEq Mt := inferInstanceAs (DecidableEq (Int × P4 × P4))
instance dA3 : DecidableEq A3 := inferInstanceAs (DecidableEq (Int × Int × Int))
instance dRl : DecidableEq Rl := inferInstanceAs (DecidableEq (Int × Mt × List A3))
instance dMo : DecidableEq Mo := inferInstanceAs (DecidableEq (Int × Rl × Bool))
instance dC1 : DecidableEq (Int × List Mo) := inferInstance
instance dC2 : DecidableEq (Int × Int × List Mo) := inferInstance
instance dC3 : DecidableEq (Int × Int × Int × List Mo) := inferInstance
instance dC4 : DecidableEq (Int × Int × Int × Int × List Mo) := inferInstance
instance dC5 : DecidableEq (Int × Int × Int × Int × Int × List Mo) := inferInstance
instance dC6 : DecidableEq (Int × Int × Int × Int × Int × Int × List Mo) := inferInstance
instance dC7 : DecidableEq (Int × Int × Int × Int × Int × Int × Int × List Mo) := inferInstance
instance dC8 : DecidableEq (Int × Int × Int × Int × Int × Int × Int × Int × List Mo) := inferInstance
instance dMs : DecidableEq Ms := inferInstanceAs (DecidableEq (Int × Int × Int × Int × Int × Int × Int × Int × Int × List Mo))
/-! ### Equality of lists -/
theorem eq_loop {α : Type} [DecidableEq α] {a b : List α} {S : Int → Option (Int ⊕ (Unit ⊕ Bool))} (hl : a.length ≤ 9223372036854775807) (he : a.length = b.length)
    (hs : ∀ (k : Nat) (h1 : k < a.length) (h2 : k < b.length), S (k : Int) = if a[k] = b[k] then some (.inl (w64 ((k : Int) + 1))) else some (.inr (.inr false)))
    (hend : S (a.length : Int) = some (.inr (.inl ()))) : orR (loopW S 0) (fun _ => some true) = some (decide (a = b)) := by
  have key : ∀ (d k : Nat), k + d = a.length → a.take k = b.take k → orR (loopW S (k : Int)) (fun _ => some true) = some (decide (a = b)) := by
    intro d
    induction d with
    | zero =>
      intro k hk ht
      obtain rfl : k = a.length := by omega
      rw [List.take_length, he, List.take_length] at ht
      rw [loopW_end hend, decide_eq_true ht]; rfl
    | succ d ih =>
      intro k hk ht
      have h1 : k < a.length := by omega
      have h2 : k < b.length := by omega
      have := hs k h1 h2
      by_cases c : a[k] = b[k]
      · rw [if_pos c, w64_id (by omega)] at this
        rw [loopW_go this]
        exact ih (k + 1) (by omega) (by rw [List.take_succ_eq_append_getElem h1, List.take_succ_eq_append_getElem h2, ht, c])
      · rw [if_neg c] at this
        rw [loopW_end this, decide_eq_false (fun h => c (by subst h; rfl))]; rfl
  exact key a.length 0 (by omega) rfl
theorem eqR_dec (x y : Rl) : decide (EqR x y) = decide (x = y) := decide_eq_decide.2 eqR_iff
theorem mo_eq {x y : Mo} : x = y ↔ x.1 = y.1 ∧ x.2.2 = y.2.2 ∧ x.2.1 = y.2.1 := by
  obtain ⟨a, b, c⟩ := x
  obtain ⟨a', b', c'⟩ := y
  simp only [Prod.mk.injEq]
  exact ⟨fun ⟨h1, h2, h3⟩ => ⟨h1, h3, h2⟩, fun ⟨h1, h2, h3⟩ => ⟨h1, h3, h2⟩⟩
theorem samemod_eq {x y : Mo} (h : x.2.1.2.2.length ≤ 9223372036854775807) : proto_sameMod x y = some (decide (x = y)) := by
  unfold proto_sameMod
  by_cases c1 : x.1 = y.1
  · rw [if_pos c1]
    by_cases c2 : x.2.2 = y.2.2
    · rw [if_pos c2, rulesame_eq h, Option.bind_some, Option.bind_some, eqR_dec]
      congr 1
      exact decide_eq_decide.2 ⟨fun h => mo_eq.2 ⟨c1, c2, h⟩, fun h => (mo_eq.1 h).2.2⟩
    · rw [if_neg c2, Option.bind_some, decide_eq_false (fun h => c2 (mo_eq.1 h).2.1)]
  · rw [if_neg c1, Option.bind_some, decide_eq_false (fun h => c1 (mo_eq.1 h).1)]
theorem rsamemod_eq {x y : Mo} (h : x.2.1.2.2.length ≤ 9223372036854775807) : r12_Same x y = some (decide (x = y)) := by
  unfold r12_Same
  by_cases c1 : x.1 = y.1
  · rw [if_pos c1]
    by_cases c2 : x.2.2 = y.2.2
    · rw [if_pos c2, rrulesame_eq h, Option.bind_some, Option.bind_some, eqR_dec]
      congr 1
      exact decide_eq_decide.2 ⟨fun h => mo_eq.2 ⟨c1, c2, h⟩, fun h => (mo_eq.1 h).2.2⟩
    · rw [if_neg c2, Option.bind_some, decide_eq_false (fun h => c2 (mo_eq.1 h).2.1)]
  · rw [if_neg c1, Option.bind_some, decide_eq_false (fun h => c1 (mo_eq.1 h).1)]
/-- The acts of each change are not more than a slice can have. -/
abbrev Lm (l : List Mo) : Prop := l.length ≤ 9223372036854775807 ∧ ∀ x ∈ l, x.2.1.2.2.length ≤ 9223372036854775807
theorem eqfunc_eq {a b : List Mo} (h : Lm a) : slices_EqualFunc_api_Mod_api_Mod_api_Mod_api_Mod a b = some (decide (a = b)) := by
  unfold slices_EqualFunc_api_Mod_api_Mod_api_Mod_api_Mod
  by_cases he : a.length = b.length
  · rw [if_neg (by omega)]
    refine eq_loop h.1 he (fun k h1 h2 => ?_) (by rw [slices_EqualFunc_api_Mod_api_Mod_api_Mod_api_Mod_l1, if_neg (by omega)])
    rw [slices_EqualFunc_api_Mod_api_Mod_api_Mod_api_Mod_l1, if_pos (by omega), ix_nat (List.getElem?_eq_getElem h1), Option.bind_some, ix_nat (List.getElem?_eq_getElem h2), Option.bind_some, samemod_eq (h.2 _ (List.getElem_mem h1)), Option.bind_some]
    by_cases c : a[k] = b[k]
    · rw [decide_eq_true c, if_neg (by decide), if_pos c]
    · rw [decide_eq_false c, if_pos (by decide), if_neg c]
  · rw [if_pos (by omega), decide_eq_false (fun h => he (by rw [h]))]
theorem rmods_eq {a b : List Mo} (h : Lm a) : r12_Mods a b = some (decide (a = b)) := by
  unfold r12_Mods
  by_cases he : a.length = b.length
  · rw [if_neg (by omega)]
    refine eq_loop h.1 he (fun k h1 h2 => ?_) (by rw [r12_Mods_l1, if_neg (by omega)])
    rw [r12_Mods_l1, if_pos (by omega), ix_nat (List.getElem?_eq_getElem h1), Option.bind_some, ix_nat (List.getElem?_eq_getElem h2), Option.bind_some, rsamemod_eq (h.2 _ (List.getElem_mem h1)), Option.bind_some]
    by_cases c : a[k] = b[k]
    · rw [decide_eq_true c, if_neg (by decide), if_pos c]
    · rw [decide_eq_false c, if_pos (by decide), if_neg c]
  · rw [if_pos (by omega), decide_eq_false (fun h => he (by rw [h]))]
theorem if_dec {p : Prop} [Decidable p] {q : Bool} : (if p then some q else some false) = some (decide p && q) := by by_cases h : p <;> simp [h]
theorem same16_eq {a b : Ms} (h : Lm a.2.2.2.2.2.2.2.2.2) : proto_Same a b = some (decide (a = b)) := by
  unfold proto_Same
  rw [eqfunc_eq h]
  simp only [Option.bind_some, if_dec]
  obtain ⟨k, s, u, r, t1, t2, lf, o, c, ms⟩ := a
  obtain ⟨k', s', u', r', t1', t2', lf', o', c', ms'⟩ := b
  congr 1
  rw [Bool.eq_iff_iff]
  simp only [Bool.and_eq_true, decide_eq_true_eq, Prod.mk.injEq]
  exact ⟨fun ⟨h1, h2, h3, h4, h5, h6, h7, h8, h9, h10⟩ => ⟨h1, h2, h6, h7, h3, h4, h5, h8, h9, h10⟩, fun ⟨h1, h2, h6, h7, h3, h4, h5, h8, h9, h10⟩ => ⟨h1, h2, h3, h4, h5, h6, h7, h8, h9, h10⟩⟩
theorem rsame16_eq {a b : Ms} (h : Lm a.2.2.2.2.2.2.2.2.2) : r16_Same a b = some (decide (a = b)) := by
  unfold r16_Same
  rw [rmods_eq h]
  simp only [Option.bind_some, if_dec]
  obtain ⟨k, s, u, r, t1, t2, lf, o, c, ms⟩ := a
  obtain ⟨k', s', u', r', t1', t2', lf', o', c', ms'⟩ := b
  have hif : ∀ (x y : Bool), (if x = true then some false else some y) = some (!x && y) := fun x y => by cases x <;> rfl
  rw [hif]
  congr 1
  rw [Bool.eq_iff_iff]
  simp only [Bool.and_eq_true, Bool.not_eq_true', Bool.or_eq_false_iff, decide_eq_false_iff_not, decide_eq_true_eq, Prod.mk.injEq, ne_eq, Decidable.not_not]
  exact ⟨fun ⟨⟨h1, h2, h3, h4, h5, h6⟩, h7, h8, h9, h10⟩ => ⟨h1, h2, h3, h4, h5, h6, h7, h8, h9, h10⟩, fun ⟨h1, h2, h3, h4, h5, h6, h7, h8, h9, h10⟩ => ⟨⟨h1, h2, h3, h4, h5, h6⟩, h7, h8, h9, h10⟩⟩
/-! ### What a kind has -/
theorem fld (k : Int) : (k = 1 ∧ proto_fields k = (1, true)) ∨ (k = 2 ∧ proto_fields k = (7, true)) ∨ (k = 3 ∧ proto_fields k = (152, true)) ∨ (k = 4 ∧ proto_fields k = (26, true)) ∨ (k = 5 ∧ proto_fields k = (24, true)) ∨ (k = 6 ∧ proto_fields k = (72, true)) ∨ (k = 7 ∧ proto_fields k = (60, true)) ∨ (k = 8 ∧ proto_fields k = (124, true)) ∨ (¬ (1 ≤ k ∧ k ≤ 8) ∧ proto_fields k = (0, false)) := by
  by_cases c1 : k = 1
  · subst c1; exact .inl ⟨rfl, rfl⟩
  by_cases c2 : k = 2
  · subst c2; exact .inr (.inl ⟨rfl, rfl⟩)
  by_cases c3 : k = 3
  · subst c3; exact .inr (.inr (.inl ⟨rfl, rfl⟩))
  by_cases c4 : k = 4
  · subst c4; exact .inr (.inr (.inr (.inl ⟨rfl, rfl⟩)))
  by_cases c5 : k = 5
  · subst c5; exact .inr (.inr (.inr (.inr (.inl ⟨rfl, rfl⟩))))
  by_cases c6 : k = 6
  · subst c6; exact .inr (.inr (.inr (.inr (.inr (.inl ⟨rfl, rfl⟩)))))
  by_cases c7 : k = 7
  · subst c7; exact .inr (.inr (.inr (.inr (.inr (.inr (.inl ⟨rfl, rfl⟩))))))
  by_cases c8 : k = 8
  · subst c8; exact .inr (.inr (.inr (.inr (.inr (.inr (.inr (.inl ⟨rfl, rfl⟩)))))))
  refine .inr (.inr (.inr (.inr (.inr (.inr (.inr (.inr ⟨by omega, ?_⟩)))))))
  unfold proto_fields
  rw [if_neg c1, if_neg c2, if_neg c3, if_neg c4, if_neg c5, if_neg c6, if_neg c7, if_neg c8]
/-- With what its kind has alone. -/
def cleanV (m : Ms) : Ms := (m.1, m.2.1, (if 3 ≤ m.1 ∧ m.1 ≤ 8 then m.2.2.1 else 0), (if 3 ≤ m.1 ∧ m.1 ≤ 8 ∧ m.1 ≠ 6 then m.2.2.2.1 else 0), (if m.1 = 1 ∨ m.1 = 2 then m.2.2.2.2.1 else 0), (if m.1 = 2 ∨ m.1 = 4 then m.2.2.2.2.2.1 else 0), (if m.1 = 2 ∨ m.1 = 7 ∨ m.1 = 8 then m.2.2.2.2.2.2.1 else 0), (if m.1 = 7 ∨ m.1 = 8 then m.2.2.2.2.2.2.2.1 else 0), (if m.1 = 6 ∨ m.1 = 8 then m.2.2.2.2.2.2.2.2.1 else 0), (if m.1 = 3 then m.2.2.2.2.2.2.2.2.2 else []))
theorem rclean_eq (m : Ms) : r16_Clean m = some (cleanV m) := by
  unfold r16_Clean cleanV
  have b1 : ∀ (p q : Prop) [Decidable p] [Decidable q] (x y : Int), (if (decide p || decide q) = true then some x else some y) = some (if p ∨ q then x else y) := fun p q _ _ x y => by by_cases h1 : p <;> by_cases h2 : q <;> simp [h1, h2]
  have b2 : ∀ (p q : Prop) [Decidable p] [Decidable q] (x y : Int), (if (decide p && decide q) = true then some x else some y) = some (if p ∧ q then x else y) := fun p q _ _ x y => by by_cases h1 : p <;> by_cases h2 : q <;> simp [h1, h2]
  have b3 : ∀ (p q r : Prop) [Decidable p] [Decidable q] [Decidable r] (x y : Int), (if (decide p || (decide q || decide r)) = true then some x else some y) = some (if p ∨ q ∨ r then x else y) := fun p q r _ _ _ x y => by by_cases h1 : p <;> by_cases h2 : q <;> by_cases h3 : r <;> simp [h1, h2, h3]
  have b4 : ∀ (p q r : Prop) [Decidable p] [Decidable q] [Decidable r] (x y : Int), (if (decide p && (decide q && decide r)) = true then some x else some y) = some (if p ∧ q ∧ r then x else y) := fun p q r _ _ _ x y => by by_cases h1 : p <;> by_cases h2 : q <;> by_cases h3 : r <;> simp [h1, h2, h3]
  have b5 : (if m.1 = 3 then some m.2.2.2.2.2.2.2.2.2 else some ([] : List Mo)) = some (if m.1 = 3 then m.2.2.2.2.2.2.2.2.2 else []) := by by_cases h : m.1 = 3 <;> simp [h]
  rw [b1, Option.bind_some, b1, Option.bind_some, b3, Option.bind_some, b2, Option.bind_some, b4, Option.bind_some, b1, Option.bind_some, b1, Option.bind_some, b5, Option.bind_some]
/-- Few changes, few acts. -/
abbrev Sm (l : List Mo) : Prop := l.length ≤ 20 ∧ ∀ x ∈ l, x.2.1.2.2.length ≤ 16
theorem Sm.lm {l : List Mo} (h : Sm l) : Lm l := ⟨by have := h.1; omega, fun x hx => by have := h.2 x hx; omega⟩
theorem copied_eq {l : List Mo} (h : Sm l) : proto_copied l = some l := by
  have hl := h.1
  have key : ∀ (d k : Nat), k + d = l.length → loopW (proto_copied_l1 l) (l, (k : Int)) = some l := by
    intro d
    induction d with
    | zero => intro k hk; exact loopW_end (by rw [proto_copied_l1, if_neg (by omega)])
    | succ d ih =>
      intro k hk
      have hkl : k < l.length := by omega
      have ha := h.2 _ (List.getElem_mem hkl)
      rw [loopW_go (s' := (l, ((k + 1 : Nat) : Int))) ?_]
      · exact ih (k + 1) (by omega)
      · rw [proto_copied_l1, if_pos (by omega), ix_nat (List.getElem?_eq_getElem hkl), Option.bind_some]
        unfold slices_Clone_api_Act_api_Act
        rw [app_is (by simp; omega), Option.bind_some, Option.bind_some, Option.bind_some, w64_id (by omega)]
        have : setAt l (k : Int) (l[k].1, (l[k].2.1.1, l[k].2.1.2.1, [] ++ l[k].2.1.2.2), l[k].2.2) = l := by
          unfold setAt
          rw [Int.toNat_natCast, List.nil_append]
          exact List.set_getElem_self hkl
        rw [this]; rfl
  unfold proto_copied slices_Clone_api_Mod_api_Mod
  rw [app_is (by simp; omega), Option.bind_some, List.nil_append, Option.bind_some, show loopW (proto_copied_l1 l) (l, 0) = some l from key l.length 0 (by omega)]; rfl
theorem clean_eq {m : Ms} (h : Sm m.2.2.2.2.2.2.2.2.2) : proto_Clean m = some (cleanV m) := by
  unfold proto_Clean
  rw [copied_eq h]
  obtain ⟨k, s, u, r, t1, t2, lf, o, c, ms⟩ := m
  rcases fld k with ⟨rfl, e⟩ | ⟨rfl, e⟩ | ⟨rfl, e⟩ | ⟨rfl, e⟩ | ⟨rfl, e⟩ | ⟨rfl, e⟩ | ⟨rfl, e⟩ | ⟨rfl, e⟩ | ⟨hk, e⟩
  · simp only [e]; rfl
  · simp only [e]; rfl
  · simp only [e]; rfl
  · simp only [e]; rfl
  · simp only [e]; rfl
  · simp only [e]; rfl
  · simp only [e]; rfl
  · simp only [e]; rfl
  · simp only [e]
    have h0 : ∀ b : Int, andI .i64 0 b = 0 := fun b => by
      have : IntKind.i64.wrap 0 = 0 := by decide
      simp [andI, this]
    have hz : ∀ b v : Int, proto_Clean_1 b v 0 = 0 := fun b v => by unfold proto_Clean_1; rw [if_pos (h0 b)]
    rw [hz, hz, hz, hz, hz, hz, hz, if_neg (by rw [h0]; simp), Option.bind_some]
    unfold cleanV
    simp only
    rw [if_neg (by omega), if_neg (by omega), if_neg (by omega), if_neg (by omega), if_neg (by omega), if_neg (by omega), if_neg (by omega), if_neg (by omega)]
/-! ### What may be -/
abbrev NumsP (k u r t1 t2 lf o c : Int) : Prop := (0 ≤ t1 ∧ t1 ≤ 1125899906842624) ∧ (-1125899906842624 ≤ t2 ∧ t2 ≤ 1125899906842624) ∧ (0 ≤ lf ∧ lf ≤ 65535) ∧ (0 ≤ c ∧ c ≤ 255) ∧ (k ≤ 2 ∨ (1 ≤ u ∧ u ≤ 65535 ∧ r ≤ 7)) ∧ (0 ≤ r ∨ (-1 ≤ r ∧ 5 ≤ k ∧ k ≠ 6)) ∧ (k < 7 ∨ (3 ≤ o ∧ o ≤ 6))
theorem nums_eq (m : Ms) : r16_numbers m = decide (NumsP m.1 m.2.2.1 m.2.2.2.1 m.2.2.2.2.1 m.2.2.2.2.2.1 m.2.2.2.2.2.2.1 m.2.2.2.2.2.2.2.1 m.2.2.2.2.2.2.2.2.1) := by
  obtain ⟨k, s, u, r, t1, t2, lf, o, c, ms⟩ := m
  unfold r16_numbers
  have hif : ∀ (x y : Bool), (if x = true then false else y) = (!x && y) := fun x y => by cases x <;> rfl
  rw [hif, hif, hif, Bool.eq_iff_iff]
  simp only [Bool.and_eq_true, Bool.not_eq_true', Bool.or_eq_false_iff, Bool.and_eq_false_iff, Bool.or_eq_true, decide_eq_false_iff_not, decide_eq_true_eq]
  omega
abbrev CleanP (m : Ms) : Prop := m = cleanV m
abbrev OkC (x : Mo) : Prop := (1 ≤ x.1 ∧ x.1 ≤ 5) ∧ OkR 8 x.2.1
abbrev Ok16 (m : Ms) : Prop := (1 ≤ m.1 ∧ m.1 ≤ 8) ∧ (0 ≤ m.2.1 ∧ m.2.1 ≤ 7) ∧ CleanP m ∧ NumsP m.1 m.2.2.1 m.2.2.2.1 m.2.2.2.2.1 m.2.2.2.2.2.1 m.2.2.2.2.2.2.1 m.2.2.2.2.2.2.2.1 m.2.2.2.2.2.2.2.2.1 ∧ m.2.2.2.2.2.2.2.2.2.length ≤ 16 ∧ ∀ x ∈ m.2.2.2.2.2.2.2.2.2, OkC x
noncomputable instance dOk16 (m : Ms) : Decidable (Ok16 m) := Classical.propDecidable _
theorem rright16_eq {m : Ms} (h : Lm m.2.2.2.2.2.2.2.2.2) : r16_Right m = some (decide (Ok16 m)) := by
  unfold r16_Right
  rw [rclean_eq, Option.bind_some, rsame16_eq h, nums_eq]
  have hloop : orR (loopW (r16_Right_l1 m) 0) (fun _ => some true) = some (decide (∀ x ∈ m.2.2.2.2.2.2.2.2.2, OkC x)) := by
    rw [search_in m.2.2.2.2.2.2.2.2.2 h.1 (r16_Right_l1 m) (fun x => ¬ OkC x) false (fun k hk => by
      rw [r16_Right_l1, if_pos (by omega), ix_nat (List.getElem?_eq_getElem hk)]
      simp only [Option.bind_some]
      rw [rrule_eq (h.2 _ (List.getElem_mem hk))]
      by_cases c1 : m.2.2.2.2.2.2.2.2.2[k].1 < 1
      · rw [if_pos c1, Option.bind_some, if_pos rfl, if_pos (by omega)]
      · rw [if_neg c1]
        by_cases c2 : 5 < m.2.2.2.2.2.2.2.2.2[k].1
        · rw [if_pos c2, Option.bind_some, if_pos rfl, if_pos (by omega)]
        · rw [if_neg c2, Option.bind_some, Option.bind_some]
          by_cases c3 : OkR 8 m.2.2.2.2.2.2.2.2.2[k].2.1
          · rw [decide_eq_true c3, if_neg (by decide), if_neg (by simp only [Decidable.not_not]; exact ⟨by omega, c3⟩)]
          · rw [decide_eq_false c3, if_pos (by decide), if_pos (fun hh => c3 hh.2)]) (by rw [r16_Right_l1, if_neg (by omega)])]
    rw [orR_any]
    congr 1
    exact decide_eq_decide.2 ⟨fun h x hx => Decidable.not_not.1 fun hn => h ⟨x, hx, hn⟩, fun h ⟨x, hx, hn⟩ => hn (h x hx)⟩
  rw [hloop]
  by_cases c1 : m.1 < 1
  · rw [if_pos c1, Option.bind_some, if_pos rfl, decide_eq_false (fun h => by have := h.1.1; omega)]
  rw [if_neg c1]
  by_cases c2 : 8 < m.1
  · rw [if_pos c2, Option.bind_some, if_pos rfl, decide_eq_false (fun h => by have := h.1.2; omega)]
  rw [if_neg c2]
  by_cases c3 : m.2.1 < 0
  · rw [if_pos c3, Option.bind_some, if_pos rfl, decide_eq_false (fun h => by have := h.2.1.1; omega)]
  rw [if_neg c3]
  by_cases c4 : 7 < m.2.1
  · rw [if_pos c4, Option.bind_some, if_pos rfl, decide_eq_false (fun h => by have := h.2.1.2; omega)]
  rw [if_neg c4, Option.bind_some]
  by_cases c5 : m = cleanV m
  · rw [decide_eq_true c5, if_neg (by decide)]
    by_cases c6 : NumsP m.1 m.2.2.1 m.2.2.2.1 m.2.2.2.2.1 m.2.2.2.2.2.1 m.2.2.2.2.2.2.1 m.2.2.2.2.2.2.2.1 m.2.2.2.2.2.2.2.2.1
    · rw [decide_eq_true c6, if_neg (by decide), Option.bind_some]
      by_cases c7 : m.2.2.2.2.2.2.2.2.2.length ≤ 16
      · rw [decide_eq_false (by omega), if_neg (by decide)]
        congr 1
        exact decide_eq_decide.2 ⟨fun h => ⟨by omega, by omega, c5, c6, c7, h⟩, fun h => h.2.2.2.2.2⟩
      · rw [decide_eq_true (by omega), if_pos rfl, decide_eq_false (fun h => c7 h.2.2.2.2.1)]
    · rw [decide_eq_false c6, if_pos (by decide), Option.bind_some, if_pos rfl, decide_eq_false (fun h => c6 h.2.2.2.1)]
  · rw [decide_eq_false c5, if_pos (by decide), Option.bind_some, if_pos rfl, decide_eq_false (fun h => c5 h.2.2.1)]
/-- The numbers of the rules are numbers. -/
abbrev Im (l : List Mo) : Prop := ∀ x ∈ l, I4 x.2.1.2.1.2.1
theorem contains_eq {l : List Mo} (hl : l.length ≤ 20) (hi : Im l) : slices_ContainsFunc_api_Mod_api_Mod l = some (decide (¬ ∀ x ∈ l, OkC x)) := by
  unfold slices_ContainsFunc_api_Mod_api_Mod slices_IndexFunc_api_Mod_api_Mod
  have hw : ∀ x ∈ l, proto_wrongMod x = some (!decide (OkC x)) := fun x hx => by
    unfold proto_wrongMod
    rw [rule_eq (hi x hx)]
    by_cases c1 : x.1 < 1
    · rw [if_pos c1, Option.bind_some, decide_eq_false (show ¬ OkC x from fun h => by have := h.1.1; omega)]; rfl
    · rw [if_neg c1]
      by_cases c2 : 5 < x.1
      · rw [if_pos c2, Option.bind_some, decide_eq_false (show ¬ OkC x from fun h => by have := h.1.2; omega)]; rfl
      · rw [if_neg c2, Option.bind_some, Option.bind_some]
        by_cases c3 : OkR 8 x.2.1
        · rw [decide_eq_true c3, decide_eq_true (show OkC x from ⟨by omega, c3⟩)]
        · rw [decide_eq_false c3, decide_eq_false (show ¬ OkC x from fun hh => c3 hh.2)]
  have key : ∀ (d k : Nat), k + d = l.length → (∀ x ∈ l.take k, OkC x) → ∃ i : Int, orR (loopW (slices_IndexFunc_api_Mod_api_Mod_l1 l) (k : Int)) (fun _ => some (-1)) = some i ∧ (0 ≤ i ↔ ¬ ∀ x ∈ l, OkC x) := by
    intro d
    induction d with
    | zero =>
      intro k hk hh
      rw [List.take_of_length_le (by omega)] at hh
      exact ⟨-1, by rw [loopW_end (by rw [slices_IndexFunc_api_Mod_api_Mod_l1, if_neg (by omega)])]; rfl, ⟨fun h => by omega, fun h => absurd hh h⟩⟩
    | succ d ih =>
      intro k hk hh
      have hkl : k < l.length := by omega
      have hst : slices_IndexFunc_api_Mod_api_Mod_l1 l (k : Int) = if ¬ OkC l[k] then some (.inr (.inr (k : Int))) else some (.inl ((k + 1 : Nat) : Int)) := by
        rw [slices_IndexFunc_api_Mod_api_Mod_l1, if_pos (by omega), ix_nat (List.getElem?_eq_getElem hkl), Option.bind_some, hw _ (List.getElem_mem hkl), Option.bind_some, w64_id (by omega)]
        by_cases c : OkC l[k]
        · rw [decide_eq_true c, if_neg (by decide), if_neg (fun h => h c)]; rfl
        · rw [decide_eq_false c, if_pos (by decide), if_pos c]
      by_cases c : OkC l[k]
      · rw [if_neg (fun h => h c)] at hst
        rw [loopW_go hst]
        exact ih (k + 1) (by omega) (fun x hx => by
          rw [List.take_succ_eq_append_getElem hkl] at hx
          rcases List.mem_append.1 hx with hx | hx
          · exact hh x hx
          · rw [List.mem_singleton] at hx; subst hx; exact c)
      · rw [if_pos c] at hst
        refine ⟨(k : Int), by rw [loopW_end hst]; rfl, ⟨fun _ h => c (h _ (List.getElem_mem hkl)), fun _ => by omega⟩⟩
  obtain ⟨i, h1, h2⟩ := key l.length 0 (by omega) (fun x hx => by simp at hx)
  have h1' : orR (loopW (slices_IndexFunc_api_Mod_api_Mod_l1 l) 0) (fun _ => some (-1)) = some i := h1
  rw [h1', Option.bind_some]
  congr 1
  exact decide_eq_decide.2 h2
theorem least_eq (k : Int) : proto_leastRound k = some (if k = 5 ∨ k = 7 ∨ k = 8 then -1 else 0) := by
  unfold proto_leastRound
  by_cases c1 : k = 5
  · subst c1; rfl
  · rw [if_neg c1]
    by_cases c2 : k = 7
    · subst c2; rfl
    · rw [if_neg c2, Option.bind_some]
      by_cases c3 : k = 8
      · subst c3; rfl
      · rw [decide_eq_false c3, if_neg (by decide), if_neg (by omega)]
theorem right16_eq {m : Ms} (h : Sm m.2.2.2.2.2.2.2.2.2) (hi : Im m.2.2.2.2.2.2.2.2.2) : proto_Right m = some (decide (Ok16 m)) := by
  unfold proto_Right
  have hlc : Lm (cleanV m).2.2.2.2.2.2.2.2.2 := by
    unfold cleanV
    simp only
    split
    · exact h.lm
    · exact ⟨by simp, fun x hx => by simp at hx⟩
  rw [clean_eq h, Option.bind_some, same16_eq hlc, contains_eq h.1 hi, least_eq]
  have hk : ((!(proto_fields m.1).2) = true) ↔ ¬ (1 ≤ m.1 ∧ m.1 ≤ 8) := by
    rcases fld m.1 with ⟨e1, e⟩ | ⟨e1, e⟩ | ⟨e1, e⟩ | ⟨e1, e⟩ | ⟨e1, e⟩ | ⟨e1, e⟩ | ⟨e1, e⟩ | ⟨e1, e⟩ | ⟨e1, e⟩ <;> rw [e] <;> simp <;> omega
  by_cases c1 : 1 ≤ m.1 ∧ m.1 ≤ 8
  · rw [if_neg (by rw [hk]; simpa using c1)]
    by_cases c3 : m.2.1 < 0
    · rw [if_pos c3, Option.bind_some, if_pos rfl, decide_eq_false (fun h => by have := h.2.1.1; omega)]
    rw [if_neg c3]
    by_cases c4 : 8 ≤ m.2.1
    · rw [if_pos c4, Option.bind_some, if_pos rfl, decide_eq_false (fun h => by have := h.2.1.2; omega)]
    rw [if_neg c4, Option.bind_some]
    by_cases c5 : m = cleanV m
    · rw [decide_eq_true (show cleanV m = m from c5.symm), Option.bind_some, if_neg (by decide)]
      simp only [Option.bind_some, if_dec]
      congr 1
      rw [Bool.eq_iff_iff]
      simp only [Bool.and_eq_true, decide_eq_true_eq, Bool.not_eq_true', decide_eq_false_iff_not, Decidable.not_not]
      have hnums : ((proto_Right_1 1 m.2.2.2.2.1 0 1125899906842624 (proto_fields m.1).1 = true ∧ proto_Right_1 2 m.2.2.2.2.2.1 (-1125899906842624) 1125899906842624 (proto_fields m.1).1 = true ∧ proto_Right_1 4 m.2.2.2.2.2.2.1 0 65535 (proto_fields m.1).1 = true ∧ proto_Right_1 8 m.2.2.1 1 65535 (proto_fields m.1).1 = true ∧ proto_Right_1 16 m.2.2.2.1 (if m.1 = 5 ∨ m.1 = 7 ∨ m.1 = 8 then -1 else 0) 7 (proto_fields m.1).1 = true ∧ proto_Right_1 32 m.2.2.2.2.2.2.2.1 3 6 (proto_fields m.1).1 = true ∧ proto_Right_1 64 m.2.2.2.2.2.2.2.2.1 0 255 (proto_fields m.1).1 = true)) ↔ NumsP m.1 m.2.2.1 m.2.2.2.1 m.2.2.2.2.1 m.2.2.2.2.2.1 m.2.2.2.2.2.2.1 m.2.2.2.2.2.2.2.1 m.2.2.2.2.2.2.2.2.1 := by
        clear hlc hk h hi
        obtain ⟨k, s, u, r, t1, t2, lf, o, c, ms⟩ := m
        unfold cleanV at c5
        simp only [Prod.mk.injEq, true_and] at c5
        obtain ⟨q1, q2, q3, q4, q5, q6, q7, q8⟩ := c5
        have ev : ∀ (b v lo hi hs : Int) (w : Int), andI .i64 hs b = w → (proto_Right_1 b v lo hi hs = true ↔ (w = 0 ∨ (lo ≤ v ∧ v ≤ hi))) := fun b v lo hi hs w hw => by
          unfold proto_Right_1
          rw [hw]
          simp only [Bool.or_eq_true, Bool.and_eq_true, decide_eq_true_eq]
        simp only at c1 c3 c4 ⊢
        rcases fld k with ⟨rfl, e⟩ | ⟨rfl, e⟩ | ⟨rfl, e⟩ | ⟨rfl, e⟩ | ⟨rfl, e⟩ | ⟨rfl, e⟩ | ⟨rfl, e⟩ | ⟨rfl, e⟩ | ⟨hk, e⟩
        · rw [e, ev 1 t1 0 _ 1 1 (by decide), ev 2 t2 _ _ 1 0 (by decide), ev 4 lf _ _ 1 0 (by decide), ev 8 u _ _ 1 0 (by decide), ev 16 r _ _ 1 0 (by decide), ev 32 o _ _ 1 0 (by decide), ev 64 c _ _ 1 0 (by decide)]
          simp at q1 q2 q4 q5 q6 q7; omega
        · rw [e, ev 1 t1 0 _ 7 1 (by decide), ev 2 t2 _ _ 7 2 (by decide), ev 4 lf _ _ 7 4 (by decide), ev 8 u _ _ 7 0 (by decide), ev 16 r _ _ 7 0 (by decide), ev 32 o _ _ 7 0 (by decide), ev 64 c _ _ 7 0 (by decide)]
          simp at q1 q2 q6 q7; omega
        · rw [e, ev 1 t1 0 _ 152 0 (by decide), ev 2 t2 _ _ 152 0 (by decide), ev 4 lf _ _ 152 0 (by decide), ev 8 u _ _ 152 8 (by decide), ev 16 r _ _ 152 16 (by decide), ev 32 o _ _ 152 0 (by decide), ev 64 c _ _ 152 0 (by decide)]
          simp at q3 q4 q5 q6 q7 ⊢; omega
        · rw [e, ev 1 t1 0 _ 26 0 (by decide), ev 2 t2 _ _ 26 2 (by decide), ev 4 lf _ _ 26 0 (by decide), ev 8 u _ _ 26 8 (by decide), ev 16 r _ _ 26 16 (by decide), ev 32 o _ _ 26 0 (by decide), ev 64 c _ _ 26 0 (by decide)]
          simp at q3 q5 q6 q7 ⊢; omega
        · rw [e, ev 1 t1 0 _ 24 0 (by decide), ev 2 t2 _ _ 24 0 (by decide), ev 4 lf _ _ 24 0 (by decide), ev 8 u _ _ 24 8 (by decide), ev 16 r _ _ 24 16 (by decide), ev 32 o _ _ 24 0 (by decide), ev 64 c _ _ 24 0 (by decide)]
          simp at q3 q4 q5 q6 q7 ⊢; omega
        · rw [e, ev 1 t1 0 _ 72 0 (by decide), ev 2 t2 _ _ 72 0 (by decide), ev 4 lf _ _ 72 0 (by decide), ev 8 u _ _ 72 8 (by decide), ev 16 r _ _ 72 0 (by decide), ev 32 o _ _ 72 0 (by decide), ev 64 c _ _ 72 64 (by decide)]
          simp at q2 q3 q4 q5 q6 ⊢; omega
        · rw [e, ev 1 t1 0 _ 60 0 (by decide), ev 2 t2 _ _ 60 0 (by decide), ev 4 lf _ _ 60 4 (by decide), ev 8 u _ _ 60 8 (by decide), ev 16 r _ _ 60 16 (by decide), ev 32 o _ _ 60 32 (by decide), ev 64 c _ _ 60 0 (by decide)]
          simp at q3 q4 q7 ⊢; omega
        · rw [e, ev 1 t1 0 _ 124 0 (by decide), ev 2 t2 _ _ 124 0 (by decide), ev 4 lf _ _ 124 4 (by decide), ev 8 u _ _ 124 8 (by decide), ev 16 r _ _ 124 16 (by decide), ev 32 o _ _ 124 32 (by decide), ev 64 c _ _ 124 64 (by decide)]
          simp at q3 q4 ⊢; omega
        · exact absurd c1 hk
      constructor
      · rintro ⟨a1, a2, a3, a4, a5, a6, a7, a8, a9⟩
        exact ⟨c1, by omega, c5, hnums.1 ⟨a1, a2, a3, a4, a5, a6, a7⟩, by omega, a9⟩
      · rintro ⟨_, _, _, a1, a2, a3⟩
        obtain ⟨b1, b2, b3, b4, b5, b6, b7⟩ := hnums.2 a1
        exact ⟨b1, b2, b3, b4, b5, b6, b7, by omega, a3⟩
    · rw [decide_eq_false (show ¬ cleanV m = m from fun e => c5 e.symm), Option.bind_some, if_pos (by decide), decide_eq_false (fun h => c5 h.2.2.1)]
  · rw [if_pos (hk.2 c1), Option.bind_some, if_pos rfl, decide_eq_false (fun h => c1 h.1)]
end Go.Proofs.Ytnlllglfmipllaa
