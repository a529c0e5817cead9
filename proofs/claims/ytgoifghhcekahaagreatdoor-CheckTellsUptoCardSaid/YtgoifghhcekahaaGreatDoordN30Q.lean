/- Layer 30: policies: which may be, what they ask for. Conditions: none. -/
import Derived.Test.YtgoifghhcekahaaGreatDoordN30P
namespace Go.Proofs.YtgoifghhcekahaaGreatDoor
set_option linter.unusedVariables false
set_option linter.unusedSimpArgs false
open Go Go.RowKit
abbrev ZP : Tr36 := Tr36.of (0, 0, 0, ([] : List Tr36))
abbrev ZD : Tr28 := Tr28.of (0, 0, 0, ([] : List Tr28))
theorem WV : mi ZD = ZP := by show mi (.mk 0 0 0 []) = _; rw [mi]; rfl
theorem mi_Z' {p : Tr28} : mi p = ZP ↔ p = ZD := ⟨fun h => Xu (h.trans WV.symm), fun h => by rw [h, WV]⟩
abbrev FQ (k f v : Int) (n : Nat) : Prop := 1 ≤ k ∧ k ≤ 5 ∧ (k ≠ 2 → f = 0 ∧ v = 0) ∧ (k = 2 → 0 ≤ f ∧ f ≤ 4 ∧ 0 ≤ v ∧ v ≤ CP f) ∧ (k ≤ 2 → n = 0) ∧ (k = 5 → n = 2) ∧ (k = 3 ∨ k = 4 → 2 ≤ n ∧ n ≤ 8)
abbrev Rh (k : Int) (p : Tr36) (f v : Int) (n : Nat) : Prop := FQ k f v n ∧ (k = 2 ∨ k = 3 ∨ k = 4 → p = ZP)
open Classical in
theorem Wa {t : Tr39} (hc : t.cnt ≤ 1048576) : Hq t = some (decide (Rh t.un.1 t.un.2.1 t.un.2.2.1 t.un.2.2.2.1 t.un.2.2.2.2.length)) := by
  have hq := qP t
  unfold Hq F8
  rw [Lg, Vs (by omega)]
  simp only [Option.bind_some]
  by_cases hz : t.un.2.1 = ZP
  · rw [decide_eq_true hz, show decide (Rh t.un.1 t.un.2.1 t.un.2.2.1 t.un.2.2.2.1 t.un.2.2.2.2.length) = decide (FQ t.un.1 t.un.2.2.1 t.un.2.2.2.1 t.un.2.2.2.2.length) from decide_eq_decide.2 ⟨fun h => h.1, fun h => ⟨h, fun _ => hz⟩⟩]
    have no : ¬ FQ t.un.1 t.un.2.2.1 t.un.2.2.2.1 t.un.2.2.2.2.length → some false = some (decide (FQ t.un.1 t.un.2.2.1 t.un.2.2.2.1 t.un.2.2.2.2.length)) := fun h => by rw [decide_eq_false h]
    have yes : ∀ {P : Prop} [Decidable P], (P ↔ FQ t.un.1 t.un.2.2.1 t.un.2.2.2.1 t.un.2.2.2.2.length) → some (decide P) = some (decide (FQ t.un.1 t.un.2.2.1 t.un.2.2.2.1 t.un.2.2.2.2.length)) := fun h => congrArg some (decide_eq_decide.2 h)
    by_cases c2 : t.un.1 = 2
    · rw [if_pos c2, if_pos rfl]
      by_cases a1 : (t.un.2.2.2.2.length : Int) = 0
      · rw [if_pos a1]
        by_cases a2 : 0 ≤ t.un.2.2.1
        · rw [if_pos a2]
          by_cases a3 : t.un.2.2.1 ≤ 4
          · rw [if_pos a3]
            by_cases a4 : 0 ≤ t.un.2.2.2.1
            · rw [if_pos a4, Vz, Option.bind_some, Option.bind_some]
              exact yes ⟨fun h => by unfold FQ; omega, fun h => by unfold FQ at h; omega⟩
            · rw [if_neg a4]; exact no (fun h => by unfold FQ at h; omega)
          · rw [if_neg a3]; exact no (fun h => by unfold FQ at h; omega)
        · rw [if_neg a2]; exact no (fun h => by unfold FQ at h; omega)
      · rw [if_neg a1]; exact no (fun h => by unfold FQ at h; omega)
    · rw [if_neg c2]
      by_cases z : t.un.2.2.1 = 0 ∧ t.un.2.2.2.1 = 0
      · rw [if_neg (by simp [z.1, z.2])]
        by_cases c1 : t.un.1 = 1
        · rw [if_pos c1]
          exact yes ⟨fun h => by unfold FQ; omega, fun h => by unfold FQ at h; omega⟩
        · rw [if_neg c1]
          by_cases c34 : t.un.1 = 3 ∨ t.un.1 = 4
          · have e : (if t.un.1 = 3 then some true else some (decide (t.un.1 = 4)) : Option Bool) = some true := by
              rcases c34 with h | h
              · rw [if_pos h]
              · rw [if_neg (by omega), decide_eq_true h]
            rw [e, Option.bind_some, if_pos rfl, if_pos rfl]
            by_cases a : 2 ≤ (t.un.2.2.2.2.length : Int)
            · rw [if_pos a, Option.bind_some]
              exact yes ⟨fun h => by unfold FQ; omega, fun h => by unfold FQ at h; omega⟩
            · rw [if_neg a]; exact no (fun h => by unfold FQ at h; omega)
          · rw [if_neg (by omega), decide_eq_false (by omega), Option.bind_some, if_neg (by decide)]
            by_cases c5 : t.un.1 = 5
            · rw [if_pos c5]
              exact yes ⟨fun h => by unfold FQ; omega, fun h => by unfold FQ at h; omega⟩
            · rw [if_neg c5]; exact no (fun h => by unfold FQ at h; omega)
      · rw [if_pos (by simp only [Bool.or_eq_true, decide_eq_true_eq]; omega)]
        exact no (fun h => by unfold FQ at h; omega)
  · rw [decide_eq_false hz]
    have no : ¬ Rh t.un.1 t.un.2.1 t.un.2.2.1 t.un.2.2.2.1 t.un.2.2.2.2.length → some false = some (decide (Rh t.un.1 t.un.2.1 t.un.2.2.1 t.un.2.2.2.1 t.un.2.2.2.2.length)) := fun h => by rw [decide_eq_false h]
    have yes : ∀ {P : Prop} [Decidable P], (P ↔ Rh t.un.1 t.un.2.1 t.un.2.2.1 t.un.2.2.2.1 t.un.2.2.2.2.length) → some (decide P) = some (decide (Rh t.un.1 t.un.2.1 t.un.2.2.1 t.un.2.2.2.1 t.un.2.2.2.2.length)) := fun h => congrArg some (decide_eq_decide.2 h)
    by_cases c2 : t.un.1 = 2
    · rw [if_pos c2, if_neg (by decide)]; exact no (fun h => hz (h.2 (.inl c2)))
    · rw [if_neg c2]
      by_cases z : t.un.2.2.1 = 0 ∧ t.un.2.2.2.1 = 0
      · rw [if_neg (by simp [z.1, z.2])]
        by_cases c1 : t.un.1 = 1
        · rw [if_pos c1]
          exact yes ⟨fun h => ⟨by unfold FQ; omega, fun h => by omega⟩, fun h => by have := h.1; unfold FQ at this; omega⟩
        · rw [if_neg c1]
          by_cases c34 : t.un.1 = 3 ∨ t.un.1 = 4
          · have e : (if t.un.1 = 3 then some true else some (decide (t.un.1 = 4)) : Option Bool) = some true := by
              rcases c34 with h | h
              · rw [if_pos h]
              · rw [if_neg (by omega), decide_eq_true h]
            rw [e, Option.bind_some, if_pos rfl, if_neg (by decide)]; exact no (fun h => hz (h.2 (.inr c34)))
          · rw [if_neg (by omega), decide_eq_false (by omega), Option.bind_some, if_neg (by decide)]
            by_cases c5 : t.un.1 = 5
            · rw [if_pos c5]
              exact yes ⟨fun h => ⟨by unfold FQ; omega, fun h => by omega⟩, fun h => by have := h.1; unfold FQ at this; omega⟩
            · rw [if_neg c5]; exact no (fun h => by have := h.1; unfold FQ at this; omega)
      · rw [if_pos (by simp only [Bool.or_eq_true, decide_eq_true_eq]; omega)]
        exact no (fun h => by have := h.1; unfold FQ at this; omega)
abbrev U0 (k : Int) (p : Tr36) (f v : Int) (n : Nat) : Prop := Rh k p f v n ∧ (k = 1 ∨ k = 5 → LR p 64 8)
open Classical in
noncomputable def GA : Tr39 → Bool
  | .mk k p f v l => @decide (U0 k p f v l.length) (propDecidable _) && (l.map GA).all id
theorem GI (t : Tr39) : GA t = true ↔ U0 t.un.1 t.un.2.1 t.un.2.2.1 t.un.2.2.2.1 t.un.2.2.2.2.length ∧ ∀ x ∈ t.un.2.2.2.2, GA x = true := by
  cases t with
  | mk k p f v l =>
    rw [GA, Bool.and_eq_true, @decide_eq_true_eq _ (Classical.propDecidable _), List.all_map, List.all_eq_true]; rfl
theorem Nw (t : Tr31) : GA (pm t) = true ↔ U0 t.un.1 (mi t.un.2.1) t.un.2.2.1 t.un.2.2.2.1 t.un.2.2.2.2.length ∧ ∀ x ∈ t.un.2.2.2.2, GA (pm x) = true := by
  rw [GI, O8]
  show U0 _ _ _ _ (t.un.2.2.2.2.map pm).length ∧ _ ↔ _
  rw [List.length_map]
  refine and_congr_right fun _ => ⟨fun h x hx => h _ (List.mem_map.2 ⟨x, hx, rfl⟩), fun h x hx => ?_⟩
  obtain ⟨y, hy, rfl⟩ := List.mem_map.1 hx
  exact h y hy
abbrev Pw (t : Tr39) (b d : Int) : Prop := GA t = true ∧ (dq t : Int) ≤ d ∧ (sz t : Int) ≤ b
open Classical in
theorem PX : ∀ (n : Nat) (t : Tr39), SizeOf.sizeOf t < n → t.cnt ≤ 1048576 → ∀ b d : Int, -1000 ≤ b → b ≤ 1000 → 0 ≤ d → d ≤ 1000 →
    (Pw t b d → AU n b t d = some (true, b - sz t)) ∧ (¬ Pw t b d → ∃ b', AU n b t d = some (false, b'))
  | 0, t, h, _ => absurd h (Nat.not_lt_zero _)
  | n + 1, t, h, hc => by
    intro b d b0 b1 d0 d1
    have hl := lP t
    have hq := qP t
    have hse := RT t
    have hde := US t
    have hst : AU (n + 1) b t d = B6 (AU n) b t d := rfl
    rw [hst]
    unfold B6
    by_cases g1 : b < 1
    · rw [if_pos g1, Option.bind_some, if_pos rfl]
      exact ⟨fun hk => by have := hk.2.2; omega, fun _ => ⟨_, rfl⟩⟩
    rw [if_neg g1]
    by_cases g2 : d < 1
    · rw [if_pos g2, Option.bind_some, if_pos rfl]
      exact ⟨fun hk => by have := hk.2.1; omega, fun _ => ⟨_, rfl⟩⟩
    rw [if_neg g2, Lg, MX, Wa hc, Option.bind_some, Option.bind_some]
    by_cases g3 : Rh t.un.1 t.un.2.1 t.un.2.2.1 t.un.2.2.2.1 t.un.2.2.2.2.length
    case neg =>
      rw [decide_eq_false g3, if_pos (by decide)]
      exact ⟨fun hk => absurd ((GI t).1 hk.1).1.1 g3, fun _ => ⟨_, rfl⟩⟩
    case pos =>
      rw [decide_eq_true g3, if_neg (show ¬ (!true) = true by decide), Ax (by omega)]
      by_cases g4 : t.un.1 = 1 ∨ t.un.1 = 5 → LR t.un.2.1 64 8
      case neg =>
        have hk : t.un.1 = 1 ∨ t.un.1 = 5 := Classical.byContradiction fun hn => g4 fun h => absurd h hn
        rw [if_pos (by simpa using hk), PR (by omega), Option.bind_some, decide_eq_false (fun h => g4 fun _ => h), if_pos (by decide)]
        exact ⟨fun h => absurd ((GI t).1 h.1).1.2 g4, fun _ => ⟨_, rfl⟩⟩
      case pos =>
        have hpz : ∃ P : Nat, P ≤ 64 ∧ sz t = 1 + P + (t.un.2.2.2.2.map sz).sum ∧ (if (decide (t.un.1 = 1) || decide (t.un.1 = 5)) = true then (GU t.un.2.1).bind fun x4 => (if (!x4) = true then some (.inr (false, b - 1)) else (Kg t.un.2.1).bind fun x5 => some (.inl (AJ ((b - 1) - x5)))) else some (.inl (b - 1)) : Option (Int ⊕ (Bool × Int))) = some (.inl (b - 1 - P)) := by
          have hlin := g3.1
          unfold FQ at hlin
          by_cases hk : t.un.1 = 1 ∨ t.un.1 = 5
          · have ho := g4 hk
            have ho3 := ho.2.2
            refine ⟨t.un.2.1.cnt, by omega, by rw [hse, if_pos (by omega)], ?_⟩
            rw [if_pos (by simpa using hk), PR (by omega), Option.bind_some, decide_eq_true ho, if_neg (by decide), UH (by omega), Option.bind_some, Ax (by omega)]
          · refine ⟨0, by omega, by rw [hse, if_neg (by omega)], ?_⟩
            rw [if_neg (by simpa using hk)]; simp
        obtain ⟨P, hP, hsz, e1⟩ := hpz
        rw [e1]
        show (Pw t b d → HA (AB (A0 (AU n) t d) (0, b - 1 - (P : Int))) (fun x6 => some (decide (0 ≤ x6), x6)) = some (true, b - sz t)) ∧ (¬ Pw t b d → ∃ b', HA (AB (A0 (AU n) t d) (0, b - 1 - (P : Int))) (fun x6 => some (decide (0 ≤ x6), x6)) = some (false, b'))
        have key : ∀ (m i : Nat), i + m = t.un.2.2.2.2.length → (∀ x ∈ t.un.2.2.2.2.take i, GA x = true ∧ (dq x : Int) ≤ d - 1) → (i = 0 ∨ (((t.un.2.2.2.2.take i).map sz).sum : Int) ≤ b - 1 - P) →
            (Pw t b d → HA (AB (A0 (AU n) t d) ((i : Int), b - 1 - P - (((t.un.2.2.2.2.take i).map sz).sum : Nat))) (fun x6 => some (decide (0 ≤ x6), x6)) = some (true, b - sz t)) ∧ (¬ Pw t b d → ∃ b', HA (AB (A0 (AU n) t d) ((i : Int), b - 1 - P - (((t.un.2.2.2.2.take i).map sz).sum : Nat))) (fun x6 => some (decide (0 ≤ x6), x6)) = some (false, b')) := by
          intro m
          induction m with
          | zero =>
            intro i hi hx hs
            have e0 : t.un.2.2.2.2.take i = t.un.2.2.2.2 := List.take_of_length_le (by omega)
            rw [e0] at hx hs ⊢
            rw [AV (e := .inl (b - 1 - P - ((t.un.2.2.2.2.map sz).sum : Nat))) (by rw [A0, if_neg (by omega)])]
            have hd : (dq t : Int) ≤ d := by
              have : mx (t.un.2.2.2.2.map dq) ≤ (d - 1).toNat := PM fun a ha => by
                obtain ⟨x, hm, rfl⟩ := List.mem_map.1 ha
                have := (hx x hm).2
                omega
              omega
            show (_ → some (decide (0 ≤ b - 1 - (P : Int) - ((t.un.2.2.2.2.map sz).sum : Nat)), b - 1 - (P : Int) - ((t.un.2.2.2.2.map sz).sum : Nat)) = _) ∧ (_ → ∃ b', some (decide (0 ≤ b - 1 - (P : Int) - ((t.un.2.2.2.2.map sz).sum : Nat)), b - 1 - (P : Int) - ((t.un.2.2.2.2.map sz).sum : Nat)) = _)
            by_cases q : 0 ≤ b - 1 - (P : Int) - ((t.un.2.2.2.2.map sz).sum : Nat)
            · rw [decide_eq_true q]
              refine ⟨fun _ => by congr 2; omega, fun hn => absurd ⟨(GI t).2 ⟨⟨g3, g4⟩, fun x hm => (hx x hm).1⟩, hd, by omega⟩ hn⟩
            · rw [decide_eq_false q]
              exact ⟨fun hk => by have := hk.2.2; omega, fun _ => ⟨_, rfl⟩⟩
          | succ m ih =>
            intro i hi hx hs
            have hil : i < t.un.2.2.2.2.length := by omega
            have hm := List.getElem_mem hil
            have hsum : ((t.un.2.2.2.2.take (i + 1)).map sz).sum = ((t.un.2.2.2.2.take i).map sz).sum + sz t.un.2.2.2.2[i] := by
              rw [List.take_succ_eq_append_getElem hil, List.map_append, List.sum_append]; simp
            have hle := HX (g := sz) t.un.2.2.2.2 (i + 1)
            have h0 : i = 0 → ((t.un.2.2.2.2.take i).map sz).sum = 0 := fun h => by rw [h]; rfl
            obtain ⟨r1, r2⟩ := PX n t.un.2.2.2.2[i] (by have := Ub hm; omega) (Nat.le_trans (cP hm) hc) (b - 1 - P - (((t.un.2.2.2.2.take i).map sz).sum : Nat)) (d - 1) (by omega) (by omega) (by omega) (by omega)
            by_cases g : Pw t.un.2.2.2.2[i] (b - 1 - P - (((t.un.2.2.2.2.take i).map sz).sum : Nat)) (d - 1)
            · have hg2 := g.2.2
              have hstep : A0 (AU n) t d ((i : Int), b - 1 - P - (((t.un.2.2.2.2.take i).map sz).sum : Nat)) = some (.inl (((i + 1 : Nat) : Int), b - 1 - P - (((t.un.2.2.2.2.take (i + 1)).map sz).sum : Nat))) := by
                rw [A0, if_pos (by omega), Bl (List.getElem?_eq_getElem hil), Option.bind_some, Lg, MX, Ax (by omega), r1 g, Option.bind_some, if_neg (show ¬ (!true) = true by decide), Ax (by omega), hsum]
                show some (Sum.inl (_, _)) = _
                congr 3; omega
              rw [BU hstep]
              refine ih (i + 1) (by omega) (fun x hxm => ?_) (by omega)
              rw [List.take_succ_eq_append_getElem hil] at hxm
              rcases List.mem_append.1 hxm with hh | hh
              · exact hx x hh
              · rw [List.mem_singleton.1 hh]; exact ⟨g.1, g.2.1⟩
            · obtain ⟨b', hb'⟩ := r2 g
              have hno : ¬ Pw t b d := fun hk => g ⟨((GI t).1 hk.1).2 _ hm, by
                have h1 := S7 (List.mem_map.2 ⟨_, hm, rfl⟩ : dq t.un.2.2.2.2[i] ∈ t.un.2.2.2.2.map dq)
                have := hk.2.1
                omega, by have := hk.2.2; omega⟩
              refine ⟨fun hk => absurd hk hno, fun _ => ⟨b', ?_⟩⟩
              rw [AV (e := .inr (false, b')) (by
                rw [A0, if_pos (by omega), Bl (List.getElem?_eq_getElem hil), Option.bind_some, Lg, MX, Ax (by omega), hb', Option.bind_some, if_pos (by rfl)])]
              rfl
        have := key t.un.2.2.2.2.length 0 (by omega) (by simp) (.inl rfl)
        simpa using this
abbrev XC (t : Tr39) : Prop := Pw t 64 8 ∧ wd t ≤ 64
open Classical in
theorem RF {t : Tr39} (hc : t.cnt ≤ 1048576) : GG t = some (decide (XC t)) := by
  obtain ⟨h1, h2⟩ := PX (SizeOf.sizeOf t + 1) t (by omega) hc 64 8 (by omega) (by omega) (by omega) (by omega)
  unfold GG
  rw [Lg, MX]
  by_cases g : Pw t 64 8
  · rw [show EG 64 t 8 = some (true, (64 - sz t : Int)) from CB (g := fun n => AU n 64 t 8) (fun n r h => Ep n 64 t 8 r h) (h1 g), Option.bind_some, if_pos rfl, UT hc, Option.bind_some, Option.bind_some]
    exact congrArg some (decide_eq_decide.2 ⟨fun h => ⟨g, h⟩, fun h => h.2⟩)
  · obtain ⟨b', hb⟩ := h2 g
    rw [show EG 64 t 8 = some (false, b') from CB (g := fun n => AU n 64 t 8) (fun n r h => Ep n 64 t 8 r h) hb, Option.bind_some, if_neg (show ¬ false = true by decide), Option.bind_some, decide_eq_false (fun h => g h.1)]
theorem PP : ∀ (n : Nat) (t : Tr31), SizeOf.sizeOf t < n → t.cnt ≤ 1048576 → Eg n t = some (GA (pm t))
  | 0, t, h, _ => absurd h (Nat.not_lt_zero _)
  | n + 1, t, h, hc => by
    have hl := lD t
    have hq := qD t
    have htb := Oc t.un.2.2.1
    show E5 (Eg n) t = _
    unfold E5
    have no : ¬ U0 t.un.1 (mi t.un.2.1) t.un.2.2.1 t.un.2.2.2.1 t.un.2.2.2.2.length → GA (pm t) = false := fun hn => by
      cases hh : GA (pm t) with
      | false => rfl
      | true => exact absurd ((Nw t).1 hh).1 hn
    by_cases g1 : (decide (t.un.1 < 1) || (decide (5 < t.un.1) || (decide (t.un.1 ≠ 2) && (decide (t.un.2.2.1 ≠ 0) || decide (t.un.2.2.2.1 ≠ 0))))) = true
    · rw [if_pos g1, no (fun hf => by
        have := hf.1.1
        unfold FQ at this
        simp only [Bool.and_eq_true, Bool.or_eq_true, decide_eq_true_eq] at g1
        omega)]
    rw [if_neg g1]
    simp only [Bool.and_eq_true, Bool.or_eq_true, decide_eq_true_eq, not_or, not_and] at g1
    have hask : ∃ x : Bool, (if (decide (t.un.1 = 1) || decide (t.un.1 = 5)) = true then (HJ (Tr28.of (t.un.2.1.un.1, t.un.2.1.un.2.1, t.un.2.1.un.2.2.1, t.un.2.1.un.2.2.2))).bind fun x2 => (if (!x2) = true then some true else some false) else (JU (Tr28.of (t.un.2.1.un.1, t.un.2.1.un.2.1, t.un.2.1.un.2.2.1, t.un.2.1.un.2.2.2)) (Tr28.of (0, 0, 0, ([] : List Tr28)))).bind fun x3 => some (!x3)) = some x ∧ (x = false ↔ (t.un.1 = 2 ∨ t.un.1 = 3 ∨ t.un.1 = 4 → mi t.un.2.1 = ZP) ∧ (t.un.1 = 1 ∨ t.un.1 = 5 → LR (mi t.un.2.1) 64 8)) := by
      rw [Kq, TI (by omega), Ra (by omega)]
      by_cases hk : t.un.1 = 1 ∨ t.un.1 = 5
      · rw [if_pos (by simpa using hk), Option.bind_some]
        by_cases ho : LR (mi t.un.2.1) 64 8
        · rw [decide_eq_true ho, if_neg (by decide)]
          exact ⟨false, rfl, ⟨fun _ => ⟨fun h => by omega, fun _ => ho⟩, fun _ => rfl⟩⟩
        · rw [decide_eq_false ho, if_pos (by decide)]
          exact ⟨true, rfl, ⟨(fun h => nomatch h), fun h => absurd (h.2 hk) ho⟩⟩
      · rw [if_neg (by simpa using hk), Option.bind_some]
        by_cases hz : t.un.2.1 = ZD
        · refine ⟨false, ?_, ?_⟩
          · rw [@decide_eq_true _ (_) hz]; rfl
          · exact ⟨fun _ => ⟨fun _ => mi_Z'.2 hz, fun h => absurd h hk⟩, fun _ => rfl⟩
        · refine ⟨true, ?_, ?_⟩
          · rw [@decide_eq_false _ (_) hz]; rfl
          · exact ⟨(fun h => nomatch h), fun h => absurd (mi_Z'.1 (h.1 (by omega))) hz⟩
    obtain ⟨x, hx1, hx2⟩ := hask
    rw [hx1, Option.bind_some]
    cases x with
    | true =>
      rw [if_pos rfl, no (fun hf => by have := hx2.2 ⟨hf.1.2, hf.2⟩; cases this)]
    | false =>
      obtain ⟨ha, hb⟩ := hx2.1 rfl
      rw [if_neg (by decide)]
      by_cases g2 : (decide (t.un.1 = 2) && (decide (t.un.2.2.1 < 0) || (decide (4 < t.un.2.2.1) || (decide (t.un.2.2.2.1 < 0) || decide ((CP t.un.2.2.1) < t.un.2.2.2.1))))) = true
      · rw [if_pos g2, no (fun hf => by
          have := hf.1.1
          unfold FQ at this
          simp only [Bool.and_eq_true, Bool.or_eq_true, decide_eq_true_eq] at g2
          omega)]
      rw [if_neg g2]
      simp only [Bool.and_eq_true, Bool.or_eq_true, decide_eq_true_eq, not_or, not_and] at g2
      have hlen : ∃ y : Bool, (bif decide (t.un.1 ≤ 2) then (decide ((t.un.2.2.2.2.length : Int) ≠ 0) || (bif decide (t.un.1 = 5) then (decide ((t.un.2.2.2.2.length : Int) ≠ 2) || (bif decide (t.un.1 = 3) then (decide ((t.un.2.2.2.2.length : Int) < 2) || decide (8 < (t.un.2.2.2.2.length : Int))) else (decide (t.un.1 = 4) && (decide ((t.un.2.2.2.2.length : Int) < 2) || decide (8 < (t.un.2.2.2.2.length : Int)))))) else (bif decide (t.un.1 = 3) then (decide ((t.un.2.2.2.2.length : Int) < 2) || decide (8 < (t.un.2.2.2.2.length : Int))) else (decide (t.un.1 = 4) && (decide ((t.un.2.2.2.2.length : Int) < 2) || decide (8 < (t.un.2.2.2.2.length : Int))))))) else (bif decide (t.un.1 = 5) then (decide ((t.un.2.2.2.2.length : Int) ≠ 2) || (bif decide (t.un.1 = 3) then (decide ((t.un.2.2.2.2.length : Int) < 2) || decide (8 < (t.un.2.2.2.2.length : Int))) else (decide (t.un.1 = 4) && (decide ((t.un.2.2.2.2.length : Int) < 2) || decide (8 < (t.un.2.2.2.2.length : Int)))))) else (bif decide (t.un.1 = 3) then (decide ((t.un.2.2.2.2.length : Int) < 2) || decide (8 < (t.un.2.2.2.2.length : Int))) else (decide (t.un.1 = 4) && (decide ((t.un.2.2.2.2.length : Int) < 2) || decide (8 < (t.un.2.2.2.2.length : Int))))))) = y ∧ (y = false ↔ FQ t.un.1 t.un.2.2.1 t.un.2.2.2.1 t.un.2.2.2.2.length) := by
        refine ⟨_, rfl, ?_⟩
        have hk : t.un.1 = 1 ∨ t.un.1 = 2 ∨ t.un.1 = 3 ∨ t.un.1 = 4 ∨ t.un.1 = 5 := by omega
        unfold FQ
        rcases hk with h | h | h | h | h <;> rw [h] at g1 g2 ⊢ <;> simp <;> omega
      obtain ⟨y, hy1, hy2⟩ := hlen
      rw [hy1]
      cases y with
      | true => rw [if_pos rfl, no (fun hf => by have := hy2.2 hf.1.1; cases this)]
      | false =>
        have hlin := hy2.1 rfl
        rw [if_neg (by decide)]
        have hx : ∀ x ∈ t.un.2.2.2.2, Eg n x = some (GA (pm x)) := fun x hm => PP n x (by have := We hm; omega) (Nat.le_trans (cD hm) hc)
        rw [Gp t.un.2.2.2.2 (by omega) (Fd (Eg n) t) (fun x => GA (pm x) = false) false (fun k hk => by
          rw [Fd, if_pos (by omega), Bl (List.getElem?_eq_getElem hk), Option.bind_some, Kq, Nj, hx _ (List.getElem_mem hk), Option.bind_some]
          cases hq : GA (pm t.un.2.2.2.2[k]) with
          | true => rw [if_neg (by decide), if_neg (by decide)]
          | false => rw [if_pos (by decide), if_pos rfl]) (by rw [Fd, if_neg (by omega)])]
        by_cases e : ∃ e ∈ t.un.2.2.2.2, GA (pm e) = false
        · rw [if_pos e]
          obtain ⟨x, hxm, hxf⟩ := e
          have : GA (pm t) = false := by
            cases hh : GA (pm t) with
            | false => rfl
            | true => rw [((Nw t).1 hh).2 x hxm] at hxf; cases hxf
          rw [this]; rfl
        · rw [if_neg e]
          have : GA (pm t) = true := (Nw t).2 ⟨⟨⟨hlin, ha⟩, hb⟩, fun x hxm => by
            cases hh : GA (pm x) with
            | true => rfl
            | false => exact absurd ⟨x, hxm, hh⟩ e⟩
          rw [this]; rfl
open Classical in
theorem RY {t : Tr31} (hc : t.cnt ≤ 1048576) : HI t = some (decide (XC (pm t))) := by
  unfold HI
  rw [Kq, Nj, show Ob t = some (GA (pm t)) from CB (g := fun n => Eg n t) (fun n r h => KK n t r h) (PP (SizeOf.sizeOf t + 1) t (by omega) hc), Option.bind_some, Ss hc, NQ hc, VK hc]
  simp only [Option.bind_some]
  by_cases hf : GA (pm t) = true
  case neg => rw [if_neg hf, Option.bind_some, decide_eq_false (fun h => hf h.1.1)]
  case pos =>
    rw [if_pos hf]
    by_cases c : (dq (pm t) : Int) ≤ 8
    · rw [if_pos c]
      by_cases c2 : (sz (pm t) : Int) ≤ 64
      · rw [if_pos c2, Option.bind_some]
        exact congrArg some (decide_eq_decide.2 ⟨fun h => ⟨⟨hf, c, c2⟩, h⟩, fun h => h.2⟩)
      · rw [if_neg c2, Option.bind_some, decide_eq_false (fun h => c2 h.1.2.2)]
    · rw [if_neg c, Option.bind_some, decide_eq_false (fun h => c h.1.2.1)]
end Go.Proofs.YtgoifghhcekahaaGreatDoor
