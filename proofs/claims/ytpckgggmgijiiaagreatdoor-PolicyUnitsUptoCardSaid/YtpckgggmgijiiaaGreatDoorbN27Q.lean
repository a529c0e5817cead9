/- Layer 27: policies: which may be. Conditions: none. -/
import Derived.Test.YtpckgggmgijiiaaGreatDoorbN27P
namespace Go.Proofs.YtpckgggmgijiiaaGreatDoor
set_option linter.unusedVariables false
set_option linter.unusedSimpArgs false
open Go Go.RowKit
abbrev ZP : Tr34 := Tr34.of (0, 0, 0, ([] : List Tr34))
abbrev ZD : Tr24 := Tr24.of (0, 0, 0, ([] : List Tr24))
theorem WU : mi ZD = ZP := by show mi (.mk 0 0 0 []) = _; rw [mi]; rfl
theorem mi_Z' {p : Tr24} : mi p = ZP ↔ p = ZD := ⟨fun h => Wf (h.trans WU.symm), fun h => by rw [h, WU]⟩
abbrev SC (k f v : Int) (n : Nat) : Prop := 1 ≤ k ∧ k ≤ 5 ∧ (k ≠ 2 → f = 0 ∧ v = 0) ∧ (k = 2 → 0 ≤ f ∧ f ≤ 4 ∧ 0 ≤ v ∧ v ≤ Eo f) ∧ (k ≤ 2 → n = 0) ∧ (k = 5 → n = 2) ∧ (k = 3 ∨ k = 4 → 2 ≤ n ∧ n ≤ 8)
abbrev X8 (k : Int) (p : Tr34) (f v : Int) (n : Nat) : Prop := SC k f v n ∧ (k = 2 ∨ k = 3 ∨ k = 4 → p = ZP)
abbrev TB (k : Int) (p : Tr34) (f v : Int) (n : Nat) : Prop := X8 k p f v n ∧ (k = 1 ∨ k = 5 → UL p 64 8)
open Classical in
noncomputable def H0 : Tr37 → Bool
  | .mk k p f v l => @decide (TB k p f v l.length) (propDecidable _) && (l.map H0).all id
theorem JL (t : Tr37) : H0 t = true ↔ TB t.un.1 t.un.2.1 t.un.2.2.1 t.un.2.2.2.1 t.un.2.2.2.2.length ∧ ∀ x ∈ t.un.2.2.2.2, H0 x = true := by
  cases t with
  | mk k p f v l =>
    rw [H0, Bool.and_eq_true, @decide_eq_true_eq _ (Classical.propDecidable _), List.all_map, List.all_eq_true]; rfl
theorem Pz (t : Tr27) : H0 (pm t) = true ↔ TB t.un.1 (mi t.un.2.1) t.un.2.2.1 t.un.2.2.2.1 t.un.2.2.2.2.length ∧ ∀ x ∈ t.un.2.2.2.2, H0 (pm x) = true := by
  rw [JL, QB]
  show TB _ _ _ _ (t.un.2.2.2.2.map pm).length ∧ _ ↔ _
  rw [List.length_map]
  refine and_congr_right fun _ => ⟨fun h x hx => h _ (List.mem_map.2 ⟨x, hx, rfl⟩), fun h x hx => ?_⟩
  obtain ⟨y, hy, rfl⟩ := List.mem_map.1 hx
  exact h y hy
abbrev X3 (t : Tr37) (b d : Int) : Prop := H0 t = true ∧ (dq t : Int) ≤ d ∧ (sz t : Int) ≤ b
abbrev Wk (t : Tr37) : Prop := X3 t 64 8 ∧ wd t ≤ 64
theorem Pf : ∀ (n : Nat) (t : Tr27), SizeOf.sizeOf t < n → t.cnt ≤ 1048576 → Eb n t = some (H0 (pm t))
  | 0, t, h, _ => absurd h (Nat.not_lt_zero _)
  | n + 1, t, h, hc => by
    have hl := lD t
    have hq := qD t
    have htb := Ts t.un.2.2.1
    show E2 (Eb n) t = _
    unfold E2
    have no : ¬ TB t.un.1 (mi t.un.2.1) t.un.2.2.1 t.un.2.2.2.1 t.un.2.2.2.2.length → H0 (pm t) = false := fun hn => by
      cases hh : H0 (pm t) with
      | false => rfl
      | true => exact absurd ((Pz t).1 hh).1 hn
    by_cases g1 : (decide (t.un.1 < 1) || (decide (5 < t.un.1) || (decide (t.un.1 ≠ 2) && (decide (t.un.2.2.1 ≠ 0) || decide (t.un.2.2.2.1 ≠ 0))))) = true
    · rw [if_pos g1, no (fun hf => by
        have := hf.1.1
        unfold SC at this
        simp only [Bool.and_eq_true, Bool.or_eq_true, decide_eq_true_eq] at g1
        omega)]
    rw [if_neg g1]
    simp only [Bool.and_eq_true, Bool.or_eq_true, decide_eq_true_eq, not_or, not_and] at g1
    have hask : ∃ x : Bool, (if (decide (t.un.1 = 1) || decide (t.un.1 = 5)) = true then (Hu (Tr24.of (t.un.2.1.un.1, t.un.2.1.un.2.1, t.un.2.1.un.2.2.1, t.un.2.1.un.2.2.2))).bind fun x2 => (if (!x2) = true then some true else some false) else (LM (Tr24.of (t.un.2.1.un.1, t.un.2.1.un.2.1, t.un.2.1.un.2.2.1, t.un.2.1.un.2.2.2)) (Tr24.of (0, 0, 0, ([] : List Tr24)))).bind fun x3 => some (!x3)) = some x ∧ (x = false ↔ (t.un.1 = 2 ∨ t.un.1 = 3 ∨ t.un.1 = 4 → mi t.un.2.1 = ZP) ∧ (t.un.1 = 1 ∨ t.un.1 = 5 → UL (mi t.un.2.1) 64 8)) := by
      rw [RP, Sx (by omega), Uj (by omega)]
      by_cases hk : t.un.1 = 1 ∨ t.un.1 = 5
      · rw [if_pos (by simpa using hk), Option.bind_some]
        by_cases ho : UL (mi t.un.2.1) 64 8
        · rw [decide_eq_true ho, if_neg (by decide)]
          exact ⟨false, rfl, ⟨fun _ => ⟨fun h => by omega, fun _ => ho⟩, fun _ => rfl⟩⟩
        · rw [decide_eq_false ho, if_pos (by decide)]
          exact ⟨true, rfl, ⟨(fun h => nomatch h), fun h => absurd (h.2 hk) ho⟩⟩
      · rw [if_neg (by simpa using hk), Option.bind_some]
        by_cases hz : t.un.2.1 = ZD
        · refine ⟨false, ?_, ?_⟩
          · rw [@decide_eq_true _ (_) hz]; rfl
          · exact ⟨fun _ => ⟨fun _ => mi_Z'.2 hz, fun h => absurd h hk⟩, fun _ => rfl⟩
        · refine ⟨true, ?_, ?_⟩
          · rw [@decide_eq_false _ (_) hz]; rfl
          · exact ⟨(fun h => nomatch h), fun h => absurd (mi_Z'.1 (h.1 (by omega))) hz⟩
    obtain ⟨x, hx1, hx2⟩ := hask
    rw [hx1, Option.bind_some]
    cases x with
    | true =>
      rw [if_pos rfl, no (fun hf => by have := hx2.2 ⟨hf.1.2, hf.2⟩; cases this)]
    | false =>
      obtain ⟨ha, hb⟩ := hx2.1 rfl
      rw [if_neg (by decide)]
      by_cases g2 : (decide (t.un.1 = 2) && (decide (t.un.2.2.1 < 0) || (decide (4 < t.un.2.2.1) || (decide (t.un.2.2.2.1 < 0) || decide ((Eo t.un.2.2.1) < t.un.2.2.2.1))))) = true
      · rw [if_pos g2, no (fun hf => by
          have := hf.1.1
          unfold SC at this
          simp only [Bool.and_eq_true, Bool.or_eq_true, decide_eq_true_eq] at g2
          omega)]
      rw [if_neg g2]
      simp only [Bool.and_eq_true, Bool.or_eq_true, decide_eq_true_eq, not_or, not_and] at g2
      have hlen : ∃ y : Bool, (bif decide (t.un.1 ≤ 2) then (decide ((t.un.2.2.2.2.length : Int) ≠ 0) || (bif decide (t.un.1 = 5) then (decide ((t.un.2.2.2.2.length : Int) ≠ 2) || (bif decide (t.un.1 = 3) then (decide ((t.un.2.2.2.2.length : Int) < 2) || decide (8 < (t.un.2.2.2.2.length : Int))) else (decide (t.un.1 = 4) && (decide ((t.un.2.2.2.2.length : Int) < 2) || decide (8 < (t.un.2.2.2.2.length : Int)))))) else (bif decide (t.un.1 = 3) then (decide ((t.un.2.2.2.2.length : Int) < 2) || decide (8 < (t.un.2.2.2.2.length : Int))) else (decide (t.un.1 = 4) && (decide ((t.un.2.2.2.2.length : Int) < 2) || decide (8 < (t.un.2.2.2.2.length : Int))))))) else (bif decide (t.un.1 = 5) then (decide ((t.un.2.2.2.2.length : Int) ≠ 2) || (bif decide (t.un.1 = 3) then (decide ((t.un.2.2.2.2.length : Int) < 2) || decide (8 < (t.un.2.2.2.2.length : Int))) else (decide (t.un.1 = 4) && (decide ((t.un.2.2.2.2.length : Int) < 2) || decide (8 < (t.un.2.2.2.2.length : Int)))))) else (bif decide (t.un.1 = 3) then (decide ((t.un.2.2.2.2.length : Int) < 2) || decide (8 < (t.un.2.2.2.2.length : Int))) else (decide (t.un.1 = 4) && (decide ((t.un.2.2.2.2.length : Int) < 2) || decide (8 < (t.un.2.2.2.2.length : Int))))))) = y ∧ (y = false ↔ SC t.un.1 t.un.2.2.1 t.un.2.2.2.1 t.un.2.2.2.2.length) := by
        refine ⟨_, rfl, ?_⟩
        have hk : t.un.1 = 1 ∨ t.un.1 = 2 ∨ t.un.1 = 3 ∨ t.un.1 = 4 ∨ t.un.1 = 5 := by omega
        unfold SC
        rcases hk with h | h | h | h | h <;> rw [h] at g1 g2 ⊢ <;> simp <;> omega
      obtain ⟨y, hy1, hy2⟩ := hlen
      rw [hy1]
      cases y with
      | true => rw [if_pos rfl, no (fun hf => by have := hy2.2 hf.1.1; cases this)]
      | false =>
        have hlin := hy2.1 rfl
        rw [if_neg (by decide)]
        have hx : ∀ x ∈ t.un.2.2.2.2, Eb n x = some (H0 (pm x)) := fun x hm => Pf n x (by have := Wm hm; omega) (Nat.le_trans (cD hm) hc)
        rw [SZ t.un.2.2.2.2 (by omega) (ER (Eb n) t) (fun x => H0 (pm x) = false) false (fun k hk => by
          rw [ER, if_pos (by omega), Ds (List.getElem?_eq_getElem hk), Option.bind_some, RP, TM, hx _ (List.getElem_mem hk), Option.bind_some]
          cases hq : H0 (pm t.un.2.2.2.2[k]) with
          | true => rw [if_neg (by decide), if_neg (by decide)]
          | false => rw [if_pos (by decide), if_pos rfl]) (by rw [ER, if_neg (by omega)])]
        by_cases e : ∃ e ∈ t.un.2.2.2.2, H0 (pm e) = false
        · rw [if_pos e]
          obtain ⟨x, hxm, hxf⟩ := e
          have : H0 (pm t) = false := by
            cases hh : H0 (pm t) with
            | false => rfl
            | true => rw [((Pz t).1 hh).2 x hxm] at hxf; cases hxf
          rw [this]; rfl
        · rw [if_neg e]
          have : H0 (pm t) = true := (Pz t).2 ⟨⟨⟨hlin, ha⟩, hb⟩, fun x hxm => by
            cases hh : H0 (pm x) with
            | true => rfl
            | false => exact absurd ⟨x, hxm, hh⟩ e⟩
          rw [this]; rfl
open Classical in
theorem Q2 {t : Tr27} (hc : t.cnt ≤ 1048576) : Gt t = some (decide (Wk (pm t))) := by
  unfold Gt
  rw [RP, TM, show Of t = some (H0 (pm t)) from Di (g := fun n => Eb n t) (fun n r h => KK n t r h) (Pf (SizeOf.sizeOf t + 1) t (by omega) hc), Option.bind_some, Rr hc, Ru hc, Tj hc]
  simp only [Option.bind_some]
  by_cases hf : H0 (pm t) = true
  case neg => rw [if_neg hf, Option.bind_some, decide_eq_false (fun h => hf h.1.1)]
  case pos =>
    rw [if_pos hf]
    by_cases c : (dq (pm t) : Int) ≤ 8
    · rw [if_pos c]
      by_cases c2 : (sz (pm t) : Int) ≤ 64
      · rw [if_pos c2, Option.bind_some]
        exact congrArg some (decide_eq_decide.2 ⟨fun h => ⟨⟨hf, c, c2⟩, h⟩, fun h => h.2⟩)
      · rw [if_neg c2, Option.bind_some, decide_eq_false (fun h => c2 h.1.2.2)]
    · rw [if_neg c, Option.bind_some, decide_eq_false (fun h => c h.1.2.1)]
end Go.Proofs.YtpckgggmgijiiaaGreatDoor
