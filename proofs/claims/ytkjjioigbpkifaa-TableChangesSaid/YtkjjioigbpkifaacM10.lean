/- Layer 11: acts, rules. Conditions: none. -/
import Derived.Test.YtkjjioigbpkifaacM08M
namespace Go.Proofs.Ytkjjioigbpkifaa
set_option linter.unusedVariables false
set_option linter.unusedSimpArgs false
set_option synthInstance.maxSize 1000
open Go Go.RowKit
abbrev A3 := Int × Int × Int
abbrev M8 (ports : Int) (a : A3) : Prop := (a.1 = 1 ∧ (0 ≤ a.2.1 ∧ a.2.1 < 4) ∧ (0 ≤ a.2.2 ∧ a.2.2 ≤ Bo a.2.1)) ∨ (a.1 = 2 ∧ a.2.1 = 0 ∧ 0 ≤ a.2.2 ∧ a.2.2 < ports) ∨ (a.1 = 3 ∧ a.2.1 = 0 ∧ a.2.2 = 0)
theorem Od (a : A3) (ports : Int) : EB a ports = some (decide (M8 ports a)) := by
  obtain ⟨k, f, v⟩ := a
  unfold EB
  simp only
  by_cases k1 : k = 1
  · subst k1
    rw [if_pos rfl, M7]
    by_cases c : (0 ≤ f ∧ f < 4) ∧ (0 ≤ v ∧ v ≤ Bo f)
    · rw [if_pos c.1.1, if_pos c.1.2, if_pos c.2.1, Option.bind_some, decide_eq_true c.2.2, decide_eq_true (show M8 ports (1, f, v) from .inl ⟨rfl, c.1, c.2⟩)]; rfl
    · have hn : ¬ M8 ports (1, f, v) := by
        rintro (⟨_, h1, h2⟩ | ⟨h, _⟩ | ⟨h, _⟩)
        · exact c ⟨h1, h2⟩
        · cases h
        · cases h
      rw [decide_eq_false hn]
      by_cases c1 : 0 ≤ f
      · rw [if_pos c1]
        by_cases c2 : f < 4
        · rw [if_pos c2]
          by_cases c3 : 0 ≤ v
          · rw [if_pos c3, Option.bind_some, decide_eq_false (fun h => c ⟨⟨c1, c2⟩, ⟨c3, h⟩⟩)]; rfl
          · rw [if_neg c3]; rfl
        · rw [if_neg c2]; rfl
      · rw [if_neg c1]; rfl
  · rw [if_neg k1]
    by_cases k2 : k = 2
    · subst k2
      rw [if_pos rfl]
      congr 1
      rw [← Bool.decide_and, ← Bool.decide_and]
      exact decide_eq_decide.2 ⟨fun h => .inr (.inl ⟨rfl, h.1, h.2.1, h.2.2⟩), fun h => by
        rcases h with ⟨h, _⟩ | ⟨_, h⟩ | ⟨h, _⟩
        · cases h
        · exact h
        · cases h⟩
    · rw [if_neg k2]
      by_cases k3 : k = 3
      · subst k3
        rw [if_pos rfl]
        congr 1
        rw [← Bool.decide_and]
        exact decide_eq_decide.2 ⟨fun h => .inr (.inr ⟨rfl, h.1, h.2⟩), fun h => by
          rcases h with ⟨h, _⟩ | ⟨h, _⟩ | ⟨_, h⟩
          · cases h
          · cases h
          · exact h⟩
      · rw [if_neg k3, decide_eq_false (by
          rintro (⟨h, _⟩ | ⟨h, _⟩ | ⟨h, _⟩)
          · exact k1 h
          · exact k2 h
          · exact k3 h)]
theorem Oe (a : A3) (ports : Int) : GM a ports = decide (M8 ports a) := by
  obtain ⟨k, f, v⟩ := a
  unfold GM
  simp only
  by_cases k1 : k = 1
  · subst k1
    rw [if_pos rfl, ← Bool.decide_and, ← Bool.decide_and, ← Bool.decide_and]
    exact decide_eq_decide.2 ⟨fun h => .inl ⟨rfl, ⟨h.1, by have := h.2.1; show f < 4; omega⟩, h.2.2⟩, fun h => by
      rcases h with ⟨_, h1, h2⟩ | ⟨h, _⟩ | ⟨h, _⟩
      · exact ⟨h1.1, by have := h1.2; simp only at this; omega, h2⟩
      · cases h
      · cases h⟩
  · rw [if_neg k1]
    by_cases k3 : k = 3
    · subst k3
      rw [if_pos rfl, ← Bool.decide_and]
      exact decide_eq_decide.2 ⟨fun h => .inr (.inr ⟨rfl, h.1, h.2⟩), fun h => by
        rcases h with ⟨h, _⟩ | ⟨h, _⟩ | ⟨_, h⟩
        · cases h
        · cases h
        · exact h⟩
    · rw [if_neg k3, ← Bool.decide_and, ← Bool.decide_and, ← Bool.decide_and]
      exact decide_eq_decide.2 ⟨fun h => .inr (.inl h), fun h => by
        rcases h with ⟨h, _⟩ | h | ⟨h, _⟩
        · exact absurd h k1
        · exact h
        · exact absurd h k3⟩
abbrev Nx (ports : Int) (l : List A3) : Prop := l.length ≤ 16 ∧ ∀ a ∈ l, M8 ports a
theorem Nr (l : List A3) (ports : Int) : EA l ports = some (decide (Nx ports l)) := by
  unfold EA
  by_cases hl : 16 < (l.length : Int)
  · rw [if_pos hl, decide_eq_false (fun h => by have := h.1; omega)]
  · rw [if_neg hl, FY l (by omega) _ (fun a => ¬ M8 ports a) false (fun k hk => by
      unfold DT
      rw [if_pos (by omega), Cv (List.getElem?_eq_getElem hk), Option.bind_some, Od, Option.bind_some]
      by_cases c : M8 ports l[k]
      · rw [decide_eq_true c, if_neg (by decide), if_neg (fun h => h c)]
      · rw [decide_eq_false c, if_pos (by decide), if_pos c]) (by unfold DT; rw [if_neg (by omega)]), HI]
    congr 1
    exact decide_eq_decide.2 ⟨fun h => ⟨by omega, fun a ha => Classical.byContradiction fun hn => h ⟨a, ha, hn⟩⟩, fun h ⟨a, ha, hn⟩ => hn (h.2 a ha)⟩
theorem MS {l : List A3} (hl : l.length ≤ 9223372036854775807) (ports : Int) : F0 l ports = some (decide (Nx ports l)) := by
  unfold F0
  rw [FY l hl _ (fun a => ¬ M8 ports a) false (fun k hk => by
      unfold Fa
      rw [if_pos (by omega), Cv (List.getElem?_eq_getElem hk), Option.bind_some, Oe]
      by_cases c : M8 ports l[k]
      · rw [decide_eq_true c, if_neg (by decide), if_neg (fun h => h c)]
      · rw [decide_eq_false c, if_pos (by decide), if_pos c]) (by unfold Fa; rw [if_neg (by omega)])]
  by_cases h : ∃ a ∈ l, ¬ M8 ports a
  · rw [if_pos h, decide_eq_false (show ¬ Nx ports l from fun h2 => by obtain ⟨a, ha, hn⟩ := h; exact hn (h2.2 a ha))]; rfl
  · rw [if_neg h]
    show some (decide ((l.length : Int) ≤ 16)) = _
    congr 1
    exact decide_eq_decide.2 ⟨fun h1 => ⟨by omega, fun a ha => Classical.byContradiction fun hn => h ⟨a, ha, hn⟩⟩, fun h1 => by have := h1.1; omega⟩
theorem Ph {x y : A3} : (x.1 = y.1 ∧ x.2.1 = y.2.1 ∧ x.2.2 = y.2.2) ↔ x = y := by
  obtain ⟨a, b, c⟩ := x
  obtain ⟨a', b', c'⟩ := y
  constructor
  · rintro ⟨h1, h2, h3⟩
    simp only at h1 h2 h3
    subst h1 h2 h3; rfl
  · rintro h; cases h; exact ⟨rfl, rfl, rfl⟩
theorem LO {S : Int → Option (Int ⊕ (Unit ⊕ Bool))} {a b : List A3} (hl : a.length ≤ 9223372036854775807) (he : a.length = b.length)
    (hs : ∀ k (h1 : k < a.length) (h2 : k < b.length), S (k : Int) = if (!(decide (a[k].1 = b[k].1 ∧ a[k].2.1 = b[k].2.1 ∧ a[k].2.2 = b[k].2.2))) = true then some (.inr (.inr false)) else some (.inl (BT ((k : Int) + 1)))) (hE : S (a.length : Int) = some (.inr (.inl ()))) :
    FB (A9 S 0) (fun _ => some true) = some (decide (a = b)) := by
  have hd : DecidablePred fun k : Nat => a[k]? ≠ b[k]? := fun _ => inferInstance
  rw [ES a.length S (fun k : Nat => a[k]? ≠ b[k]?) false (fun k hk => by
    have h2 : k < b.length := by omega
    rw [hs k hk h2, BC (by omega)]
    by_cases c : a[k] = b[k]
    · have c' : a[k]? = b[k]? := by rw [List.getElem?_eq_getElem hk, List.getElem?_eq_getElem h2, c]
      rw [if_neg (by rw [decide_eq_true (Ph.2 c)]; decide), if_neg (fun h => h c')]; rfl
    · have c' : a[k]? ≠ b[k]? := by rw [List.getElem?_eq_getElem hk, List.getElem?_eq_getElem h2]; simpa using c
      rw [if_pos (by rw [decide_eq_false (fun h => c (Ph.1 h))]; rfl), if_pos c']) hE, HI]
  congr 1
  exact decide_eq_decide.2 ⟨fun h => List.ext_getElem? fun k => Classical.byContradiction fun hn => by
    by_cases hk : k < a.length
    · exact h ⟨k, hk, hn⟩
    · exact hn (by rw [List.getElem?_eq_none (by omega), List.getElem?_eq_none (by omega)]), fun h ⟨k, hk, hn⟩ => hn (by rw [h])⟩
theorem M6 {a b : List A3} (hl : a.length ≤ 9223372036854775807) : Gu a b = some (decide (a = b)) := by
  unfold Gu
  by_cases he : (a.length : Int) ≠ (b.length : Int)
  · rw [if_pos he, decide_eq_false (fun h => he (by rw [h]))]
  · have he' : a.length = b.length := by omega
    rw [if_neg he, LO hl he' (fun k h1 h2 => by
      unfold FG
      rw [if_pos (by omega), Cv (List.getElem?_eq_getElem h1), Option.bind_some, Cv (List.getElem?_eq_getElem h2), Option.bind_some]) (by unfold FG; rw [if_neg (by omega)])]
abbrev Rl := Int × Mt × List A3
abbrev Gl (ports : Int) (x : Rl) : Prop := (0 ≤ x.1 ∧ x.1 ≤ 65535) ∧ Er x.2.1 ∧ Nx ports x.2.2
theorem K0 {x : Rl} (hI : I4 x.2.1.2.1) (ports : Int) : Dx x ports = some (decide (Gl ports x)) := by
  unfold Dx
  rw [Ms hI, Nr]
  by_cases h1 : 0 ≤ x.1
  · rw [if_pos h1]
    by_cases h2 : x.1 < 65536
    · rw [if_pos h2, Option.bind_some]
      by_cases h3 : Er x.2.1
      · rw [decide_eq_true h3, if_pos rfl]
        show some (decide _) = _
        congr 1
        exact decide_eq_decide.2 ⟨fun h => ⟨⟨h1, by omega⟩, h3, h⟩, fun h => h.2.2⟩
      · rw [decide_eq_false h3, if_neg (by decide), decide_eq_false (fun h => h3 h.2.1)]; rfl
    · rw [if_neg h2, decide_eq_false (fun h => by have := h.1.2; omega)]; rfl
  · rw [if_neg h1, decide_eq_false (fun h => h1 h.1.1)]; rfl
theorem IH {x : Rl} (hl : x.2.2.length ≤ 9223372036854775807) (ports : Int) : DU x ports = some (decide (Gl ports x)) := by
  unfold DU
  rw [KQ, MS hl]
  by_cases h1 : 0 ≤ x.1
  · rw [if_pos h1]
    by_cases h2 : x.1 ≤ 65535
    · rw [if_pos h2, Option.bind_some]
      by_cases h3 : Er x.2.1
      · rw [decide_eq_true h3, if_pos rfl]
        show some (decide _) = _
        congr 1
        exact decide_eq_decide.2 ⟨fun h => ⟨⟨h1, h2⟩, h3, h⟩, fun h => h.2.2⟩
      · rw [decide_eq_false h3, if_neg (by decide), decide_eq_false (fun h => h3 h.2.1)]; rfl
    · rw [if_neg h2, decide_eq_false (fun h => by have := h.1.2; omega)]; rfl
  · rw [if_neg h1, decide_eq_false (fun h => h1 h.1.1)]; rfl
theorem Mh (x y : Rl) : GJ x y = decide (x.1 = y.1 ∧ x.2.1 = y.2.1) := by
  show (decide (x.1 = y.1) && decide (Nt x.2.1 y.2.1)) = _
  rw [← Bool.decide_and]
  exact decide_eq_decide.2 ⟨fun h => ⟨h.1, FC.1 h.2⟩, fun h => ⟨h.1, FC.2 h.2⟩⟩
abbrev OW (x y : Rl) : Prop := x.1 = y.1 ∧ x.2.1 = y.2.1 ∧ x.2.2 = y.2.2
theorem Nm {x y : Rl} : OW x y ↔ x = y := by
  obtain ⟨a, b, c⟩ := x
  obtain ⟨a', b', c'⟩ := y
  constructor
  · rintro ⟨h1, h2, h3⟩
    simp only at h1 h2 h3
    subst h1 h2 h3; rfl
  · rintro h; cases h; exact ⟨rfl, rfl, rfl⟩
theorem J0 {x y : Rl} (hl : x.2.2.length ≤ 9223372036854775807) : GF x y = some (decide (OW x y)) := by
  unfold GF
  rw [M6 hl]
  by_cases h1 : x.1 = y.1
  · rw [if_pos h1]
    by_cases h2 : x.2.1 = y.2.1
    · rw [if_pos (show Nt x.2.1 y.2.1 from FC.2 h2)]
      show some (decide _) = _
      congr 1
      exact decide_eq_decide.2 ⟨fun h3 => ⟨h1, h2, h3⟩, fun e => e.2.2⟩
    · rw [if_neg (show ¬ Nt x.2.1 y.2.1 from fun h => h2 (FC.1 h)), decide_eq_false (show ¬ OW x y from fun e => h2 e.2.1)]; rfl
  · rw [if_neg h1, decide_eq_false (show ¬ OW x y from fun e => h1 e.1)]; rfl
theorem Nh {x y : Rl} (hx : Er x.2.1) (hy : Er y.2.1) : CV x y = some (decide (x.1 = y.1 ∧ x.2.1 ≠ y.2.1 ∧ ¬ HB x.2.1 y.2.1)) := by
  unfold CV
  rw [Lr hx hy, Option.bind_some]
  show some (decide (x.1 = y.1) && (!(decide (Nt x.2.1 y.2.1)) && (FD x.2.1 y.2.1).2)) = _
  congr 1
  have e1 : decide (Nt x.2.1 y.2.1) = decide (x.2.1 = y.2.1) := decide_eq_decide.2 FC
  rw [e1]
  by_cases c : HB x.2.1 y.2.1
  · rw [show FD x.2.1 y.2.1 = (Gh, false) from if_pos c, decide_eq_false (show ¬ (x.1 = y.1 ∧ x.2.1 ≠ y.2.1 ∧ ¬ HB x.2.1 y.2.1) from fun h => h.2.2 c)]; simp
  · rw [show FD x.2.1 y.2.1 = (IG x.2.1 y.2.1, true) from if_neg c]
    by_cases h1 : x.1 = y.1 <;> by_cases h2 : x.2.1 = y.2.1 <;> simp [h1, h2, c]
theorem MA {x y : Rl} (hx : Er x.2.1) (hy : Er y.2.1) : Ek x y = some (decide (x.1 = y.1 ∧ x.2.1 ≠ y.2.1 ∧ ¬ HB x.2.1 y.2.1)) := by
  unfold Ek
  rw [Mv hx hy]
  show (if (decide (x.1 ≠ y.1) || decide (Nt x.2.1 y.2.1)) = true then some false else (some (FD x.2.1 y.2.1)).bind fun x1 => some x1.2) = _
  have e1 : decide (Nt x.2.1 y.2.1) = decide (x.2.1 = y.2.1) := decide_eq_decide.2 FC
  rw [e1]
  by_cases h1 : x.1 = y.1
  · by_cases h2 : x.2.1 = y.2.1
    · rw [if_pos (by simp [h2]), decide_eq_false (fun h => h.2.1 h2)]
    · rw [if_neg (by simp [h1, h2]), Option.bind_some]
      by_cases c : HB x.2.1 y.2.1
      · rw [show FD x.2.1 y.2.1 = (Gh, false) from if_pos c, decide_eq_false (fun h => h.2.2 c)]
      · rw [show FD x.2.1 y.2.1 = (IG x.2.1 y.2.1, true) from if_neg c, decide_eq_true ⟨h1, h2, c⟩]
  · rw [if_pos (by simp [h1]), decide_eq_false (fun h => h1 h.1)]
abbrev Lk : Int → Prop := fun n => (Lit.int .i64 n).wf = true
abbrev N5 : Rl → Prop := C3 Lk (C3 (C3 Lk (C3 (C3 Lk (C3 Lk (C3 Lk Lk))) (C3 Lk (C3 Lk (C3 Lk Lk))))) (Mj (C3 Lk (C3 Lk Lk))))
theorem OM {x : Rl} (h : N5 x) : I4 x.2.1.2.1 := ⟨J3 h.2.1.2.1.1, J3 h.2.1.2.1.2.1, J3 h.2.1.2.1.2.2.1, J3 h.2.1.2.1.2.2.2⟩
theorem IC {α σ τ ε : Type} (l : List α) (mkS : σ → Nat → τ) (f : σ → α → σ) (step : τ → Option (τ ⊕ ε)) (fin : σ → ε) (G : σ → Nat → Prop) (s0 : σ) (h0 : G s0 0)
    (hs : ∀ s k (hk : k < l.length), G s k → step (mkS s k) = some (.inl (mkS (f s l[k]) (k + 1))) ∧ G (f s l[k]) (k + 1))
    (he : ∀ s, step (mkS s l.length) = some (.inr (fin s))) : A9 step (mkS s0 0) = some (fin (l.foldl f s0)) ∧ G (l.foldl f s0) l.length := by
  obtain ⟨s, ⟨h1, h3⟩, h2⟩ := Ko l.length mkS step fin (fun s k => s = (l.take k).foldl f s0 ∧ G s k)
    (fun s k hk ⟨hI, hG⟩ => ⟨f s l[k], (hs s k hk hG).1, by rw [hI, List.take_succ_eq_append_getElem hk, List.foldl_append]; rfl, (hs s k hk hG).2⟩) (fun s _ => he s) s0 ⟨rfl, h0⟩
  rw [List.take_length] at h1
  subst h1
  exact ⟨h2, h3⟩
end Go.Proofs.Ytkjjioigbpkifaa
