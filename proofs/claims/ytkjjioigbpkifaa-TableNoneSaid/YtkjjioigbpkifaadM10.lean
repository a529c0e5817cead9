/- Layer 11: acts, rules. Conditions: none. -/
import Derived.Test.YtkjjioigbpkifaadM08M
namespace Go.Proofs.Ytkjjioigbpkifaa
set_option linter.unusedVariables false
set_option linter.unusedSimpArgs false
set_option synthInstance.maxSize 1000
open Go Go.RowKit
abbrev A3 := Int × Int × Int
abbrev Lk (ports : Int) (a : A3) : Prop := (a.1 = 1 ∧ (0 ≤ a.2.1 ∧ a.2.1 < 4) ∧ (0 ≤ a.2.2 ∧ a.2.2 ≤ Bb a.2.1)) ∨ (a.1 = 2 ∧ a.2.1 = 0 ∧ 0 ≤ a.2.2 ∧ a.2.2 < ports) ∨ (a.1 = 3 ∧ a.2.1 = 0 ∧ a.2.2 = 0)
theorem Mu (a : A3) (ports : Int) : D9 a ports = some (decide (Lk ports a)) := by
  obtain ⟨k, f, v⟩ := a
  unfold D9
  simp only
  by_cases k1 : k = 1
  · subst k1
    rw [if_pos rfl, KJ]
    by_cases c : (0 ≤ f ∧ f < 4) ∧ (0 ≤ v ∧ v ≤ Bb f)
    · rw [if_pos c.1.1, if_pos c.1.2, if_pos c.2.1, Option.bind_some, decide_eq_true c.2.2, decide_eq_true (show Lk ports (1, f, v) from .inl ⟨rfl, c.1, c.2⟩)]; rfl
    · have hn : ¬ Lk ports (1, f, v) := by
        rintro (⟨_, h1, h2⟩ | ⟨h, _⟩ | ⟨h, _⟩)
        · exact c ⟨h1, h2⟩
        · cases h
        · cases h
      rw [decide_eq_false hn]
      by_cases c1 : 0 ≤ f
      · rw [if_pos c1]
        by_cases c2 : f < 4
        · rw [if_pos c2]
          by_cases c3 : 0 ≤ v
          · rw [if_pos c3, Option.bind_some, decide_eq_false (fun h => c ⟨⟨c1, c2⟩, ⟨c3, h⟩⟩)]; rfl
          · rw [if_neg c3]; rfl
        · rw [if_neg c2]; rfl
      · rw [if_neg c1]; rfl
  · rw [if_neg k1]
    by_cases k2 : k = 2
    · subst k2
      rw [if_pos rfl]
      congr 1
      rw [← Bool.decide_and, ← Bool.decide_and]
      exact decide_eq_decide.2 ⟨fun h => .inr (.inl ⟨rfl, h.1, h.2.1, h.2.2⟩), fun h => by
        rcases h with ⟨h, _⟩ | ⟨_, h⟩ | ⟨h, _⟩
        · cases h
        · exact h
        · cases h⟩
    · rw [if_neg k2]
      by_cases k3 : k = 3
      · subst k3
        rw [if_pos rfl]
        congr 1
        rw [← Bool.decide_and]
        exact decide_eq_decide.2 ⟨fun h => .inr (.inr ⟨rfl, h.1, h.2⟩), fun h => by
          rcases h with ⟨h, _⟩ | ⟨h, _⟩ | ⟨_, h⟩
          · cases h
          · cases h
          · exact h⟩
      · rw [if_neg k3, decide_eq_false (by
          rintro (⟨h, _⟩ | ⟨h, _⟩ | ⟨h, _⟩)
          · exact k1 h
          · exact k2 h
          · exact k3 h)]
theorem Mh (a : A3) (ports : Int) : Ge a ports = decide (Lk ports a) := by
  obtain ⟨k, f, v⟩ := a
  unfold Ge
  simp only
  by_cases k1 : k = 1
  · subst k1
    rw [if_pos rfl, ← Bool.decide_and, ← Bool.decide_and, ← Bool.decide_and]
    exact decide_eq_decide.2 ⟨fun h => .inl ⟨rfl, ⟨h.1, by have := h.2.1; show f < 4; omega⟩, h.2.2⟩, fun h => by
      rcases h with ⟨_, h1, h2⟩ | ⟨h, _⟩ | ⟨h, _⟩
      · exact ⟨h1.1, by have := h1.2; simp only at this; omega, h2⟩
      · cases h
      · cases h⟩
  · rw [if_neg k1]
    by_cases k3 : k = 3
    · subst k3
      rw [if_pos rfl, ← Bool.decide_and]
      exact decide_eq_decide.2 ⟨fun h => .inr (.inr ⟨rfl, h.1, h.2⟩), fun h => by
        rcases h with ⟨h, _⟩ | ⟨h, _⟩ | ⟨_, h⟩
        · cases h
        · cases h
        · exact h⟩
    · rw [if_neg k3, ← Bool.decide_and, ← Bool.decide_and, ← Bool.decide_and]
      exact decide_eq_decide.2 ⟨fun h => .inr (.inl h), fun h => by
        rcases h with ⟨h, _⟩ | h | ⟨h, _⟩
        · exact absurd h k1
        · exact h
        · exact absurd h k3⟩
abbrev LL (ports : Int) (l : List A3) : Prop := l.length ≤ 16 ∧ ∀ a ∈ l, Lk ports a
theorem Lz (l : List A3) (ports : Int) : D1 l ports = some (decide (LL ports l)) := by
  unfold D1
  by_cases hl : 16 < (l.length : Int)
  · rw [if_pos hl, decide_eq_false (fun h => by have := h.1; omega)]
  · rw [if_neg hl, Fs l (by omega) _ (fun a => ¬ Lk ports a) false (fun k hk => by
      unfold Dz
      rw [if_pos (by omega), CE (List.getElem?_eq_getElem hk), Option.bind_some, Mu, Option.bind_some]
      by_cases c : Lk ports l[k]
      · rw [decide_eq_true c, if_neg (by decide), if_neg (fun h => h c)]
      · rw [decide_eq_false c, if_pos (by decide), if_pos c]) (by unfold Dz; rw [if_neg (by omega)]), Ht]
    congr 1
    exact decide_eq_decide.2 ⟨fun h => ⟨by omega, fun a ha => Classical.byContradiction fun hn => h ⟨a, ha, hn⟩⟩, fun h ⟨a, ha, hn⟩ => hn (h.2 a ha)⟩
theorem KM {l : List A3} (hl : l.length ≤ 9223372036854775807) (ports : Int) : Fp l ports = some (decide (LL ports l)) := by
  unfold Fp
  rw [Fs l hl _ (fun a => ¬ Lk ports a) false (fun k hk => by
      unfold EJ
      rw [if_pos (by omega), CE (List.getElem?_eq_getElem hk), Option.bind_some, Mh]
      by_cases c : Lk ports l[k]
      · rw [decide_eq_true c, if_neg (by decide), if_neg (fun h => h c)]
      · rw [decide_eq_false c, if_pos (by decide), if_pos c]) (by unfold EJ; rw [if_neg (by omega)])]
  by_cases h : ∃ a ∈ l, ¬ Lk ports a
  · rw [if_pos h, decide_eq_false (show ¬ LL ports l from fun h2 => by obtain ⟨a, ha, hn⟩ := h; exact hn (h2.2 a ha))]; rfl
  · rw [if_neg h]
    show some (decide ((l.length : Int) ≤ 16)) = _
    congr 1
    exact decide_eq_decide.2 ⟨fun h1 => ⟨by omega, fun a ha => Classical.byContradiction fun hn => h ⟨a, ha, hn⟩⟩, fun h1 => by have := h1.1; omega⟩
theorem NE {x y : A3} : (x.1 = y.1 ∧ x.2.1 = y.2.1 ∧ x.2.2 = y.2.2) ↔ x = y := by
  obtain ⟨a, b, c⟩ := x
  obtain ⟨a', b', c'⟩ := y
  constructor
  · rintro ⟨h1, h2, h3⟩
    simp only at h1 h2 h3
    subst h1 h2 h3; rfl
  · rintro h; cases h; exact ⟨rfl, rfl, rfl⟩
theorem J8 {S : Int → Option (Int ⊕ (Unit ⊕ Bool))} {a b : List A3} (hl : a.length ≤ 9223372036854775807) (he : a.length = b.length)
    (hs : ∀ k (h1 : k < a.length) (h2 : k < b.length), S (k : Int) = if (!(decide (a[k].1 = b[k].1 ∧ a[k].2.1 = b[k].2.1 ∧ a[k].2.2 = b[k].2.2))) = true then some (.inr (.inr false)) else some (.inl (CG ((k : Int) + 1)))) (hE : S (a.length : Int) = some (.inr (.inl ()))) :
    FL (Bh S 0) (fun _ => some true) = some (decide (a = b)) := by
  have hd : DecidablePred fun k : Nat => a[k]? ≠ b[k]? := fun _ => inferInstance
  rw [Fj a.length S (fun k : Nat => a[k]? ≠ b[k]?) false (fun k hk => by
    have h2 : k < b.length := by omega
    rw [hs k hk h2, Cy (by omega)]
    by_cases c : a[k] = b[k]
    · have c' : a[k]? = b[k]? := by rw [List.getElem?_eq_getElem hk, List.getElem?_eq_getElem h2, c]
      rw [if_neg (by rw [decide_eq_true (NE.2 c)]; decide), if_neg (fun h => h c')]; rfl
    · have c' : a[k]? ≠ b[k]? := by rw [List.getElem?_eq_getElem hk, List.getElem?_eq_getElem h2]; simpa using c
      rw [if_pos (by rw [decide_eq_false (fun h => c (NE.1 h))]; rfl), if_pos c']) hE, Ht]
  congr 1
  exact decide_eq_decide.2 ⟨fun h => List.ext_getElem? fun k => Classical.byContradiction fun hn => by
    by_cases hk : k < a.length
    · exact h ⟨k, hk, hn⟩
    · exact hn (by rw [List.getElem?_eq_none (by omega), List.getElem?_eq_none (by omega)]), fun h ⟨k, hk, hn⟩ => hn (by rw [h])⟩
theorem KU {a b : List A3} (hl : a.length ≤ 9223372036854775807) : FS a b = some (decide (a = b)) := by
  unfold FS
  by_cases he : (a.length : Int) ≠ (b.length : Int)
  · rw [if_pos he, decide_eq_false (fun h => he (by rw [h]))]
  · have he' : a.length = b.length := by omega
    rw [if_neg he, J8 hl he' (fun k h1 h2 => by
      unfold E0
      rw [if_pos (by omega), CE (List.getElem?_eq_getElem h1), Option.bind_some, CE (List.getElem?_eq_getElem h2), Option.bind_some]) (by unfold E0; rw [if_neg (by omega)])]
abbrev Rl := Int × Mt × List A3
abbrev Hu (ports : Int) (x : Rl) : Prop := (0 ≤ x.1 ∧ x.1 ≤ 65535) ∧ FZ x.2.1 ∧ LL ports x.2.2
theorem LF {x : Rl} (hI : I4 x.2.1.2.1) (ports : Int) : DG x ports = some (decide (Hu ports x)) := by
  unfold DG
  rw [Kt hI, Lz]
  by_cases h1 : 0 ≤ x.1
  · rw [if_pos h1]
    by_cases h2 : x.1 < 65536
    · rw [if_pos h2, Option.bind_some]
      by_cases h3 : FZ x.2.1
      · rw [decide_eq_true h3, if_pos rfl]
        show some (decide _) = _
        congr 1
        exact decide_eq_decide.2 ⟨fun h => ⟨⟨h1, by omega⟩, h3, h⟩, fun h => h.2.2⟩
      · rw [decide_eq_false h3, if_neg (by decide), decide_eq_false (fun h => h3 h.2.1)]; rfl
    · rw [if_neg h2, decide_eq_false (fun h => by have := h.1.2; omega)]; rfl
  · rw [if_neg h1, decide_eq_false (fun h => h1 h.1.1)]; rfl
theorem K7 {x : Rl} (hl : x.2.2.length ≤ 9223372036854775807) (ports : Int) : Ff x ports = some (decide (Hu ports x)) := by
  unfold Ff
  rw [Jy, KM hl]
  by_cases h1 : 0 ≤ x.1
  · rw [if_pos h1]
    by_cases h2 : x.1 ≤ 65535
    · rw [if_pos h2, Option.bind_some]
      by_cases h3 : FZ x.2.1
      · rw [decide_eq_true h3, if_pos rfl]
        show some (decide _) = _
        congr 1
        exact decide_eq_decide.2 ⟨fun h => ⟨⟨h1, h2⟩, h3, h⟩, fun h => h.2.2⟩
      · rw [decide_eq_false h3, if_neg (by decide), decide_eq_false (fun h => h3 h.2.1)]; rfl
    · rw [if_neg h2, decide_eq_false (fun h => by have := h.1.2; omega)]; rfl
  · rw [if_neg h1, decide_eq_false (fun h => h1 h.1.1)]; rfl
theorem Ku (x y : Rl) : F7 x y = decide (x.1 = y.1 ∧ x.2.1 = y.2.1) := by
  show (decide (x.1 = y.1) && decide (Mj x.2.1 y.2.1)) = _
  rw [← Bool.decide_and]
  exact decide_eq_decide.2 ⟨fun h => ⟨h.1, FC.1 h.2⟩, fun h => ⟨h.1, FC.2 h.2⟩⟩
abbrev Na (x y : Rl) : Prop := x.1 = y.1 ∧ x.2.1 = y.2.1 ∧ x.2.2 = y.2.2
theorem LH {x y : Rl} : Na x y ↔ x = y := by
  obtain ⟨a, b, c⟩ := x
  obtain ⟨a', b', c'⟩ := y
  constructor
  · rintro ⟨h1, h2, h3⟩
    simp only at h1 h2 h3
    subst h1 h2 h3; rfl
  · rintro h; cases h; exact ⟨rfl, rfl, rfl⟩
theorem IY {x y : Rl} (hl : x.2.2.length ≤ 9223372036854775807) : F6 x y = some (decide (Na x y)) := by
  unfold F6
  rw [KU hl]
  by_cases h1 : x.1 = y.1
  · rw [if_pos h1]
    by_cases h2 : x.2.1 = y.2.1
    · rw [if_pos (show Mj x.2.1 y.2.1 from FC.2 h2)]
      show some (decide _) = _
      congr 1
      exact decide_eq_decide.2 ⟨fun h3 => ⟨h1, h2, h3⟩, fun e => e.2.2⟩
    · rw [if_neg (show ¬ Mj x.2.1 y.2.1 from fun h => h2 (FC.1 h)), decide_eq_false (show ¬ Na x y from fun e => h2 e.2.1)]; rfl
  · rw [if_neg h1, decide_eq_false (show ¬ Na x y from fun e => h1 e.1)]; rfl
theorem LO {x y : Rl} (hx : FZ x.2.1) (hy : FZ y.2.1) : CD x y = some (decide (x.1 = y.1 ∧ x.2.1 ≠ y.2.1 ∧ ¬ HW x.2.1 y.2.1)) := by
  unfold CD
  rw [JK hx hy, Option.bind_some]
  show some (decide (x.1 = y.1) && (!(decide (Mj x.2.1 y.2.1)) && (Gj x.2.1 y.2.1).2)) = _
  congr 1
  have e1 : decide (Mj x.2.1 y.2.1) = decide (x.2.1 = y.2.1) := decide_eq_decide.2 FC
  rw [e1]
  by_cases c : HW x.2.1 y.2.1
  · rw [show Gj x.2.1 y.2.1 = (He, false) from if_pos c, decide_eq_false (show ¬ (x.1 = y.1 ∧ x.2.1 ≠ y.2.1 ∧ ¬ HW x.2.1 y.2.1) from fun h => h.2.2 c)]; simp
  · rw [show Gj x.2.1 y.2.1 = (Is x.2.1 y.2.1, true) from if_neg c]
    by_cases h1 : x.1 = y.1 <;> by_cases h2 : x.2.1 = y.2.1 <;> simp [h1, h2, c]
abbrev JY : Int → Prop := fun n => (Lit.int .i64 n).wf = true
abbrev Mr : Rl → Prop := CI JY (CI (CI JY (CI (CI JY (CI JY (CI JY JY))) (CI JY (CI JY (CI JY JY))))) (KW (CI JY (CI JY JY))))
theorem M3 {x : Rl} (h : Mr x) : I4 x.2.1.2.1 := ⟨IX h.2.1.2.1.1, IX h.2.1.2.1.2.1, IX h.2.1.2.1.2.2.1, IX h.2.1.2.1.2.2.2⟩
end Go.Proofs.Ytkjjioigbpkifaa
