/- Layer 11: acts, rules. Conditions: none. -/
import Derived.Test.YtkjjioigbpkifaaeM08M
namespace Go.Proofs.Ytkjjioigbpkifaa
set_option linter.unusedVariables false
set_option linter.unusedSimpArgs false
set_option synthInstance.maxSize 1000
open Go Go.RowKit
abbrev A3 := Int × Int × Int
abbrev Mv (ports : Int) (a : A3) : Prop := (a.1 = 1 ∧ (0 ≤ a.2.1 ∧ a.2.1 < 4) ∧ (0 ≤ a.2.2 ∧ a.2.2 ≤ A8 a.2.1)) ∨ (a.1 = 2 ∧ a.2.1 = 0 ∧ 0 ≤ a.2.2 ∧ a.2.2 < ports) ∨ (a.1 = 3 ∧ a.2.1 = 0 ∧ a.2.2 = 0)
theorem NI (a : A3) (ports : Int) : Ep a ports = some (decide (Mv ports a)) := by
  obtain ⟨k, f, v⟩ := a
  unfold Ep
  simp only
  by_cases k1 : k = 1
  · subst k1
    rw [if_pos rfl, Kk]
    by_cases c : (0 ≤ f ∧ f < 4) ∧ (0 ≤ v ∧ v ≤ A8 f)
    · rw [if_pos c.1.1, if_pos c.1.2, if_pos c.2.1, Option.bind_some, decide_eq_true c.2.2, decide_eq_true (show Mv ports (1, f, v) from .inl ⟨rfl, c.1, c.2⟩)]; rfl
    · have hn : ¬ Mv ports (1, f, v) := by
        rintro (⟨_, h1, h2⟩ | ⟨h, _⟩ | ⟨h, _⟩)
        · exact c ⟨h1, h2⟩
        · cases h
        · cases h
      rw [decide_eq_false hn]
      by_cases c1 : 0 ≤ f
      · rw [if_pos c1]
        by_cases c2 : f < 4
        · rw [if_pos c2]
          by_cases c3 : 0 ≤ v
          · rw [if_pos c3, Option.bind_some, decide_eq_false (fun h => c ⟨⟨c1, c2⟩, ⟨c3, h⟩⟩)]; rfl
          · rw [if_neg c3]; rfl
        · rw [if_neg c2]; rfl
      · rw [if_neg c1]; rfl
  · rw [if_neg k1]
    by_cases k2 : k = 2
    · subst k2
      rw [if_pos rfl]
      congr 1
      rw [← Bool.decide_and, ← Bool.decide_and]
      exact decide_eq_decide.2 ⟨fun h => .inr (.inl ⟨rfl, h.1, h.2.1, h.2.2⟩), fun h => by
        rcases h with ⟨h, _⟩ | ⟨_, h⟩ | ⟨h, _⟩
        · cases h
        · exact h
        · cases h⟩
    · rw [if_neg k2]
      by_cases k3 : k = 3
      · subst k3
        rw [if_pos rfl]
        congr 1
        rw [← Bool.decide_and]
        exact decide_eq_decide.2 ⟨fun h => .inr (.inr ⟨rfl, h.1, h.2⟩), fun h => by
          rcases h with ⟨h, _⟩ | ⟨h, _⟩ | ⟨_, h⟩
          · cases h
          · cases h
          · exact h⟩
      · rw [if_neg k3, decide_eq_false (by
          rintro (⟨h, _⟩ | ⟨h, _⟩ | ⟨h, _⟩)
          · exact k1 h
          · exact k2 h
          · exact k3 h)]
theorem Nz (a : A3) (ports : Int) : GE a ports = decide (Mv ports a) := by
  obtain ⟨k, f, v⟩ := a
  unfold GE
  simp only
  by_cases k1 : k = 1
  · subst k1
    rw [if_pos rfl, ← Bool.decide_and, ← Bool.decide_and, ← Bool.decide_and]
    exact decide_eq_decide.2 ⟨fun h => .inl ⟨rfl, ⟨h.1, by have := h.2.1; show f < 4; omega⟩, h.2.2⟩, fun h => by
      rcases h with ⟨_, h1, h2⟩ | ⟨h, _⟩ | ⟨h, _⟩
      · exact ⟨h1.1, by have := h1.2; simp only at this; omega, h2⟩
      · cases h
      · cases h⟩
  · rw [if_neg k1]
    by_cases k3 : k = 3
    · subst k3
      rw [if_pos rfl, ← Bool.decide_and]
      exact decide_eq_decide.2 ⟨fun h => .inr (.inr ⟨rfl, h.1, h.2⟩), fun h => by
        rcases h with ⟨h, _⟩ | ⟨h, _⟩ | ⟨_, h⟩
        · cases h
        · cases h
        · exact h⟩
    · rw [if_neg k3, ← Bool.decide_and, ← Bool.decide_and, ← Bool.decide_and]
      exact decide_eq_decide.2 ⟨fun h => .inr (.inl h), fun h => by
        rcases h with ⟨h, _⟩ | h | ⟨h, _⟩
        · exact absurd h k1
        · exact h
        · exact absurd h k3⟩
abbrev MP (ports : Int) (l : List A3) : Prop := l.length ≤ 16 ∧ ∀ a ∈ l, Mv ports a
theorem MZ (l : List A3) (ports : Int) : Em l ports = some (decide (MP ports l)) := by
  unfold Em
  by_cases hl : 16 < (l.length : Int)
  · rw [if_pos hl, decide_eq_false (fun h => by have := h.1; omega)]
  · rw [if_neg hl, FJ l (by omega) _ (fun a => ¬ Mv ports a) false (fun k hk => by
      unfold DK
      rw [if_pos (by omega), Cg (List.getElem?_eq_getElem hk), Option.bind_some, NI, Option.bind_some]
      by_cases c : Mv ports l[k]
      · rw [decide_eq_true c, if_neg (by decide), if_neg (fun h => h c)]
      · rw [decide_eq_false c, if_pos (by decide), if_pos c]) (by unfold DK; rw [if_neg (by omega)]), FW]
    congr 1
    exact decide_eq_decide.2 ⟨fun h => ⟨by omega, fun a ha => Classical.byContradiction fun hn => h ⟨a, ha, hn⟩⟩, fun h ⟨a, ha, hn⟩ => hn (h.2 a ha)⟩
theorem LE {l : List A3} (hl : l.length ≤ 9223372036854775807) (ports : Int) : FK l ports = some (decide (MP ports l)) := by
  unfold FK
  rw [FJ l hl _ (fun a => ¬ Mv ports a) false (fun k hk => by
      unfold EZ
      rw [if_pos (by omega), Cg (List.getElem?_eq_getElem hk), Option.bind_some, Nz]
      by_cases c : Mv ports l[k]
      · rw [decide_eq_true c, if_neg (by decide), if_neg (fun h => h c)]
      · rw [decide_eq_false c, if_pos (by decide), if_pos c]) (by unfold EZ; rw [if_neg (by omega)])]
  by_cases h : ∃ a ∈ l, ¬ Mv ports a
  · rw [if_pos h, decide_eq_false (show ¬ MP ports l from fun h2 => by obtain ⟨a, ha, hn⟩ := h; exact hn (h2.2 a ha))]; rfl
  · rw [if_neg h]
    show some (decide ((l.length : Int) ≤ 16)) = _
    congr 1
    exact decide_eq_decide.2 ⟨fun h1 => ⟨by omega, fun a ha => Classical.byContradiction fun hn => h ⟨a, ha, hn⟩⟩, fun h1 => by have := h1.1; omega⟩
theorem Pl {x y : A3} : (x.1 = y.1 ∧ x.2.1 = y.2.1 ∧ x.2.2 = y.2.2) ↔ x = y := by
  obtain ⟨a, b, c⟩ := x
  obtain ⟨a', b', c'⟩ := y
  constructor
  · rintro ⟨h1, h2, h3⟩
    simp only at h1 h2 h3
    subst h1 h2 h3; rfl
  · rintro h; cases h; exact ⟨rfl, rfl, rfl⟩
theorem Ll {S : Int → Option (Int ⊕ (Unit ⊕ Bool))} {a b : List A3} (hl : a.length ≤ 9223372036854775807) (he : a.length = b.length)
    (hs : ∀ k (h1 : k < a.length) (h2 : k < b.length), S (k : Int) = if (!(decide (a[k].1 = b[k].1 ∧ a[k].2.1 = b[k].2.1 ∧ a[k].2.2 = b[k].2.2))) = true then some (.inr (.inr false)) else some (.inl (CA ((k : Int) + 1)))) (hE : S (a.length : Int) = some (.inr (.inl ()))) :
    Fp (Bk S 0) (fun _ => some true) = some (decide (a = b)) := by
  have hd : DecidablePred fun k : Nat => a[k]? ≠ b[k]? := fun _ => inferInstance
  rw [DP a.length S (fun k : Nat => a[k]? ≠ b[k]?) false (fun k hk => by
    have h2 : k < b.length := by omega
    rw [hs k hk h2, BW (by omega)]
    by_cases c : a[k] = b[k]
    · have c' : a[k]? = b[k]? := by rw [List.getElem?_eq_getElem hk, List.getElem?_eq_getElem h2, c]
      rw [if_neg (by rw [decide_eq_true (Pl.2 c)]; decide), if_neg (fun h => h c')]; rfl
    · have c' : a[k]? ≠ b[k]? := by rw [List.getElem?_eq_getElem hk, List.getElem?_eq_getElem h2]; simpa using c
      rw [if_pos (by rw [decide_eq_false (fun h => c (Pl.1 h))]; rfl), if_pos c']) hE, FW]
  congr 1
  exact decide_eq_decide.2 ⟨fun h => List.ext_getElem? fun k => Classical.byContradiction fun hn => by
    by_cases hk : k < a.length
    · exact h ⟨k, hk, hn⟩
    · exact hn (by rw [List.getElem?_eq_none (by omega), List.getElem?_eq_none (by omega)]), fun h ⟨k, hk, hn⟩ => hn (by rw [h])⟩
theorem Mh {a b : List A3} (hl : a.length ≤ 9223372036854775807) : Gp a b = some (decide (a = b)) := by
  unfold Gp
  by_cases he : (a.length : Int) ≠ (b.length : Int)
  · rw [if_pos he, decide_eq_false (fun h => he (by rw [h]))]
  · have he' : a.length = b.length := by omega
    rw [if_neg he, Ll hl he' (fun k h1 h2 => by
      unfold Fo
      rw [if_pos (by omega), Cg (List.getElem?_eq_getElem h1), Option.bind_some, Cg (List.getElem?_eq_getElem h2), Option.bind_some]) (by unfold Fo; rw [if_neg (by omega)])]
abbrev Rl := Int × Mt × List A3
abbrev Hq (ports : Int) (x : Rl) : Prop := (0 ≤ x.1 ∧ x.1 ≤ 65535) ∧ FI x.2.1 ∧ MP ports x.2.2
theorem MJ {x : Rl} (hI : I4 x.2.1.2.1) (ports : Int) : DW x ports = some (decide (Hq ports x)) := by
  unfold DW
  rw [LM hI, MZ]
  by_cases h1 : 0 ≤ x.1
  · rw [if_pos h1]
    by_cases h2 : x.1 < 65536
    · rw [if_pos h2, Option.bind_some]
      by_cases h3 : FI x.2.1
      · rw [decide_eq_true h3, if_pos rfl]
        show some (decide _) = _
        congr 1
        exact decide_eq_decide.2 ⟨fun h => ⟨⟨h1, by omega⟩, h3, h⟩, fun h => h.2.2⟩
      · rw [decide_eq_false h3, if_neg (by decide), decide_eq_false (fun h => h3 h.2.1)]; rfl
    · rw [if_neg h2, decide_eq_false (fun h => by have := h.1.2; omega)]; rfl
  · rw [if_neg h1, decide_eq_false (fun h => h1 h.1.1)]; rfl
theorem J3 {x : Rl} (hl : x.2.2.length ≤ 9223372036854775807) (ports : Int) : E2 x ports = some (decide (Hq ports x)) := by
  unfold E2
  rw [Kf, LE hl]
  by_cases h1 : 0 ≤ x.1
  · rw [if_pos h1]
    by_cases h2 : x.1 ≤ 65535
    · rw [if_pos h2, Option.bind_some]
      by_cases h3 : FI x.2.1
      · rw [decide_eq_true h3, if_pos rfl]
        show some (decide _) = _
        congr 1
        exact decide_eq_decide.2 ⟨fun h => ⟨⟨h1, h2⟩, h3, h⟩, fun h => h.2.2⟩
      · rw [decide_eq_false h3, if_neg (by decide), decide_eq_false (fun h => h3 h.2.1)]; rfl
    · rw [if_neg h2, decide_eq_false (fun h => by have := h.1.2; omega)]; rfl
  · rw [if_neg h1, decide_eq_false (fun h => h1 h.1.1)]; rfl
theorem Kc (x y : Rl) : Fa x y = decide (x.1 = y.1 ∧ x.2.1 = y.2.1) := by
  show (decide (x.1 = y.1) && decide (Nk x.2.1 y.2.1)) = _
  rw [← Bool.decide_and]
  exact decide_eq_decide.2 ⟨fun h => ⟨h.1, F6.1 h.2⟩, fun h => ⟨h.1, F6.2 h.2⟩⟩
abbrev Ov (x y : Rl) : Prop := x.1 = y.1 ∧ x.2.1 = y.2.1 ∧ x.2.2 = y.2.2
theorem MF {x y : Rl} : Ov x y ↔ x = y := by
  obtain ⟨a, b, c⟩ := x
  obtain ⟨a', b', c'⟩ := y
  constructor
  · rintro ⟨h1, h2, h3⟩
    simp only at h1 h2 h3
    subst h1 h2 h3; rfl
  · rintro h; cases h; exact ⟨rfl, rfl, rfl⟩
theorem Jm {x y : Rl} (hl : x.2.2.length ≤ 9223372036854775807) : Gq x y = some (decide (Ov x y)) := by
  unfold Gq
  rw [Mh hl]
  by_cases h1 : x.1 = y.1
  · rw [if_pos h1]
    by_cases h2 : x.2.1 = y.2.1
    · rw [if_pos (show Nk x.2.1 y.2.1 from F6.2 h2)]
      show some (decide _) = _
      congr 1
      exact decide_eq_decide.2 ⟨fun h3 => ⟨h1, h2, h3⟩, fun e => e.2.2⟩
    · rw [if_neg (show ¬ Nk x.2.1 y.2.1 from fun h => h2 (F6.1 h)), decide_eq_false (show ¬ Ov x y from fun e => h2 e.2.1)]; rfl
  · rw [if_neg h1, decide_eq_false (show ¬ Ov x y from fun e => h1 e.1)]; rfl
theorem MN {x y : Rl} (hx : FI x.2.1) (hy : FI y.2.1) : CJ x y = some (decide (x.1 = y.1 ∧ x.2.1 ≠ y.2.1 ∧ ¬ Ip x.2.1 y.2.1)) := by
  unfold CJ
  rw [KG hx hy, Option.bind_some]
  show some (decide (x.1 = y.1) && (!(decide (Nk x.2.1 y.2.1)) && (GI x.2.1 y.2.1).2)) = _
  congr 1
  have e1 : decide (Nk x.2.1 y.2.1) = decide (x.2.1 = y.2.1) := decide_eq_decide.2 F6
  rw [e1]
  by_cases c : Ip x.2.1 y.2.1
  · rw [show GI x.2.1 y.2.1 = (HE, false) from if_pos c, decide_eq_false (show ¬ (x.1 = y.1 ∧ x.2.1 ≠ y.2.1 ∧ ¬ Ip x.2.1 y.2.1) from fun h => h.2.2 c)]; simp
  · rw [show GI x.2.1 y.2.1 = (I8 x.2.1 y.2.1, true) from if_neg c]
    by_cases h1 : x.1 = y.1 <;> by_cases h2 : x.2.1 = y.2.1 <;> simp [h1, h2, c]
abbrev Lf : Int → Prop := fun n => (Lit.int .i64 n).wf = true
abbrev Nn : Rl → Prop := Ei Lf (Ei (Ei Lf (Ei (Ei Lf (Ei Lf (Ei Lf Lf))) (Ei Lf (Ei Lf (Ei Lf Lf))))) (Ny (Ei Lf (Ei Lf Lf))))
theorem Nl {x : Rl} (h : Nn x) : x.2.2.length ≤ 9223372036854775807 := h.2.2.1
theorem IC {α σ τ ε : Type} (l : List α) (mkS : σ → Nat → τ) (f : σ → α → σ) (step : τ → Option (τ ⊕ ε)) (fin : σ → ε) (G : σ → Nat → Prop) (s0 : σ) (h0 : G s0 0)
    (hs : ∀ s k (hk : k < l.length), G s k → step (mkS s k) = some (.inl (mkS (f s l[k]) (k + 1))) ∧ G (f s l[k]) (k + 1))
    (he : ∀ s, step (mkS s l.length) = some (.inr (fin s))) : Bk step (mkS s0 0) = some (fin (l.foldl f s0)) ∧ G (l.foldl f s0) l.length := by
  obtain ⟨s, ⟨h1, h3⟩, h2⟩ := JW l.length mkS step fin (fun s k => s = (l.take k).foldl f s0 ∧ G s k)
    (fun s k hk ⟨hI, hG⟩ => ⟨f s l[k], (hs s k hk hG).1, by rw [hI, List.take_succ_eq_append_getElem hk, List.foldl_append]; rfl, (hs s k hk hG).2⟩) (fun s _ => he s) s0 ⟨rfl, h0⟩
  rw [List.take_length] at h1
  subst h1
  exact ⟨h2, h3⟩
abbrev Sd := Int × P4
def fA (came : P4) (s : List Sd × P4) (a : A3) : List Sd × P4 :=
  if a.1 = 1 then (s.1, Kb s.2 a.2.1 a.2.2) else if a.1 = 2 then (s.1 ++ [(a.2.2, s.2)], s.2) else if a.1 = 3 then (s.1, came) else s
def Ln (l : List A3) (p : P4) : List Sd × P4 := l.foldl (fA p) ([], p)
abbrev M6 (s : List Sd × P4) (k : Nat) : List Sd × Int × Int × Int × Int × Int := (s.1, (k : Int), s.2.1, s.2.2.1, s.2.2.2.1, s.2.2.2.2)
theorem L8 (came : P4) (s : List Sd × P4) (a : A3) : (fA came s a).1.length ≤ s.1.length + 1 := by
  unfold fA
  split
  · simp
  · split
    · simp
    · split <;> simp
theorem Mk {l : List A3} (hl : l.length ≤ 1000) (p : P4) : F1 l p = some (Ln l p).1 ∧ (Ln l p).1.length ≤ l.length := by
  have := IC l M6 (fA p) (DV l p) (fun s => (s.1, s.2.1, s.2.2.1, s.2.2.2.1, s.2.2.2.2)) (fun s k => s.1.length ≤ k) ([], p) (Nat.le_refl 0)
    (fun ⟨out, c⟩ k hk hG => ⟨by
      obtain ⟨c1, c2, c3, c4⟩ := c
      simp only at hG
      rw [M6, DV, if_pos (by omega), Cg (List.getElem?_eq_getElem hk), Option.bind_some]
      unfold fA
      by_cases k1 : l[k].1 = 1
      · rw [if_pos k1, if_pos k1, MS, BW (by omega)]; rfl
      · rw [if_neg k1, if_neg k1]
        by_cases k2 : l[k].1 = 2
        · rw [if_pos k2, if_pos k2, Ib (by simp; omega), BW (by omega)]; rfl
        · rw [if_neg k2, if_neg k2]
          by_cases k3 : l[k].1 = 3
          · rw [if_pos k3, if_pos k3, BW (by omega)]; rfl
          · rw [if_neg k3, if_neg k3, BW (by omega)]; rfl, by
      have := L8 p (out, c) l[k]
      simp only at hG ⊢
      simp only at this
      omega⟩) (fun s => by rw [M6, DV, if_neg (by omega)])
  refine ⟨?_, this.2⟩
  unfold F1
  have h := this.1
  rw [show M6 ([], p) 0 = ([], 0, p.1, p.2.1, p.2.2.1, p.2.2.2) from rfl] at h
  rw [h]; rfl
theorem KN {l : List A3} (hl : l.length ≤ 1000) (p : P4) : F0 l p = some (Ln l p).1 := by
  have := IC l M6 (fA p) (Fc l p) (fun s => (s.1, s.2.1, s.2.2.1, s.2.2.2.1, s.2.2.2.2)) (fun s k => s.1.length ≤ k) ([], p) (Nat.le_refl 0)
    (fun ⟨out, c⟩ k hk hG => ⟨by
      obtain ⟨c1, c2, c3, c4⟩ := c
      simp only at hG
      have hx := Cg (List.getElem?_eq_getElem hk)
      rw [M6, Fc, if_pos (by omega), hx]
      unfold fA
      by_cases k1 : l[k].1 = 1
      · have k3 : ¬ l[k].1 = 3 := by omega
        have k2 : ¬ l[k].1 = 2 := by omega
        simp only [Option.bind_some, if_neg k3, if_neg k2, if_pos k1, LQ, BW (show -9223372036854775808 ≤ (k : Int) + 1 ∧ (k : Int) + 1 ≤ 9223372036854775807 by omega)]; rfl
      · have hw := BW (show -9223372036854775808 ≤ (k : Int) + 1 ∧ (k : Int) + 1 ≤ 9223372036854775807 by omega)
        have ha : ∀ a : Sd, J0 out [a] = some (out ++ [a]) := fun a => Ib (by simp; omega)
        by_cases k2 : l[k].1 = 2
        · have k3 : ¬ l[k].1 = 3 := by omega
          simp only [Option.bind_some, if_neg k1, if_neg k3, if_pos k2, hw, ha]; rfl
        · by_cases k3 : l[k].1 = 3
          · simp only [Option.bind_some, if_neg k1, if_pos k3, if_neg k2, hw]; rfl
          · simp only [Option.bind_some, if_neg k1, if_neg k3, if_neg k2, hw]; rfl, by
      have := L8 p (out, c) l[k]
      simp only at hG ⊢
      simp only at this
      omega⟩) (fun s => by rw [M6, Fc, if_neg (by omega)])
  unfold F0
  have h := this.1
  rw [show M6 ([], p) 0 = ([], 0, p.1, p.2.1, p.2.2.1, p.2.2.2) from rfl] at h
  rw [h]; rfl
theorem O9 {x y : Sd} : (x.1 = y.1 ∧ x.2.1 = y.2.1 ∧ x.2.2.1 = y.2.2.1 ∧ x.2.2.2.1 = y.2.2.2.1 ∧ x.2.2.2.2 = y.2.2.2.2) ↔ x = y := by
  obtain ⟨a, b, c, d, e⟩ := x
  obtain ⟨a', b', c', d', e'⟩ := y
  constructor
  · rintro ⟨h1, h2, h3, h4, h5⟩
    simp only at h1 h2 h3 h4 h5
    subst h1 h2 h3 h4 h5; rfl
  · rintro h; cases h; exact ⟨rfl, rfl, rfl, rfl, rfl⟩
theorem JG {a b : List Sd} (hl : a.length ≤ 1000) : EF a b = some (decide (a = b)) := by
  unfold EF
  by_cases he : (a.length : Int) ≠ (b.length : Int)
  · rw [if_pos he, decide_eq_false (fun h => he (by rw [h]))]
  · have he' : a.length = b.length := by omega
    rw [if_neg he]
    have hd : DecidablePred fun k : Nat => a[k]? ≠ b[k]? := fun _ => inferInstance
    rw [DP a.length (EC a b) (fun k : Nat => a[k]? ≠ b[k]?) false (fun k hk => by
      have h2 : k < b.length := by omega
      rw [EC, if_pos (by omega), Cg (List.getElem?_eq_getElem hk), Option.bind_some, Cg (List.getElem?_eq_getElem h2), Option.bind_some, BW (by omega)]
      by_cases c : a[k] = b[k]
      · have c' : a[k]? = b[k]? := by rw [List.getElem?_eq_getElem hk, List.getElem?_eq_getElem h2, c]
        rw [if_neg (by rw [decide_eq_true (O9.2 c)]; decide), if_neg (fun h => h c')]; rfl
      · have c' : a[k]? ≠ b[k]? := by rw [List.getElem?_eq_getElem hk, List.getElem?_eq_getElem h2]; simpa using c
        rw [if_pos (by rw [decide_eq_false (fun h => c (O9.1 h))]; rfl), if_pos c']) (by rw [EC, if_neg (by omega)]), FW]
    congr 1
    exact decide_eq_decide.2 ⟨fun h => List.ext_getElem? fun k => Classical.byContradiction fun hn => by
      by_cases hk : k < a.length
      · exact h ⟨k, hk, hn⟩
      · exact hn (by rw [List.getElem?_eq_none (by omega), List.getElem?_eq_none (by omega)]), fun h ⟨k, hk, hn⟩ => hn (by rw [h])⟩
end Go.Proofs.Ytkjjioigbpkifaa
