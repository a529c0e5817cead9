/- Layer 11: meetings, who is within. Conditions: none. -/
import Derived.Test.YtkjjioigbpkifaadM08
namespace Go.Proofs.Ytkjjioigbpkifaa
set_option linter.unusedVariables false
set_option linter.unusedSimpArgs false
set_option synthInstance.maxSize 1000
open Go Go.RowKit
abbrev Mj (m n : Mt) : Prop := m.1 = n.1 ∧ m.2.1.1 = n.2.1.1 ∧ m.2.1.2.1 = n.2.1.2.1 ∧ m.2.1.2.2.1 = n.2.1.2.2.1 ∧ m.2.1.2.2.2 = n.2.1.2.2.2 ∧ m.2.2.1 = n.2.2.1 ∧ m.2.2.2.1 = n.2.2.2.1 ∧ m.2.2.2.2.1 = n.2.2.2.2.1 ∧ m.2.2.2.2.2 = n.2.2.2.2.2
theorem FC {m n : Mt} : Mj m n ↔ m = n := by
  obtain ⟨a, ⟨b, c, d, e⟩, ⟨f, g, i, j⟩⟩ := m
  obtain ⟨a', ⟨b', c', d', e'⟩, ⟨f', g', i', j'⟩⟩ := n
  constructor
  · rintro ⟨h1, h2, h3, h4, h5, h6, h7, h8, h9⟩
    simp only at *
    subst h1 h2 h3 h4 h5 h6 h7 h8 h9; rfl
  · rintro h; cases h; exact ⟨rfl, rfl, rfl, rfl, rfl, rfl, rfl, rfl, rfl⟩
def GW (x y : Int) : Int := ((x.toNat ||| y.toNat : Nat) : Int)
abbrev JM (a b : P4) : P4 := (GW a.1 b.1, GW a.2.1 b.2.1, GW a.2.2.1 b.2.2.1, GW a.2.2.2 b.2.2.2)
theorem K6 {x y : Int} (hx : By x) (hy : By y) : EL .i64 x y = GW x y := by
  obtain ⟨n, rfl⟩ : ∃ n : Nat, x = (n : Int) := ⟨x.toNat, by have := hx.1; omega⟩
  obtain ⟨m, rfl⟩ : ∃ n : Nat, y = (n : Int) := ⟨y.toNat, by have := hy.1; omega⟩
  have h1 := hx.2
  have h2 := hy.2
  unfold GW
  rw [Ni (by omega) (by omega), Int.toNat_natCast, Int.toNat_natCast]
theorem LU (x y : Int) (i : Nat) : tb (GW x y) i = (tb x i || tb y i) := by
  unfold GW tb
  rw [Int.toNat_natCast, Nat.testBit_or]
theorem Mi {x y : Int} {f : Nat} (hf : f < 4) (hx : 0 ≤ x ∧ x ≤ Bb (f : Int)) (hy : 0 ≤ y ∧ y ≤ Bb (f : Int)) : 0 ≤ GW x y ∧ GW x y ≤ Bb (f : Int) := by
  unfold GW
  rcases Lu hf with e | e
  · rw [e] at hx hy ⊢
    have : x.toNat ||| y.toNat < 2 ^ 8 := Nat.or_lt_two_pow (by omega) (by omega)
    omega
  · rw [e] at hx hy ⊢
    have : x.toNat ||| y.toNat < 2 ^ 4 := Nat.or_lt_two_pow (by omega) (by omega)
    omega
theorem KS (x y : P4) {k : Nat} (hk : k < 4) : p4 (JM x y) k = GW (p4 x k) (p4 y k) := by
  have : k = 0 ∨ k = 1 ∨ k = 2 ∨ k = 3 := by omega
  rcases this with rfl | rfl | rfl | rfl <;> rfl
theorem KQ {x y : P4} (h : ∀ k, k < 4 → p4 x k = p4 y k) : x = y := by
  obtain ⟨a, b, c, d⟩ := x
  obtain ⟨a', b', c', d'⟩ := y
  have h0 : a = a' := h 0 (by decide)
  have h1 : b = b' := h 1 (by decide)
  have h2 : c = c' := h 2 (by decide)
  have h3 : d = d' := h 3 (by decide)
  subst h0 h1 h2 h3; rfl
theorem L8 {x y : Int} (hx : By x) (hy : By y) (h : ∀ i : Nat, i < 8 → tb x i = tb y i) : x = y := by
  have h1 := hx.1
  have h2 := hx.2
  have h3 := hy.1
  have h4 := hy.2
  have := Mo (x := x.toNat) (y := y.toNat) (by omega) (by omega) h
  omega
abbrev cb (a b : Mt) (f i : Nat) : Prop := tb (p4 a.2.2 f) i = true ∧ tb (p4 b.2.2 f) i = true ∧ tb (p4 a.2.1 f) i ≠ tb (p4 b.2.1 f) i
abbrev Cl (a b : Mt) (f : Nat) : Prop := ∃ i : Nat, i < 8 ∧ cb a b f i
abbrev PC (a b : Mt) : Prop := a.1 ≠ -1 ∧ b.1 ≠ -1 ∧ a.1 ≠ b.1
abbrev HW (a b : Mt) : Prop := PC a b ∨ ∃ f : Nat, f < 4 ∧ Cl a b f
abbrev Is (a b : Mt) : Mt := ((if a.1 = -1 then b.1 else a.1), JM a.2.1 b.2.1, JM a.2.2 b.2.2)
abbrev He : Mt := (0, (0, 0, 0, 0), (0, 0, 0, 0))
theorem MN {va vb ma mb : Int} (h1 : By va) (h2 : By vb) (h3 : By ma) (h4 : By mb) : (GR .i64 (GR .i64 (IE .i64 va vb) ma) mb ≠ 0) ↔ ∃ i : Nat, i < 8 ∧ (tb ma i = true ∧ tb mb i = true ∧ tb va i ≠ tb vb i) := by
  obtain ⟨va, rfl⟩ : ∃ n : Nat, va = (n : Int) := ⟨va.toNat, by have := h1.1; omega⟩
  obtain ⟨vb, rfl⟩ : ∃ n : Nat, vb = (n : Int) := ⟨vb.toNat, by have := h2.1; omega⟩
  obtain ⟨ma, rfl⟩ : ∃ n : Nat, ma = (n : Int) := ⟨ma.toNat, by have := h3.1; omega⟩
  obtain ⟨mb, rfl⟩ : ∃ n : Nat, mb = (n : Int) := ⟨mb.toNat, by have := h4.1; omega⟩
  have a1 := h1.2
  have a2 := h2.2
  have a3 := h3.2
  have a4 := h4.2
  have l1 : va ^^^ vb < 2 ^ 8 := Nat.xor_lt_two_pow (by omega) (by omega)
  have l2 : (va ^^^ vb) &&& ma < 2 ^ 8 := Nat.and_lt_two_pow _ (by omega)
  have l3 : (va ^^^ vb) &&& ma &&& mb < 2 ^ 8 := Nat.and_lt_two_pow _ (by omega)
  rw [M0 (by omega) (by omega), L6 l1 (by omega), L6 l2 (by omega), NY l3]
  constructor
  · rintro ⟨i, hi, h⟩
    refine ⟨i, hi, ?_⟩
    simp only [Nat.testBit_and, Nat.testBit_xor, tb, Int.toNat_natCast] at h ⊢
    cases h1 : ma.testBit i <;> cases h2 : mb.testBit i <;> cases h3 : va.testBit i <;> cases h4 : vb.testBit i <;> simp_all
  · rintro ⟨i, hi, h⟩
    refine ⟨i, hi, ?_⟩
    simp only [Nat.testBit_and, Nat.testBit_xor, tb, Int.toNat_natCast] at h ⊢
    cases h1 : ma.testBit i <;> cases h2 : mb.testBit i <;> cases h3 : va.testBit i <;> cases h4 : vb.testBit i <;> simp_all
abbrev T8 := Int × Int × Int × Int × Int × Int × Int × Int
abbrev t8 (v m : P4) : T8 := (v.1, v.2.1, v.2.2.1, v.2.2.2, m)
theorem Kb {a b : Mt} {S : (Int × T8) → Option ((Int × T8) ⊕ (T8 ⊕ (Mt × Bool)))}
    (hs : ∀ k, k < 4 → ∀ v m : P4, p4 v k = p4 a.2.1 k → p4 m k = p4 a.2.2 k → S ((k : Int), t8 v m) = some (if Cl a b k then .inr (.inr (He, false)) else .inl (((k + 1 : Nat) : Int), t8 (ME v (k : Int) (GW (p4 a.2.1 k) (p4 b.2.1 k))) (ME m (k : Int) (GW (p4 a.2.2 k) (p4 b.2.2 k))))))
    (he : ∀ v m : P4, S (4, t8 v m) = some (.inr (.inl (t8 v m)))) :
    Bh S (0, t8 a.2.1 a.2.2) = some (if ∃ f : Nat, f < 4 ∧ Cl a b f then .inr (He, false) else .inl (t8 (JM a.2.1 b.2.1) (JM a.2.2 b.2.2))) := by
  have s0 := hs 0 (by decide) a.2.1 a.2.2 rfl rfl
  have s1 := hs 1 (by decide) (GW a.2.1.1 b.2.1.1, a.2.1.2) (GW a.2.2.1 b.2.2.1, a.2.2.2) rfl rfl
  have s2 := hs 2 (by decide) (GW a.2.1.1 b.2.1.1, GW a.2.1.2.1 b.2.1.2.1, a.2.1.2.2) (GW a.2.2.1 b.2.2.1, GW a.2.2.2.1 b.2.2.2.1, a.2.2.2.2) rfl rfl
  have s3 := hs 3 (by decide) (GW a.2.1.1 b.2.1.1, GW a.2.1.2.1 b.2.1.2.1, GW a.2.1.2.2.1 b.2.1.2.2.1, a.2.1.2.2.2) (GW a.2.2.1 b.2.2.1, GW a.2.2.2.1 b.2.2.2.1, GW a.2.2.2.2.1 b.2.2.2.2.1, a.2.2.2.2.2) rfl rfl
  by_cases c0 : Cl a b 0
  · rw [if_pos ⟨0, by decide, c0⟩]
    rw [if_pos c0] at s0
    exact Cv s0
  rw [if_neg c0] at s0
  by_cases c1 : Cl a b 1
  · rw [if_pos ⟨1, by decide, c1⟩]
    rw [if_pos c1] at s1
    exact (Cf s0).trans (Cv s1)
  rw [if_neg c1] at s1
  by_cases c2 : Cl a b 2
  · rw [if_pos ⟨2, by decide, c2⟩]
    rw [if_pos c2] at s2
    exact (Cf s0).trans ((Cf s1).trans (Cv s2))
  rw [if_neg c2] at s2
  by_cases c3 : Cl a b 3
  · rw [if_pos ⟨3, by decide, c3⟩]
    rw [if_pos c3] at s3
    exact (Cf s0).trans ((Cf s1).trans ((Cf s2).trans (Cv s3)))
  rw [if_neg c3] at s3
  rw [if_neg (by
    rintro ⟨f, hf, h⟩
    have : f = 0 ∨ f = 1 ∨ f = 2 ∨ f = 3 := by omega
    rcases this with rfl | rfl | rfl | rfl
    · exact c0 h
    · exact c1 h
    · exact c2 h
    · exact c3 h)]
  exact (Cf s0).trans ((Cf s1).trans ((Cf s2).trans ((Cf s3).trans (Cv (he (JM a.2.1 b.2.1) (JM a.2.2 b.2.2))))))
abbrev Gj (a b : Mt) : Mt × Bool := if HW a b then (He, false) else (Is a b, true)
theorem Li {a b : Mt} {S : (Int × T8) → Option ((Int × T8) ⊕ (T8 ⊕ (Mt × Bool)))}
    (h : Bh S (0, t8 a.2.1 a.2.2) = some (if ∃ f : Nat, f < 4 ∧ Cl a b f then .inr (He, false) else .inl (t8 (JM a.2.1 b.2.1) (JM a.2.2 b.2.2)))) :
    ((if a.1 = (-1) then some b.1 else some a.1).bind fun x1 => (if (decide (b.1 ≠ (-1)) && decide (x1 ≠ b.1)) = true then some ((0, (0, 0, 0, 0), (0, 0, 0, 0)), false) else FL (Bh S (0, a.2.1.1, a.2.1.2.1, a.2.1.2.2.1, a.2.1.2.2.2, a.2.2.1, a.2.2.2.1, a.2.2.2.2.1, a.2.2.2.2.2)) fun (x2, x3, x4, x5, x6, x7, x8, x9) => some ((x1, (x2, x3, x4, x5), (x6, x7, x8, x9)), true))) = some (Gj a b) := by
  have h' : Bh S (0, a.2.1.1, a.2.1.2.1, a.2.1.2.2.1, a.2.1.2.2.2, a.2.2.1, a.2.2.2.1, a.2.2.2.2.1, a.2.2.2.2.2) = _ := h
  have hp : (if a.1 = (-1) then some b.1 else some a.1) = some (if a.1 = -1 then b.1 else a.1) := by split <;> rfl
  rw [hp, Option.bind_some, h']
  by_cases c : PC a b
  · rw [if_pos (by rw [if_neg c.1]; simpa using c.2), show Gj a b = (He, false) from if_pos (.inl c)]
  · rw [if_neg (by
      intro hn
      apply c
      simp only [Bool.and_eq_true, decide_eq_true_eq] at hn
      by_cases ca : a.1 = -1
      · rw [if_pos ca] at hn; exact absurd rfl hn.2
      · rw [if_neg ca] at hn; exact ⟨ca, hn.1, hn.2⟩)]
    by_cases c2 : ∃ f : Nat, f < 4 ∧ Cl a b f
    · rw [if_pos c2, show Gj a b = (He, false) from if_pos (.inr c2)]; rfl
    · rw [if_neg c2, show Gj a b = (Is a b, true) from if_neg (fun h => h.elim c c2)]; rfl
theorem JK {a b : Mt} (ha : FZ a) (hb : FZ b) : Do a b = some (Gj a b) := by
  unfold Do
  exact Li (Kb (fun k hk v m hv hm => by
    obtain ⟨g1, g2⟩ := Gd ha hk
    obtain ⟨g3, g4⟩ := Gd hb hk
    show Cs b ((k : Int), v.1, v.2.1, v.2.2.1, v.2.2.2, m.1, m.2.1, m.2.2.1, m.2.2.2) = _
    rw [Cs, if_pos (by omega), Ll v hk, Option.bind_some, Ll b.2.1 hk, Option.bind_some, Ll m hk, Option.bind_some, Ll b.2.2 hk, Option.bind_some]
    simp only [Option.bind_some]
    rw [hv, hm, Cy (by omega), K6 g1 g3, K6 g2 g4]
    have hi := MN g1 g3 g2 g4
    by_cases c : GR .i64 (GR .i64 (IE .i64 (p4 a.2.1 k) (p4 b.2.1 k)) (p4 a.2.2 k)) (p4 b.2.2 k) ≠ 0
    · rw [if_pos c, if_pos (hi.1 c)]
    · rw [if_neg c, if_neg (fun h => c (hi.2 h))]; rfl) (fun v m => by
    show Cs b (4, v.1, v.2.1, v.2.2.1, v.2.2.2, m.1, m.2.1, m.2.2.1, m.2.2.2) = _
    rw [Cs, if_neg (by decide)]))
def lo (x y : Int) (i : Nat) : Int := ((x.toNat ||| y.toNat % 2 ^ i : Nat) : Int)
abbrev WI (a b : Mt) : Prop := (b.1 = -1 ∨ a.1 = b.1) ∧ ∀ f : Nat, f < 4 → ∀ i : Nat, i < 8 → tb (p4 b.2.2 f) i = true → (tb (p4 a.2.2 f) i = true ∧ tb (p4 a.2.1 f) i = tb (p4 b.2.1 f) i)
theorem J6 {x y : Int} (hx : By x) (hy : By y) (h : ∀ i : Nat, i < 8 → tb y i = true → tb x i = true) : GW x y = x := by
  refine L8 (by have := Mi (f := 0) (by decide) (show 0 ≤ x ∧ x ≤ Bb ((0 : Nat) : Int) from hx) (show 0 ≤ y ∧ y ≤ Bb ((0 : Nat) : Int) from hy); exact this) hx fun i hi => ?_
  rw [LU]
  cases h1 : tb y i
  · simp
  · rw [h i hi h1]; rfl
theorem GP {a b : Mt} (ha : FZ a) (hb : FZ b) : (¬ HW a b ∧ Is a b = a) ↔ WI a b := by
  constructor
  · rintro ⟨h1, h2⟩
    have e1 : (if a.1 = -1 then b.1 else a.1) = a.1 := congrArg Prod.fst h2
    have e2 : JM a.2.2 b.2.2 = a.2.2 := congrArg (fun m : Mt => m.2.2) h2
    constructor
    · by_cases c : a.1 = -1
      · rw [if_pos c] at e1
        exact .inl (by rw [e1, c])
      · by_cases c2 : b.1 = -1
        · exact .inl c2
        · exact .inr (Classical.byContradiction fun hn => h1 (.inl ⟨c, c2, hn⟩))
    · intro f hf i hi hbi
      have e3 := congrArg (fun p => tb (p4 p f) i) e2
      simp only [KS _ _ hf, LU, hbi, Bool.or_true] at e3
      refine ⟨e3.symm, Classical.byContradiction fun hn => h1 (.inr ⟨f, hf, i, hi, e3.symm, hbi, hn⟩)⟩
  · rintro ⟨h1, h2⟩
    refine ⟨?_, ?_⟩
    · rintro (⟨c1, c2, c3⟩ | ⟨f, hf, i, hi, c1, c2, c3⟩)
      · exact h1.elim c2 c3
      · exact c3 (h2 f hf i hi c2).2
    · have e1 : (if a.1 = -1 then b.1 else a.1) = a.1 := by
        by_cases c : a.1 = -1
        · rw [if_pos c]
          rcases h1 with h | h
          · rw [h, c]
          · exact h.symm
        · rw [if_neg c]
      have e2 : JM a.2.1 b.2.1 = a.2.1 := KQ fun k hk => by
        rw [KS _ _ hk]
        exact J6 (Gd ha hk).1 (Gd hb hk).1 fun i hi hv => by
          have := h2 k hk i hi ((hb.2 k hk).2.2 i hi hv)
          rw [this.2, hv]
      have e3 : JM a.2.2 b.2.2 = a.2.2 := KQ fun k hk => by
        rw [KS _ _ hk]
        exact J6 (Gd ha hk).2 (Gd hb hk).2 fun i hi hv => (h2 k hk i hi hv).1
      show ((if a.1 = -1 then b.1 else a.1), JM a.2.1 b.2.1, JM a.2.2 b.2.2) = a
      rw [e1, e2, e3]
theorem Kg {a b : Mt} (ha : FZ a) (hb : FZ b) : CV a b = some (decide (WI a b)) := by
  unfold CV
  rw [JK ha hb, Option.bind_some]
  congr 1
  by_cases c : HW a b
  · rw [show Gj a b = (He, false) from if_pos c, decide_eq_false (fun h => ((GP ha hb).2 h).1 c)]; rfl
  · rw [show Gj a b = (Is a b, true) from if_neg c]
    show (true && decide (Mj (Is a b) a)) = _
    rw [Bool.true_and]
    exact decide_eq_decide.2 ⟨fun h => (GP ha hb).1 ⟨c, FC.1 h⟩, fun h => FC.2 ((GP ha hb).2 h).2⟩
end Go.Proofs.Ytkjjioigbpkifaa
