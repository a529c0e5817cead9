/- Layer 11: meetings, who is within. Conditions: none. -/
import Derived.Test.YtkjjioigbpkifaaeM08
namespace Go.Proofs.Ytkjjioigbpkifaa
set_option linter.unusedVariables false
set_option linter.unusedSimpArgs false
set_option synthInstance.maxSize 1000
open Go Go.RowKit
abbrev Nk (m n : Mt) : Prop := m.1 = n.1 ∧ m.2.1.1 = n.2.1.1 ∧ m.2.1.2.1 = n.2.1.2.1 ∧ m.2.1.2.2.1 = n.2.1.2.2.1 ∧ m.2.1.2.2.2 = n.2.1.2.2.2 ∧ m.2.2.1 = n.2.2.1 ∧ m.2.2.2.1 = n.2.2.2.1 ∧ m.2.2.2.2.1 = n.2.2.2.2.1 ∧ m.2.2.2.2.2 = n.2.2.2.2.2
theorem F6 {m n : Mt} : Nk m n ↔ m = n := by
  obtain ⟨a, ⟨b, c, d, e⟩, ⟨f, g, i, j⟩⟩ := m
  obtain ⟨a', ⟨b', c', d', e'⟩, ⟨f', g', i', j'⟩⟩ := n
  constructor
  · rintro ⟨h1, h2, h3, h4, h5, h6, h7, h8, h9⟩
    simp only at *
    subst h1 h2 h3 h4 h5 h6 h7 h8 h9; rfl
  · rintro h; cases h; exact ⟨rfl, rfl, rfl, rfl, rfl, rfl, rfl, rfl, rfl⟩
def Hy (x y : Int) : Int := ((x.toNat ||| y.toNat : Nat) : Int)
abbrev KM (a b : P4) : P4 := (Hy a.1 b.1, Hy a.2.1 b.2.1, Hy a.2.2.1 b.2.2.1, Hy a.2.2.2 b.2.2.2)
theorem LI {x y : Int} (hx : By x) (hy : By y) : E4 .i64 x y = Hy x y := by
  obtain ⟨n, rfl⟩ : ∃ n : Nat, x = (n : Int) := ⟨x.toNat, by have := hx.1; omega⟩
  obtain ⟨m, rfl⟩ : ∃ n : Nat, y = (n : Int) := ⟨y.toNat, by have := hy.1; omega⟩
  have h1 := hx.2
  have h2 := hy.2
  unfold Hy
  rw [OM (by omega) (by omega), Int.toNat_natCast, Int.toNat_natCast]
theorem Nf (x y : Int) (i : Nat) : tb (Hy x y) i = (tb x i || tb y i) := by
  unfold Hy tb
  rw [Int.toNat_natCast, Nat.testBit_or]
theorem NG {x y : Int} {f : Nat} (hf : f < 4) (hx : 0 ≤ x ∧ x ≤ A8 (f : Int)) (hy : 0 ≤ y ∧ y ≤ A8 (f : Int)) : 0 ≤ Hy x y ∧ Hy x y ≤ A8 (f : Int) := by
  unfold Hy
  rcases MB hf with e | e
  · rw [e] at hx hy ⊢
    have : x.toNat ||| y.toNat < 2 ^ 8 := Nat.or_lt_two_pow (by omega) (by omega)
    omega
  · rw [e] at hx hy ⊢
    have : x.toNat ||| y.toNat < 2 ^ 4 := Nat.or_lt_two_pow (by omega) (by omega)
    omega
theorem LN (x y : P4) {k : Nat} (hk : k < 4) : p4 (KM x y) k = Hy (p4 x k) (p4 y k) := by
  have : k = 0 ∨ k = 1 ∨ k = 2 ∨ k = 3 := by omega
  rcases this with rfl | rfl | rfl | rfl <;> rfl
theorem LP {x y : P4} (h : ∀ k, k < 4 → p4 x k = p4 y k) : x = y := by
  obtain ⟨a, b, c, d⟩ := x
  obtain ⟨a', b', c', d'⟩ := y
  have h0 : a = a' := h 0 (by decide)
  have h1 : b = b' := h 1 (by decide)
  have h2 : c = c' := h 2 (by decide)
  have h3 : d = d' := h 3 (by decide)
  subst h0 h1 h2 h3; rfl
theorem Nq {x y : Int} (hx : By x) (hy : By y) (h : ∀ i : Nat, i < 8 → tb x i = tb y i) : x = y := by
  have h1 := hx.1
  have h2 := hx.2
  have h3 := hy.1
  have h4 := hy.2
  have := Nh (x := x.toNat) (y := y.toNat) (by omega) (by omega) h
  omega
abbrev cb (a b : Mt) (f i : Nat) : Prop := tb (p4 a.2.2 f) i = true ∧ tb (p4 b.2.2 f) i = true ∧ tb (p4 a.2.1 f) i ≠ tb (p4 b.2.1 f) i
abbrev Cl (a b : Mt) (f : Nat) : Prop := ∃ i : Nat, i < 8 ∧ cb a b f i
abbrev PC (a b : Mt) : Prop := a.1 ≠ -1 ∧ b.1 ≠ -1 ∧ a.1 ≠ b.1
abbrev Ip (a b : Mt) : Prop := PC a b ∨ ∃ f : Nat, f < 4 ∧ Cl a b f
abbrev I8 (a b : Mt) : Mt := ((if a.1 = -1 then b.1 else a.1), KM a.2.1 b.2.1, KM a.2.2 b.2.2)
abbrev HE : Mt := (0, (0, 0, 0, 0), (0, 0, 0, 0))
theorem N4 {va vb ma mb : Int} (h1 : By va) (h2 : By vb) (h3 : By ma) (h4 : By mb) : (GT .i64 (GT .i64 (Iu .i64 va vb) ma) mb ≠ 0) ↔ ∃ i : Nat, i < 8 ∧ (tb ma i = true ∧ tb mb i = true ∧ tb va i ≠ tb vb i) := by
  obtain ⟨va, rfl⟩ : ∃ n : Nat, va = (n : Int) := ⟨va.toNat, by have := h1.1; omega⟩
  obtain ⟨vb, rfl⟩ : ∃ n : Nat, vb = (n : Int) := ⟨vb.toNat, by have := h2.1; omega⟩
  obtain ⟨ma, rfl⟩ : ∃ n : Nat, ma = (n : Int) := ⟨ma.toNat, by have := h3.1; omega⟩
  obtain ⟨mb, rfl⟩ : ∃ n : Nat, mb = (n : Int) := ⟨mb.toNat, by have := h4.1; omega⟩
  have a1 := h1.2
  have a2 := h2.2
  have a3 := h3.2
  have a4 := h4.2
  have l1 : va ^^^ vb < 2 ^ 8 := Nat.xor_lt_two_pow (by omega) (by omega)
  have l2 : (va ^^^ vb) &&& ma < 2 ^ 8 := Nat.and_lt_two_pow _ (by omega)
  have l3 : (va ^^^ vb) &&& ma &&& mb < 2 ^ 8 := Nat.and_lt_two_pow _ (by omega)
  rw [Na (by omega) (by omega), LK l1 (by omega), LK l2 (by omega), O7 l3]
  constructor
  · rintro ⟨i, hi, h⟩
    refine ⟨i, hi, ?_⟩
    simp only [Nat.testBit_and, Nat.testBit_xor, tb, Int.toNat_natCast] at h ⊢
    cases h1 : ma.testBit i <;> cases h2 : mb.testBit i <;> cases h3 : va.testBit i <;> cases h4 : vb.testBit i <;> simp_all
  · rintro ⟨i, hi, h⟩
    refine ⟨i, hi, ?_⟩
    simp only [Nat.testBit_and, Nat.testBit_xor, tb, Int.toNat_natCast] at h ⊢
    cases h1 : ma.testBit i <;> cases h2 : mb.testBit i <;> cases h3 : va.testBit i <;> cases h4 : vb.testBit i <;> simp_all
abbrev T8 := Int × Int × Int × Int × Int × Int × Int × Int
abbrev t8 (v m : P4) : T8 := (v.1, v.2.1, v.2.2.1, v.2.2.2, m)
theorem Lj {a b : Mt} {S : (Int × T8) → Option ((Int × T8) ⊕ (T8 ⊕ (Mt × Bool)))}
    (hs : ∀ k, k < 4 → ∀ v m : P4, p4 v k = p4 a.2.1 k → p4 m k = p4 a.2.2 k → S ((k : Int), t8 v m) = some (if Cl a b k then .inr (.inr (HE, false)) else .inl (((k + 1 : Nat) : Int), t8 (L7 v (k : Int) (Hy (p4 a.2.1 k) (p4 b.2.1 k))) (L7 m (k : Int) (Hy (p4 a.2.2 k) (p4 b.2.2 k))))))
    (he : ∀ v m : P4, S (4, t8 v m) = some (.inr (.inl (t8 v m)))) :
    Bk S (0, t8 a.2.1 a.2.2) = some (if ∃ f : Nat, f < 4 ∧ Cl a b f then .inr (HE, false) else .inl (t8 (KM a.2.1 b.2.1) (KM a.2.2 b.2.2))) := by
  have s0 := hs 0 (by decide) a.2.1 a.2.2 rfl rfl
  have s1 := hs 1 (by decide) (Hy a.2.1.1 b.2.1.1, a.2.1.2) (Hy a.2.2.1 b.2.2.1, a.2.2.2) rfl rfl
  have s2 := hs 2 (by decide) (Hy a.2.1.1 b.2.1.1, Hy a.2.1.2.1 b.2.1.2.1, a.2.1.2.2) (Hy a.2.2.1 b.2.2.1, Hy a.2.2.2.1 b.2.2.2.1, a.2.2.2.2) rfl rfl
  have s3 := hs 3 (by decide) (Hy a.2.1.1 b.2.1.1, Hy a.2.1.2.1 b.2.1.2.1, Hy a.2.1.2.2.1 b.2.1.2.2.1, a.2.1.2.2.2) (Hy a.2.2.1 b.2.2.1, Hy a.2.2.2.1 b.2.2.2.1, Hy a.2.2.2.2.1 b.2.2.2.2.1, a.2.2.2.2.2) rfl rfl
  by_cases c0 : Cl a b 0
  · rw [if_pos ⟨0, by decide, c0⟩]
    rw [if_pos c0] at s0
    exact CR s0
  rw [if_neg c0] at s0
  by_cases c1 : Cl a b 1
  · rw [if_pos ⟨1, by decide, c1⟩]
    rw [if_pos c1] at s1
    exact (Cv s0).trans (CR s1)
  rw [if_neg c1] at s1
  by_cases c2 : Cl a b 2
  · rw [if_pos ⟨2, by decide, c2⟩]
    rw [if_pos c2] at s2
    exact (Cv s0).trans ((Cv s1).trans (CR s2))
  rw [if_neg c2] at s2
  by_cases c3 : Cl a b 3
  · rw [if_pos ⟨3, by decide, c3⟩]
    rw [if_pos c3] at s3
    exact (Cv s0).trans ((Cv s1).trans ((Cv s2).trans (CR s3)))
  rw [if_neg c3] at s3
  rw [if_neg (by
    rintro ⟨f, hf, h⟩
    have : f = 0 ∨ f = 1 ∨ f = 2 ∨ f = 3 := by omega
    rcases this with rfl | rfl | rfl | rfl
    · exact c0 h
    · exact c1 h
    · exact c2 h
    · exact c3 h)]
  exact (Cv s0).trans ((Cv s1).trans ((Cv s2).trans ((Cv s3).trans (CR (he (KM a.2.1 b.2.1) (KM a.2.2 b.2.2))))))
abbrev GI (a b : Mt) : Mt × Bool := if Ip a b then (HE, false) else (I8 a b, true)
theorem LY {a b : Mt} {S : (Int × T8) → Option ((Int × T8) ⊕ (T8 ⊕ (Mt × Bool)))}
    (h : Bk S (0, t8 a.2.1 a.2.2) = some (if ∃ f : Nat, f < 4 ∧ Cl a b f then .inr (HE, false) else .inl (t8 (KM a.2.1 b.2.1) (KM a.2.2 b.2.2)))) :
    ((if a.1 = (-1) then some b.1 else some a.1).bind fun x1 => (if (decide (b.1 ≠ (-1)) && decide (x1 ≠ b.1)) = true then some ((0, (0, 0, 0, 0), (0, 0, 0, 0)), false) else Fp (Bk S (0, a.2.1.1, a.2.1.2.1, a.2.1.2.2.1, a.2.1.2.2.2, a.2.2.1, a.2.2.2.1, a.2.2.2.2.1, a.2.2.2.2.2)) fun (x2, x3, x4, x5, x6, x7, x8, x9) => some ((x1, (x2, x3, x4, x5), (x6, x7, x8, x9)), true))) = some (GI a b) := by
  have h' : Bk S (0, a.2.1.1, a.2.1.2.1, a.2.1.2.2.1, a.2.1.2.2.2, a.2.2.1, a.2.2.2.1, a.2.2.2.2.1, a.2.2.2.2.2) = _ := h
  have hp : (if a.1 = (-1) then some b.1 else some a.1) = some (if a.1 = -1 then b.1 else a.1) := by split <;> rfl
  rw [hp, Option.bind_some, h']
  by_cases c : PC a b
  · rw [if_pos (by rw [if_neg c.1]; simpa using c.2), show GI a b = (HE, false) from if_pos (.inl c)]
  · rw [if_neg (by
      intro hn
      apply c
      simp only [Bool.and_eq_true, decide_eq_true_eq] at hn
      by_cases ca : a.1 = -1
      · rw [if_pos ca] at hn; exact absurd rfl hn.2
      · rw [if_neg ca] at hn; exact ⟨ca, hn.1, hn.2⟩)]
    by_cases c2 : ∃ f : Nat, f < 4 ∧ Cl a b f
    · rw [if_pos c2, show GI a b = (HE, false) from if_pos (.inr c2)]; rfl
    · rw [if_neg c2, show GI a b = (I8 a b, true) from if_neg (fun h => h.elim c c2)]; rfl
theorem KG {a b : Mt} (ha : FI a) (hb : FI b) : Ds a b = some (GI a b) := by
  unfold Ds
  exact LY (Lj (fun k hk v m hv hm => by
    obtain ⟨g1, g2⟩ := Eb ha hk
    obtain ⟨g3, g4⟩ := Eb hb hk
    show Cy b ((k : Int), v.1, v.2.1, v.2.2.1, v.2.2.2, m.1, m.2.1, m.2.2.1, m.2.2.2) = _
    rw [Cy, if_pos (by omega), JA v hk, Option.bind_some, JA b.2.1 hk, Option.bind_some, JA m hk, Option.bind_some, JA b.2.2 hk, Option.bind_some]
    simp only [Option.bind_some]
    rw [hv, hm, BW (by omega), LI g1 g3, LI g2 g4]
    have hi := N4 g1 g3 g2 g4
    by_cases c : GT .i64 (GT .i64 (Iu .i64 (p4 a.2.1 k) (p4 b.2.1 k)) (p4 a.2.2 k)) (p4 b.2.2 k) ≠ 0
    · rw [if_pos c, if_pos (hi.1 c)]
    · rw [if_neg c, if_neg (fun h => c (hi.2 h))]; rfl) (fun v m => by
    show Cy b (4, v.1, v.2.1, v.2.2.1, v.2.2.2, m.1, m.2.1, m.2.2.1, m.2.2.2) = _
    rw [Cy, if_neg (by decide)]))
def lo (x y : Int) (i : Nat) : Int := ((x.toNat ||| y.toNat % 2 ^ i : Nat) : Int)
abbrev WI (a b : Mt) : Prop := (b.1 = -1 ∨ a.1 = b.1) ∧ ∀ f : Nat, f < 4 → ∀ i : Nat, i < 8 → tb (p4 b.2.2 f) i = true → (tb (p4 a.2.2 f) i = true ∧ tb (p4 a.2.1 f) i = tb (p4 b.2.1 f) i)
theorem Kr {x y : Int} (hx : By x) (hy : By y) (h : ∀ i : Nat, i < 8 → tb y i = true → tb x i = true) : Hy x y = x := by
  refine Nq (by have := NG (f := 0) (by decide) (show 0 ≤ x ∧ x ≤ A8 ((0 : Nat) : Int) from hx) (show 0 ≤ y ∧ y ≤ A8 ((0 : Nat) : Int) from hy); exact this) hx fun i hi => ?_
  rw [Nf]
  cases h1 : tb y i
  · simp
  · rw [h i hi h1]; rfl
theorem Hw {a b : Mt} (ha : FI a) (hb : FI b) : (¬ Ip a b ∧ I8 a b = a) ↔ WI a b := by
  constructor
  · rintro ⟨h1, h2⟩
    have e1 : (if a.1 = -1 then b.1 else a.1) = a.1 := congrArg Prod.fst h2
    have e2 : KM a.2.2 b.2.2 = a.2.2 := congrArg (fun m : Mt => m.2.2) h2
    constructor
    · by_cases c : a.1 = -1
      · rw [if_pos c] at e1
        exact .inl (by rw [e1, c])
      · by_cases c2 : b.1 = -1
        · exact .inl c2
        · exact .inr (Classical.byContradiction fun hn => h1 (.inl ⟨c, c2, hn⟩))
    · intro f hf i hi hbi
      have e3 := congrArg (fun p => tb (p4 p f) i) e2
      simp only [LN _ _ hf, Nf, hbi, Bool.or_true] at e3
      refine ⟨e3.symm, Classical.byContradiction fun hn => h1 (.inr ⟨f, hf, i, hi, e3.symm, hbi, hn⟩)⟩
  · rintro ⟨h1, h2⟩
    refine ⟨?_, ?_⟩
    · rintro (⟨c1, c2, c3⟩ | ⟨f, hf, i, hi, c1, c2, c3⟩)
      · exact h1.elim c2 c3
      · exact c3 (h2 f hf i hi c2).2
    · have e1 : (if a.1 = -1 then b.1 else a.1) = a.1 := by
        by_cases c : a.1 = -1
        · rw [if_pos c]
          rcases h1 with h | h
          · rw [h, c]
          · exact h.symm
        · rw [if_neg c]
      have e2 : KM a.2.1 b.2.1 = a.2.1 := LP fun k hk => by
        rw [LN _ _ hk]
        exact Kr (Eb ha hk).1 (Eb hb hk).1 fun i hi hv => by
          have := h2 k hk i hi ((hb.2 k hk).2.2 i hi hv)
          rw [this.2, hv]
      have e3 : KM a.2.2 b.2.2 = a.2.2 := LP fun k hk => by
        rw [LN _ _ hk]
        exact Kr (Eb ha hk).2 (Eb hb hk).2 fun i hi hv => (h2 k hk i hi hv).1
      show ((if a.1 = -1 then b.1 else a.1), KM a.2.1 b.2.1, KM a.2.2 b.2.2) = a
      rw [e1, e2, e3]
theorem Lo {a b : Mt} (ha : FI a) (hb : FI b) : C3 a b = some (decide (WI a b)) := by
  unfold C3
  rw [KG ha hb, Option.bind_some]
  congr 1
  by_cases c : Ip a b
  · rw [show GI a b = (HE, false) from if_pos c, decide_eq_false (fun h => ((Hw ha hb).2 h).1 c)]; rfl
  · rw [show GI a b = (I8 a b, true) from if_neg c]
    show (true && decide (Nk (I8 a b) a)) = _
    rw [Bool.true_and]
    exact decide_eq_decide.2 ⟨fun h => (Hw ha hb).1 ⟨c, F6.1 h⟩, fun h => F6.2 ((Hw ha hb).2 h).2⟩
theorem KF {m : Mt} (h : FI m) : I4 m.2.1 := by
  have g : ∀ k, k < 4 → i64 (p4 m.2.1 k) := fun k hk => by
    have := (Eb h hk).1
    have h1 := this.1
    have h2 := this.2
    constructor <;> omega
  exact ⟨g 0 (by decide), g 1 (by decide), g 2 (by decide), g 3 (by decide)⟩
end Go.Proofs.Ytkjjioigbpkifaa
