/- Layer 11: meetings, who is within. Conditions: none. -/
import Derived.Test.YtkjjioigbpkifaacM08
namespace Go.Proofs.Ytkjjioigbpkifaa
set_option linter.unusedVariables false
set_option linter.unusedSimpArgs false
set_option synthInstance.maxSize 1000
open Go Go.RowKit
abbrev Nt (m n : Mt) : Prop := m.1 = n.1 ∧ m.2.1.1 = n.2.1.1 ∧ m.2.1.2.1 = n.2.1.2.1 ∧ m.2.1.2.2.1 = n.2.1.2.2.1 ∧ m.2.1.2.2.2 = n.2.1.2.2.2 ∧ m.2.2.1 = n.2.2.1 ∧ m.2.2.2.1 = n.2.2.2.1 ∧ m.2.2.2.2.1 = n.2.2.2.2.1 ∧ m.2.2.2.2.2 = n.2.2.2.2.2
theorem FC {m n : Mt} : Nt m n ↔ m = n := by
  obtain ⟨a, ⟨b, c, d, e⟩, ⟨f, g, i, j⟩⟩ := m
  obtain ⟨a', ⟨b', c', d', e'⟩, ⟨f', g', i', j'⟩⟩ := n
  constructor
  · rintro ⟨h1, h2, h3, h4, h5, h6, h7, h8, h9⟩
    simp only at *
    subst h1 h2 h3 h4 h5 h6 h7 h8 h9; rfl
  · rintro h; cases h; exact ⟨rfl, rfl, rfl, rfl, rfl, rfl, rfl, rfl, rfl⟩
def GS (x y : Int) : Int := ((x.toNat ||| y.toNat : Nat) : Int)
abbrev Lh (a b : P4) : P4 := (GS a.1 b.1, GS a.2.1 b.2.1, GS a.2.2.1 b.2.2.1, GS a.2.2.2 b.2.2.2)
theorem MH {x y : Int} (hx : By x) (hy : By y) : Fe .i64 x y = GS x y := by
  obtain ⟨n, rfl⟩ : ∃ n : Nat, x = (n : Int) := ⟨x.toNat, by have := hx.1; omega⟩
  obtain ⟨m, rfl⟩ : ∃ n : Nat, y = (n : Int) := ⟨y.toNat, by have := hy.1; omega⟩
  have h1 := hx.2
  have h2 := hy.2
  unfold GS
  rw [Pc (by omega) (by omega), Int.toNat_natCast, Int.toNat_natCast]
theorem NL (x y : Int) (i : Nat) : tb (GS x y) i = (tb x i || tb y i) := by
  unfold GS tb
  rw [Int.toNat_natCast, Nat.testBit_or]
theorem N8 {x y : Int} {f : Nat} (hf : f < 4) (hx : 0 ≤ x ∧ x ≤ Bo (f : Int)) (hy : 0 ≤ y ∧ y ≤ Bo (f : Int)) : 0 ≤ GS x y ∧ GS x y ≤ Bo (f : Int) := by
  unfold GS
  rcases Ni hf with e | e
  · rw [e] at hx hy ⊢
    have : x.toNat ||| y.toNat < 2 ^ 8 := Nat.or_lt_two_pow (by omega) (by omega)
    omega
  · rw [e] at hx hy ⊢
    have : x.toNat ||| y.toNat < 2 ^ 4 := Nat.or_lt_two_pow (by omega) (by omega)
    omega
theorem Mq (x y : P4) {k : Nat} (hk : k < 4) : p4 (Lh x y) k = GS (p4 x k) (p4 y k) := by
  have : k = 0 ∨ k = 1 ∨ k = 2 ∨ k = 3 := by omega
  rcases this with rfl | rfl | rfl | rfl <;> rfl
theorem MZ {x y : P4} (h : ∀ k, k < 4 → p4 x k = p4 y k) : x = y := by
  obtain ⟨a, b, c, d⟩ := x
  obtain ⟨a', b', c', d'⟩ := y
  have h0 : a = a' := h 0 (by decide)
  have h1 : b = b' := h 1 (by decide)
  have h2 : c = c' := h 2 (by decide)
  have h3 : d = d' := h 3 (by decide)
  subst h0 h1 h2 h3; rfl
theorem HJ (v : P4) {k : Nat} (hk : k < 4) : HU v (k : Int) (p4 v k) = v := by
  have : k = 0 ∨ k = 1 ∨ k = 2 ∨ k = 3 := by omega
  rcases this with rfl | rfl | rfl | rfl <;> rfl
theorem LA (v : P4) {k : Nat} (hk : k < 4) (x y : Int) : HU (HU v (k : Int) x) (k : Int) y = HU v (k : Int) y := by
  have : k = 0 ∨ k = 1 ∨ k = 2 ∨ k = 3 := by omega
  rcases this with rfl | rfl | rfl | rfl <;> rfl
theorem Mi (v : P4) {k : Nat} (hk : k < 4) (x : Int) : p4 (HU v (k : Int) x) k = x := by
  have : k = 0 ∨ k = 1 ∨ k = 2 ∨ k = 3 := by omega
  rcases this with rfl | rfl | rfl | rfl <;> rfl
theorem NS {x y : Int} (hx : By x) (hy : By y) (h : ∀ i : Nat, i < 8 → tb x i = tb y i) : x = y := by
  have h1 := hx.1
  have h2 := hx.2
  have h3 := hy.1
  have h4 := hy.2
  have := Oh (x := x.toNat) (y := y.toNat) (by omega) (by omega) h
  omega
abbrev cb (a b : Mt) (f i : Nat) : Prop := tb (p4 a.2.2 f) i = true ∧ tb (p4 b.2.2 f) i = true ∧ tb (p4 a.2.1 f) i ≠ tb (p4 b.2.1 f) i
abbrev Cl (a b : Mt) (f : Nat) : Prop := ∃ i : Nat, i < 8 ∧ cb a b f i
abbrev PC (a b : Mt) : Prop := a.1 ≠ -1 ∧ b.1 ≠ -1 ∧ a.1 ≠ b.1
abbrev HB (a b : Mt) : Prop := PC a b ∨ ∃ f : Nat, f < 4 ∧ Cl a b f
abbrev IG (a b : Mt) : Mt := ((if a.1 = -1 then b.1 else a.1), Lh a.2.1 b.2.1, Lh a.2.2 b.2.2)
abbrev Gh : Mt := (0, (0, 0, 0, 0), (0, 0, 0, 0))
theorem OJ {va vb ma mb : Int} (h1 : By va) (h2 : By vb) (h3 : By ma) (h4 : By mb) : (HT .i64 (HT .i64 (JK .i64 va vb) ma) mb ≠ 0) ↔ ∃ i : Nat, i < 8 ∧ (tb ma i = true ∧ tb mb i = true ∧ tb va i ≠ tb vb i) := by
  obtain ⟨va, rfl⟩ : ∃ n : Nat, va = (n : Int) := ⟨va.toNat, by have := h1.1; omega⟩
  obtain ⟨vb, rfl⟩ : ∃ n : Nat, vb = (n : Int) := ⟨vb.toNat, by have := h2.1; omega⟩
  obtain ⟨ma, rfl⟩ : ∃ n : Nat, ma = (n : Int) := ⟨ma.toNat, by have := h3.1; omega⟩
  obtain ⟨mb, rfl⟩ : ∃ n : Nat, mb = (n : Int) := ⟨mb.toNat, by have := h4.1; omega⟩
  have a1 := h1.2
  have a2 := h2.2
  have a3 := h3.2
  have a4 := h4.2
  have l1 : va ^^^ vb < 2 ^ 8 := Nat.xor_lt_two_pow (by omega) (by omega)
  have l2 : (va ^^^ vb) &&& ma < 2 ^ 8 := Nat.and_lt_two_pow _ (by omega)
  have l3 : (va ^^^ vb) &&& ma &&& mb < 2 ^ 8 := Nat.and_lt_two_pow _ (by omega)
  rw [Ow (by omega) (by omega), NP l1 (by omega), NP l2 (by omega), Qe l3]
  constructor
  · rintro ⟨i, hi, h⟩
    refine ⟨i, hi, ?_⟩
    simp only [Nat.testBit_and, Nat.testBit_xor, tb, Int.toNat_natCast] at h ⊢
    cases h1 : ma.testBit i <;> cases h2 : mb.testBit i <;> cases h3 : va.testBit i <;> cases h4 : vb.testBit i <;> simp_all
  · rintro ⟨i, hi, h⟩
    refine ⟨i, hi, ?_⟩
    simp only [Nat.testBit_and, Nat.testBit_xor, tb, Int.toNat_natCast] at h ⊢
    cases h1 : ma.testBit i <;> cases h2 : mb.testBit i <;> cases h3 : va.testBit i <;> cases h4 : vb.testBit i <;> simp_all
abbrev T8 := Int × Int × Int × Int × Int × Int × Int × Int
abbrev t8 (v m : P4) : T8 := (v.1, v.2.1, v.2.2.1, v.2.2.2, m)
theorem Jt {a b : Mt} {S : (Int × T8) → Option ((Int × T8) ⊕ (T8 ⊕ (Mt × Bool)))}
    (hs : ∀ k, k < 4 → ∀ v m : P4, p4 v k = p4 a.2.1 k → p4 m k = p4 a.2.2 k → S ((k : Int), t8 v m) = some (if Cl a b k then .inr (.inr (Gh, false)) else .inl (((k + 1 : Nat) : Int), t8 (HU v (k : Int) (GS (p4 a.2.1 k) (p4 b.2.1 k))) (HU m (k : Int) (GS (p4 a.2.2 k) (p4 b.2.2 k))))))
    (he : ∀ v m : P4, S (4, t8 v m) = some (.inr (.inl (t8 v m)))) :
    A9 S (0, t8 a.2.1 a.2.2) = some (if ∃ f : Nat, f < 4 ∧ Cl a b f then .inr (Gh, false) else .inl (t8 (Lh a.2.1 b.2.1) (Lh a.2.2 b.2.2))) := by
  have s0 := hs 0 (by decide) a.2.1 a.2.2 rfl rfl
  have s1 := hs 1 (by decide) (GS a.2.1.1 b.2.1.1, a.2.1.2) (GS a.2.2.1 b.2.2.1, a.2.2.2) rfl rfl
  have s2 := hs 2 (by decide) (GS a.2.1.1 b.2.1.1, GS a.2.1.2.1 b.2.1.2.1, a.2.1.2.2) (GS a.2.2.1 b.2.2.1, GS a.2.2.2.1 b.2.2.2.1, a.2.2.2.2) rfl rfl
  have s3 := hs 3 (by decide) (GS a.2.1.1 b.2.1.1, GS a.2.1.2.1 b.2.1.2.1, GS a.2.1.2.2.1 b.2.1.2.2.1, a.2.1.2.2.2) (GS a.2.2.1 b.2.2.1, GS a.2.2.2.1 b.2.2.2.1, GS a.2.2.2.2.1 b.2.2.2.2.1, a.2.2.2.2.2) rfl rfl
  by_cases c0 : Cl a b 0
  · rw [if_pos ⟨0, by decide, c0⟩]
    rw [if_pos c0] at s0
    exact B0 s0
  rw [if_neg c0] at s0
  by_cases c1 : Cl a b 1
  · rw [if_pos ⟨1, by decide, c1⟩]
    rw [if_pos c1] at s1
    exact (Ce s0).trans (B0 s1)
  rw [if_neg c1] at s1
  by_cases c2 : Cl a b 2
  · rw [if_pos ⟨2, by decide, c2⟩]
    rw [if_pos c2] at s2
    exact (Ce s0).trans ((Ce s1).trans (B0 s2))
  rw [if_neg c2] at s2
  by_cases c3 : Cl a b 3
  · rw [if_pos ⟨3, by decide, c3⟩]
    rw [if_pos c3] at s3
    exact (Ce s0).trans ((Ce s1).trans ((Ce s2).trans (B0 s3)))
  rw [if_neg c3] at s3
  rw [if_neg (by
    rintro ⟨f, hf, h⟩
    have : f = 0 ∨ f = 1 ∨ f = 2 ∨ f = 3 := by omega
    rcases this with rfl | rfl | rfl | rfl
    · exact c0 h
    · exact c1 h
    · exact c2 h
    · exact c3 h)]
  exact (Ce s0).trans ((Ce s1).trans ((Ce s2).trans ((Ce s3).trans (B0 (he (Lh a.2.1 b.2.1) (Lh a.2.2 b.2.2))))))
abbrev FD (a b : Mt) : Mt × Bool := if HB a b then (Gh, false) else (IG a b, true)
theorem Kn {a b : Mt} {S : (Int × T8) → Option ((Int × T8) ⊕ (T8 ⊕ (Mt × Bool)))}
    (h : A9 S (0, t8 a.2.1 a.2.2) = some (if ∃ f : Nat, f < 4 ∧ Cl a b f then .inr (Gh, false) else .inl (t8 (Lh a.2.1 b.2.1) (Lh a.2.2 b.2.2)))) :
    ((if a.1 = (-1) then some b.1 else some a.1).bind fun x1 => (if (decide (b.1 ≠ (-1)) && decide (x1 ≠ b.1)) = true then some ((0, (0, 0, 0, 0), (0, 0, 0, 0)), false) else FB (A9 S (0, a.2.1.1, a.2.1.2.1, a.2.1.2.2.1, a.2.1.2.2.2, a.2.2.1, a.2.2.2.1, a.2.2.2.2.1, a.2.2.2.2.2)) fun (x2, x3, x4, x5, x6, x7, x8, x9) => some ((x1, (x2, x3, x4, x5), (x6, x7, x8, x9)), true))) = some (FD a b) := by
  have h' : A9 S (0, a.2.1.1, a.2.1.2.1, a.2.1.2.2.1, a.2.1.2.2.2, a.2.2.1, a.2.2.2.1, a.2.2.2.2.1, a.2.2.2.2.2) = _ := h
  have hp : (if a.1 = (-1) then some b.1 else some a.1) = some (if a.1 = -1 then b.1 else a.1) := by split <;> rfl
  rw [hp, Option.bind_some, h']
  by_cases c : PC a b
  · rw [if_pos (by rw [if_neg c.1]; simpa using c.2), show FD a b = (Gh, false) from if_pos (.inl c)]
  · rw [if_neg (by
      intro hn
      apply c
      simp only [Bool.and_eq_true, decide_eq_true_eq] at hn
      by_cases ca : a.1 = -1
      · rw [if_pos ca] at hn; exact absurd rfl hn.2
      · rw [if_neg ca] at hn; exact ⟨ca, hn.1, hn.2⟩)]
    by_cases c2 : ∃ f : Nat, f < 4 ∧ Cl a b f
    · rw [if_pos c2, show FD a b = (Gh, false) from if_pos (.inr c2)]; rfl
    · rw [if_neg c2, show FD a b = (IG a b, true) from if_neg (fun h => h.elim c c2)]; rfl
theorem Lr {a b : Mt} (ha : Er a) (hb : Er b) : DI a b = some (FD a b) := by
  unfold DI
  exact Kn (Jt (fun k hk v m hv hm => by
    obtain ⟨g1, g2⟩ := Df ha hk
    obtain ⟨g3, g4⟩ := Df hb hk
    show CI b ((k : Int), v.1, v.2.1, v.2.2.1, v.2.2.2, m.1, m.2.1, m.2.2.1, m.2.2.2) = _
    rw [CI, if_pos (by omega), JG v hk, Option.bind_some, JG b.2.1 hk, Option.bind_some, JG m hk, Option.bind_some, JG b.2.2 hk, Option.bind_some]
    simp only [Option.bind_some]
    rw [hv, hm, BC (by omega), MH g1 g3, MH g2 g4]
    have hi := OJ g1 g3 g2 g4
    by_cases c : HT .i64 (HT .i64 (JK .i64 (p4 a.2.1 k) (p4 b.2.1 k)) (p4 a.2.2 k)) (p4 b.2.2 k) ≠ 0
    · rw [if_pos c, if_pos (hi.1 c)]
    · rw [if_neg c, if_neg (fun h => c (hi.2 h))]; rfl) (fun v m => by
    show CI b (4, v.1, v.2.1, v.2.2.1, v.2.2.2, m.1, m.2.1, m.2.2.1, m.2.2.2) = _
    rw [CI, if_neg (by decide)]))
theorem Nv : ∀ x : Fin 256, ∀ i : Fin 8, x.val.testBit i.val = false → x.val ||| 2 ^ i.val = x.val + 2 ^ i.val := by decide +kernel
theorem Of : ∀ x : Fin 256, ∀ i : Fin 8, x.val.testBit i.val = true → x.val ||| 2 ^ i.val = x.val := by decide +kernel
theorem Nz : ∀ x : Fin 256, ∀ i : Fin 8, x.val.testBit i.val = true → x.val % 2 ^ (i.val + 1) = x.val % 2 ^ i.val ||| 2 ^ i.val := by decide +kernel
theorem L8 : ∀ x : Fin 256, ∀ i : Fin 8, x.val.testBit i.val = false → x.val % 2 ^ (i.val + 1) = x.val % 2 ^ i.val := by decide +kernel
theorem MW {x y i : Nat} (hx : x < 256) (hy : y < 256) (hi : i < 8) : (x ||| y % 2 ^ (i + 1)) = if y.testBit i = true ∧ x.testBit i = false then (x ||| y % 2 ^ i) + 2 ^ i else (x ||| y % 2 ^ i) := by
  have hz : y % 2 ^ i < 256 := Nat.lt_of_le_of_lt (Nat.mod_le _ _) hy
  have hw : x ||| y % 2 ^ i < 2 ^ 8 := Nat.or_lt_two_pow hx hz
  cases h1 : y.testBit i
  · rw [if_neg (fun h => by cases h.1), L8 ⟨y, hy⟩ ⟨i, hi⟩ h1]
  · have h3 := Nz ⟨y, hy⟩ ⟨i, hi⟩ h1
    simp only at h3
    rw [h3]
    cases h2 : x.testBit i
    · rw [if_pos ⟨rfl, rfl⟩, ← Nat.or_assoc]
      exact Nv ⟨x ||| y % 2 ^ i, hw⟩ ⟨i, hi⟩ (by simp [h2])
    · have h4 := Of ⟨x, hx⟩ ⟨i, hi⟩ h2
      simp only at h4
      rw [if_neg (fun h => by cases h.2), Nat.or_comm (y % 2 ^ i), ← Nat.or_assoc, h4]
def lo (x y : Int) (i : Nat) : Int := ((x.toNat ||| y.toNat % 2 ^ i : Nat) : Int)
theorem Ps {x y : Int} (hx : By x) : lo x y 0 = x := by
  have := hx.1
  unfold lo
  rw [Nat.pow_zero, Nat.mod_one, Nat.or_zero]; omega
theorem PB {x y : Int} (hy : By y) : lo x y 8 = GS x y := by
  have := hy.1
  have := hy.2
  unfold lo GS
  rw [Nat.mod_eq_of_lt (by omega)]
theorem NJ {x y : Int} (hx : By x) (hy : By y) (i : Nat) : By (lo x y i) := by
  have h1 := hx.1
  have h2 := hx.2
  have h3 := hy.1
  have h4 := hy.2
  have : x.toNat ||| y.toNat % 2 ^ i < 2 ^ 8 := Nat.or_lt_two_pow (by omega) (Nat.lt_of_le_of_lt (Nat.mod_le _ _) (by omega))
  unfold lo
  constructor <;> omega
theorem Li {x y : Int} (hx : By x) (hy : By y) {i : Nat} (hi : i < 8) : lo x y (i + 1) = if tb y i = true ∧ tb x i = false then lo x y i + ((2 ^ i : Nat) : Int) else lo x y i := by
  have h1 := hx.1
  have h2 := hx.2
  have h3 := hy.1
  have h4 := hy.2
  unfold lo
  rw [MW (by omega) (by omega) hi]
  by_cases c : y.toNat.testBit i = true ∧ x.toNat.testBit i = false
  · rw [if_pos c, if_pos c]; simp
  · rw [if_neg c, if_neg c]
theorem LS {a b : Mt} (ha : Er a) (hb : Er b) {k : Nat} (hk : k < 4) {i : Nat} (hi : i < 8) (v m : P4) (hv : p4 v k = lo (p4 a.2.1 k) (p4 b.2.1 k) i) (hm : p4 m k = lo (p4 a.2.2 k) (p4 b.2.2 k) i) :
    CB a b (k : Int) (((2 ^ i : Nat) : Int), (i : Int), t8 v m) = some (if cb a b k i then .inr (.inr (.inr (.inr (Gh, false)))) else .inl (((2 ^ (i + 1) : Nat) : Int), ((i + 1 : Nat) : Int), t8 (HU v (k : Int) (lo (p4 a.2.1 k) (p4 b.2.1 k) (i + 1))) (HU m (k : Int) (lo (p4 a.2.2 k) (p4 b.2.2 k) (i + 1))))) := by
  obtain ⟨g1, g2⟩ := Df ha hk
  obtain ⟨g3, g4⟩ := Df hb hk
  have ga := (ha.2 k hk).2.2 i hi
  have gb := (hb.2 k hk).2.2 i hi
  have l1 := Li g1 g3 hi
  have l2 := Li g2 g4 hi
  have b1 := NJ g1 g3 i
  have b2 := NJ g2 g4 i
  have hp : 2 ^ i ≤ 2 ^ 7 := Nat.pow_le_pow_right (by decide) (by omega)
  have hq : 2 ^ (i + 1) = 2 ^ i * 2 := Nat.pow_succ ..
  rw [hq]
  generalize 2 ^ i = q at hp l1 l2
  show CB a b (k : Int) ((q : Int), (i : Int), v.1, v.2.1, v.2.2.1, v.2.2.2, m.1, m.2.1, m.2.2.1, m.2.2.2) = _
  rw [CB, if_pos (by omega), JG b.2.2 hk, Option.bind_some, Fj g4 hi, Option.bind_some, JG a.2.2 hk, JG a.2.1 hk, JG b.2.1 hk, JG v hk, JG m hk]
  simp only [Option.bind_some]
  rw [Fj g2 hi, Fj g1 hi, Fj g3 hi, Fj g4 hi]
  simp only [Option.bind_some]
  rw [hv, hm, BC (x := (q : Int) * 2) (by omega), BC (x := (i : Int) + 1) (by omega)]
  generalize lo (p4 a.2.1 k) (p4 b.2.1 k) i = V at *
  generalize lo (p4 a.2.2 k) (p4 b.2.2 k) i = M at *
  have sv := HJ v hk
  have sm := HJ m hk
  rw [hv] at sv
  rw [hm] at sm
  have o1 := b1.1
  have o2 := b1.2
  have o3 := b2.1
  have o4 := b2.2
  by_cases c1 : tb (p4 b.2.2 k) i = true
  · by_cases c2 : tb (p4 a.2.2 k) i = true
    · have e2 : lo (p4 a.2.2 k) (p4 b.2.2 k) (i + 1) = M := by rw [l2, if_neg (fun h => by rw [c2] at h; cases h.2)]
      by_cases c3 : tb (p4 a.2.1 k) i = tb (p4 b.2.1 k) i
      · have e1 : lo (p4 a.2.1 k) (p4 b.2.1 k) (i + 1) = V := by rw [l1, if_neg (fun h => by rw [c3, h.1] at h; cases h.2)]
        rw [if_neg (show ¬ cb a b k i from fun h => h.2.2 c3), e1, e2, sv, sm]
        rw [c1, c2, c3]
        simp
      · rw [if_pos (show cb a b k i from ⟨c2, c1, c3⟩), c1, c2]
        by_cases c4 : tb (p4 a.2.1 k) i = true <;> by_cases c5 : tb (p4 b.2.1 k) i = true <;> simp_all
    · have c2' : tb (p4 a.2.2 k) i = false := by simpa using c2
      have c4 : tb (p4 a.2.1 k) i = false := by
        cases h : tb (p4 a.2.1 k) i
        · rfl
        · exact absurd (ga h) c2
      have e2 : lo (p4 a.2.2 k) (p4 b.2.2 k) (i + 1) = M + (q : Int) := by rw [l2, if_pos ⟨c1, c2'⟩]
      rw [if_neg (show ¬ cb a b k i from fun h => c2 h.1), e2, c1, c2', c4]
      by_cases c5 : tb (p4 b.2.1 k) i = true
      · have e1 : lo (p4 a.2.1 k) (p4 b.2.1 k) (i + 1) = V + (q : Int) := by rw [l1, if_pos ⟨c5, c4⟩]
        rw [e1, c5, if_pos rfl, BC (x := (q : Int) * 1) (by omega), BC (x := V + (q : Int) * 1) (by omega), BC (x := M + (q : Int)) (by omega), Int.mul_one]
        simp
      · have c5' : tb (p4 b.2.1 k) i = false := by simpa using c5
        have e1 : lo (p4 a.2.1 k) (p4 b.2.1 k) (i + 1) = V := by rw [l1, if_neg (fun h => by rw [c5'] at h; cases h.1)]
        rw [e1, c5', if_neg (show ¬ (false = true) by decide), BC (x := (q : Int) * 0) (by omega), BC (x := V + (q : Int) * 0) (by omega), BC (x := M + (q : Int)) (by omega), Int.mul_zero, Int.add_zero]
        simp
  · have c1' : tb (p4 b.2.2 k) i = false := by simpa using c1
    have c5 : tb (p4 b.2.1 k) i = false := by
      cases h : tb (p4 b.2.1 k) i
      · rfl
      · exact absurd (gb h) c1
    have e1 : lo (p4 a.2.1 k) (p4 b.2.1 k) (i + 1) = V := by rw [l1, if_neg (fun h => by rw [c5] at h; cases h.1)]
    have e2 : lo (p4 a.2.2 k) (p4 b.2.2 k) (i + 1) = M := by rw [l2, if_neg (fun h => by rw [c1'] at h; cases h.1)]
    rw [if_neg (show ¬ cb a b k i from fun h => c1 h.2.1), e1, e2, sv, sm, c1']
    simp
theorem Ka {a b : Mt} (ha : Er a) (hb : Er b) {k : Nat} (hk : k < 4) (v m : P4) (hv : p4 v k = p4 a.2.1 k) (hm : p4 m k = p4 a.2.2 k) :
    A9 (CB a b (k : Int)) (1, 0, t8 v m) = some (if Cl a b k then .inr (.inr (.inr (Gh, false))) else .inl (t8 (HU v (k : Int) (GS (p4 a.2.1 k) (p4 b.2.1 k))) (HU m (k : Int) (GS (p4 a.2.2 k) (p4 b.2.2 k))))) := by
  obtain ⟨g1, g2⟩ := Df ha hk
  obtain ⟨g3, g4⟩ := Df hb hk
  have key : ∀ (d i : Nat), i + d = 8 → ∀ v m : P4, p4 v k = lo (p4 a.2.1 k) (p4 b.2.1 k) i → p4 m k = lo (p4 a.2.2 k) (p4 b.2.2 k) i →
      A9 (CB a b (k : Int)) (((2 ^ i : Nat) : Int), (i : Int), t8 v m) = some (if ∃ j : Nat, j < 8 ∧ (i ≤ j ∧ cb a b k j) then .inr (.inr (.inr (Gh, false))) else .inl (t8 (HU v (k : Int) (GS (p4 a.2.1 k) (p4 b.2.1 k))) (HU m (k : Int) (GS (p4 a.2.2 k) (p4 b.2.2 k))))) := by
    intro d
    induction d with
    | zero =>
      intro i hi v m hv hm
      obtain rfl : i = 8 := by omega
      rw [if_neg (by rintro ⟨j, h1, h2, _⟩; omega), ← PB g3, ← PB g4, ← hv, ← hm, HJ v hk, HJ m hk]
      refine B0 ?_
      show CB a b (k : Int) (((2 ^ 8 : Nat) : Int), ((8 : Nat) : Int), v.1, v.2.1, v.2.2.1, v.2.2.2, m.1, m.2.1, m.2.2.1, m.2.2.2) = _
      rw [CB, if_neg (by decide)]
    | succ d ih =>
      intro i hi v m hv hm
      have hs := LS ha hb hk (i := i) (by omega) v m hv hm
      by_cases c : cb a b k i
      · rw [if_pos c] at hs
        rw [if_pos ⟨i, by omega, Nat.le_refl _, c⟩]
        exact B0 hs
      · rw [if_neg c] at hs
        rw [Ce hs, ih (i + 1) (by omega) _ _ (Mi v hk _) (Mi m hk _), LA v hk, LA m hk]
        by_cases c2 : ∃ j : Nat, j < 8 ∧ (i + 1 ≤ j ∧ cb a b k j)
        · rw [if_pos c2, if_pos (by obtain ⟨j, h1, h2, h3⟩ := c2; exact ⟨j, h1, by omega, h3⟩)]
        · rw [if_neg c2, if_neg (by
            rintro ⟨j, h1, h2, h3⟩
            have : i ≠ j := fun e => c (e ▸ h3)
            exact c2 ⟨j, h1, by omega, h3⟩)]
  have h := key 8 0 rfl v m (by rw [Ps g1, hv]) (by rw [Ps g2, hm])
  have h' : A9 (CB a b (k : Int)) (1, 0, t8 v m) = _ := h
  rw [h']
  by_cases c : Cl a b k
  · rw [if_pos c, if_pos (by obtain ⟨j, h1, h2⟩ := c; exact ⟨j, h1, by omega, h2⟩)]
  · rw [if_neg c, if_neg (by rintro ⟨j, h1, _, h2⟩; exact c ⟨j, h1, h2⟩)]
theorem Mv {a b : Mt} (ha : Er a) (hb : Er b) : Gx a b = some (FD a b) := by
  unfold Gx
  exact Kn (Jt (fun k hk v m hv hm => by
    show D6 a b ((k : Int), v.1, v.2.1, v.2.2.1, v.2.2.2, m.1, m.2.1, m.2.2.1, m.2.2.2) = _
    have hf := Ka ha hb hk v m hv hm
    have hf' : A9 (CB a b (k : Int)) (1, 0, v.1, v.2.1, v.2.2.1, v.2.2.2, m.1, m.2.1, m.2.2.1, m.2.2.2) = _ := hf
    rw [D6, if_pos (by omega), hf', BC (by omega)]
    by_cases c : Cl a b k
    · rw [if_pos c, if_pos c]; rfl
    · rw [if_neg c, if_neg c]; rfl) (fun v m => by
    show D6 a b (4, v.1, v.2.1, v.2.2.1, v.2.2.2, m.1, m.2.1, m.2.2.1, m.2.2.2) = _
    rw [D6, if_neg (by decide)]))
abbrev WI (a b : Mt) : Prop := (b.1 = -1 ∨ a.1 = b.1) ∧ ∀ f : Nat, f < 4 → ∀ i : Nat, i < 8 → tb (p4 b.2.2 f) i = true → (tb (p4 a.2.2 f) i = true ∧ tb (p4 a.2.1 f) i = tb (p4 b.2.1 f) i)
theorem LF {x y : Int} (hx : By x) (hy : By y) (h : ∀ i : Nat, i < 8 → tb y i = true → tb x i = true) : GS x y = x := by
  refine NS (by have := N8 (f := 0) (by decide) (show 0 ≤ x ∧ x ≤ Bo ((0 : Nat) : Int) from hx) (show 0 ≤ y ∧ y ≤ Bo ((0 : Nat) : Int) from hy); exact this) hx fun i hi => ?_
  rw [NL]
  cases h1 : tb y i
  · simp
  · rw [h i hi h1]; rfl
theorem HX {a b : Mt} (ha : Er a) (hb : Er b) : (¬ HB a b ∧ IG a b = a) ↔ WI a b := by
  constructor
  · rintro ⟨h1, h2⟩
    have e1 : (if a.1 = -1 then b.1 else a.1) = a.1 := congrArg Prod.fst h2
    have e2 : Lh a.2.2 b.2.2 = a.2.2 := congrArg (fun m : Mt => m.2.2) h2
    constructor
    · by_cases c : a.1 = -1
      · rw [if_pos c] at e1
        exact .inl (by rw [e1, c])
      · by_cases c2 : b.1 = -1
        · exact .inl c2
        · exact .inr (Classical.byContradiction fun hn => h1 (.inl ⟨c, c2, hn⟩))
    · intro f hf i hi hbi
      have e3 := congrArg (fun p => tb (p4 p f) i) e2
      simp only [Mq _ _ hf, NL, hbi, Bool.or_true] at e3
      refine ⟨e3.symm, Classical.byContradiction fun hn => h1 (.inr ⟨f, hf, i, hi, e3.symm, hbi, hn⟩)⟩
  · rintro ⟨h1, h2⟩
    refine ⟨?_, ?_⟩
    · rintro (⟨c1, c2, c3⟩ | ⟨f, hf, i, hi, c1, c2, c3⟩)
      · exact h1.elim c2 c3
      · exact c3 (h2 f hf i hi c2).2
    · have e1 : (if a.1 = -1 then b.1 else a.1) = a.1 := by
        by_cases c : a.1 = -1
        · rw [if_pos c]
          rcases h1 with h | h
          · rw [h, c]
          · exact h.symm
        · rw [if_neg c]
      have e2 : Lh a.2.1 b.2.1 = a.2.1 := MZ fun k hk => by
        rw [Mq _ _ hk]
        exact LF (Df ha hk).1 (Df hb hk).1 fun i hi hv => by
          have := h2 k hk i hi ((hb.2 k hk).2.2 i hi hv)
          rw [this.2, hv]
      have e3 : Lh a.2.2 b.2.2 = a.2.2 := MZ fun k hk => by
        rw [Mq _ _ hk]
        exact LF (Df ha hk).2 (Df hb hk).2 fun i hi hv => (h2 k hk i hi hv).1
      show ((if a.1 = -1 then b.1 else a.1), Lh a.2.1 b.2.1, Lh a.2.2 b.2.2) = a
      rw [e1, e2, e3]
theorem LJ {a b : Mt} (ha : Er a) (hb : Er b) : C8 a b = some (decide (WI a b)) := by
  unfold C8
  rw [Lr ha hb, Option.bind_some]
  congr 1
  by_cases c : HB a b
  · rw [show FD a b = (Gh, false) from if_pos c, decide_eq_false (fun h => ((HX ha hb).2 h).1 c)]; rfl
  · rw [show FD a b = (IG a b, true) from if_neg c]
    show (true && decide (Nt (IG a b) a)) = _
    rw [Bool.true_and]
    exact decide_eq_decide.2 ⟨fun h => (HX ha hb).1 ⟨c, FC.1 h⟩, fun h => FC.2 ((HX ha hb).2 h).2⟩
theorem ME (a b : Int) : (decide (b ≠ (-1)) && decide (a ≠ b)) = decide (¬ (b = -1 ∨ a = b)) := by
  rw [← Bool.decide_and]; exact decide_eq_decide.2 ⟨fun h h2 => by omega, fun h => by omega⟩
theorem KI {a b : Mt} (ha : Er a) (hb : Er b) : Fo a b = some (decide (WI a b)) := by
  unfold Fo
  rw [ME]
  by_cases hq : b.1 = -1 ∨ a.1 = b.1
  · rw [decide_eq_false (fun hn => hn hq), if_neg (by decide), ES 4 _ (fun f : Nat => ∃ i : Nat, i < 8 ∧ ¬ (tb (p4 b.2.2 f) i = true → (tb (p4 a.2.2 f) i = true ∧ tb (p4 a.2.1 f) i = tb (p4 b.2.1 f) i))) false (fun k hk => by
      unfold EJ
      rw [if_pos (by omega), BC (by omega), ES 8 _ (fun i : Nat => ¬ (tb (p4 b.2.2 k) i = true → (tb (p4 a.2.2 k) i = true ∧ tb (p4 a.2.1 k) i = tb (p4 b.2.1 k) i))) (.inr (.inr false)) (fun i hi => by
        unfold EK
        rw [if_pos (by omega), JG b.2.2 hk, Option.bind_some, Fj (Df hb hk).2 hi, Option.bind_some, JG a.2.2 hk, Option.bind_some, Fj (Df ha hk).2 hi, Option.bind_some, JG a.2.1 hk, Option.bind_some, Fj (Df ha hk).1 hi, Option.bind_some, JG b.2.1 hk, Option.bind_some, Fj (Df hb hk).1 hi, Option.bind_some, BC (by omega)]
        by_cases x : tb (p4 b.2.2 k) i = true <;> by_cases y : tb (p4 a.2.2 k) i = true <;> by_cases z : tb (p4 a.2.1 k) i = true <;> by_cases u : tb (p4 b.2.1 k) i = true <;> simp [x, y, z, u]) (by unfold EK; rw [if_neg (by decide)])]
      by_cases c : ∃ i : Nat, i < 8 ∧ ¬ (tb (p4 b.2.2 k) i = true → (tb (p4 a.2.2 k) i = true ∧ tb (p4 a.2.1 k) i = tb (p4 b.2.1 k) i))
      · rw [if_pos c, if_pos c]; rfl
      · rw [if_neg c, if_neg c]; rfl) (by unfold EJ; rw [if_neg (by decide)]), HI]
    congr 1
    exact decide_eq_decide.2 ⟨fun h2 => ⟨hq, fun f hf i hi => Classical.byContradiction fun hn => h2 ⟨f, hf, i, hi, hn⟩⟩, fun h2 ⟨f, hf, i, hi, hn⟩ => hn (h2.2 f hf i hi)⟩
  · rw [decide_eq_true hq, if_pos rfl, decide_eq_false (fun h2 => hq h2.1)]
theorem NF {m : Mt} (h : Er m) : I4 m.2.1 := by
  have g : ∀ k, k < 4 → i64 (p4 m.2.1 k) := fun k hk => by
    have := (Df h hk).1
    have h1 := this.1
    have h2 := this.2
    constructor <;> omega
  exact ⟨g 0 (by decide), g 1 (by decide), g 2 (by decide), g 3 (by decide)⟩
end Go.Proofs.Ytkjjioigbpkifaa
