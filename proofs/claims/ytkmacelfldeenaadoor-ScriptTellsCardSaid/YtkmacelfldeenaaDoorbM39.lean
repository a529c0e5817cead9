/- Layer 39: scripts. Conditions: none. -/
import Derived.Test.YtkmacelfldeenaaDoorbLD
import Derived.Test.YtkmacelfldeenaaDoorbOB
import Derived.Test.YtkmacelfldeenaaDoorbEV
import Derived.Test.YtkmacelfldeenaaDoorbA2
namespace Go.Proofs.YtkmacelfldeenaaDoor
set_option linter.unusedVariables false
set_option linter.unusedSimpArgs false
open Go Go.RowKit
theorem D9 {n : Int} (h : i64 n) : C2 n = some (Lib.itoa n) :=
  Ho (st := Ch) (run := B3) (fun _ => rfl) (fun _ _ => rfl) (fun _ _ => rfl) n h
def FT (b : UInt8) : Prop := 48 ≤ b.toNat ∧ b.toNat ≤ 57
instance (b : UInt8) : Decidable (FT b) := by unfold FT; infer_instance
def Eu (a : Nat) (l : List UInt8) : Nat := l.foldl (fun a b => a * 10 + (b.toNat - 48)) a
theorem HR (a : Nat) (l m : List UInt8) : Eu a (l ++ m) = Eu (Eu a l) m := by unfold Eu; rw [List.foldl_append]
theorem Dq (a : Nat) (b : UInt8) (l : List UInt8) : Eu a (b :: l) = Eu (a * 10 + (b.toNat - 48)) l := by unfold Eu; rw [List.foldl_cons]
theorem GQ : ∀ (l : List UInt8) (a : Nat), a ≤ Eu a l
  | [], a => Nat.le_refl _
  | b :: l, a => by rw [Dq]; exact Nat.le_trans (by omega) (GQ l _)
theorem EF {d : Nat} (h : d < 10) : (UInt8.ofNat (48 + d)).toNat = 48 + d := by
  have : d = 0 ∨ d = 1 ∨ d = 2 ∨ d = 3 ∨ d = 4 ∨ d = 5 ∨ d = 6 ∨ d = 7 ∨ d = 8 ∨ d = 9 := by omega
  rcases this with rfl | rfl | rfl | rfl | rfl | rfl | rfl | rfl | rfl | rfl <;> rfl
theorem Ci : ∀ (k u : Nat), u < 10 ^ (k + 1) → (∀ b ∈ Lib.decDigits u, FT b) ∧ Eu 0 (Lib.decDigits u) = u ∧ Lib.decDigits u ≠ [] ∧ (Lib.decDigits u).length ≤ k + 1
  | 0, u, h => by
    have hu : u < 10 := by omega
    rw [Lib.decDigits_one hu]
    refine ⟨fun b hb => ?_, ?_, by simp, by simp⟩
    · rw [List.mem_singleton.1 hb]; unfold FT; rw [EF hu]; omega
    · rw [Dq, EF hu]; show 0 * 10 + (48 + u - 48) = u; omega
  | k + 1, u, h => by
    by_cases hu : u < 10
    · obtain ⟨h1, h2, h3, h4⟩ := Ci 0 u (by omega)
      exact ⟨h1, h2, h3, by omega⟩
    · have hq : u / 10 < 10 ^ (k + 1) := by rw [Nat.pow_succ] at h; omega
      obtain ⟨h1, h2, h3, h4⟩ := Ci k (u / 10) hq
      have hm : u % 10 < 10 := by omega
      rw [EO (by omega)]
      refine ⟨fun b hb => ?_, ?_, by simp, by rw [List.length_append, List.length_singleton]; omega⟩
      · rcases List.mem_append.1 hb with hb | hb
        · exact h1 b hb
        · rw [List.mem_singleton.1 hb]; unfold FT; rw [EF hm]; omega
      · rw [HR, h2, Dq, EF hm]; show u / 10 * 10 + (48 + u % 10 - 48) = u; omega
theorem Fe : ∀ (l : List UInt8) (a : Nat), (∀ b ∈ l, FT b) → Eu a l < 9223372036854775808 → Lib.parseUint10 a l = .ok (Eu a l)
  | [], a, _, _ => rfl
  | c :: r, a, h, hv => by
    have hc := h c (List.mem_cons_self ..)
    have hg := GQ r (a * 10 + (c.toNat - 48))
    rw [Dq] at hv ⊢
    rw [Lib.parseUint10, if_pos (show 48 ≤ c.toNat ∧ c.toNat ≤ 57 from hc), if_neg (by omega), if_neg (by omega)]
    exact Fe r _ (fun b hb => h b (List.mem_cons_of_mem _ hb)) hv
theorem Hu {u : Nat} (h : u ≤ 1125899906842624) : Lib.atoiAll (Lib.decDigits u) = .ok (u : Int) := by
  obtain ⟨h1, h2, h3, h4⟩ := Ci 15 u (by omega)
  cases hl : Lib.decDigits u with
  | nil => exact absurd hl h3
  | cons c r =>
    rw [hl] at h1 h2
    have hc : FT c := h1 c (List.mem_cons_self ..)
    unfold FT at hc
    have hp : Lib.parseMag (c :: r) = .ok u := by unfold Lib.parseMag; rw [if_neg (by simp), Fe _ 0 h1 (by rw [h2]; omega), h2]
    unfold Lib.atoiAll
    simp only
    rw [if_neg (by omega), hp]
    simp only
    rw [if_neg (by omega), if_neg (by omega), if_neg (by omega)]
theorem Fs (sep : List UInt8) : ∀ (k : Nat) (s : List UInt8), ∀ x ∈ Lib.splitK sep 0 k s, x.length ≤ s.length
  | 0, s, x, hx => by rw [List.mem_singleton.1 (show x ∈ [s] from hx)]; exact Nat.le_refl _
  | k + 1, s, x, hx => by
    unfold Lib.splitK at hx
    split at hx
    · rw [List.mem_singleton.1 hx]; exact Nat.le_refl _
    · rcases List.mem_cons.1 hx with rfl | hx
      · rw [List.length_take]; omega
      · have := Fs sep k _ x hx
        rw [List.length_drop] at this; omega
theorem CO {w : List UInt8} {c : UInt8} (h : c ∉ w) : Lib.split w [c] = [w] := by
  unfold Lib.split
  rw [Lib.count_miss (HN h)]; rfl
theorem CT {w r : List UInt8} {c : UInt8} (h : c ∉ w) : Lib.split (w ++ c :: r) [c] = w :: Lib.split r [c] := by
  have hi : Lib.index (w ++ c :: r) [c] = (w.length : Int) := HV h
  have hd : (w ++ c :: r).drop (w.length + 1) = r := by
    rw [show w ++ c :: r = (w ++ [c]) ++ r by simp, List.drop_left' (by simp)]
  have hne : ¬ (Lib.index (w ++ c :: r) [c] == -1) = true := by rw [hi]; intro e; have := beq_iff_eq.1 e; omega
  have key : ∀ k, Lib.splitK [c] 0 (k + 1) (w ++ c :: r) = w :: Lib.splitK [c] 0 k r := fun k => by
    rw [Lib.splitK, if_neg hne, hi]
    simp only [Int.toNat_natCast, Nat.add_zero, List.length_singleton]
    rw [hd, List.take_left' rfl]
  unfold Lib.split
  rw [Lib.count_hit (by simp) hi, Nat.add_comm 1]
  have e2 : (w ++ c :: r).drop (w.length + ([c] : List UInt8).length) = r := hd
  rw [e2]
  exact key _
theorem EL {n : Int} (h : 0 ≤ n) : Lib.itoa n = Lib.decDigits n.toNat := by
  have := Lib.itoa_nonneg n.toNat
  rw [show ((n.toNat : Nat) : Int) = n by omega] at this; exact this
theorem FQ (s : List UInt8) (hs : s.length ≤ 1000000) (c : UInt8) (step : Int → Option (Int ⊕ Int)) (hst : ∀ x : Int, step x = (if x < (s.length : Int) then (ix s x).bind fun x4 => some (decide ((x4.toNat : Int) ≠ (c.toNat : Int))) else some false).bind fun x3 => (if x3 = true then some (.inl (BE (x + 1))) else some (.inr x))) :
    ∀ (l : List UInt8) (a : Nat), s.drop a = l → a ≤ s.length → (∀ w r, l = w ++ c :: r → c ∉ w → AH step (a : Int) = some ((a + w.length : Nat) : Int)) ∧ (c ∉ l → AH step (a : Int) = some (s.length : Int))
  | [], a, h, ha => by
    have hlen : s.length ≤ a := List.drop_eq_nil_iff.1 h
    refine ⟨fun w r e => absurd e (by simp), fun _ => ?_⟩
    rw [Aq (by rw [hst, if_neg (by omega)]; rfl), show a = s.length by omega]
  | x :: l, a, h, ha => by
    have hg : s[a]? = some x := by rw [← List.head?_drop, h]; rfl
    have hlt : a < s.length := (List.getElem?_eq_some_iff.1 hg).1
    have hd : s.drop (a + 1) = l := by rw [← List.tail_drop, h]; rfl
    obtain ⟨i1, i2⟩ := FQ s hs c step hst l (a + 1) hd (by omega)
    have hone : step (a : Int) = if x = c then some (.inr (a : Int)) else some (.inl ((a + 1 : Nat) : Int)) := by
      rw [hst, if_pos (by omega), BM hg, Option.bind_some, Option.bind_some]
      by_cases e : x = c
      · rw [if_pos e, if_neg (by rw [e]; simp)]
      · have : (x.toNat : Int) ≠ (c.toNat : Int) := fun h => e (UInt8.toNat_inj.1 (by omega))
        rw [if_neg e, if_pos (decide_eq_true this), AP (by omega)]; rfl
    refine ⟨fun w r e hw => ?_, fun hn => ?_⟩
    · cases w with
      | nil =>
        have e1 : x = c := by simpa using congrArg List.head? e
        rw [Aq (hone.trans (if_pos e1))]; rfl
      | cons y w =>
        simp only [List.cons_append, List.cons.injEq] at e
        obtain ⟨rfl, e⟩ := e
        rw [AQ (hone.trans (if_neg fun h => hw (by rw [h]; exact List.mem_cons_self ..))), i1 w r e fun h => hw (List.mem_cons_of_mem _ h), List.length_cons]
        congr 2; omega
    · rw [AQ (hone.trans (if_neg fun h => hn (by rw [h]; exact List.mem_cons_self ..)))]
      exact i2 fun h => hn (List.mem_cons_of_mem _ h)
theorem Ju : ∀ k : Nat, 1 ≤ 10 ^ k
  | 0 => Nat.le_refl _
  | k + 1 => by have := Ju k; rw [Nat.pow_succ]; omega
theorem DZ {c : UInt8} : ∀ {l : List UInt8}, c ∈ l → ∃ w r, l = w ++ c :: r ∧ c ∉ w
  | x :: l, h => by
    by_cases e : x = c
    · exact ⟨[], l, by rw [e]; rfl, by simp⟩
    · rcases List.mem_cons.1 h with h | h
      · exact absurd h.symm e
      · obtain ⟨w, r, e1, e2⟩ := DZ h
        refine ⟨x :: w, r, by rw [e1]; rfl, fun hm => ?_⟩
        rcases List.mem_cons.1 hm with h | h
        · exact e h.symm
        · exact e2 h
def BB : Nat → Nat → List UInt8 → Nat × Nat
  | 0, n, _ => (n, 0)
  | _ + 1, n, [] => (n, 0)
  | k + 1, n, c :: r => if FT c then ((BB k (n * 10 + (c.toNat - 48)) r).1, (BB k (n * 10 + (c.toNat - 48)) r).2 + 1) else (n, 0)
theorem D8 : ∀ (k n : Nat) (l : List UInt8), (BB k n l).1 < (n + 1) * 10 ^ k ∧ (BB k n l).2 ≤ k ∧ (BB k n l).2 ≤ l.length
  | 0, n, l => by simp [BB]
  | k + 1, n, [] => by
    have : 1 ≤ 10 ^ (k + 1) := Ju _
    refine ⟨?_, by simp [BB], by simp [BB]⟩
    show n < _
    exact Nat.lt_of_lt_of_le (Nat.lt_succ_self n) (Nat.le_mul_of_pos_right _ this)
  | k + 1, n, c :: r => by
    have h1 : 1 ≤ 10 ^ (k + 1) := Ju _
    unfold BB
    by_cases hc : FT c
    · rw [if_pos hc]
      obtain ⟨i1, i2, i3⟩ := D8 k (n * 10 + (c.toNat - 48)) r
      refine ⟨Nat.lt_of_lt_of_le i1 ?_, by omega, by simp; omega⟩
      unfold FT at hc
      rw [Nat.pow_succ, Nat.mul_comm (10 ^ k) 10, ← Nat.mul_assoc]
      exact Nat.mul_le_mul_right _ (by omega)
    · rw [if_neg hc]
      exact ⟨Nat.lt_of_lt_of_le (Nat.lt_succ_self n) (Nat.le_mul_of_pos_right _ h1), by simp, by simp⟩
abbrev CI := Int × Int × Int
def hI (k : Int) : Prop := k = 2 ∨ k = 8 ∨ k = 10 ∨ k = 11
def hN (k : Int) : Prop := k ≠ 3 ∧ k ≠ 10 ∧ k ≠ 11
instance (k : Int) : Decidable (hI k) := by unfold hI; infer_instance
instance (k : Int) : Decidable (hN k) := by unfold hN; infer_instance
def Vs (s : CI) : Prop := (1 ≤ s.1 ∧ s.1 ≤ 11) ∧ (-1 ≤ s.2.1 ∧ s.2.1 ≤ 15) ∧ (-1000 ≤ s.2.2 ∧ s.2.2 ≤ 1048576) ∧ (hI s.1 ∨ s.2.1 = 0) ∧ (hN s.1 ∨ s.2.2 = 0)
instance (s : CI) : Decidable (Vs s) := by unfold Vs; infer_instance
theorem itoa_neg' {n : Int} (h : n < 0) : Lib.itoa n = 45 :: Lib.decDigits (-n).toNat := by
  have := Lib.itoa_neg (-n).toNat (by omega)
  rw [show -(((-n).toNat : Nat) : Int) = n by omega] at this; exact this
def Nb (n : Int) : Prop := -1000 ≤ n ∧ n ≤ 1048576
theorem Bi {n : Int} (h : Nb n) : Lib.atoiAll (Lib.itoa n) = .ok n := by
  unfold Nb at h
  by_cases c : 0 ≤ n
  · rw [EL c, Hu (by omega)]; congr 1; omega
  · rw [itoa_neg' (by omega)]
    obtain ⟨h1, h2, h3, h4⟩ := Ci 3 (-n).toNat (by omega)
    have hp : Lib.parseMag (Lib.decDigits (-n).toNat) = .ok (-n).toNat := by unfold Lib.parseMag; rw [if_neg h3, Fe _ 0 h1 (by rw [h2]; omega), h2]
    unfold Lib.atoiAll
    simp only
    rw [if_pos (by decide), hp]
    simp only
    rw [if_neg (by simp), if_neg (by omega), if_pos (by decide)]; congr 1; omega
theorem H0 {n : Int} (h : Nb n) : ∀ b ∈ Lib.itoa n, FT b ∨ b = 45 := fun b hb => by
  unfold Nb at h
  by_cases c : 0 ≤ n
  · rw [EL c] at hb
    exact .inl ((Ci 6 n.toNat (by omega)).1 b hb)
  · rw [itoa_neg' (by omega)] at hb
    rcases List.mem_cons.1 hb with rfl | hb
    · exact .inr rfl
    · exact .inl ((Ci 6 (-n).toNat (by omega)).1 b hb)
theorem Eg {n : Int} (h : Nb n) : (32 : UInt8) ∉ Lib.itoa n := fun hm => by
  rcases H0 h _ hm with hd | hd
  · revert hd; decide
  · revert hd; decide
theorem FO : ∀ (k n : Nat) (d r : List UInt8), (∀ b ∈ d, FT b) → (∀ c z, r = c :: z → ¬ FT c) → d.length ≤ k → BB k n (d ++ r) = (Eu n d, d.length)
  | 0, n, d, r, h1, h2, h3 => by
    have : d = [] := List.eq_nil_of_length_eq_zero (by omega)
    subst this; rfl
  | k + 1, n, [], r, h1, h2, h3 => by
    cases r with
    | nil => rfl
    | cons c z =>
      show BB (k + 1) n (c :: z) = _
      unfold BB; rw [if_neg (h2 c z rfl)]; rfl
  | k + 1, n, x :: d, r, h1, h2, h3 => by
    show BB (k + 1) n (x :: (d ++ r)) = _
    have hx : FT x := h1 x (List.mem_cons_self ..)
    have ih := FO k (n * 10 + (x.toNat - 48)) d r (fun b hb => h1 b (List.mem_cons_of_mem _ hb)) h2 (by simp at h3; omega)
    unfold BB
    rw [if_pos hx, ih]; rfl
def C9 (l : List UInt8) : Int × Nat := if l.head? = some 45 then (-((BB 7 0 l.tail).1 : Int), (BB 7 0 l.tail).2 + 1) else (((BB 7 0 l).1 : Int), (BB 7 0 l).2)
theorem EE {n : Int} (h : Nb n) (r : List UInt8) (hr : ∀ c z, r = c :: z → ¬ FT c) : C9 (Lib.itoa n ++ r) = (n, (Lib.itoa n).length) := by
  unfold Nb at h
  unfold C9
  by_cases c : 0 ≤ n
  · obtain ⟨h1, h2, h3, h4⟩ := Ci 6 n.toNat (by omega)
    rw [EL c]
    have hh : ¬ (Lib.decDigits n.toNat ++ r).head? = some 45 := by
      cases hl : Lib.decDigits n.toNat with
      | nil => exact absurd hl h3
      | cons x d =>
        intro e
        have e : x = 45 := by simpa using e
        have := h1 x (by rw [hl]; exact List.mem_cons_self ..)
        rw [e] at this; revert this; decide
    rw [if_neg hh, FO 7 0 _ r h1 hr h4, h2]
    refine Prod.ext ?_ rfl
    show ((n.toNat : Nat) : Int) = n; omega
  · obtain ⟨h1, h2, h3, h4⟩ := Ci 6 (-n).toNat (by omega)
    rw [itoa_neg' (by omega), List.cons_append, List.head?_cons, if_pos rfl, List.tail_cons, FO 7 0 _ r h1 hr h4, h2]
    refine Prod.ext ?_ rfl
    show -(((-n).toNat : Nat) : Int) = n; omega
theorem Ir (l : List UInt8) : (-10000000 < (C9 l).1 ∧ (C9 l).1 < 10000000) ∧ (C9 l).2 ≤ 8 := by
  unfold C9
  obtain ⟨h1, h2, h3⟩ := D8 7 0 l.tail
  obtain ⟨g1, g2, g3⟩ := D8 7 0 l
  have e : (0 + 1) * 10 ^ 7 = 10000000 := by decide
  rw [e] at h1 g1
  by_cases c : l.head? = some 45
  · rw [if_pos c]; exact ⟨⟨by show (-10000000 : Int) < -((BB 7 0 l.tail).1 : Int); omega, by show -((BB 7 0 l.tail).1 : Int) < _; omega⟩, by show (BB 7 0 l.tail).2 + 1 ≤ 8; omega⟩
  · rw [if_neg c]; exact ⟨⟨by show (-10000000 : Int) < ((BB 7 0 l).1 : Int); omega, by show ((BB 7 0 l).1 : Int) < _; omega⟩, by show (BB 7 0 l).2 ≤ 8; omega⟩
theorem EK (s : List UInt8) (hs : s.length ≤ 1000000) : ∀ (k j n a : Nat), j + k = 7 → n < 10 ^ j → a ≤ 2000000 → AH (A7 s) ((a : Int), (n : Int), (j : Int)) = some (((a + (BB k n (s.drop a)).2 : Nat) : Int), ((BB k n (s.drop a)).1 : Int))
  | 0, j, n, a, hj, hn, ha => by
    rw [Aq (by rw [A7, if_neg (by omega)]; rfl)]; rfl
  | k + 1, j, n, a, hj, hn, ha => by
    by_cases hlt : a < s.length
    · have hg : s[a]? = some s[a] := List.getElem?_eq_getElem hlt
      have hd : s.drop a = s[a] :: s.drop (a + 1) := List.drop_eq_getElem_cons hlt
      have hp : 10 ^ j ≤ 10 ^ 6 := Nat.pow_le_pow_right (by decide) (by omega)
      have hn' : n < 1000000 := by omega
      have h8 : s[a].toNat < 256 := s[a].toNat_lt
      rw [hd]
      by_cases hc : FT s[a]
      · have hb := hc
        unfold FT at hb
        have ih := EK s hs k (j + 1) (n * 10 + (s[a].toNat - 48)) (a + 1) (by omega) (by rw [Nat.pow_succ]; omega) (by omega)
        have f1 : BE ((a : Int) + 1) = (a : Int) + 1 := AP (by omega)
        have f2 : BE (10 * (n : Int)) = 10 * (n : Int) := AP (by omega)
        have f3 : BE (s[a].toNat : Int) = (s[a].toNat : Int) := AP (by omega)
        have f4 : BE (10 * (n : Int) + (s[a].toNat : Int)) = 10 * (n : Int) + (s[a].toNat : Int) := AP (by omega)
        have f5 : BE (10 * (n : Int) + (s[a].toNat : Int) - 48) = 10 * (n : Int) + (s[a].toNat : Int) - 48 := AP (by omega)
        have f6 : BE ((j : Int) + 1) = (j : Int) + 1 := AP (by omega)
        rw [AQ (s' := (((a + 1 : Nat) : Int), ((n * 10 + (s[a].toNat - 48) : Nat) : Int), ((j + 1 : Nat) : Int))) (by
          rw [A7, if_pos (by omega), if_pos (by omega), BM hg, Option.bind_some, if_pos (by omega), Option.bind_some, Option.bind_some, if_pos (decide_eq_true (by omega)), Option.bind_some, f1, f2, f3, f4, f5, f6]
          congr 3
          refine Prod.ext ?_ rfl
          show (10 * (n : Int) + (s[a].toNat : Int) - 48) = ((n * 10 + (s[a].toNat - 48) : Nat) : Int)
          omega), ih]
        rw [show BB (k + 1) n (s[a] :: s.drop (a + 1)) = ((BB k (n * 10 + (s[a].toNat - 48)) (s.drop (a + 1))).1, (BB k (n * 10 + (s[a].toNat - 48)) (s.drop (a + 1))).2 + 1) by rw [BB, if_pos hc]]
        congr 2
        show ((a + 1 + (BB k (n * 10 + (s[a].toNat - 48)) (s.drop (a + 1))).2 : Nat) : Int) = ((a + ((BB k (n * 10 + (s[a].toNat - 48)) (s.drop (a + 1))).2 + 1) : Nat) : Int)
        omega
      · rw [show BB (k + 1) n (s[a] :: s.drop (a + 1)) = (n, 0) by rw [BB, if_neg hc]]
        refine Aq ?_
        have hb : ¬ (48 ≤ s[a].toNat ∧ s[a].toNat ≤ 57) := hc
        rw [A7, if_pos (by omega), if_pos (by omega), BM hg, Option.bind_some]
        by_cases c1 : 48 ≤ (s[a].toNat : Int)
        · rw [if_pos c1, Option.bind_some, Option.bind_some, if_neg (by rw [decide_eq_true_eq]; omega)]; rfl
        · rw [if_neg c1]; rfl
    · have hd : s.drop a = [] := List.drop_eq_nil_iff.2 (by omega)
      rw [hd]
      refine Aq ?_
      rw [A7, if_pos (by omega), if_neg (by omega)]; rfl
theorem Fx (s : List UInt8) (hs : s.length ≤ 1000000) {a : Nat} (ha : a ≤ 1000000) : B6 s (a : Int) = some ((C9 (s.drop a)).1, ((a + (C9 (s.drop a)).2 : Nat) : Int)) := by
  obtain ⟨h1, h2, h3⟩ := D8 7 0 (s.drop a)
  obtain ⟨g1, g2, g3⟩ := D8 7 0 (s.drop (a + 1))
  have e : (0 + 1) * 10 ^ 7 = 10000000 := by decide
  rw [e] at h1 g1
  have ht : (s.drop a).tail = s.drop (a + 1) := List.tail_drop
  have l0 := EK s hs 7 0 0 a rfl (by decide) (by omega)
  have l1 := EK s hs 7 0 0 (a + 1) rfl (by decide) (by omega)
  have hh : ((if (a : Int) < (s.length : Int) then (ix s (a : Int)).bind fun x4 => some (decide ((x4.toNat : Int) = 45)) else some false) : Option Bool) = some (decide ((s.drop a).head? = some 45)) := by
    by_cases c : a < s.length
    · have hg : s[a]? = some s[a] := List.getElem?_eq_getElem c
      rw [if_pos (by omega), BM hg, Option.bind_some, List.head?_drop, hg]
      congr 1
      by_cases e : s[a] = 45
      · rw [e]; rfl
      · have : (s[a].toNat : Int) ≠ 45 := fun h => e (UInt8.toNat_inj.1 (show s[a].toNat = (45 : UInt8).toNat by have : (45 : UInt8).toNat = 45 := rfl; omega))
        rw [decide_eq_false this, decide_eq_false (fun h => e (Option.some.inj h))]
    · rw [if_neg (by omega), List.drop_eq_nil_iff.2 (by omega)]; rfl
  unfold B6 C9
  rw [hh, Option.bind_some]
  by_cases c : (s.drop a).head? = some 45
  · rw [if_pos (decide_eq_true c), if_pos c, Option.bind_some, AP (by omega)]
    show (AH (A7 s) (((a + 1 : Nat) : Int), ((0 : Nat) : Int), ((0 : Nat) : Int))).bind _ = _
    rw [l1, Option.bind_some, ht]
    show some (BE (-1 * ((BB 7 0 (s.drop (a + 1))).1 : Int)), ((a + 1 + (BB 7 0 (s.drop (a + 1))).2 : Nat) : Int)) = some (-((BB 7 0 (s.drop (a + 1))).1 : Int), ((a + ((BB 7 0 (s.drop (a + 1))).2 + 1) : Nat) : Int))
    rw [AP (by omega)]
    congr 2
    · omega
    · omega
  · rw [if_neg (by rw [decide_eq_true_eq]; exact c), if_neg c, Option.bind_some]
    show (AH (A7 s) ((a : Int), ((0 : Nat) : Int), ((0 : Nat) : Int))).bind _ = _
    rw [l0, Option.bind_some]
    show some (BE (1 * ((BB 7 0 (s.drop a)).1 : Int)), _) = _
    rw [AP (by omega), Int.one_mul]
theorem DF {k : Int} (h : 1 ≤ k ∧ k ≤ 11) : k = 1 ∨ k = 2 ∨ k = 3 ∨ k = 4 ∨ k = 5 ∨ k = 6 ∨ k = 7 ∨ k = 8 ∨ k = 9 ∨ k = 10 ∨ k = 11 := by omega
theorem FS {k : Int} (h : ¬ (1 ≤ k ∧ k ≤ 11)) : Ai k = [63] := by
  unfold Ai
  rw [if_neg (by omega), if_neg (by omega), if_neg (by omega), if_neg (by omega), if_neg (by omega), if_neg (by omega), if_neg (by omega), if_neg (by omega), if_neg (by omega), if_neg (by omega), if_neg (by omega)]
theorem Ig {k : Int} (h : 1 ≤ k ∧ k ≤ 11) : Ai k ≠ [63] := by
  rcases DF h with rfl | rfl | rfl | rfl | rfl | rfl | rfl | rfl | rfl | rfl | rfl <;> decide
theorem Dn (k : Int) : (Ai k).length ≤ 7 ∧ (∀ b ∈ Ai k, 36 ≤ b.toNat) ∧ Ai k ≠ [] := by
  by_cases h : 1 ≤ k ∧ k ≤ 11
  · rcases DF h with rfl | rfl | rfl | rfl | rfl | rfl | rfl | rfl | rfl | rfl | rfl <;> decide
  · rw [FS h]; decide
theorem Eb (k : Int) : (32 : UInt8) ∉ Ai k := fun hm => by have := (Dn k).2.1 _ hm; revert this; decide
theorem E0 {k : Int} (h : i64 k) : CA k = some (Ai k) := by
  unfold CA
  by_cases c : 1 ≤ k ∧ k ≤ 11
  · rw [if_neg (by rw [Bool.or_eq_true, decide_eq_true_eq, decide_eq_true_eq]; omega)]
    rcases DF c with rfl | rfl | rfl | rfl | rfl | rfl | rfl | rfl | rfl | rfl | rfl <;> rfl
  · rw [if_pos (by rw [Bool.or_eq_true, decide_eq_true_eq, decide_eq_true_eq]; omega), FS c]
def Hf (k : Int) : List UInt8 := if k = 1 ∨ k = 4 ∨ k = 5 ∨ k = 6 ∨ k = 7 ∨ k = 9 then [78] else if k = 2 ∨ k = 8 then [73, 78] else if k = 10 ∨ k = 11 then [73] else []
theorem DP (k : Int) : A3 k = some (Hf k) := by
  by_cases c : 1 ≤ k ∧ k ≤ 11
  · rcases DF c with rfl | rfl | rfl | rfl | rfl | rfl | rfl | rfl | rfl | rfl | rfl <;> rfl
  · unfold A3 Hf
    rw [if_neg (by omega), if_neg (by omega), if_neg (by omega), if_neg (by omega), if_neg (by omega), Option.bind_some, if_neg (by rw [decide_eq_true_eq]; omega), if_neg (by omega), Option.bind_some, if_neg (by rw [decide_eq_true_eq]; omega), if_neg (by omega), Option.bind_some, if_neg (by rw [decide_eq_true_eq]; omega), if_neg (by omega), if_neg (by omega), if_neg (by omega)]
theorem Ec {k : Int} (h : 1 ≤ k ∧ k ≤ 11) : (Hf k = [78] ∧ ¬ hI k ∧ hN k) ∨ (Hf k = [73, 78] ∧ hI k ∧ hN k) ∨ (Hf k = [73] ∧ hI k ∧ ¬ hN k) ∨ (Hf k = [] ∧ ¬ hI k ∧ ¬ hN k) := by
  rcases DF h with rfl | rfl | rfl | rfl | rfl | rfl | rfl | rfl | rfl | rfl | rfl <;> decide
theorem Hl {k : Int} (h : 1 ≤ k ∧ k ≤ 11) : BK (Hf k) [73] = some (decide (hI k)) ∧ BK (Hf k) [78] = some (decide (hN k)) := by
  rcases DF h with rfl | rfl | rfl | rfl | rfl | rfl | rfl | rfl | rfl | rfl | rfl <;> exact ⟨rfl, rfl⟩
theorem FM (s : CI) : BA s = some (decide (Vs s)) := by
  unfold BA
  rw [DP, Option.bind_some]
  by_cases c : 1 ≤ s.1 ∧ s.1 ≤ 11
  · obtain ⟨e1, e2⟩ := Hl c
    rw [if_pos (Ig c), e1, e2]
    simp only [Option.bind_some]
    by_cases a1 : -1 ≤ s.2.1
    · rw [if_pos a1]
      by_cases a2 : s.2.1 ≤ 15
      · rw [if_pos a2]
        by_cases a3 : -1000 ≤ s.2.2
        · rw [if_pos a3]
          by_cases a4 : s.2.2 ≤ 1048576
          · rw [if_pos a4]
            by_cases a5 : s.2.1 = 0
            · rw [if_pos a5]
              by_cases a6 : s.2.2 = 0
              · rw [if_pos a6, decide_eq_true (show Vs s from ⟨c, ⟨a1, a2⟩, ⟨a3, a4⟩, .inr a5, .inr a6⟩)]; rfl
              · rw [if_neg a6]
                by_cases b : hN s.1
                · rw [decide_eq_true b, decide_eq_true (show Vs s from ⟨c, ⟨a1, a2⟩, ⟨a3, a4⟩, .inr a5, .inl b⟩)]; rfl
                · rw [decide_eq_false b, decide_eq_false (fun h : Vs s => h.2.2.2.2.elim b a6)]; rfl
            · rw [if_neg a5]
              by_cases b0 : hI s.1
              · rw [if_pos (decide_eq_true b0)]
                by_cases a6 : s.2.2 = 0
                · rw [if_pos a6, decide_eq_true (show Vs s from ⟨c, ⟨a1, a2⟩, ⟨a3, a4⟩, .inl b0, .inr a6⟩)]; rfl
                · rw [if_neg a6]
                  by_cases b : hN s.1
                  · rw [decide_eq_true b, decide_eq_true (show Vs s from ⟨c, ⟨a1, a2⟩, ⟨a3, a4⟩, .inl b0, .inl b⟩)]; rfl
                  · rw [decide_eq_false b, decide_eq_false (fun h : Vs s => h.2.2.2.2.elim b a6)]; rfl
              · rw [if_neg (by rw [decide_eq_true_eq]; exact b0), decide_eq_false (fun h : Vs s => h.2.2.2.1.elim b0 a5)]; rfl
          · rw [if_neg a4, decide_eq_false (fun h : Vs s => a4 h.2.2.1.2)]; rfl
        · rw [if_neg a3, decide_eq_false (fun h : Vs s => a3 h.2.2.1.1)]; rfl
      · rw [if_neg a2, decide_eq_false (fun h : Vs s => a2 h.2.1.2)]; rfl
    · rw [if_neg a1, decide_eq_false (fun h : Vs s => a1 h.2.1.1)]; rfl
  · rw [if_neg (by rw [FS c]; exact fun h => h rfl), decide_eq_false (fun h : Vs s => c h.1)]; rfl
theorem FD (k : Int) : Bk k = decide (hI k) := by
  unfold Bk hI
  rw [Bool.eq_iff_iff]; simp; exact decide_eq_true_iff.symm
theorem FF (k : Int) : Bl k = decide (hN k) := by
  unfold Bl hN
  rw [Bool.eq_iff_iff]; simp; exact decide_eq_true_iff.symm
theorem D2 (s : CI) : Bx s = decide (Vs s) := by
  unfold Bx
  rw [FD, FF]
  by_cases c : s.1 < 1 ∨ 11 < s.1 ∨ s.2.1 < -1 ∨ 15 < s.2.1 ∨ s.2.2 < -1000 ∨ 1048576 < s.2.2
  · rw [if_pos (by simpa using c), decide_eq_false (fun h : Vs s => by obtain ⟨h1, h2, h3, _⟩ := h; omega)]
  · rw [if_neg (by simpa using c)]
    by_cases b0 : hI s.1 ∨ s.2.1 = 0
    · rw [if_neg (by simp; intro h; exact b0.elim (fun q => absurd q h) id)]
      by_cases b1 : hN s.1 ∨ s.2.2 = 0
      · rw [decide_eq_true (show Vs s from ⟨by omega, by omega, by omega, b0, b1⟩)]; simpa using b1
      · rw [decide_eq_false (fun h : Vs s => b1 h.2.2.2.2)]; simpa using b1
    · rw [if_pos (by simpa using b0), decide_eq_false (fun h : Vs s => b0 h.2.2.2.1)]
def DA (p : Prop) [Decidable p] (n : Int) : List UInt8 := if p then 32 :: Lib.itoa n else []
def Bd (s : CI) : List UInt8 := Ai s.1 ++ (DA (hI s.1) s.2.1 ++ DA (hN s.1) s.2.2)
def D1 (s : CI) : List UInt8 := if Vs s then Bd s else []
theorem Vs.nb {s : CI} (h : Vs s) : Nb s.2.1 ∧ Nb s.2.2 := by obtain ⟨_, h2, h3, _⟩ := h; unfold Nb; omega
theorem Nb.i {n : Int} (h : Nb n) : i64 n := by unfold Nb at h; constructor <;> omega
theorem Dr {s : CI} {L : List UInt8} {i : Nat} {c : UInt8} (hi5 : i ≤ 5) (hc : L[i]? = some c) {x : List UInt8} (hx : x.length ≤ 1000) {n : Int} (hn : Nb n) (e : (if (c.toNat : Int) = 73 then s.2.1 else s.2.2) = n) : Bc s L (x, (i : Int)) = some (.inl (x ++ 32 :: Lib.itoa n, ((i + 1 : Nat) : Int))) := by
  have hi := (List.getElem?_eq_some_iff.1 hc).1
  have hl := CL hn.i
  have e2 : ((if (c.toNat : Int) = 73 then some s.2.1 else some s.2.2) : Option Int) = some n := by
    by_cases q : (c.toNat : Int) = 73
    · rw [if_pos q] at e ⊢; rw [e]
    · rw [if_neg q] at e ⊢; rw [e]
  rw [Bc, if_pos (by omega), BM hc, Option.bind_some, e2, Option.bind_some, Ic hn.i, Option.bind_some, Bw (by simp; omega), Option.bind_some, Bw (by simp; omega), Option.bind_some, AP (by omega)]
  rfl
theorem DW {s : CI} {L x : List UInt8} {j : Nat} (h : j = L.length) : Bc s L (x, (j : Int)) = some (.inr x) := by rw [Bc, if_neg (by omega)]
theorem FW (s : CI) : Ba s = some (D1 s) := by
  unfold Ba D1
  rw [FM, Option.bind_some]
  by_cases c : Vs s
  · rw [if_neg (by simp [c]), if_pos c, DP, Option.bind_some]
    obtain ⟨n1, n2⟩ := c.nb
    have hw := (Dn s.1).1
    have l1 := CL n1.i
    unfold Bd DA
    rcases Ec c.1 with ⟨e, a, b⟩ | ⟨e, a, b⟩ | ⟨e, a, b⟩ | ⟨e, a, b⟩
    · rw [e, if_neg a, if_pos b, show ((Ai s.1, (0 : Int))) = (Ai s.1, ((0 : Nat) : Int)) from rfl, AQ (Dr (by omega) (c := 78) rfl (by omega) n2 rfl), Aq (DW (L := [78]) (j := 0 + 1) rfl)]; simp
    · rw [e, if_pos a, if_pos b, show ((Ai s.1, (0 : Int))) = (Ai s.1, ((0 : Nat) : Int)) from rfl, AQ (Dr (by omega) (c := 73) rfl (by omega) n1 rfl), AQ (Dr (by omega) (c := 78) rfl (by simp; omega) n2 rfl), Aq (DW (L := [73, 78]) (j := 0 + 1 + 1) rfl)]; simp
    · rw [e, if_pos a, if_neg b, show ((Ai s.1, (0 : Int))) = (Ai s.1, ((0 : Nat) : Int)) from rfl, AQ (Dr (by omega) (c := 73) rfl (by omega) n1 rfl), Aq (DW (L := [73]) (j := 0 + 1) rfl)]; simp
    · rw [e, if_neg a, if_neg b, show ((Ai s.1, (0 : Int))) = (Ai s.1, ((0 : Nat) : Int)) from rfl, Aq (DW (L := []) (j := 0) rfl)]; simp
  · rw [if_pos (by simp [c]), if_neg c]
theorem EQ (s : CI) : Cl s = some (D1 s) := by
  unfold Cl D1
  rw [D2]
  by_cases c : Vs s
  · obtain ⟨n1, n2⟩ := c.nb
    have hw := (Dn s.1).1
    have l1 := CL n1.i
    have l2 := CL n2.i
    rw [if_neg (by simp [c]), if_pos c, E0 ⟨by have := c.1; omega, by have := c.1; omega⟩, Option.bind_some, FD, FF]
    unfold Bd DA
    by_cases a : hI s.1
    · rw [if_pos (decide_eq_true a), if_pos a, Bw (by simp; omega), Option.bind_some, D9 n1.i, Option.bind_some, Bw (by simp; omega), Option.bind_some, Option.bind_some]
      by_cases b : hN s.1
      · rw [if_pos (decide_eq_true b), if_pos b, Bw (by simp; omega), Option.bind_some, D9 n2.i, Option.bind_some, Bw (by simp; omega), Option.bind_some, Option.bind_some]; simp
      · rw [if_neg (by simpa using b), if_neg b, Option.bind_some]; simp
    · rw [if_neg (by simpa using a), if_neg a, Option.bind_some]
      by_cases b : hN s.1
      · rw [if_pos (decide_eq_true b), if_pos b, Bw (by simp; omega), Option.bind_some, D9 n2.i, Option.bind_some, Bw (by simp; omega), Option.bind_some, Option.bind_some]; simp
      · rw [if_neg (by simpa using b), if_neg b, Option.bind_some]; simp
  · rw [if_pos (by simp [c]), if_neg c]
theorem F7 {s : CI} (h : Vs s) : (Bd s).length ≤ 51 := by
  obtain ⟨n1, n2⟩ := h.nb
  have hw := (Dn s.1).1
  have l1 := CL n1.i
  have l2 := CL n2.i
  unfold Bd DA
  by_cases a : hI s.1 <;> by_cases b : hN s.1 <;> simp [a, b] <;> omega
def Hm (t : List UInt8) (x : CI) (b : Bool) : Prop := (b = true → Vs x ∧ Bd x = t) ∧ ∀ r, Vs r → Bd r = t → b = true ∧ x = r
theorem F5 {t : List UInt8} (ht : t ≠ []) {x : CI} (h : ∀ r, Vs r → Bd r = t → x = r) : Hm t x (decide (D1 x = t)) := by
  unfold D1
  refine ⟨fun hb => ?_, fun r hr e => ?_⟩
  · have hb := of_decide_eq_true hb
    by_cases c : Vs x
    · rw [if_pos c] at hb; exact ⟨c, hb⟩
    · rw [if_neg c] at hb; exact absurd hb.symm ht
  · obtain rfl := h r hr e
    exact ⟨decide_eq_true (by rw [if_pos hr]; exact e), rfl⟩
theorem Cd {t : List UInt8} {x : CI} (h : ∀ r, Vs r → Bd r = t → False) : Hm t x false := ⟨fun h => (by cases h), fun r hr e => (h r hr e).elim⟩
def JU (w : List UInt8) : Int := if Ai 1 = w then 1 else if Ai 2 = w then 2 else if Ai 3 = w then 3 else if Ai 4 = w then 4 else if Ai 5 = w then 5 else if Ai 6 = w then 6 else if Ai 7 = w then 7 else if Ai 8 = w then 8 else if Ai 9 = w then 9 else if Ai 10 = w then 10 else if Ai 11 = w then 11 else 0
theorem DT {k : Int} (h : 1 ≤ k ∧ k ≤ 11) : JU (Ai k) = k := by
  rcases DF h with rfl | rfl | rfl | rfl | rfl | rfl | rfl | rfl | rfl | rfl | rfl <;> decide
theorem Fu (w : List UInt8) : ∀ (d k : Nat), 1 ≤ k → k + d = 12 → (∃ z : Int, Fh (AH (AZ w) (k : Int)) (fun _ => some 0) = some z ∧ (0 ≤ z ∧ z ≤ 11) ∧ ∀ j : Nat, k ≤ j → j ≤ 11 → Ai (j : Int) = w → z = j)
  | 0, k, h1, h2 => ⟨0, by rw [Aq (by rw [AZ, if_neg (by omega)])]; rfl, by omega, fun j a b => by omega⟩
  | d + 1, k, h1, h2 => by
    by_cases c : Ai (k : Int) = w
    · refine ⟨(k : Int), by rw [Aq (e := .inr (k : Int)) (by rw [AZ, if_pos (by omega), if_pos c])]; rfl, by omega, fun j a b e => ?_⟩
      have h3 := DT (k := (k : Int)) (by omega)
      have h4 := DT (k := (j : Int)) (by omega)
      rw [e, ← c] at h4
      omega
    · obtain ⟨z, e1, e2, e3⟩ := Fu w d (k + 1) (by omega) (by omega)
      refine ⟨z, by rw [AQ (s' := ((k + 1 : Nat) : Int)) (by rw [AZ, if_pos (by omega), if_neg c, AP (by omega)]; rfl)]; exact e1, e2, fun j a b e => ?_⟩
      by_cases q : j = k
      · subst q; exact absurd e c
      · exact e3 j (by omega) b e
theorem Iu (w : List UInt8) : ∃ z : Int, BD w = some z ∧ (0 ≤ z ∧ z ≤ 11) ∧ ∀ k : Int, 1 ≤ k ∧ k ≤ 11 → Ai k = w → z = k := by
  obtain ⟨z, e1, e2, e3⟩ := Fu w 11 1 (by omega) rfl
  refine ⟨z, e1, e2, fun k hk e => ?_⟩
  have := e3 k.toNat (by omega) (by omega) (by rw [show ((k.toNat : Nat) : Int) = k by omega]; exact e)
  omega
def Em (s : CI) : List (List UInt8) := (if hI s.1 then [Lib.itoa s.2.1] else []) ++ (if hN s.1 then [Lib.itoa s.2.2] else [])
theorem Gv {s : CI} (h : Vs s) : Lib.split (Bd s) [32] = Ai s.1 :: Em s := by
  obtain ⟨n1, n2⟩ := h.nb
  unfold Bd DA Em
  by_cases a : hI s.1
  · rw [if_pos a, if_pos a]
    by_cases b : hN s.1
    · rw [if_pos b, if_pos b, List.cons_append, CT (Eb _), CT (Eg n1), CO (Eg n2)]; rfl
    · rw [if_neg b, if_neg b, List.cons_append, List.append_nil, CT (Eb _), CO (Eg n1)]; rfl
  · rw [if_neg a, if_neg a]
    by_cases b : hN s.1
    · rw [if_pos b, if_pos b, List.nil_append, CT (Eb _), CO (Eg n2)]; rfl
    · rw [if_neg b, if_neg b, List.nil_append, List.append_nil, CO (Eb _)]; rfl
theorem Gx (c : UInt8) (s : List UInt8) : ∃ w r, Lib.split s [c] = w :: r := by
  by_cases h : c ∈ s
  · obtain ⟨w, r, e, hw⟩ := DZ h
    rw [e, CT hw]; exact ⟨_, _, rfl⟩
  · rw [CO h]; exact ⟨_, _, rfl⟩
theorem Do {W : List (List UInt8)} {L : List UInt8} {i : Nat} {c : UInt8} {p : List UInt8} (hc : L[i]? = some c) (hp : W[i + 1]? = some p) (hl : p.length ≤ 10000) (hi : i ≤ 5) (a b : Int) :
    Ap W L ((i : Int), a, b) = match Lib.atoiAll p with | .ok v => some (.inl (((i + 1 : Nat) : Int), (if (c.toNat : Int) = 73 then v else a), (if (c.toNat : Int) = 73 then b else v))) | _ => some (.inr (.inr ((0, 0, 0), false))) := by
  have hi2 := (List.getElem?_eq_some_iff.1 hc).1
  rw [Ap, if_pos (by omega), AP (by omega), show ((i : Int) + 1) = ((i + 1 : Nat) : Int) from rfl, BM hp, Option.bind_some]
  unfold Gp
  rw [if_pos (by omega)]
  cases Lib.atoiAll p with
  | ok v =>
    simp only [Option.bind_some, GI]
    rw [BM hc, Option.bind_some]
    by_cases q : (c.toNat : Int) = 73
    · rw [if_pos q, if_pos q, if_pos q]; rfl
    · rw [if_neg q, if_neg q, if_neg q]; rfl
  | «syntax» => rfl
  | range => rfl
theorem Ht {t : List UInt8} (ht : t.length ≤ 5000) (hne : t ≠ []) : ∃ x b, AN t = some (x, b) ∧ Hm t x b := by
  have hmem : ∀ p ∈ Lib.split t [32], p.length ≤ 10000 := fun p hp => Nat.le_trans (Fs [32] _ t p hp) (by omega)
  have hsp : ∀ r, Vs r → Bd r = t → Lib.split t [32] = Ai r.1 :: Em r := fun r hr e => by rw [← e]; exact Gv hr
  obtain ⟨w, ps, hW⟩ := Gx 32 t
  obtain ⟨k, hk1, hk2, hk3⟩ := Iu w
  unfold AN Df
  rw [if_pos ⟨by omega, by decide⟩, Option.bind_some]
  rw [hW] at hmem hsp ⊢
  rw [show ix (w :: ps) 0 = some w from rfl, Option.bind_some, hk1, Option.bind_some, DP, Option.bind_some]
  have hr : ∀ r, Vs r → Bd r = t → k = r.1 ∧ ps = Em r := fun r hr e => by
    have := hsp r hr e
    simp only [List.cons.injEq] at this
    exact ⟨hk3 r.1 hr.1 this.1.symm, this.2⟩
  have hLl : (Hf k).length ≤ 2 := by unfold Hf; split <;> (try split) <;> (try split) <;> decide
  by_cases c : ((w :: ps).length : Int) ≠ BE (1 + ((Hf k).length : Int))
  · rw [if_pos c]
    refine ⟨_, _, rfl, Cd fun r hv e => c ?_⟩
    obtain ⟨rfl, rfl⟩ := hr r hv e
    rw [AP (by omega), List.length_cons]
    unfold Em
    rcases Ec hv.1 with ⟨e, a, b⟩ | ⟨e, a, b⟩ | ⟨e, a, b⟩ | ⟨e, a, b⟩ <;> rw [e] <;> simp [a, b]
  · rw [if_neg c]
    rw [AP (by omega), List.length_cons] at c
    have hlen : ps.length = (Hf k).length := by omega
    have fin : ∀ {a b : Int}, (∀ r, Vs r → Bd r = t → ((k, a, b) : CI) = r) → ∃ x q, ((Ba (k, a, b)).bind fun x17 => some (((k, a, b) : CI), decide (x17 = t))) = some (x, q) ∧ Hm t x q := fun {a b} h => by
      rw [FW, Option.bind_some]; exact ⟨_, _, rfl, F5 hne h⟩
    have zI : ∀ r, Vs r → ¬ hI r.1 → r.2.1 = 0 := fun r hv h => hv.2.2.2.1.elim (fun q => absurd q h) id
    have zN : ∀ r, Vs r → ¬ hN r.1 → r.2.2 = 0 := fun r hv h => hv.2.2.2.2.elim (fun q => absurd q h) id
    by_cases hk0 : k = 0
    · have hL : Hf k = [] := by rw [hk0]; rfl
      rw [hL]
      rw [Aq (by rw [Ap, if_neg (by decide)])]
      exact fin fun r hv e => by have := (hr r hv e).1; have := hv.1; omega
    · rcases Ec (k := k) (by omega) with ⟨e, ha, hb⟩ | ⟨e, ha, hb⟩ | ⟨e, ha, hb⟩ | ⟨e, ha, hb⟩
      · rw [e] at hlen ⊢
        obtain ⟨p, rfl⟩ : ∃ p, ps = [p] := List.length_eq_one_iff.1 hlen
        have s0 := Do (W := [w, p]) (L := [78]) (i := 0) (c := 78) rfl rfl (hmem p (by simp)) (by omega) 0 0
        rw [show ((0 : Int), (0 : Int), (0 : Int)) = (((0 : Nat) : Int), (0 : Int), (0 : Int)) from rfl]
        have hnum : ∀ r, Vs r → Bd r = t → k = r.1 ∧ p = Lib.itoa r.2.2 := fun r hv e => by
          obtain ⟨e1, e2⟩ := hr r hv e
          subst e1
          unfold Em at e2
          rw [if_neg ha, if_pos hb] at e2
          simp at e2
          exact ⟨rfl, e2⟩
        cases hat : Lib.atoiAll p with
        | ok v =>
          rw [hat] at s0
          rw [AQ s0, show AH (Ap [w, p] [78]) (((0 + 1 : Nat) : Int), (if ((78 : UInt8).toNat : Int) = 73 then v else 0), (if ((78 : UInt8).toNat : Int) = 73 then 0 else v)) = some (.inl (0, v)) from Aq (by rw [Ap, if_neg (by decide)]; rfl)]
          refine fin fun r hv e => ?_
          obtain ⟨e1, e2⟩ := hnum r hv e
          rw [e2, Bi hv.nb.2] at hat
          cases hat
          have h0 := zI r hv (by rw [← e1]; exact ha)
          rw [e1, ← h0]
        | «syntax» =>
          rw [hat] at s0
          rw [Aq s0]
          refine ⟨_, _, rfl, Cd fun r hv e => ?_⟩
          rw [(hnum r hv e).2, Bi hv.nb.2] at hat; cases hat
        | range =>
          rw [hat] at s0
          rw [Aq s0]
          refine ⟨_, _, rfl, Cd fun r hv e => ?_⟩
          rw [(hnum r hv e).2, Bi hv.nb.2] at hat; cases hat
      · rw [e] at hlen ⊢
        obtain ⟨p, q, rfl⟩ : ∃ p q, ps = [p, q] := by
          match ps, hlen with
          | [p, q], _ => exact ⟨p, q, rfl⟩
        have s0 := Do (W := [w, p, q]) (L := [73, 78]) (i := 0) (c := 73) rfl rfl (hmem p (by simp)) (by omega) 0 0
        rw [show ((0 : Int), (0 : Int), (0 : Int)) = (((0 : Nat) : Int), (0 : Int), (0 : Int)) from rfl]
        have hnum : ∀ r, Vs r → Bd r = t → k = r.1 ∧ p = Lib.itoa r.2.1 ∧ q = Lib.itoa r.2.2 := fun r hv e => by
          obtain ⟨e1, e2⟩ := hr r hv e
          subst e1
          unfold Em at e2
          rw [if_pos ha, if_pos hb] at e2
          simp at e2
          exact ⟨rfl, e2⟩
        cases hat : Lib.atoiAll p with
        | ok v =>
          rw [hat] at s0
          have s1 := Do (W := [w, p, q]) (L := [73, 78]) (i := 1) (c := 78) rfl rfl (hmem q (by simp)) (by omega) v 0
          rw [AQ s0]
          cases hat2 : Lib.atoiAll q with
          | ok u =>
            rw [hat2] at s1
            rw [show AH (Ap [w, p, q] [73, 78]) (((0 + 1 : Nat) : Int), (if ((73 : UInt8).toNat : Int) = 73 then v else 0), (if ((73 : UInt8).toNat : Int) = 73 then 0 else v)) = _ from AQ s1, show AH (Ap [w, p, q] [73, 78]) (((1 + 1 : Nat) : Int), (if ((78 : UInt8).toNat : Int) = 73 then u else v), (if ((78 : UInt8).toNat : Int) = 73 then 0 else u)) = some (.inl (v, u)) from Aq (by rw [Ap, if_neg (by decide)]; rfl)]
            refine fin fun r hv e => ?_
            obtain ⟨e1, e2, e3⟩ := hnum r hv e
            rw [e2, Bi hv.nb.1] at hat
            rw [e3, Bi hv.nb.2] at hat2
            cases hat; cases hat2
            rw [e1]
          | «syntax» =>
            rw [hat2] at s1
            rw [show AH (Ap [w, p, q] [73, 78]) (((0 + 1 : Nat) : Int), (if ((73 : UInt8).toNat : Int) = 73 then v else 0), (if ((73 : UInt8).toNat : Int) = 73 then 0 else v)) = _ from Aq s1]
            refine ⟨_, _, rfl, Cd fun r hv e => ?_⟩
            rw [(hnum r hv e).2.2, Bi hv.nb.2] at hat2; cases hat2
          | range =>
            rw [hat2] at s1
            rw [show AH (Ap [w, p, q] [73, 78]) (((0 + 1 : Nat) : Int), (if ((73 : UInt8).toNat : Int) = 73 then v else 0), (if ((73 : UInt8).toNat : Int) = 73 then 0 else v)) = _ from Aq s1]
            refine ⟨_, _, rfl, Cd fun r hv e => ?_⟩
            rw [(hnum r hv e).2.2, Bi hv.nb.2] at hat2; cases hat2
        | «syntax» =>
          rw [hat] at s0
          rw [Aq s0]
          refine ⟨_, _, rfl, Cd fun r hv e => ?_⟩
          rw [(hnum r hv e).2.1, Bi hv.nb.1] at hat; cases hat
        | range =>
          rw [hat] at s0
          rw [Aq s0]
          refine ⟨_, _, rfl, Cd fun r hv e => ?_⟩
          rw [(hnum r hv e).2.1, Bi hv.nb.1] at hat; cases hat
      · rw [e] at hlen ⊢
        obtain ⟨p, rfl⟩ : ∃ p, ps = [p] := List.length_eq_one_iff.1 hlen
        have s0 := Do (W := [w, p]) (L := [73]) (i := 0) (c := 73) rfl rfl (hmem p (by simp)) (by omega) 0 0
        rw [show ((0 : Int), (0 : Int), (0 : Int)) = (((0 : Nat) : Int), (0 : Int), (0 : Int)) from rfl]
        have hnum : ∀ r, Vs r → Bd r = t → k = r.1 ∧ p = Lib.itoa r.2.1 := fun r hv e => by
          obtain ⟨e1, e2⟩ := hr r hv e
          subst e1
          unfold Em at e2
          rw [if_pos ha, if_neg hb] at e2
          simp at e2
          exact ⟨rfl, e2⟩
        cases hat : Lib.atoiAll p with
        | ok v =>
          rw [hat] at s0
          rw [AQ s0, show AH (Ap [w, p] [73]) (((0 + 1 : Nat) : Int), (if ((73 : UInt8).toNat : Int) = 73 then v else 0), (if ((73 : UInt8).toNat : Int) = 73 then 0 else v)) = some (.inl (v, 0)) from Aq (by rw [Ap, if_neg (by decide)]; rfl)]
          refine fin fun r hv e => ?_
          obtain ⟨e1, e2⟩ := hnum r hv e
          rw [e2, Bi hv.nb.1] at hat
          cases hat
          have h0 := zN r hv (by rw [← e1]; exact hb)
          rw [e1, ← h0]
        | «syntax» =>
          rw [hat] at s0
          rw [Aq s0]
          refine ⟨_, _, rfl, Cd fun r hv e => ?_⟩
          rw [(hnum r hv e).2, Bi hv.nb.1] at hat; cases hat
        | range =>
          rw [hat] at s0
          rw [Aq s0]
          refine ⟨_, _, rfl, Cd fun r hv e => ?_⟩
          rw [(hnum r hv e).2, Bi hv.nb.1] at hat; cases hat
      · rw [e] at hlen ⊢
        rw [Aq (by rw [Ap, if_neg (by decide)])]
        refine fin fun r hv e => ?_
        have e1 := (hr r hv e).1
        have h0 := zI r hv (by rw [← e1]; exact ha)
        have h1 := zN r hv (by rw [← e1]; exact hb)
        rw [e1]
        refine Prod.ext rfl (Prod.ext h0.symm h1.symm)
theorem DL (s : List UInt8) {x : Int} {w : List UInt8} (h : CK s 0 x = some w) : ∀ (d k : Nat) (z : Int), 1 ≤ k → k + d = 12 → (0 ≤ z ∧ z ≤ 11) → (∃ y : Int, AH (BJ s x) ((k : Int), z) = some y ∧ (0 ≤ y ∧ y ≤ 11) ∧ ∀ j : Int, 1 ≤ j ∧ j ≤ 11 → Ai j = w → (j < k → z = j) → y = j)
  | 0, k, z, h1, h2, hz => ⟨z, Aq (by rw [BJ, if_neg (by omega)]), hz, fun j a b e => e (by omega)⟩
  | d + 1, k, z, h1, h2, hz => by
    have st : BJ s x ((k : Int), z) = some (.inl (((k + 1 : Nat) : Int), if Ai (k : Int) = w then (k : Int) else z)) := by
      rw [BJ, if_pos (by omega), E0 ⟨by omega, by omega⟩, Option.bind_some, h, Option.bind_some, AP (by omega)]
      by_cases c : Ai (k : Int) = w
      · rw [if_pos c, if_pos c]; rfl
      · rw [if_neg c, if_neg c]; rfl
    rw [AQ st]
    by_cases c : Ai (k : Int) = w
    · rw [if_pos c]
      obtain ⟨y, e1, e2, e3⟩ := DL s h d (k + 1) (k : Int) (by omega) (by omega) (by omega)
      refine ⟨y, e1, e2, fun j a b q => e3 j a b fun hj => ?_⟩
      have h3 := DT (k := (k : Int)) (by omega)
      have h4 := DT a
      rw [b, ← c] at h4
      omega
    · rw [if_neg c]
      obtain ⟨y, e1, e2, e3⟩ := DL s h d (k + 1) z (by omega) (by omega) hz
      refine ⟨y, e1, e2, fun j a b q => e3 j a b fun hj => q ?_⟩
      by_cases e : j = k
      · subst e; exact absurd b c
      · omega
theorem Hp {t : List UInt8} (ht : t.length ≤ 5000) (hne : t ≠ []) : ∃ x b, Co t = some (x, b) ∧ Hm t x b := by
  have hf := FQ t (by omega) 32 (CC t) (fun x => rfl) t 0 rfl (Nat.zero_le _)
  obtain ⟨a, ha, hal⟩ : ∃ a : Nat, AH (CC t) 0 = some (a : Int) ∧ a ≤ t.length := by
    by_cases c : (32 : UInt8) ∈ t
    · obtain ⟨w, r, e, hw⟩ := DZ c
      refine ⟨0 + w.length, hf.1 w r e hw, ?_⟩
      rw [e]; simp
    · exact ⟨_, hf.2 c, Nat.le_refl _⟩
  have hsub : CK t 0 (a : Int) = some (t.take a) := by rw [FG (by omega)]; simp
  obtain ⟨k, hk1, hk2, hk3⟩ := DL t hsub 11 1 0 (by omega) rfl (by omega)
  have hk1 : AH (BJ t (a : Int)) (1, 0) = some k := hk1
  have hk4 : ∀ j : Int, 1 ≤ j ∧ j ≤ 11 → Ai j = t.take a → k = j := fun j hj e => hk3 j hj e fun h => by omega
  -- where a line's word ends
  have hat : ∀ r, Vs r → Bd r = t → a = (Ai r.1).length ∧ k = r.1 := fun r hv e => by
    have n1 := Eg hv.nb.1
    have n2 := Eg hv.nb.2
    have key : a = (Ai r.1).length := by
      have e0 : t = Ai r.1 ++ (DA (hI r.1) r.2.1 ++ DA (hN r.1) r.2.2) := e.symm
      by_cases p : DA (hI r.1) r.2.1 ++ DA (hN r.1) r.2.2 = []
      · rw [p, List.append_nil] at e0
        have h2 := hf.2 (by rw [e0]; exact Eb _)
        rw [show ((0 : Nat) : Int) = 0 from rfl, ha] at h2
        have := Option.some.inj h2
        rw [← e0]; omega
      · obtain ⟨z, hz⟩ : ∃ z, DA (hI r.1) r.2.1 ++ DA (hN r.1) r.2.2 = 32 :: z := by
          unfold DA at p ⊢
          by_cases q : hI r.1
          · rw [if_pos q]; exact ⟨_, rfl⟩
          · rw [if_neg q] at p ⊢
            by_cases q2 : hN r.1
            · rw [if_pos q2]; exact ⟨_, rfl⟩
            · rw [if_neg q2] at p; exact absurd rfl p
        rw [hz] at e0
        have h2 := hf.1 _ _ e0 (Eb _)
        rw [show ((0 : Nat) : Int) = 0 from rfl, ha] at h2
        have := Option.some.inj h2
        omega
    refine ⟨key, hk4 r.1 hv.1 ?_⟩
    rw [key, ← e]; unfold Bd; rw [List.take_left' rfl]
  unfold Co
  rw [ha, Option.bind_some, hk1, Option.bind_some]
  by_cases hk0 : k = 0
  · rw [if_pos hk0]
    exact ⟨_, _, rfl, Cd fun r hv e => by have := (hat r hv e).2; have := hv.1; omega⟩
  · rw [if_neg hk0, FD, FF]
    have zI : ∀ r, Vs r → ¬ hI r.1 → r.2.1 = 0 := fun r hv h => hv.2.2.2.1.elim (fun q => absurd q h) id
    have zN : ∀ r, Vs r → ¬ hN r.1 → r.2.2 = 0 := fun r hv h => hv.2.2.2.2.elim (fun q => absurd q h) id
    have fin : ∀ {x : CI}, (∀ r, Vs r → Bd r = t → x = r) → ∃ y q, ((if (Bx x) = true then (Cl x).bind fun x17 => some (decide (x17 = t)) else some false).bind fun x16 => some (x, x16)) = some (y, q) ∧ Hm t y q := fun {x} h => by
      rw [D2, EQ]
      refine ⟨x, decide (D1 x = t), ?_, F5 hne h⟩
      by_cases c : Vs x
      · rw [if_pos (decide_eq_true c)]; rfl
      · rw [if_neg (by rw [decide_eq_true_eq]; exact c), decide_eq_false (by unfold D1; rw [if_neg c]; exact fun h => hne h.symm)]; rfl
    have dr : ∀ (p z : List UInt8) (c : UInt8), (p ++ c :: z).drop (p.length + 1) = z := fun p z c => by
      rw [show p ++ c :: z = (p ++ [c]) ++ z by simp, List.drop_left' (by simp)]
    have n32 : ∀ c z, (32 : UInt8) :: z = c :: z → ¬ FT c := fun c z e => by
      have := (List.cons.inj e).1; subst this; decide
    have e1 := Fx t (by omega) (a := a + 1) (by omega)
    obtain ⟨u1, u2⟩ := Ir (t.drop (a + 1))
    by_cases cI : hI k
    · rw [if_pos (decide_eq_true cI), AP (by omega), show ((a : Int) + 1) = ((a + 1 : Nat) : Int) from rfl, e1, Option.bind_some, Option.bind_some]
      simp only
      by_cases cN : hN k
      · have e2 := Fx t (by omega) (a := a + 1 + (C9 (t.drop (a + 1))).2 + 1) (by omega)
        rw [if_pos (decide_eq_true cN), AP (by omega), show (((a + 1 + (C9 (t.drop (a + 1))).2 : Nat) : Int) + 1) = ((a + 1 + (C9 (t.drop (a + 1))).2 + 1 : Nat) : Int) from rfl, e2, Option.bind_some, Option.bind_some]
        refine fin fun r hv e => ?_
        obtain ⟨h1, h2⟩ := hat r hv e
        have et : t = Ai r.1 ++ 32 :: (Lib.itoa r.2.1 ++ 32 :: Lib.itoa r.2.2) := by
          rw [← e]; unfold Bd DA
          rw [if_pos (by rw [← h2]; exact cI), if_pos (by rw [← h2]; exact cN)]; simp
        have d1 : t.drop (a + 1) = Lib.itoa r.2.1 ++ 32 :: Lib.itoa r.2.2 := by rw [et, h1, dr]
        have z1 : C9 (t.drop (a + 1)) = (r.2.1, (Lib.itoa r.2.1).length) := by
          rw [d1]; exact EE hv.nb.1 _ fun c z e => by have := (List.cons.inj e).1; subst this; decide
        have d2 : t.drop (a + 1 + (Lib.itoa r.2.1).length + 1) = Lib.itoa r.2.2 := by
          rw [show a + 1 + (Lib.itoa r.2.1).length + 1 = (a + 1) + ((Lib.itoa r.2.1).length + 1) by omega, ← List.drop_drop, d1, dr]
        have z2 : C9 (t.drop (a + 1 + (Lib.itoa r.2.1).length + 1)) = (r.2.2, (Lib.itoa r.2.2).length) := by
          rw [d2]
          have := EE hv.nb.2 [] (fun c z e => by cases e)
          rw [List.append_nil] at this; exact this
        rw [z1, h2]
        show (r.1, r.2.1, (C9 (t.drop (a + 1 + (Lib.itoa r.2.1).length + 1))).1) = r
        rw [z2]
      · rw [if_neg (by rw [decide_eq_true_eq]; exact cN), Option.bind_some]
        refine fin fun r hv e => ?_
        obtain ⟨h1, h2⟩ := hat r hv e
        have et : t = Ai r.1 ++ 32 :: Lib.itoa r.2.1 := by
          rw [← e]; unfold Bd DA
          rw [if_pos (by rw [← h2]; exact cI), if_neg (by rw [← h2]; exact cN)]; simp
        have d1 : t.drop (a + 1) = Lib.itoa r.2.1 := by rw [et, h1, dr]
        have z1 : C9 (t.drop (a + 1)) = (r.2.1, (Lib.itoa r.2.1).length) := by
          rw [d1]
          have := EE hv.nb.1 [] (fun c z e => by cases e)
          rw [List.append_nil] at this; exact this
        rw [z1, h2]
        show (r.1, r.2.1, (0 : Int)) = r
        rw [← zN r hv (by rw [← h2]; exact cN)]
    · rw [if_neg (by rw [decide_eq_true_eq]; exact cI), Option.bind_some]
      simp only
      by_cases cN : hN k
      · rw [if_pos (decide_eq_true cN), AP (by omega), show ((a : Int) + 1) = ((a + 1 : Nat) : Int) from rfl, e1, Option.bind_some, Option.bind_some]
        refine fin fun r hv e => ?_
        obtain ⟨h1, h2⟩ := hat r hv e
        have et : t = Ai r.1 ++ 32 :: Lib.itoa r.2.2 := by
          rw [← e]; unfold Bd DA
          rw [if_neg (by rw [← h2]; exact cI), if_pos (by rw [← h2]; exact cN)]; simp
        have d1 : t.drop (a + 1) = Lib.itoa r.2.2 := by rw [et, h1, dr]
        have z1 : C9 (t.drop (a + 1)) = (r.2.2, (Lib.itoa r.2.2).length) := by
          rw [d1]
          have := EE hv.nb.2 [] (fun c z e => by cases e)
          rw [List.append_nil] at this; exact this
        rw [z1, h2]
        show (r.1, (0 : Int), r.2.2) = r
        rw [← zI r hv (by rw [← h2]; exact cI)]
      · rw [if_neg (by rw [decide_eq_true_eq]; exact cN), Option.bind_some]
        refine fin fun r hv e => ?_
        obtain ⟨h1, h2⟩ := hat r hv e
        rw [h2]
        exact Prod.ext rfl (Prod.ext (zI r hv (by rw [← h2]; exact cI)).symm (zN r hv (by rw [← h2]; exact cN)).symm)
theorem Gf {t : List UInt8} (ht : t.length ≤ 5000) (hne : t ≠ []) : (∃ r, Vs r ∧ Bd r = t ∧ AN t = some (r, true) ∧ Co t = some (r, true)) ∨ (∃ x y, AN t = some (x, false) ∧ Co t = some (y, false)) := by
  obtain ⟨x, b, h1, h2, h3⟩ := Ht ht hne
  obtain ⟨y, c, h4, h5, h6⟩ := Hp ht hne
  cases b with
  | true =>
    obtain ⟨v, e⟩ := h2 rfl
    obtain ⟨rfl, rfl⟩ := h6 x v e
    exact .inl ⟨_, v, e, h1, h4⟩
  | false =>
    cases c with
    | true =>
      obtain ⟨v, e⟩ := h5 rfl
      exact absurd (h3 y v e).1 (by decide)
    | false => exact .inr ⟨x, y, h1, h4⟩
def Dk (w : List UInt8) : Bool := w.isEmpty || decide (w.head? = some 35)
theorem EG (w : List UInt8) : ((if w = ([] : List UInt8) then some true else (ix w 0).bind fun x8 => some (decide ((x8.toNat : Int) = 35))) : Option Bool) = some (Dk w) := by
  cases w with
  | nil => rfl
  | cons c r =>
    rw [if_neg (by simp), show ix (c :: r) 0 = some c from rfl, Option.bind_some]
    unfold Dk
    congr 1
    by_cases e : c = 35
    · rw [e]; rfl
    · have : (c.toNat : Int) ≠ 35 := fun h => e (UInt8.toNat_inj.1 (show c.toNat = (35 : UInt8).toNat by have : (35 : UInt8).toNat = 35 := rfl; omega))
      rw [decide_eq_false this]
      simp [e]
theorem Iw {w : List UInt8} (h : Dk w = false) : w ≠ [] := fun e => by rw [e] at h; cases h
theorem Ef {W : List (List UInt8)} {i : Nat} {w : List UInt8} (hw : W[i]? = some w) (hi : i ≤ 100000) (hs : Dk w = true) (l : List CI) : AK W (l, (i : Int)) = some (.inl (l, ((i + 1 : Nat) : Int))) := by
  have h := (List.getElem?_eq_some_iff.1 hw).1
  rw [AK, if_pos (by omega), BM hw, Option.bind_some, EG, Option.bind_some, if_pos hs]
  simp only [Fh]
  rw [AP (by omega)]; rfl
theorem Dm {W : List (List UInt8)} {i : Nat} {w : List UInt8} (hw : W[i]? = some w) (hi : i ≤ 100000) (hs : Dk w = false) {l : List CI} (hl : l.length ≤ 100000) {x : CI} {b : Bool} (h1 : AN w = some (x, b)) : AK W (l, (i : Int)) = some (if b = true then .inl (l ++ [x], ((i + 1 : Nat) : Int)) else .inr (.inr ([], ((i + 1 : Nat) : Int), 10))) := by
  have h := (List.getElem?_eq_some_iff.1 hw).1
  rw [AK, if_pos (by omega), BM hw, Option.bind_some, EG, Option.bind_some, if_neg (by rw [hs]; decide), h1, Option.bind_some, AP (by omega)]
  cases b with
  | true =>
    rw [if_neg (by simp), Bw (by simp; omega)]; rfl
  | false => rw [if_pos (by simp)]; rfl
theorem E5 {s : List UInt8} {a e i : Nat} (ha : a < s.length) (hs : s.length ≤ 5000) (hi : i ≤ 100000) (he : e ≤ s.length) {w : List UInt8} (hf : AH (BX s) (a : Int) = some (e : Int)) (hw : CK s (a : Int) (e : Int) = some w) (hk : Dk w = true) (l : List CI) : A6 s (l, (a : Int), (i : Int)) = some (.inl (l, ((e + 1 : Nat) : Int), ((i + 1 : Nat) : Int))) := by
  rw [A6, if_pos (by omega), hf, Option.bind_some, hw, Option.bind_some, EG, Option.bind_some, if_pos hk, AP (by omega), AP (by omega)]; rfl
theorem C1 {s : List UInt8} {a e i : Nat} (ha : a < s.length) (hs : s.length ≤ 5000) (hi : i ≤ 100000) (he : e ≤ s.length) {w : List UInt8} (hf : AH (BX s) (a : Int) = some (e : Int)) (hw : CK s (a : Int) (e : Int) = some w) (hk : Dk w = false) {l : List CI} (hl : l.length ≤ 100000) {x : CI} {b : Bool} (h1 : Co w = some (x, b)) : A6 s (l, (a : Int), (i : Int)) = some (if b = true then .inl (l ++ [x], ((e + 1 : Nat) : Int), ((i + 1 : Nat) : Int)) else .inr (.inr ([], ((i + 1 : Nat) : Int), 10))) := by
  rw [A6, if_pos (by omega), hf, Option.bind_some, hw, Option.bind_some, EG, Option.bind_some, if_neg (by rw [hk]; decide), h1, Option.bind_some, AP (x := (i : Int) + 1) (by omega), AP (x := (e : Int) + 1) (by omega)]
  cases b with
  | true => rw [if_neg (by simp), Bw (by simp; omega)]; rfl
  | false => rw [if_pos (by simp)]; rfl
theorem IQ {s : List UInt8} {a i : Nat} (ha : s.length ≤ a) (l : List CI) : A6 s (l, (a : Int), (i : Int)) = some (.inr (.inl l)) := by rw [A6, if_neg (by omega)]
theorem IU {W : List (List UInt8)} {i : Nat} (h : W.length ≤ i) (l : List CI) : AK W (l, (i : Int)) = some (.inr (.inl l)) := by rw [AK, if_neg (by omega)]
def Ja (s : List UInt8) (res : (List CI) ⊕ (List CI × Int × Int)) : Prop := (∀ l', res = .inl l' → l'.length ≤ s.length + 1) ∧ ∀ l' x y, res = .inr (l', x, y) → l' = []
theorem GM {s : List UInt8} {x y : Int} : Ja s (.inr ([], x, y)) := ⟨fun l' e => (by cases e), fun l' x y e => by cases e; rfl⟩
theorem DN (s : List UInt8) (hs : s.length ≤ 5000) (W : List (List UInt8)) : ∀ (n : Nat) (m : List UInt8), m.length ≤ n → ∀ (i a : Nat) (l : List CI), W.drop i = Lib.split m [10] → s.drop a = m → a ≤ s.length → i ≤ a → l.length ≤ i → ∃ res, AH (AK W) (l, (i : Int)) = some res ∧ AH (A6 s) (l, (a : Int), (i : Int)) = some res ∧ Ja s res
  | n, m, hn, i, a, l, hW, hm, ha, hi, hl => by
    have hsum : a + m.length = s.length := by rw [← hm, List.length_drop]; omega
    have hf := FQ s (by omega) 10 (BX s) (fun x => rfl) m a hm ha
    by_cases c10 : (10 : UInt8) ∈ m
    · obtain ⟨w, r, e, hw⟩ := DZ c10
      have hel := congrArg List.length e
      rw [List.length_append, List.length_cons] at hel
      rw [e, CT hw] at hW
      have hg : W[i]? = some w := by rw [← List.head?_drop, hW]; rfl
      have hW2 : W.drop (i + 1) = Lib.split r [10] := by rw [← List.tail_drop, hW]; rfl
      have hx := hf.1 w r e hw
      have hsub : CK s (a : Int) (((a + w.length : Nat) : Int)) = some w := by
        rw [FG (by omega), Int.toNat_natCast, Int.toNat_natCast, List.drop_take, show a + w.length - a = w.length by omega, hm, e, List.take_left' rfl]
      have hnext : s.drop (a + w.length + 1) = r := by
        rw [show a + w.length + 1 = a + (w.length + 1) by omega, ← List.drop_drop, hm, e, show w ++ 10 :: r = (w ++ [10]) ++ r by simp, List.drop_left' (by simp)]
      obtain ⟨n', rfl⟩ : ∃ n', n = n' + 1 := ⟨n - 1, by omega⟩
      cases hk : Dk w with
      | true =>
        obtain ⟨res, g1, g2, g3⟩ := DN s hs W n' r (by omega) (i + 1) (a + w.length + 1) l hW2 hnext (by omega) (by omega) (by omega)
        exact ⟨res, by rw [AQ (Ef hg (by omega) hk l)]; exact g1, by rw [AQ (E5 (by omega) hs (by omega) (by omega) hx hsub hk l)]; exact g2, g3⟩
      | false =>
        rcases Gf (t := w) (by omega) (Iw hk) with ⟨rr, _, _, h1, h2⟩ | ⟨y, z, h1, h2⟩
        · obtain ⟨res, g1, g2, g3⟩ := DN s hs W n' r (by omega) (i + 1) (a + w.length + 1) (l ++ [rr]) hW2 hnext (by omega) (by omega) (by simp; omega)
          exact ⟨res, by rw [AQ ((Dm hg (by omega) hk (by omega) h1).trans (by rw [if_pos rfl]))]; exact g1, by rw [AQ ((C1 (by omega) hs (by omega) (by omega) hx hsub hk (by omega) h2).trans (by rw [if_pos rfl]))]; exact g2, g3⟩
        · exact ⟨_, Aq ((Dm hg (by omega) hk (by omega) h1).trans (by rw [if_neg (by decide)])), Aq ((C1 (by omega) hs (by omega) (by omega) hx hsub hk (by omega) h2).trans (by rw [if_neg (by decide)])), GM⟩
    · rw [CO c10] at hW
      have hg : W[i]? = some m := by rw [← List.head?_drop, hW]; rfl
      have hWl : W.length = i + 1 := by
        have := congrArg List.length hW
        rw [List.length_drop, List.length_singleton] at this; omega
      by_cases c0 : m = []
      · subst c0
        have hl0 : s.length = a := by simp at hsum; omega
        refine ⟨.inl l, ?_, Aq (IQ (by omega) l), fun l' e => ?_, fun l' x y e => (by cases e)⟩
        · rw [AQ (Ef hg (by omega) rfl l), Aq (IU (by omega) l)]
        · cases e; omega
      · have hml : 0 < m.length := List.length_pos_iff.2 c0
        have hx := hf.2 c10
        have hsub : CK s (a : Int) (s.length : Int) = some m := by
          rw [FG (by omega), Int.toNat_natCast, Int.toNat_natCast, List.take_length, hm]
        cases hk : Dk m with
        | true =>
          refine ⟨.inl l, ?_, ?_, fun l' e => ?_, fun l' x y e => (by cases e)⟩
          · rw [AQ (Ef hg (by omega) hk l), Aq (IU (by omega) l)]
          · rw [AQ (E5 (by omega) hs (by omega) (Nat.le_refl _) hx hsub hk l), Aq (IQ (by omega) l)]
          · cases e; omega
        | false =>
          rcases Gf (t := m) (by omega) c0 with ⟨rr, _, _, h1, h2⟩ | ⟨y, z, h1, h2⟩
          · refine ⟨.inl (l ++ [rr]), ?_, ?_, fun l' e => ?_, fun l' x y e => (by cases e)⟩
            · rw [AQ ((Dm hg (by omega) hk (by omega) h1).trans (by rw [if_pos rfl])), Aq (IU (by omega) _)]
            · rw [AQ ((C1 (by omega) hs (by omega) (Nat.le_refl _) hx hsub hk (by omega) h2).trans (by rw [if_pos rfl])), Aq (IQ (by omega) _)]
            · cases e; simp; omega
          · exact ⟨_, Aq ((Dm hg (by omega) hk (by omega) h1).trans (by rw [if_neg (by decide)])), Aq ((C1 (by omega) hs (by omega) (Nat.le_refl _) hx hsub hk (by omega) h2).trans (by rw [if_neg (by decide)])), GM⟩
theorem H2 {s : List UInt8} (hs : s.length ≤ 5000) : ∃ x, Bj s = some x ∧ CS s = some x ∧ x.1.length ≤ 10000 := by
  obtain ⟨res, h1, h2, h3, h4⟩ := DN s hs (Lib.split s [10]) s.length s (Nat.le_refl _) 0 0 [] rfl rfl (Nat.zero_le _) (Nat.le_refl _) (Nat.le_refl _)
  unfold Bj CS Df
  rw [if_pos ⟨by omega, by decide⟩, Option.bind_some]
  have h1 : AH (AK (Lib.split s [10])) ([], 0) = some res := h1
  have h2 : AH (A6 s) ([], 0, 0) = some res := h2
  rw [h1, h2]
  cases res with
  | inl l => exact ⟨_, rfl, rfl, by have := h3 l rfl; show l.length ≤ _; omega⟩
  | inr p =>
    obtain ⟨l, x, y⟩ := p
    refine ⟨_, rfl, rfl, ?_⟩
    rw [h4 l x y rfl]; simp
theorem GT {l : List CI} (hl : l.length ≤ 1000000000) : CV l = some l := by
  unfold CV
  rw [Hc l hl (fun a => a) (Cj l) (fun k hk out ho => by
    rw [Cj, if_pos (by omega), BM (List.getElem?_eq_getElem hk)]; rfl) (fun out => by rw [Cj, if_neg (by omega)]), map_id' l (fun a => rfl)]; rfl
theorem Ik {l : List CI} (hl : l.length ≤ 1000000) : C8 l l = some true := by
  unfold C8
  rw [GT (by omega), Option.bind_some, if_neg (by simp), Fv l (by omega) (Cm l l) (fun _ => False) false (fun k hk => by
    rw [Cm, if_pos (by omega), BM (List.getElem?_eq_getElem hk), Option.bind_some, Option.bind_some]; simp) (by rw [Cm, if_neg (by omega)]), if_neg (fun ⟨_, _, h⟩ => h)]; rfl
def CD (l : List CI) : List UInt8 := l.flatMap fun r => Bd r ++ [10]
theorem E4 (r : CI) (l : List CI) : CD (r :: l) = Bd r ++ 10 :: CD l := by unfold CD; rw [List.flatMap_cons]; simp
theorem Fy : ∀ {l : List CI}, (∀ r ∈ l, Vs r) → (CD l).length ≤ 52 * l.length
  | [], _ => by simp [CD]
  | r :: l, h => by
    have h2 := F7 (h r (List.mem_cons_self ..))
    have h3 := Fy fun x hx => h x (List.mem_cons_of_mem _ hx)
    rw [E4, List.length_append, List.length_cons, List.length_cons]; omega
theorem ER (l : List CI) (hl : l.length ≤ 1000) : ∀ (m : List CI) (k : Nat) (acc : List UInt8), l.drop k = m → k ≤ l.length → acc.length + 52 * m.length ≤ 100000 →
    AH (Bg l) ((k : Int), acc) = some (if ∀ r ∈ m, Vs r then .inl (acc ++ CD m) else .inr []) ∧ AH (BH l) (acc, (k : Int)) = some (if ∀ r ∈ m, Vs r then .inl (acc ++ CD m) else .inr [])
  | [], k, acc, hm, hk, ha => by
    have : l.length ≤ k := List.drop_eq_nil_iff.1 hm
    rw [if_pos (by simp), show acc ++ CD [] = acc by simp [CD]]
    exact ⟨Aq (by rw [Bg, if_neg (by omega)]), Aq (by rw [BH, if_neg (by omega)])⟩
  | r :: m, k, acc, hm, hk, ha => by
    have hg : l[k]? = some r := by rw [← List.head?_drop, hm]; rfl
    have hlt := (List.getElem?_eq_some_iff.1 hg).1
    have hd : l.drop (k + 1) = m := by rw [← List.tail_drop, hm]; rfl
    rw [List.length_cons] at ha
    by_cases c : Vs r
    · have hll := F7 c
      have hq : D1 r = Bd r := if_pos c
      obtain ⟨i1, i2⟩ := ER l hl m (k + 1) (acc ++ (Bd r ++ [10])) hd (by omega) (by simp; omega)
      have hiff : (∀ x ∈ r :: m, Vs x) ↔ ∀ x ∈ m, Vs x := ⟨fun h x hx => h x (List.mem_cons_of_mem _ hx), fun h x hx => (List.mem_cons.1 hx).elim (fun e => e ▸ c) (h x)⟩
      have hfin : (if ∀ x ∈ m, Vs x then (.inl (acc ++ (Bd r ++ [10]) ++ CD m) : List UInt8 ⊕ List UInt8) else .inr []) = if ∀ x ∈ r :: m, Vs x then .inl (acc ++ CD (r :: m)) else .inr [] := by
        by_cases q : ∀ x ∈ m, Vs x
        · rw [if_pos q, if_pos (hiff.2 q), E4]; simp
        · rw [if_neg q, if_neg (fun h => q (hiff.1 h))]
      rw [← hfin]
      constructor
      · rw [AQ (s' := (((k + 1 : Nat) : Int), acc ++ (Bd r ++ [10]))) (by
          rw [Bg, if_pos (by omega), BM hg, Option.bind_some, FM, Option.bind_some, if_neg (by simp [c]), FW, Option.bind_some, hq, Bw (by simp; omega), Option.bind_some, Bw (by simp; omega), Option.bind_some, AP (by omega)]; rfl)]
        exact i1
      · rw [AQ (s' := (acc ++ (Bd r ++ [10]), ((k + 1 : Nat) : Int))) (by
          rw [BH, if_pos (by omega), BM hg, Option.bind_some, D2, if_neg (by simp [c]), Option.bind_some, EQ, Option.bind_some, hq, Bw (by omega), Option.bind_some, Bw (by simp; omega), Option.bind_some, AP (by omega), List.append_assoc]; rfl)]
        exact i2
    · have hno : ¬ ∀ x ∈ r :: m, Vs x := fun h => c (h r (List.mem_cons_self ..))
      rw [if_neg hno]
      exact ⟨Aq (by rw [Bg, if_pos (by omega), BM hg, Option.bind_some, FM, Option.bind_some, if_pos (by simp [c])]), Aq (by rw [BH, if_pos (by omega), BM hg, Option.bind_some, D2, if_pos (by simp [c])])⟩
def Hw (l : List CI) : List UInt8 := if ∀ r ∈ l, Vs r then CD l else []
theorem Ix {l : List CI} (hl : l.length ≤ 1000) : Cn l = some (Hw l) ∧ Dc l = some (Hw l) := by
  obtain ⟨h1, h2⟩ := ER l hl l 0 [] rfl (Nat.zero_le _) (by simp; omega)
  have h1 : AH (Bg l) (0, []) = _ := h1
  have h2 : AH (BH l) ([], 0) = _ := h2
  unfold Cn Dc Hw
  rw [h1, h2]
  by_cases q : ∀ r ∈ l, Vs r
  · have := Fy q
    rw [if_pos q, if_pos q, List.nil_append]
    refine ⟨?_, rfl⟩
    show (Hr (CD l)).bind (fun x => some x) = some (CD l)
    rw [IB (by omega)]; rfl
  · rw [if_neg q, if_neg q]; exact ⟨rfl, rfl⟩
theorem Ei (p0 : List CI) {A0 : Prop} (_ : A0) (p1 : List UInt8) {A : Prop} (_ : A) (p2 : Int) (ok2 : (Lit.int .i64 p2).wf = true) : BR p0 p1 p2 = some true := by
  unfold BR
  rw [IC]
  by_cases c : 60 < (p0.length : Int) ∨ 1000 < (p1.length : Int)
  · rw [if_pos (by rw [Bool.or_eq_true, decide_eq_true_eq, decide_eq_true_eq]; exact c)]; rfl
  · rw [if_neg (by rw [Bool.or_eq_true, decide_eq_true_eq, decide_eq_true_eq]; exact c), E0 (IY ok2), Option.bind_some, if_neg (fun h => h rfl)]
    rw [Fv p0 (by omega) (Be p0) (fun _ => False) false (fun k hk => by
      have hg : p0[k]? = some p0[k] := List.getElem?_eq_getElem hk
      rw [Be, if_pos (by omega), BM hg, Option.bind_some]
      unfold Az
      rw [FM, Option.bind_some, Option.bind_some, D2, if_neg (fun h => h rfl), FW, Option.bind_some, Option.bind_some, EQ, Option.bind_some, Option.bind_some, if_neg (by simp), if_neg id]) (by rw [Be, if_neg (by omega)]), if_neg (fun ⟨_, _, h⟩ => h)]
    obtain ⟨x, h1, h2, h3⟩ := H2 (s := p1) (by omega)
    obtain ⟨t1, t2⟩ := Ix (l := p0) (by omega)
    rw [h1, h2, GT (by omega)]
    simp only [Fh, Option.bind_some]
    rw [t1, t2]
    simp only [Option.bind_some]
    rw [if_pos trivial, Ik (by omega)]
    rfl
inductive Rd : List (List UInt8) → List CI → Prop
  | nil : Rd [] []
  | Dk {w ps l} : Dk w = true → Rd ps l → Rd (w :: ps) l
  | line {r ps l} : Vs r → Rd ps l → Rd (Bd r :: ps) (r :: l)
end Go.Proofs.YtkmacelfldeenaaDoor
