/- Layer 35: the library's stable sort. Conditions: none. -/
import Derived.Test.YtemacefkdopgaaacMST
import Derived.Test.YtemacefkdopgaaacA6
import Derived.Test.YtemacefkdopgaaacEV
namespace Go.Proofs.Ytemacefkdopgaaa
set_option linter.unusedVariables false
set_option linter.unusedSimpArgs false
open Go Go.RowKit
abbrev Wy : Type := Int × Int × Int × (Int × Int × Int × Int) × Int × Int
abbrev kl (w : Wy) : Int := w.2.2.2.2.2
theorem DO (a b : Wy) : (BC a b < 0) ↔ kl a < kl b := by
  show Ct a.2.2.2.2.2 b.2.2.2.2.2 < 0 ↔ a.2.2.2.2.2 < b.2.2.2.2.2
  generalize a.2.2.2.2.2 = p
  generalize b.2.2.2.2.2 = q
  unfold Ct Co
  rw [if_neg (by simp), if_neg (by simp)]
  by_cases c : p < q
  · rw [if_pos c]; exact ⟨fun _ => c, fun _ => by decide⟩
  · rw [if_neg c]
    by_cases c2 : q < p
    · rw [if_pos c2]; exact ⟨fun h => absurd h (by decide), fun h => absurd h c⟩
    · rw [if_neg c2]; exact ⟨fun h => absurd h (by decide), fun h => absurd h c⟩
theorem LD (x : Int) : IntKind.u64.wrap x = x % 18446744073709551616 := by
  unfold IntKind.wrap
  simp only [IntKind.bits, IntKind.signed]
  simp
theorem Hq {a b : Nat} (h : a + b < 4611686018427387904) : Ay (BU .u64 (IntKind.u64.wrap (Ay ((a : Int) + (b : Int)))) 1) = (((a + b) / 2 : Nat) : Int) := by
  rw [AJ (x := (a : Int) + (b : Int)) (by omega), LD, Int.emod_eq_of_lt (by omega) (by omega)]
  have e : BU .u64 ((a : Int) + (b : Int)) 1 = (((a + b) / 2 : Nat) : Int) := by
    show ((a : Int) + (b : Int)).fdiv 2 = _
    rw [Int.fdiv_eq_ediv_of_nonneg _ (by decide)]
    omega
  rw [e, AJ (by omega)]
theorem Ij {x z y : List Wy} {p q : Wy} {i j : Int} (hi : i = x.length) (hj : j = x.length + 1 + z.length) : ix (Cq (x ++ p :: (z ++ q :: y)) i q) j = some q := by
  rw [E4 hi]; exact (EP (p := q) hi hj).2.1
theorem swap_at' {x z y : List Wy} {p q : Wy} {i j : Int} (hi : i = x.length) (hj : j = x.length + 1 + z.length) : ix (Cq (x ++ p :: (z ++ q :: y)) j p) i = some p := by
  rw [show x ++ p :: (z ++ q :: y) = (x ++ p :: z) ++ q :: y by simp, E4 (show j = ((x ++ p :: z).length : Nat) by simp; omega)]
  rw [show (x ++ p :: z) ++ p :: y = x ++ p :: (z ++ p :: y) by simp]
  exact Gs hi
theorem Jy {a : Nat} {x y : List Wy} {p q : Wy} (ha : a ≤ x.length) (hN : (x ++ p :: q :: y).length ≤ 1000000000) :
    AE (a : Int) (x ++ p :: q :: y, ((x.length + 1 : Nat) : Int)) = if kl q < kl p then some (.inl (x ++ q :: p :: y, (x.length : Int))) else some (.inr (x ++ p :: q :: y)) := by
  simp only [List.length_append, List.length_cons] at hN
  have e1 := EP (x := x) (z := []) (y := y) (p := p) (q := q) (i := (x.length : Int)) (j := ((x.length + 1 : Nat) : Int)) rfl (by simp)
  have e2 := swap_at' (x := x) (z := []) (y := y) (p := p) (q := q) (i := (x.length : Int)) (j := ((x.length + 1 : Nat) : Int)) rfl (by simp)
  simp only [List.nil_append] at e1 e2
  rw [AE, if_pos (by omega), show Ay (((x.length + 1 : Nat) : Int) - 1) = (x.length : Int) by rw [AJ (by omega)]; omega]
  rw [e1.2.1, e1.1]
  simp only [Option.bind_some]
  by_cases c : kl q < kl p
  · rw [if_pos (decide_eq_true ((DO q p).2 c)), if_pos c, e2]
    simp only [Option.bind_some]
    rw [e1.2.2.2]
  · rw [if_neg (by rw [decide_eq_true_iff]; exact fun h => c ((DO q p).1 h)), if_neg c]
theorem JR (a : Nat) (L : List Wy) : AE (a : Int) (L, (a : Int)) = some (.inr L) := by
  rw [AE, if_neg (by omega)]; rfl
theorem JA {x S y : List Wy} (hN : (x ++ (S ++ y)).length ≤ 1000000000) : ∃ M, AS (x ++ (S ++ y)) (x.length : Int) ((x.length + S.length : Nat) : Int) = some (x ++ (M ++ y)) ∧ D9 kl M ∧ Sm kl S M := by
  have hN' := hN
  simp only [List.length_append] at hN'
  have hT : ∀ (L : List Wy) (i : Nat), L.length = (x ++ (S ++ y)).length → x.length < i → i < x.length + S.length → AK (x.length : Int) ((x.length + S.length : Nat) : Int) (L, (i : Int)) = (AM (AE (x.length : Int)) (L, (i : Int))).bind fun x => some (.inl (x, ((i + 1 : Nat) : Int))) := fun L i hL h1 h2 => by
    rw [AK, if_pos (by omega), AJ (by omega)]; rfl
  have hTe : ∀ (L : List Wy) (i : Nat), x.length + S.length ≤ i → AK (x.length : Int) ((x.length + S.length : Nat) : Int) (L, (i : Int)) = some (.inr L) := fun L i h => by
    rw [AK, if_neg (by omega)]
  unfold AS
  rw [show Ay ((x.length : Int) + 1) = ((x.length + 1 : Nat) : Int) by rw [AJ (by omega)]; rfl]
  cases S with
  | nil => exact ⟨[], by rw [Bh (hTe _ _ (by simp))], Hl, Sm.rfl⟩
  | cons e R =>
    have h := KT (key := kl) (N := (x ++ (e :: R ++ y)).length) (fun x' y' p q h1 h2 => Jy h1 (by rw [h2]; exact hN)) (JR x.length) hT hTe x rfl R [e] y (by simp) (by simp) (by simp; omega) (Ik e)
    exact h
theorem Km {x P z Q y : List Wy} {a b n : Int} (ha : a = x.length) (hn : n = P.length) (hn2 : n = Q.length) (hb : b = x.length + P.length + z.length) (hN : (x ++ (P ++ (z ++ (Q ++ y)))).length ≤ 1000000000) :
    AD (x ++ (P ++ (z ++ (Q ++ y)))) a b n = some (x ++ (Q ++ (z ++ (P ++ y)))) := by
  simp only [List.length_append] at hN
  unfold AD
  refine Mf (a := x.length) (b := x.length + P.length + z.length) (n := P.length) (fun x' z' y' p q i hi hx hz => ?_) (fun L => ?_) rfl rfl (by omega) (by omega)
  · have e1 := EP (x := x') (z := z') (y := y') (p := p) (q := q) (i := (x'.length : Int)) (j := (x'.length + 1 + z'.length : Int)) rfl rfl
    have e2 := Ij (x := x') (z := z') (y := y') (p := p) (q := q) (i := (x'.length : Int)) (j := (x'.length + 1 + z'.length : Int)) rfl rfl
    rw [Bj, if_pos (by omega), show Ay (a + (i : Int)) = (x'.length : Int) by rw [AJ (by omega)]; omega, show Ay (b + (i : Int)) = (x'.length + 1 + z'.length : Int) by rw [AJ (by omega)]; omega, show Ay ((i : Int) + 1) = ((i + 1 : Nat) : Int) by rw [AJ (by omega)]; rfl]
    rw [e1.2.1, e1.1]
    simp only [Option.bind_some]
    rw [e2, Option.bind_some, e1.2.2.1]
  · rw [Bj, if_neg (by omega)]
theorem Kj {x P Q y : List Wy} {a m b : Int} (ha : a = x.length) (hm : m = x.length + P.length) (hb : b = x.length + P.length + Q.length) (hP : 0 < P.length) (hQ : 0 < Q.length) (hN : (x ++ (P ++ (Q ++ y))).length ≤ 1000000000) :
    Bd (x ++ (P ++ (Q ++ y))) a m b = some (x ++ (Q ++ (P ++ y))) := by
  have hN' := hN
  simp only [List.length_append] at hN'
  unfold Bd
  rw [show Ay (m - a) = (P.length : Int) by rw [AJ (by omega)]; omega, show Ay (b - m) = (Q.length : Int) by rw [AJ (by omega)]; omega]
  obtain ⟨L, i, e1, e2, e3⟩ := Mj (sR := AD) (T := Bp m) (m := m) (N := (x ++ (P ++ (Q ++ y))).length) (fun x' P' z' Q' y' a' b' n' hl h1 h2 h3 h4 => Km h1 h2 h3 h4 (by rw [hl]; exact hN))
    (fun L i j hL hij him hmj hi hj => by
      rw [Bp]
      by_cases c : (i : Int) ≠ j
      · rw [if_pos c, if_pos c]
        by_cases c2 : (j : Int) < i
        · rw [if_pos c2, if_pos c2, AJ (x := m - (i : Int)) (by omega), show Ay ((i : Int) - (j : Int)) = ((i - j : Nat) : Int) by rw [AJ (by omega)]; omega]
        · rw [if_neg c2, if_neg c2, AJ (x := m - (i : Int)) (by omega), AJ (x := m + (j : Int)) (by omega), AJ (x := m + (j : Int) - (i : Int)) (by omega), show Ay ((j : Int) - (i : Int)) = ((j - i : Nat) : Int) by rw [AJ (by omega)]; omega]
      · rw [if_neg c, if_neg c]) (P.length + Q.length) x P Q y rfl hP hQ hm rfl
  rw [e1, Option.bind_some]
  show (AD L (Ay (m - (i : Int))) m (i : Int)).bind _ = _
  rw [AJ (x := m - (i : Int)) (by omega), e3]; rfl
def gk (B : List Wy) (i : Nat) : Int := match B[i]? with | some w => kl w | none => 0
theorem FC {B : List Wy} {i : Nat} (h : i < B.length) : gk B i = kl B[i] := by unfold gk; rw [List.getElem?_eq_getElem h]
theorem Is {x B y : List Wy} {c : Nat} (h1 : x.length ≤ c) (h2 : c < x.length + B.length) : ∃ w, ix (x ++ (B ++ y)) (c : Int) = some w ∧ kl w = gk B (c - x.length) := by
  have h3 : c - x.length < B.length := by omega
  refine ⟨B[c - x.length], BO ?_, (FC h3).symm⟩
  rw [List.getElem?_append_right h1, List.getElem?_append_left h3, List.getElem?_eq_getElem h3]
theorem KG : ∀ (t : Nat) (x A B y : List Wy), A.length + B.length = t → 0 < A.length → 0 < B.length → D9 kl A → D9 kl B → (x ++ (A ++ (B ++ y))).length ≤ 1000000000 → ∀ n, t ≤ n →
    ∃ M, Au n (x ++ (A ++ (B ++ y))) (x.length : Int) ((x.length + A.length : Nat) : Int) ((x.length + A.length + B.length : Nat) : Int) = some (x ++ (M ++ y)) ∧ Sm kl (A ++ B) M ∧ D9 kl M := by
  intro t
  induction t using Nat.strongRecOn with
  | _ t ih =>
    intro x A B y ht hA0 hB0 hA hB hN n hn
    obtain ⟨n, rfl⟩ : ∃ k, n = k + 1 := ⟨n - 1, by omega⟩
    have hN' := hN
    simp only [List.length_append] at hN'
    show ∃ M, AF (Au n) (x ++ (A ++ (B ++ y))) (x.length : Int) ((x.length + A.length : Nat) : Int) ((x.length + A.length + B.length : Nat) : Int) = _ ∧ _ ∧ _
    unfold AF
    rw [show Ay (((x.length + A.length : Nat) : Int) - (x.length : Int)) = (A.length : Int) by rw [AJ (by omega)]; omega, show Ay (((x.length + A.length + B.length : Nat) : Int) - ((x.length + A.length : Nat) : Int)) = (B.length : Int) by rw [AJ (by omega)]; omega]
    by_cases c1 : A.length = 1
    · rw [if_pos (by omega)]
      obtain ⟨e, rfl⟩ := List.length_eq_one_iff.1 c1
      obtain ⟨s, s1, s2, s3, s4, s5⟩ := Li (S := Ba (x ++ ([e] ++ (B ++ y))) (x.length : Int)) (fin := fun i => i) (lo := x.length + [e].length) (hi := x.length + [e].length + B.length) (P := fun c => decide (gk B (c - (x.length + 1)) < kl e)) (by omega)
        (fun s r h1 h2 h3 => by
          simp only [List.length_singleton] at h1 h3
          rw [Ba, if_pos (by omega), Hq (by omega)]
          obtain ⟨w, e1, e2⟩ := Is (x := x ++ [e]) (B := B) (y := y) (c := (s + r) / 2) (by simp; omega) (by simp; omega)
          rw [show (x ++ [e]) ++ (B ++ y) = x ++ ([e] ++ (B ++ y)) by simp] at e1
          rw [show (x ++ [e]).length = x.length + 1 by simp] at e2
          rw [e1, Option.bind_some, show ix (x ++ ([e] ++ (B ++ y))) (x.length : Int) = some e from Gs rfl, Option.bind_some, AJ (x := (((s + r) / 2 : Nat) : Int) + 1) (by omega)]
          rw [← e2]
          by_cases c : kl w < kl e
          · rw [if_pos ((DO w e).2 c), if_pos (decide_eq_true c)]; rfl
          · rw [if_neg (fun h => c ((DO w e).1 h)), if_neg (by simpa using c)])
        (fun s h1 h2 => by rw [Ba, if_neg (by omega)])
      simp only [List.length_singleton] at s1 s2 s4 s5
      have h1 := Ki (a := e) hB (s := s - (x.length + 1)) (by omega) (fun z h1 => by
          have := s4 (by omega)
          rw [decide_eq_true_iff, show s - 1 - (x.length + 1) = s - (x.length + 1) - 1 by omega, FC h1] at this; exact this)
        (fun z h1 => by
          have := s5 (by omega)
          rw [decide_eq_false_iff_not, FC h1] at this; omega)
      have h2 := KZ (S := Bb ((s : Nat) : Int)) (n := s - 1) (fun x' y' p q hx => by
          have e1 := EP (x := x') (z := []) (y := y') (p := p) (q := q) (i := (x'.length : Int)) (j := ((x'.length + 1 : Nat) : Int)) rfl (by simp)
          have e2 := Ij (x := x') (z := []) (y := y') (p := p) (q := q) (i := (x'.length : Int)) (j := ((x'.length + 1 : Nat) : Int)) rfl (by simp)
          simp only [List.nil_append] at e1 e2
          rw [Bb, AJ (x := (s : Int) - 1) (by omega), if_pos (by omega), show Ay ((x'.length : Int) + 1) = ((x'.length + 1 : Nat) : Int) by rw [AJ (by omega)]; rfl, e1.2.1, e1.1]
          simp only [Option.bind_some]
          rw [e2, Option.bind_some, e1.2.2.1])
        (fun L => by rw [Bb, AJ (x := (s : Int) - 1) (by omega), if_neg (by omega)]) (B.take (s - (x.length + 1))) x (B.drop (s - (x.length + 1)) ++ y) e (by rw [List.length_take]; omega)
      rw [show B.take (s - (x.length + 1)) ++ (B.drop (s - (x.length + 1)) ++ y) = B ++ y by rw [← List.append_assoc, List.take_append_drop]] at h2
      refine ⟨B.take (s - (x.length + 1)) ++ e :: B.drop (s - (x.length + 1)), ?_, h1.1, h1.2⟩
      rw [s3, Option.bind_some, show x ++ ([e] ++ (B ++ y)) = x ++ e :: (B ++ y) from rfl, h2, Option.bind_some]
      simp [F3]
    rw [if_neg (by omega)]
    simp only [F3, Option.bind_some]
    by_cases c2 : B.length = 1
    · rw [if_pos (by omega)]
      obtain ⟨e, rfl⟩ := List.length_eq_one_iff.1 c2
      obtain ⟨s, s1, s2, s3, s4, s5⟩ := Li (S := Bc (x ++ (A ++ ([e] ++ y))) ((x.length + A.length : Nat) : Int)) (fin := fun i => i) (lo := x.length) (hi := x.length + A.length) (P := fun c => !decide (kl e < gk A (c - x.length))) (by omega)
        (fun s r h1 h2 h3 => by
          rw [Bc, if_pos (by omega), Hq (by omega)]
          obtain ⟨w, e1, e2⟩ := Is (x := x) (B := A) (y := [e] ++ y) (c := (s + r) / 2) (by omega) (by omega)
          rw [show ix (x ++ (A ++ ([e] ++ y))) ((x.length + A.length : Nat) : Int) = some e by rw [show x ++ (A ++ ([e] ++ y)) = (x ++ A) ++ e :: y by simp]; exact Gs (by simp), e1]
          simp only [Option.bind_some]
          rw [AJ (x := (((s + r) / 2 : Nat) : Int) + 1) (by omega), ← e2]
          by_cases c : kl e < kl w
          · rw [if_neg (by simp [(DO e w).2 c]), if_neg (by simp [c])]
          · rw [if_pos (by simp only [Bool.not_eq_true', decide_eq_false_iff_not]; exact fun h => c ((DO e w).1 h)), if_pos (by simp only [Bool.not_eq_true', decide_eq_false_iff_not]; exact c)]; rfl)
        (fun s h1 h2 => by rw [Bc, if_neg (by omega)])
      have h1 := Kt (b := e) hA (s := s - x.length) (by omega) (fun z h1 => by
          have := s4 (by omega)
          simp only [Bool.not_eq_true', decide_eq_false_iff_not] at this
          rw [show s - 1 - x.length = s - x.length - 1 by omega, FC h1] at this; omega)
        (fun z h1 => by
          have := s5 (by omega)
          simp only [Bool.not_eq_false', decide_eq_true_iff] at this
          rw [FC h1] at this; exact this)
      have hl : (x ++ A.take (s - x.length)).length = s := by simp; omega
      have h2 := Ll (S := A9 ((s : Nat) : Int)) (n := s) (N := (x ++ (A ++ ([e] ++ y))).length) (fun x' y' p q hx hl => by
          have hb : (x' ++ p :: q :: y').length ≤ 1000000000 := by rw [hl]; exact hN
          simp only [List.length_append, List.length_cons] at hb
          have e1 := EP (x := x') (z := []) (y := y') (p := p) (q := q) (i := (x'.length : Int)) (j := ((x'.length + 1 : Nat) : Int)) rfl (by simp)
          have e2 := swap_at' (x := x') (z := []) (y := y') (p := p) (q := q) (i := (x'.length : Int)) (j := ((x'.length + 1 : Nat) : Int)) rfl (by simp)
          simp only [List.nil_append] at e1 e2
          rw [A9, if_pos (by omega), show Ay (((x'.length + 1 : Nat) : Int) - 1) = (x'.length : Int) by rw [AJ (by omega)]; omega, e1.2.1, e1.1]
          simp only [Option.bind_some]
          rw [e2, Option.bind_some, e1.2.2.2])
        (fun L => by rw [A9, if_neg (by omega)]) (x ++ A.take (s - x.length)) hl e (A.drop (s - x.length)) y (by simp; omega)
      refine ⟨A.take (s - x.length) ++ e :: A.drop (s - x.length), ?_, h1.1, h1.2⟩
      rw [s3, Option.bind_some]
      rw [show (x ++ A.take (s - x.length)) ++ (A.drop (s - x.length) ++ e :: y) = x ++ (A ++ ([e] ++ y)) by rw [List.append_assoc, ← List.append_assoc (A.take _), List.take_append_drop]; rfl, show (x ++ A.take (s - x.length)).length + (A.drop (s - x.length)).length = x.length + A.length by simp; omega] at h2
      rw [h2, Option.bind_some]
      simp
    rw [if_neg (by omega)]
    simp only [Option.bind_some]
    obtain ⟨h, hh⟩ : ∃ h, h = (A.length + B.length) / 2 := ⟨_, rfl⟩
    obtain ⟨lo, hlo⟩ : ∃ lo, lo = if h < A.length then h - B.length else 0 := ⟨_, rfl⟩
    obtain ⟨hi, hhi⟩ : ∃ hi, hi = if h < A.length then h else A.length := ⟨_, rfl⟩
    have hmid : Ay (BU .u64 (IntKind.u64.wrap (Ay ((x.length : Int) + ((x.length + A.length + B.length : Nat) : Int)))) 1) = ((x.length + h : Nat) : Int) := by
      rw [Hq (by omega)]; congr 1; omega
    have hnn : Ay (((x.length + h : Nat) : Int) + ((x.length + A.length : Nat) : Int)) = ((x.length + h + (x.length + A.length) : Nat) : Int) := by rw [AJ (by omega)]; omega
    rw [hmid, hnn]
    have e0 : (if ((x.length + h : Nat) : Int) < ((x.length + A.length : Nat) : Int) then some (Ay (((x.length + h + (x.length + A.length) : Nat) : Int) - ((x.length + A.length + B.length : Nat) : Int)), ((x.length + h : Nat) : Int)) else some ((x.length : Int), ((x.length + A.length : Nat) : Int))) = some (((x.length + lo : Nat) : Int), ((x.length + hi : Nat) : Int)) := by
      by_cases c : h < A.length
      · rw [if_pos c] at hlo hhi
        rw [if_pos (by omega), AJ (by omega)]
        congr 2 <;> omega
      · rw [if_neg c] at hlo hhi
        rw [if_neg (by omega), hlo, hhi]; rfl
    have hb : lo ≤ hi ∧ hi ≤ h ∧ hi ≤ A.length ∧ h ≤ lo + B.length := by
      by_cases c : h < A.length
      · rw [if_pos c] at hlo hhi; omega
      · rw [if_neg c] at hlo hhi; omega
    rw [e0]
    simp only [Option.bind_some]
    obtain ⟨s, s1, s2, s3, s4, s5⟩ := Li (S := A8 (x ++ (A ++ (B ++ y))) (x.length : Int) ((x.length + A.length : Nat) : Int) ((x.length + A.length + B.length : Nat) : Int)) (fin := fun i => i) (lo := x.length + lo) (hi := x.length + hi) (P := fun c => !decide (gk B (h - 1 - (c - x.length)) < gk A (c - x.length))) (by omega)
      (fun s r h1 h2 h3 => by
        rw [A8, if_pos (by omega), hmid, hnn, Hq (a := s) (b := r) (by omega), show Ay (Ay (((x.length + h + (x.length + A.length) : Nat) : Int) - 1) - (((s + r) / 2 : Nat) : Int)) = ((x.length + h + (x.length + A.length) - 1 - (s + r) / 2 : Nat) : Int) by rw [AJ (x := ((x.length + h + (x.length + A.length) : Nat) : Int) - 1) (by omega), AJ (by omega)]; omega]
        obtain ⟨w, e1, e2⟩ := Is (x := x ++ A) (B := B) (y := y) (c := x.length + h + (x.length + A.length) - 1 - (s + r) / 2) (by simp; omega) (by simp; omega)
        obtain ⟨v, e3, e4⟩ := Is (x := x) (B := A) (y := B ++ y) (c := (s + r) / 2) (by omega) (by omega)
        rw [List.append_assoc] at e1
        rw [e1, e3]
        simp only [Option.bind_some]
        rw [AJ (x := (((s + r) / 2 : Nat) : Int) + 1) (by omega), ← e4, show h - 1 - ((s + r) / 2 - x.length) = x.length + h + (x.length + A.length) - 1 - (s + r) / 2 - (x ++ A).length by simp; omega, ← e2]
        by_cases c : kl w < kl v
        · rw [if_neg (by simp [(DO w v).2 c]), if_neg (by simp [c])]
        · rw [if_pos (by simp only [Bool.not_eq_true', decide_eq_false_iff_not]; exact fun h => c ((DO w v).1 h)), if_pos (by simp only [Bool.not_eq_true', decide_eq_false_iff_not]; exact c)]; rfl)
      (fun s h1 h2 => by rw [A8, if_neg (by omega)])
    obtain ⟨k, rfl⟩ : ∃ k, s = x.length + k := ⟨s - x.length, by omega⟩
    obtain ⟨g1, g2, g3, g4, g5⟩ := J6 (s := k) hA hB hh hA0 hB0 hlo hhi (by omega) (by omega)
      (fun z h1 h2 => by
        have := s4 (by omega)
        simp only [Bool.not_eq_true', decide_eq_false_iff_not] at this
        rw [show x.length + k - 1 - x.length = k - 1 by omega, FC h1, FC h2] at this; omega)
      (fun z h1 h2 => by
        have := s5 (by omega)
        simp only [Bool.not_eq_false', decide_eq_true_iff] at this
        rw [show x.length + k - x.length = k by omega, FC h1, FC h2] at this; exact this)
    rw [s3]
    simp only [Option.bind_some]
    clear s3 s4 s5
    obtain ⟨u, hu⟩ : ∃ u, u = h - k := ⟨_, rfl⟩
    rw [← hu] at g3 g4 g5
    have l1 : (A.take k).length = k := by rw [List.length_take]; omega
    have l2 : (A.drop k).length = A.length - k := List.length_drop
    have l3 : (B.take u).length = u := by rw [List.length_take]; omega
    have l4 : (B.drop u).length = B.length - u := List.length_drop
    have hAe : A.take k ++ A.drop k = A := List.take_append_drop _ _
    have hBe : B.take u ++ B.drop u = B := List.take_append_drop _ _
    rw [show Ay (((x.length + h + (x.length + A.length) : Nat) : Int) - ((x.length + k : Nat) : Int)) = ((x.length + A.length + u : Nat) : Int) by rw [AJ (by omega)]; omega]
    generalize A.take k = A1 at *
    generalize A.drop k = A2 at *
    generalize B.take u = B1 at *
    generalize B.drop u = B2 at *
    have hA' := hA; have hB' := hB
    rw [← hAe] at hA'; rw [← hBe] at hB'
    have hs1 := DL.1 hA'
    have hs2 := DL.1 hB'
    have q1 : (if (decide (((x.length + k : Nat) : Int) < ((x.length + A.length : Nat) : Int)) && decide (((x.length + A.length : Nat) : Int) < ((x.length + A.length + u : Nat) : Int))) = true then (Bd (x ++ (A ++ (B ++ y))) ((x.length + k : Nat) : Int) ((x.length + A.length : Nat) : Int) ((x.length + A.length + u : Nat) : Int)).bind fun x33 => some x33 else some (x ++ (A ++ (B ++ y)))) = some (x ++ (A1 ++ (B1 ++ (A2 ++ (B2 ++ y))))) := by
      by_cases c : k < A.length ∧ 0 < u
      · rw [if_pos (by simp only [Bool.and_eq_true, decide_eq_true_iff]; omega)]
        have hr := Kj (x := x ++ A1) (P := A2) (Q := B1) (y := B2 ++ y) (a := ((x.length + k : Nat) : Int)) (m := ((x.length + A.length : Nat) : Int)) (b := ((x.length + A.length + u : Nat) : Int)) (by simp; omega) (by simp; omega) (by simp; omega) (by omega) (by omega) (by simp; omega)
        rw [show x ++ (A ++ (B ++ y)) = (x ++ A1) ++ (A2 ++ (B1 ++ (B2 ++ y))) by rw [← hAe, ← hBe]; simp, hr]
        simp
      · rw [if_neg (by simp only [Bool.and_eq_true, decide_eq_true_iff]; omega), ← hAe, ← hBe]
        by_cases c3 : k < A.length
        · have : B1 = [] := List.eq_nil_of_length_eq_zero (by omega)
          subst this; simp
        · have : A2 = [] := List.eq_nil_of_length_eq_zero (by omega)
          subst this; simp
    rw [q1]
    simp only [Option.bind_some]
    have q2 : ∃ M1, (if (decide ((x.length : Int) < ((x.length + k : Nat) : Int)) && decide (((x.length + k : Nat) : Int) < ((x.length + h : Nat) : Int))) = true then (Au n (x ++ (A1 ++ (B1 ++ (A2 ++ (B2 ++ y))))) (x.length : Int) ((x.length + k : Nat) : Int) ((x.length + h : Nat) : Int)).bind fun x35 => some x35 else some (x ++ (A1 ++ (B1 ++ (A2 ++ (B2 ++ y)))))) = some (x ++ (M1 ++ (A2 ++ (B2 ++ y)))) ∧ Sm kl (A1 ++ B1) M1 ∧ D9 kl M1 := by
      by_cases c : 0 < k ∧ k < h
      · rw [if_pos (by simp only [Bool.and_eq_true, decide_eq_true_iff]; omega)]
        obtain ⟨M1, m1, m2, m3⟩ := ih h (by omega) x A1 B1 (A2 ++ (B2 ++ y)) (by omega) (by omega) (by omega) hs1.1 hs2.1 (by simp; omega) n (by omega)
        rw [show x.length + A1.length + B1.length = x.length + h by omega, l1] at m1
        exact ⟨M1, by rw [m1]; rfl, m2, m3⟩
      · rw [if_neg (by simp only [Bool.and_eq_true, decide_eq_true_iff]; omega)]
        refine ⟨A1 ++ B1, by simp, Sm.rfl, ?_⟩
        by_cases c3 : 0 < k
        · have : B1 = [] := List.eq_nil_of_length_eq_zero (by omega)
          subst this; rw [List.append_nil]; exact hs1.1
        · have : A1 = [] := List.eq_nil_of_length_eq_zero (by omega)
          subst this; exact hs2.1
    obtain ⟨M1, m1, m2, m3⟩ := q2
    rw [m1]
    simp only [Option.bind_some]
    have lm := m2.len
    rw [List.length_append] at lm
    have q3 : ∃ M2, (if (decide (((x.length + h : Nat) : Int) < ((x.length + A.length + u : Nat) : Int)) && decide (((x.length + A.length + u : Nat) : Int) < ((x.length + A.length + B.length : Nat) : Int))) = true then (Au n (x ++ (M1 ++ (A2 ++ (B2 ++ y)))) ((x.length + h : Nat) : Int) ((x.length + A.length + u : Nat) : Int) ((x.length + A.length + B.length : Nat) : Int)).bind fun x36 => some x36 else some (x ++ (M1 ++ (A2 ++ (B2 ++ y))))) = some (x ++ (M1 ++ (M2 ++ y))) ∧ Sm kl (A2 ++ B2) M2 ∧ D9 kl M2 := by
      by_cases c : k < A.length ∧ u < B.length
      · rw [if_pos (by simp only [Bool.and_eq_true, decide_eq_true_iff]; omega)]
        obtain ⟨M2, m4, m5, m6⟩ := ih (A2.length + B2.length) (by omega) (x ++ M1) A2 B2 y rfl (by omega) (by omega) hs1.2.1 hs2.2.1 (by simp; omega) n (by omega)
        rw [show (x ++ M1).length + A2.length + B2.length = x.length + A.length + B.length by rw [List.length_append]; omega, show (x ++ M1).length + A2.length = x.length + A.length + u by rw [List.length_append]; omega, show (x ++ M1).length = x.length + h by rw [List.length_append]; omega, show (x ++ M1) ++ (A2 ++ (B2 ++ y)) = x ++ (M1 ++ (A2 ++ (B2 ++ y))) by simp] at m4
        exact ⟨M2, by rw [m4]; simp, m5, m6⟩
      · rw [if_neg (by simp only [Bool.and_eq_true, decide_eq_true_iff]; omega)]
        refine ⟨A2 ++ B2, by simp, Sm.rfl, ?_⟩
        by_cases c3 : k < A.length
        · have : B2 = [] := List.eq_nil_of_length_eq_zero (by omega)
          subst this; rw [List.append_nil]; exact hs1.2.1
        · have : A2 = [] := List.eq_nil_of_length_eq_zero (by omega)
          subst this; exact hs2.2.1
    obtain ⟨M2, m4, m5, m6⟩ := q3
    refine ⟨M1 ++ M2, by rw [m4]; simp, ?_⟩
    have hf := Io hA' hB' g4 g5 m2 m3 m5 m6
    rw [hAe, hBe] at hf
    exact hf
theorem Jv {x A B y : List Wy} (hA0 : 0 < A.length) (hB0 : 0 < B.length) (hA : D9 kl A) (hB : D9 kl B) (hN : (x ++ (A ++ (B ++ y))).length ≤ 1000000000) {a m b : Int} (ha : a = x.length) (hm : m = ((x.length + A.length : Nat) : Int)) (hb : b = ((x.length + A.length + B.length : Nat) : Int)) :
    ∃ M, A4 (x ++ (A ++ (B ++ y))) a m b = some (x ++ (M ++ y)) ∧ Sm kl (A ++ B) M ∧ D9 kl M := by
  subst ha hm hb
  obtain ⟨M, h1, h2⟩ := KG (A.length + B.length) x A B y rfl hA0 hB0 hA hB hN (A.length + B.length) (Nat.le_refl _)
  exact ⟨M, JK (g := fun n => Au n (x ++ (A ++ (B ++ y))) _ _ _) (fun n r h => Ck n _ _ _ _ r h) h1, h2⟩
def IR (k : Nat) (Ls : List (List Wy)) : Prop := ∀ S ∈ Ls, S.length = k ∧ D9 kl S
theorem JP {N : Nat} (hN : N ≤ 1000000) : ∀ (d : Nat) (D R : List Wy) (Ls : List (List Wy)), R.length = d → D = Ls.flatten → IR 20 Ls → (D ++ R).length = N →
    ∃ D' R' Ls', AM (AP (N : Int)) (D ++ R, (D.length : Int), ((D.length + 20 : Nat) : Int)) = some (D' ++ R', (D'.length : Int)) ∧ D' = Ls'.flatten ∧ IR 20 Ls' ∧ R'.length < 20 ∧ Sm kl (D ++ R) (D' ++ R') := by
  intro d
  induction d using Nat.strongRecOn with
  | _ d ih =>
    intro D R Ls hd hD hL hl
    have hl' := hl
    rw [List.length_append] at hl'
    by_cases c : R.length < 20
    · refine ⟨D, R, Ls, Bh ?_, hD, hL, c, Sm.rfl⟩
      rw [AP, if_neg (by omega)]
    · obtain ⟨S, y, rfl, hS⟩ : ∃ S y, R = S ++ y ∧ S.length = 20 := ⟨R.take 20, R.drop 20, (List.take_append_drop _ _).symm, by rw [List.length_take]; omega⟩
      rw [List.length_append] at hd hl' c
      obtain ⟨M, m1, m2, m3⟩ := JA (x := D) (S := S) (y := y) (by rw [hl]; omega)
      have hM := m3.len
      obtain ⟨D', R', Ls', e1, e2, e3, e4, e5⟩ := ih y.length (by omega) (D ++ M) y (Ls ++ [M]) rfl (by rw [hD]; simp) (fun T hT => by
        rcases List.mem_append.1 hT with h | h
        · exact hL T h
        · rw [List.mem_singleton.1 h]; exact ⟨by omega, m2⟩) (by simp; omega)
      refine ⟨D', R', Ls', ?_, e2, e3, e4, ?_⟩
      · have hst : AP (N : Int) (D ++ (S ++ y), (D.length : Int), ((D.length + 20 : Nat) : Int)) = some (.inl ((D ++ M) ++ y, ((D ++ M).length : Int), (((D ++ M).length + 20 : Nat) : Int))) := by
          rw [AP, if_pos (by omega), show ((D.length + 20 : Nat) : Int) = ((D.length + S.length : Nat) : Int) by omega, m1, Option.bind_some, AJ (by omega)]
          rw [show (D ++ M).length = D.length + S.length by rw [List.length_append]; omega, List.append_assoc, show ((D.length + S.length : Nat) : Int) + 20 = ((D.length + S.length + 20 : Nat) : Int) by omega]
        rw [Cj hst]; exact e1
      · have h1 : Sm kl (D ++ (S ++ y)) (D ++ (M ++ y)) := (Sm.rfl).app (m3.app Sm.rfl)
        rw [← List.append_assoc D M y] at h1
        exact h1.trans e5
theorem J0 {N k : Nat} (hN : N ≤ 1000000) (hk : 0 < k) (hk2 : k ≤ N) : ∀ (n : Nat) (D : List Wy) (Ls : List (List Wy)) (R : List Wy) (Ds : List (List Wy)), Ls.length = n → D = Ds.flatten → IR (2 * k) Ds → IR k Ls → D9 kl R → R.length < k → (D ++ (Ls.flatten ++ R)).length = N →
    ∃ L' Ds' R', ((AM (AQ (N : Int) (k : Int)) (D ++ (Ls.flatten ++ R), (D.length : Int), ((D.length + 2 * k : Nat) : Int))).bind fun (x10, x11) => (if Ay (x11 + (k : Int)) < (N : Int) then (A4 x10 x11 (Ay (x11 + (k : Int))) (N : Int)).bind fun x17 => some x17 else some x10)) = some L' ∧ L' = Ds'.flatten ++ R' ∧ IR (2 * k) Ds' ∧ D9 kl R' ∧ R'.length < 2 * k ∧ Sm kl (D ++ (Ls.flatten ++ R)) L' := by
  intro n
  induction n using Nat.strongRecOn with
  | _ n ih =>
    intro D Ls R Ds hn hD hDs hL hR hRk hl
    have hl' := hl
    simp only [List.length_append] at hl'
    match Ls, hn, hL with
    | [], hn, hL =>
      simp only [List.flatten_nil, List.nil_append, List.length_nil, Nat.zero_add] at hl hl' ⊢
      rw [Bh (e := (D ++ R, (D.length : Int))) (by rw [AQ, if_neg (by omega)]), Option.bind_some]
      refine ⟨D ++ R, Ds, R, ?_, by rw [hD], hDs, hR, by omega, Sm.rfl⟩
      show (if Ay ((D.length : Int) + (k : Int)) < (N : Int) then _ else _) = _
      rw [AJ (by omega), if_neg (by omega)]
    | [S], hn, hL =>
      have hS := hL S (List.mem_singleton.2 rfl)
      simp only [List.flatten_cons, List.flatten_nil, List.append_nil] at hl hl' ⊢
      rw [Bh (e := (D ++ (S ++ R), (D.length : Int))) (by rw [AQ, if_neg (by omega)]), Option.bind_some]
      show ∃ L' Ds' R', (if Ay ((D.length : Int) + (k : Int)) < (N : Int) then (A4 (D ++ (S ++ R)) (D.length : Int) (Ay ((D.length : Int) + (k : Int))) (N : Int)).bind fun x17 => some x17 else some (D ++ (S ++ R))) = _ ∧ _
      rw [AJ (by omega)]
      by_cases c : 0 < R.length
      · rw [if_pos (by omega)]
        obtain ⟨M, m1, m2, m3⟩ := Jv (x := D) (A := S) (B := R) (y := []) (a := (D.length : Int)) (m := (D.length : Int) + (k : Int)) (b := (N : Int)) (by omega) c hS.2 hR (by simp; omega) rfl (by omega) (by omega)
        rw [List.append_nil, List.append_nil] at m1
        have hM := m2.len
        rw [List.length_append] at hM
        refine ⟨D ++ M, Ds, M, by rw [m1]; rfl, by rw [hD], hDs, m3, by omega, (Sm.rfl).app m2⟩
      · rw [if_neg (by omega)]
        have : R = [] := List.eq_nil_of_length_eq_zero (by omega)
        subst this
        rw [List.append_nil]
        exact ⟨D ++ S, Ds, S, rfl, by rw [hD], hDs, hS.2, by omega, Sm.rfl⟩
    | S1 :: S2 :: Ls, hn, hL =>
      have hS1 := hL S1 (by simp)
      have hS2 := hL S2 (by simp)
      simp only [List.flatten_cons, List.append_assoc, List.length_append] at hl hl' ⊢
      simp only [List.length_cons] at hn
      obtain ⟨M, m1, m2, m3⟩ := Jv (x := D) (A := S1) (B := S2) (y := Ls.flatten ++ R) (a := (D.length : Int)) (m := (D.length : Int) + (k : Int)) (b := ((D.length + 2 * k : Nat) : Int)) (by omega) (by omega) hS1.2 hS2.2 (by simp only [List.length_append]; omega) rfl (by omega) (by omega)
      have hM := m2.len
      rw [List.length_append] at hM
      obtain ⟨L', Ds', R', e1, e2, e3, e4, e5, e6⟩ := ih Ls.length (by omega) (D ++ M) Ls R (Ds ++ [M]) rfl (by rw [hD]; simp) (fun T hT => by
        rcases List.mem_append.1 hT with h | h
        · exact hDs T h
        · rw [List.mem_singleton.1 h]; exact ⟨by omega, m3⟩) (fun T hT => hL T (by simp [hT])) hR hRk (by simp only [List.length_append]; omega)
      refine ⟨L', Ds', R', ?_, e2, e3, e4, e5, ?_⟩
      · have hst : AQ (N : Int) (k : Int) (D ++ (S1 ++ (S2 ++ (Ls.flatten ++ R))), (D.length : Int), ((D.length + 2 * k : Nat) : Int)) = some (.inl ((D ++ M) ++ (Ls.flatten ++ R), ((D ++ M).length : Int), (((D ++ M).length + 2 * k : Nat) : Int))) := by
          rw [AQ, if_pos (by omega), AJ (x := (D.length : Int) + (k : Int)) (by omega), m1, Option.bind_some, AJ (x := 2 * (k : Int)) (by omega), AJ (by omega)]
          rw [show (D ++ M).length = D.length + 2 * k by rw [List.length_append]; omega, List.append_assoc, show ((D.length + 2 * k : Nat) : Int) + 2 * (k : Int) = ((D.length + 2 * k + 2 * k : Nat) : Int) by omega]
        rw [Cj hst]; exact e1
      · have h1 : Sm kl (D ++ (S1 ++ (S2 ++ (Ls.flatten ++ R)))) (D ++ (M ++ (Ls.flatten ++ R))) := by
          have := (Sm.rfl (key := kl) (L := D)).app (m2.app (Sm.rfl (key := kl) (L := Ls.flatten ++ R)))
          simpa using this
        rw [← List.append_assoc D M] at h1
        exact h1.trans e6
theorem JM {N : Nat} (hN : N ≤ 1000000) : ∀ (d k : Nat) (Ls : List (List Wy)) (R : List Wy), N - k = d → 0 < k → IR k Ls → D9 kl R → R.length < k → (Ls.flatten ++ R).length = N →
    ∃ M, AM (A0 (N : Int)) (Ls.flatten ++ R, (k : Int)) = some M ∧ D9 kl M ∧ Sm kl (Ls.flatten ++ R) M := by
  intro d
  induction d using Nat.strongRecOn with
  | _ d ih =>
    intro k Ls R hd hk hL hR hRk hl
    by_cases c : k < N
    · obtain ⟨L', Ds', R', e1, e2, e3, e4, e5, e6⟩ := J0 hN hk (by omega) Ls.length [] Ls R [] rfl rfl (fun _ h => nomatch h) hL hR hRk (by rw [List.nil_append]; exact hl)
      simp only [List.nil_append, List.length_nil, Nat.zero_add] at e1 e6
      subst e2
      obtain ⟨M, m1, m2, m3⟩ := ih (N - 2 * k) (by omega) (2 * k) Ds' R' rfl (by omega) e3 e4 e5 (by rw [e6.len]; exact hl)
      have hst : A0 (N : Int) (Ls.flatten ++ R, (k : Int)) = some (.inl (Ds'.flatten ++ R', ((2 * k : Nat) : Int))) := by
        rw [A0, if_pos (by omega), AJ (x := 2 * (k : Int)) (by omega), show 2 * (k : Int) = ((2 * k : Nat) : Int) by omega]
        obtain ⟨⟨u, v⟩, h1, h2⟩ := Al e1
        simp only at h2
        rw [show ((0 : Nat) : Int) = 0 from rfl] at h1
        rw [h1, Option.bind_some]
        simp only []
        rw [h2, Option.bind_some, AJ (by omega)]
        rw [show (k : Int) * 2 = ((2 * k : Nat) : Int) by omega]
      exact ⟨M, by rw [Cj hst]; exact m1, m2, e6.trans m3⟩
    · refine ⟨Ls.flatten ++ R, Bh (by rw [A0, if_neg (by omega)]), ?_, Sm.rfl⟩
      rw [List.length_append] at hl
      match Ls, hL with
      | [], hL => exact hR
      | [S], hL =>
        have hS := hL S (List.mem_singleton.2 rfl)
        simp only [List.flatten_cons, List.flatten_nil, List.append_nil] at hl ⊢
        have : R = [] := List.eq_nil_of_length_eq_zero (by omega)
        subst this
        rw [List.append_nil]; exact hS.2
      | S1 :: S2 :: Ls, hL =>
        have hS1 := hL S1 (by simp)
        have hS2 := hL S2 (by simp)
        simp only [List.flatten_cons, List.length_append] at hl
        omega
theorem IF {L : List Wy} (hN : L.length ≤ 1000000) : ∃ M, AL L = some M ∧ D9 kl M ∧ Sm kl L M := by
  obtain ⟨D, R, Ls, e1, e2, e3, e4, e5⟩ := JP hN L.length [] L [] rfl rfl (fun _ h => nomatch h) rfl
  simp only [List.nil_append, List.length_nil, Nat.zero_add] at e1 e5
  have hl := e5.len
  rw [List.length_append] at hl
  obtain ⟨M, m1, m2, m3⟩ := JA (x := D) (S := R) (y := []) (by simp; omega)
  rw [List.append_nil, List.append_nil] at m1
  subst e2
  obtain ⟨M', n1, n2, n3⟩ := JM hN _ 20 Ls M rfl (by decide) e3 m2 (by rw [m3.len]; exact e4) (by rw [List.length_append, m3.len]; omega)
  refine ⟨M', ?_, n2, e5.trans (((Sm.rfl).app m3).trans n3)⟩
  unfold AL BB
  rw [show ((20 : Int)) = ((20 : Nat) : Int) from rfl, show AM (AP (L.length : Int)) (L, 0, ((20 : Nat) : Int)) = some (Ls.flatten ++ R, (Ls.flatten.length : Int)) from e1, Option.bind_some]
  simp only []
  rw [show ((L.length : Nat) : Int) = ((Ls.flatten.length + R.length : Nat) : Int) by omega, m1, Option.bind_some, show ((Ls.flatten.length + R.length : Nat) : Int) = (L.length : Int) by omega, n1]
  rfl
end Go.Proofs.Ytemacefkdopgaaa
