/- Layer 35: the library's stable sort. Conditions: none. -/
import Derived.Test.YtemacefkdopgaaabMST
import Derived.Test.YtemacefkdopgaaabA6
import Derived.Test.YtemacefkdopgaaabEV
namespace Go.Proofs.Ytemacefkdopgaaa
set_option linter.unusedVariables false
set_option linter.unusedSimpArgs false
open Go Go.RowKit
abbrev Wy : Type := Int × Int × Int × (Int × Int × Int × Int) × Int × Int
abbrev kl (w : Wy) : Int := w.2.2.2.2.2
theorem D3 (a b : Wy) : (BT a b < 0) ↔ kl a < kl b := by
  show CA a.2.2.2.2.2 b.2.2.2.2.2 < 0 ↔ a.2.2.2.2.2 < b.2.2.2.2.2
  generalize a.2.2.2.2.2 = p
  generalize b.2.2.2.2.2 = q
  unfold CA Cv
  rw [if_neg (by simp), if_neg (by simp)]
  by_cases c : p < q
  · rw [if_pos c]; exact ⟨fun _ => c, fun _ => by decide⟩
  · rw [if_neg c]
    by_cases c2 : q < p
    · rw [if_pos c2]; exact ⟨fun h => absurd h (by decide), fun h => absurd h c⟩
    · rw [if_neg c2]; exact ⟨fun h => absurd h (by decide), fun h => absurd h c⟩
theorem LY (x : Int) : IntKind.u64.wrap x = x % 18446744073709551616 := by
  unfold IntKind.wrap
  simp only [IntKind.bits, IntKind.signed]
  simp
theorem HE {a b : Nat} (h : a + b < 4611686018427387904) : AD (B5 .u64 (IntKind.u64.wrap (AD ((a : Int) + (b : Int)))) 1) = (((a + b) / 2 : Nat) : Int) := by
  rw [AY (x := (a : Int) + (b : Int)) (by omega), LY, Int.emod_eq_of_lt (by omega) (by omega)]
  have e : B5 .u64 ((a : Int) + (b : Int)) 1 = (((a + b) / 2 : Nat) : Int) := by
    show ((a : Int) + (b : Int)).fdiv 2 = _
    rw [Int.fdiv_eq_ediv_of_nonneg _ (by decide)]
    omega
  rw [e, AY (by omega)]
theorem ID {x z y : List Wy} {p q : Wy} {i j : Int} (hi : i = x.length) (hj : j = x.length + 1 + z.length) : ix (CJ (x ++ p :: (z ++ q :: y)) i q) j = some q := by
  rw [Fo hi]; exact (E9 (p := q) hi hj).2.1
theorem swap_at' {x z y : List Wy} {p q : Wy} {i j : Int} (hi : i = x.length) (hj : j = x.length + 1 + z.length) : ix (CJ (x ++ p :: (z ++ q :: y)) j p) i = some p := by
  rw [show x ++ p :: (z ++ q :: y) = (x ++ p :: z) ++ q :: y by simp, Fo (show j = ((x ++ p :: z).length : Nat) by simp; omega)]
  rw [show (x ++ p :: z) ++ p :: y = x ++ p :: (z ++ p :: y) by simp]
  exact GL hi
theorem JW {a : Nat} {x y : List Wy} {p q : Wy} (ha : a ≤ x.length) (hN : (x ++ p :: q :: y).length ≤ 1000000000) :
    AH (a : Int) (x ++ p :: q :: y, ((x.length + 1 : Nat) : Int)) = if kl q < kl p then some (.inl (x ++ q :: p :: y, (x.length : Int))) else some (.inr (x ++ p :: q :: y)) := by
  simp only [List.length_append, List.length_cons] at hN
  have e1 := E9 (x := x) (z := []) (y := y) (p := p) (q := q) (i := (x.length : Int)) (j := ((x.length + 1 : Nat) : Int)) rfl (by simp)
  have e2 := swap_at' (x := x) (z := []) (y := y) (p := p) (q := q) (i := (x.length : Int)) (j := ((x.length + 1 : Nat) : Int)) rfl (by simp)
  simp only [List.nil_append] at e1 e2
  rw [AH, if_pos (by omega), show AD (((x.length + 1 : Nat) : Int) - 1) = (x.length : Int) by rw [AY (by omega)]; omega]
  rw [e1.2.1, e1.1]
  simp only [Option.bind_some]
  by_cases c : kl q < kl p
  · rw [if_pos (decide_eq_true ((D3 q p).2 c)), if_pos c, e2]
    simp only [Option.bind_some]
    rw [e1.2.2.2]
  · rw [if_neg (by rw [decide_eq_true_iff]; exact fun h => c ((D3 q p).1 h)), if_neg c]
theorem Kk (a : Nat) (L : List Wy) : AH (a : Int) (L, (a : Int)) = some (.inr L) := by
  rw [AH, if_neg (by omega)]; rfl
theorem Jp {x S y : List Wy} (hN : (x ++ (S ++ y)).length ≤ 1000000000) : ∃ M, A0 (x ++ (S ++ y)) (x.length : Int) ((x.length + S.length : Nat) : Int) = some (x ++ (M ++ y)) ∧ Eo kl M ∧ Sm kl S M := by
  have hN' := hN
  simp only [List.length_append] at hN'
  have hT : ∀ (L : List Wy) (i : Nat), L.length = (x ++ (S ++ y)).length → x.length < i → i < x.length + S.length → AS (x.length : Int) ((x.length + S.length : Nat) : Int) (L, (i : Int)) = (AU (AH (x.length : Int)) (L, (i : Int))).bind fun x => some (.inl (x, ((i + 1 : Nat) : Int))) := fun L i hL h1 h2 => by
    rw [AS, if_pos (by omega), AY (by omega)]; rfl
  have hTe : ∀ (L : List Wy) (i : Nat), x.length + S.length ≤ i → AS (x.length : Int) ((x.length + S.length : Nat) : Int) (L, (i : Int)) = some (.inr L) := fun L i h => by
    rw [AS, if_neg (by omega)]
  unfold A0
  rw [show AD ((x.length : Int) + 1) = ((x.length + 1 : Nat) : Int) by rw [AY (by omega)]; rfl]
  cases S with
  | nil => exact ⟨[], by rw [Bu (hTe _ _ (by simp))], HI, Sm.rfl⟩
  | cons e R =>
    have h := Lf (key := kl) (N := (x ++ (e :: R ++ y)).length) (fun x' y' p q h1 h2 => JW h1 (by rw [h2]; exact hN)) (Kk x.length) hT hTe x rfl R [e] y (by simp) (by simp) (by simp; omega) (IF e)
    exact h
theorem KX {x P z Q y : List Wy} {a b n : Int} (ha : a = x.length) (hn : n = P.length) (hn2 : n = Q.length) (hb : b = x.length + P.length + z.length) (hN : (x ++ (P ++ (z ++ (Q ++ y)))).length ≤ 1000000000) :
    AG (x ++ (P ++ (z ++ (Q ++ y)))) a b n = some (x ++ (Q ++ (z ++ (P ++ y)))) := by
  simp only [List.length_append] at hN
  unfold AG
  refine MZ (a := x.length) (b := x.length + P.length + z.length) (n := P.length) (fun x' z' y' p q i hi hx hz => ?_) (fun L => ?_) rfl rfl (by omega) (by omega)
  · have e1 := E9 (x := x') (z := z') (y := y') (p := p) (q := q) (i := (x'.length : Int)) (j := (x'.length + 1 + z'.length : Int)) rfl rfl
    have e2 := ID (x := x') (z := z') (y := y') (p := p) (q := q) (i := (x'.length : Int)) (j := (x'.length + 1 + z'.length : Int)) rfl rfl
    rw [Bw, if_pos (by omega), show AD (a + (i : Int)) = (x'.length : Int) by rw [AY (by omega)]; omega, show AD (b + (i : Int)) = (x'.length + 1 + z'.length : Int) by rw [AY (by omega)]; omega, show AD ((i : Int) + 1) = ((i + 1 : Nat) : Int) by rw [AY (by omega)]; rfl]
    rw [e1.2.1, e1.1]
    simp only [Option.bind_some]
    rw [e2, Option.bind_some, e1.2.2.1]
  · rw [Bw, if_neg (by omega)]
theorem KJ {x P Q y : List Wy} {a m b : Int} (ha : a = x.length) (hm : m = x.length + P.length) (hb : b = x.length + P.length + Q.length) (hP : 0 < P.length) (hQ : 0 < Q.length) (hN : (x ++ (P ++ (Q ++ y))).length ≤ 1000000000) :
    Bn (x ++ (P ++ (Q ++ y))) a m b = some (x ++ (Q ++ (P ++ y))) := by
  have hN' := hN
  simp only [List.length_append] at hN'
  unfold Bn
  rw [show AD (m - a) = (P.length : Int) by rw [AY (by omega)]; omega, show AD (b - m) = (Q.length : Int) by rw [AY (by omega)]; omega]
  obtain ⟨L, i, e1, e2, e3⟩ := MB (sR := AG) (T := BJ m) (m := m) (N := (x ++ (P ++ (Q ++ y))).length) (fun x' P' z' Q' y' a' b' n' hl h1 h2 h3 h4 => KX h1 h2 h3 h4 (by rw [hl]; exact hN))
    (fun L i j hL hij him hmj hi hj => by
      rw [BJ]
      by_cases c : (i : Int) ≠ j
      · rw [if_pos c, if_pos c]
        by_cases c2 : (j : Int) < i
        · rw [if_pos c2, if_pos c2, AY (x := m - (i : Int)) (by omega), show AD ((i : Int) - (j : Int)) = ((i - j : Nat) : Int) by rw [AY (by omega)]; omega]
        · rw [if_neg c2, if_neg c2, AY (x := m - (i : Int)) (by omega), AY (x := m + (j : Int)) (by omega), AY (x := m + (j : Int) - (i : Int)) (by omega), show AD ((j : Int) - (i : Int)) = ((j - i : Nat) : Int) by rw [AY (by omega)]; omega]
      · rw [if_neg c, if_neg c]) (P.length + Q.length) x P Q y rfl hP hQ hm rfl
  rw [e1, Option.bind_some]
  show (AG L (AD (m - (i : Int))) m (i : Int)).bind _ = _
  rw [AY (x := m - (i : Int)) (by omega), e3]; rfl
def gk (B : List Wy) (i : Nat) : Int := match B[i]? with | some w => kl w | none => 0
theorem Ga {B : List Wy} {i : Nat} (h : i < B.length) : gk B i = kl B[i] := by unfold gk; rw [List.getElem?_eq_getElem h]
theorem IG {x B y : List Wy} {c : Nat} (h1 : x.length ≤ c) (h2 : c < x.length + B.length) : ∃ w, ix (x ++ (B ++ y)) (c : Int) = some w ∧ kl w = gk B (c - x.length) := by
  have h3 : c - x.length < B.length := by omega
  refine ⟨B[c - x.length], Ci ?_, (Ga h3).symm⟩
  rw [List.getElem?_append_right h1, List.getElem?_append_left h3, List.getElem?_eq_getElem h3]
theorem Lv : ∀ (t : Nat) (x A B y : List Wy), A.length + B.length = t → 0 < A.length → 0 < B.length → Eo kl A → Eo kl B → (x ++ (A ++ (B ++ y))).length ≤ 1000000000 → ∀ n, t ≤ n →
    ∃ M, Aw n (x ++ (A ++ (B ++ y))) (x.length : Int) ((x.length + A.length : Nat) : Int) ((x.length + A.length + B.length : Nat) : Int) = some (x ++ (M ++ y)) ∧ Sm kl (A ++ B) M ∧ Eo kl M := by
  intro t
  induction t using Nat.strongRecOn with
  | _ t ih =>
    intro x A B y ht hA0 hB0 hA hB hN n hn
    obtain ⟨n, rfl⟩ : ∃ k, n = k + 1 := ⟨n - 1, by omega⟩
    have hN' := hN
    simp only [List.length_append] at hN'
    show ∃ M, AJ (Aw n) (x ++ (A ++ (B ++ y))) (x.length : Int) ((x.length + A.length : Nat) : Int) ((x.length + A.length + B.length : Nat) : Int) = _ ∧ _ ∧ _
    unfold AJ
    rw [show AD (((x.length + A.length : Nat) : Int) - (x.length : Int)) = (A.length : Int) by rw [AY (by omega)]; omega, show AD (((x.length + A.length + B.length : Nat) : Int) - ((x.length + A.length : Nat) : Int)) = (B.length : Int) by rw [AY (by omega)]; omega]
    by_cases c1 : A.length = 1
    · rw [if_pos (by omega)]
      obtain ⟨e, rfl⟩ := List.length_eq_one_iff.1 c1
      obtain ⟨s, s1, s2, s3, s4, s5⟩ := LJ (S := Bk (x ++ ([e] ++ (B ++ y))) (x.length : Int)) (fin := fun i => i) (lo := x.length + [e].length) (hi := x.length + [e].length + B.length) (P := fun c => decide (gk B (c - (x.length + 1)) < kl e)) (by omega)
        (fun s r h1 h2 h3 => by
          simp only [List.length_singleton] at h1 h3
          rw [Bk, if_pos (by omega), HE (by omega)]
          obtain ⟨w, e1, e2⟩ := IG (x := x ++ [e]) (B := B) (y := y) (c := (s + r) / 2) (by simp; omega) (by simp; omega)
          rw [show (x ++ [e]) ++ (B ++ y) = x ++ ([e] ++ (B ++ y)) by simp] at e1
          rw [show (x ++ [e]).length = x.length + 1 by simp] at e2
          rw [e1, Option.bind_some, show ix (x ++ ([e] ++ (B ++ y))) (x.length : Int) = some e from GL rfl, Option.bind_some, AY (x := (((s + r) / 2 : Nat) : Int) + 1) (by omega)]
          rw [← e2]
          by_cases c : kl w < kl e
          · rw [if_pos ((D3 w e).2 c), if_pos (decide_eq_true c)]; rfl
          · rw [if_neg (fun h => c ((D3 w e).1 h)), if_neg (by simpa using c)])
        (fun s h1 h2 => by rw [Bk, if_neg (by omega)])
      simp only [List.length_singleton] at s1 s2 s4 s5
      have h1 := KP (a := e) hB (s := s - (x.length + 1)) (by omega) (fun z h1 => by
          have := s4 (by omega)
          rw [decide_eq_true_iff, show s - 1 - (x.length + 1) = s - (x.length + 1) - 1 by omega, Ga h1] at this; exact this)
        (fun z h1 => by
          have := s5 (by omega)
          rw [decide_eq_false_iff_not, Ga h1] at this; omega)
      have h2 := Lw (S := Bl ((s : Nat) : Int)) (n := s - 1) (fun x' y' p q hx => by
          have e1 := E9 (x := x') (z := []) (y := y') (p := p) (q := q) (i := (x'.length : Int)) (j := ((x'.length + 1 : Nat) : Int)) rfl (by simp)
          have e2 := ID (x := x') (z := []) (y := y') (p := p) (q := q) (i := (x'.length : Int)) (j := ((x'.length + 1 : Nat) : Int)) rfl (by simp)
          simp only [List.nil_append] at e1 e2
          rw [Bl, AY (x := (s : Int) - 1) (by omega), if_pos (by omega), show AD ((x'.length : Int) + 1) = ((x'.length + 1 : Nat) : Int) by rw [AY (by omega)]; rfl, e1.2.1, e1.1]
          simp only [Option.bind_some]
          rw [e2, Option.bind_some, e1.2.2.1])
        (fun L => by rw [Bl, AY (x := (s : Int) - 1) (by omega), if_neg (by omega)]) (B.take (s - (x.length + 1))) x (B.drop (s - (x.length + 1)) ++ y) e (by rw [List.length_take]; omega)
      rw [show B.take (s - (x.length + 1)) ++ (B.drop (s - (x.length + 1)) ++ y) = B ++ y by rw [← List.append_assoc, List.take_append_drop]] at h2
      refine ⟨B.take (s - (x.length + 1)) ++ e :: B.drop (s - (x.length + 1)), ?_, h1.1, h1.2⟩
      rw [s3, Option.bind_some, show x ++ ([e] ++ (B ++ y)) = x ++ e :: (B ++ y) from rfl, h2, Option.bind_some]
      simp [Hd]
    rw [if_neg (by omega)]
    simp only [Hd, Option.bind_some]
    by_cases c2 : B.length = 1
    · rw [if_pos (by omega)]
      obtain ⟨e, rfl⟩ := List.length_eq_one_iff.1 c2
      obtain ⟨s, s1, s2, s3, s4, s5⟩ := LJ (S := Bi (x ++ (A ++ ([e] ++ y))) ((x.length + A.length : Nat) : Int)) (fin := fun i => i) (lo := x.length) (hi := x.length + A.length) (P := fun c => !decide (kl e < gk A (c - x.length))) (by omega)
        (fun s r h1 h2 h3 => by
          rw [Bi, if_pos (by omega), HE (by omega)]
          obtain ⟨w, e1, e2⟩ := IG (x := x) (B := A) (y := [e] ++ y) (c := (s + r) / 2) (by omega) (by omega)
          rw [show ix (x ++ (A ++ ([e] ++ y))) ((x.length + A.length : Nat) : Int) = some e by rw [show x ++ (A ++ ([e] ++ y)) = (x ++ A) ++ e :: y by simp]; exact GL (by simp), e1]
          simp only [Option.bind_some]
          rw [AY (x := (((s + r) / 2 : Nat) : Int) + 1) (by omega), ← e2]
          by_cases c : kl e < kl w
          · rw [if_neg (by simp [(D3 e w).2 c]), if_neg (by simp [c])]
          · rw [if_pos (by simp only [Bool.not_eq_true', decide_eq_false_iff_not]; exact fun h => c ((D3 e w).1 h)), if_pos (by simp only [Bool.not_eq_true', decide_eq_false_iff_not]; exact c)]; rfl)
        (fun s h1 h2 => by rw [Bi, if_neg (by omega)])
      have h1 := KO (b := e) hA (s := s - x.length) (by omega) (fun z h1 => by
          have := s4 (by omega)
          simp only [Bool.not_eq_true', decide_eq_false_iff_not] at this
          rw [show s - 1 - x.length = s - x.length - 1 by omega, Ga h1] at this; omega)
        (fun z h1 => by
          have := s5 (by omega)
          simp only [Bool.not_eq_false', decide_eq_true_iff] at this
          rw [Ga h1] at this; exact this)
      have hl : (x ++ A.take (s - x.length)).length = s := by simp; omega
      have h2 := LK (S := Bj ((s : Nat) : Int)) (n := s) (N := (x ++ (A ++ ([e] ++ y))).length) (fun x' y' p q hx hl => by
          have hb : (x' ++ p :: q :: y').length ≤ 1000000000 := by rw [hl]; exact hN
          simp only [List.length_append, List.length_cons] at hb
          have e1 := E9 (x := x') (z := []) (y := y') (p := p) (q := q) (i := (x'.length : Int)) (j := ((x'.length + 1 : Nat) : Int)) rfl (by simp)
          have e2 := swap_at' (x := x') (z := []) (y := y') (p := p) (q := q) (i := (x'.length : Int)) (j := ((x'.length + 1 : Nat) : Int)) rfl (by simp)
          simp only [List.nil_append] at e1 e2
          rw [Bj, if_pos (by omega), show AD (((x'.length + 1 : Nat) : Int) - 1) = (x'.length : Int) by rw [AY (by omega)]; omega, e1.2.1, e1.1]
          simp only [Option.bind_some]
          rw [e2, Option.bind_some, e1.2.2.2])
        (fun L => by rw [Bj, if_neg (by omega)]) (x ++ A.take (s - x.length)) hl e (A.drop (s - x.length)) y (by simp; omega)
      refine ⟨A.take (s - x.length) ++ e :: A.drop (s - x.length), ?_, h1.1, h1.2⟩
      rw [s3, Option.bind_some]
      rw [show (x ++ A.take (s - x.length)) ++ (A.drop (s - x.length) ++ e :: y) = x ++ (A ++ ([e] ++ y)) by rw [List.append_assoc, ← List.append_assoc (A.take _), List.take_append_drop]; rfl, show (x ++ A.take (s - x.length)).length + (A.drop (s - x.length)).length = x.length + A.length by simp; omega] at h2
      rw [h2, Option.bind_some]
      simp
    rw [if_neg (by omega)]
    simp only [Option.bind_some]
    obtain ⟨h, hh⟩ : ∃ h, h = (A.length + B.length) / 2 := ⟨_, rfl⟩
    obtain ⟨lo, hlo⟩ : ∃ lo, lo = if h < A.length then h - B.length else 0 := ⟨_, rfl⟩
    obtain ⟨hi, hhi⟩ : ∃ hi, hi = if h < A.length then h else A.length := ⟨_, rfl⟩
    have hmid : AD (B5 .u64 (IntKind.u64.wrap (AD ((x.length : Int) + ((x.length + A.length + B.length : Nat) : Int)))) 1) = ((x.length + h : Nat) : Int) := by
      rw [HE (by omega)]; congr 1; omega
    have hnn : AD (((x.length + h : Nat) : Int) + ((x.length + A.length : Nat) : Int)) = ((x.length + h + (x.length + A.length) : Nat) : Int) := by rw [AY (by omega)]; omega
    rw [hmid, hnn]
    have e0 : (if ((x.length + h : Nat) : Int) < ((x.length + A.length : Nat) : Int) then some (AD (((x.length + h + (x.length + A.length) : Nat) : Int) - ((x.length + A.length + B.length : Nat) : Int)), ((x.length + h : Nat) : Int)) else some ((x.length : Int), ((x.length + A.length : Nat) : Int))) = some (((x.length + lo : Nat) : Int), ((x.length + hi : Nat) : Int)) := by
      by_cases c : h < A.length
      · rw [if_pos c] at hlo hhi
        rw [if_pos (by omega), AY (by omega)]
        congr 2 <;> omega
      · rw [if_neg c] at hlo hhi
        rw [if_neg (by omega), hlo, hhi]; rfl
    have hb : lo ≤ hi ∧ hi ≤ h ∧ hi ≤ A.length ∧ h ≤ lo + B.length := by
      by_cases c : h < A.length
      · rw [if_pos c] at hlo hhi; omega
      · rw [if_neg c] at hlo hhi; omega
    rw [e0]
    simp only [Option.bind_some]
    obtain ⟨s, s1, s2, s3, s4, s5⟩ := LJ (S := Bm (x ++ (A ++ (B ++ y))) (x.length : Int) ((x.length + A.length : Nat) : Int) ((x.length + A.length + B.length : Nat) : Int)) (fin := fun i => i) (lo := x.length + lo) (hi := x.length + hi) (P := fun c => !decide (gk B (h - 1 - (c - x.length)) < gk A (c - x.length))) (by omega)
      (fun s r h1 h2 h3 => by
        rw [Bm, if_pos (by omega), hmid, hnn, HE (a := s) (b := r) (by omega), show AD (AD (((x.length + h + (x.length + A.length) : Nat) : Int) - 1) - (((s + r) / 2 : Nat) : Int)) = ((x.length + h + (x.length + A.length) - 1 - (s + r) / 2 : Nat) : Int) by rw [AY (x := ((x.length + h + (x.length + A.length) : Nat) : Int) - 1) (by omega), AY (by omega)]; omega]
        obtain ⟨w, e1, e2⟩ := IG (x := x ++ A) (B := B) (y := y) (c := x.length + h + (x.length + A.length) - 1 - (s + r) / 2) (by simp; omega) (by simp; omega)
        obtain ⟨v, e3, e4⟩ := IG (x := x) (B := A) (y := B ++ y) (c := (s + r) / 2) (by omega) (by omega)
        rw [List.append_assoc] at e1
        rw [e1, e3]
        simp only [Option.bind_some]
        rw [AY (x := (((s + r) / 2 : Nat) : Int) + 1) (by omega), ← e4, show h - 1 - ((s + r) / 2 - x.length) = x.length + h + (x.length + A.length) - 1 - (s + r) / 2 - (x ++ A).length by simp; omega, ← e2]
        by_cases c : kl w < kl v
        · rw [if_neg (by simp [(D3 w v).2 c]), if_neg (by simp [c])]
        · rw [if_pos (by simp only [Bool.not_eq_true', decide_eq_false_iff_not]; exact fun h => c ((D3 w v).1 h)), if_pos (by simp only [Bool.not_eq_true', decide_eq_false_iff_not]; exact c)]; rfl)
      (fun s h1 h2 => by rw [Bm, if_neg (by omega)])
    obtain ⟨k, rfl⟩ : ∃ k, s = x.length + k := ⟨s - x.length, by omega⟩
    obtain ⟨g1, g2, g3, g4, g5⟩ := Kt (s := k) hA hB hh hA0 hB0 hlo hhi (by omega) (by omega)
      (fun z h1 h2 => by
        have := s4 (by omega)
        simp only [Bool.not_eq_true', decide_eq_false_iff_not] at this
        rw [show x.length + k - 1 - x.length = k - 1 by omega, Ga h1, Ga h2] at this; omega)
      (fun z h1 h2 => by
        have := s5 (by omega)
        simp only [Bool.not_eq_false', decide_eq_true_iff] at this
        rw [show x.length + k - x.length = k by omega, Ga h1, Ga h2] at this; exact this)
    rw [s3]
    simp only [Option.bind_some]
    clear s3 s4 s5
    obtain ⟨u, hu⟩ : ∃ u, u = h - k := ⟨_, rfl⟩
    rw [← hu] at g3 g4 g5
    have l1 : (A.take k).length = k := by rw [List.length_take]; omega
    have l2 : (A.drop k).length = A.length - k := List.length_drop
    have l3 : (B.take u).length = u := by rw [List.length_take]; omega
    have l4 : (B.drop u).length = B.length - u := List.length_drop
    have hAe : A.take k ++ A.drop k = A := List.take_append_drop _ _
    have hBe : B.take u ++ B.drop u = B := List.take_append_drop _ _
    rw [show AD (((x.length + h + (x.length + A.length) : Nat) : Int) - ((x.length + k : Nat) : Int)) = ((x.length + A.length + u : Nat) : Int) by rw [AY (by omega)]; omega]
    generalize A.take k = A1 at *
    generalize A.drop k = A2 at *
    generalize B.take u = B1 at *
    generalize B.drop u = B2 at *
    have hA' := hA; have hB' := hB
    rw [← hAe] at hA'; rw [← hBe] at hB'
    have hs1 := D1.1 hA'
    have hs2 := D1.1 hB'
    have q1 : (if (decide (((x.length + k : Nat) : Int) < ((x.length + A.length : Nat) : Int)) && decide (((x.length + A.length : Nat) : Int) < ((x.length + A.length + u : Nat) : Int))) = true then (Bn (x ++ (A ++ (B ++ y))) ((x.length + k : Nat) : Int) ((x.length + A.length : Nat) : Int) ((x.length + A.length + u : Nat) : Int)).bind fun x33 => some x33 else some (x ++ (A ++ (B ++ y)))) = some (x ++ (A1 ++ (B1 ++ (A2 ++ (B2 ++ y))))) := by
      by_cases c : k < A.length ∧ 0 < u
      · rw [if_pos (by simp only [Bool.and_eq_true, decide_eq_true_iff]; omega)]
        have hr := KJ (x := x ++ A1) (P := A2) (Q := B1) (y := B2 ++ y) (a := ((x.length + k : Nat) : Int)) (m := ((x.length + A.length : Nat) : Int)) (b := ((x.length + A.length + u : Nat) : Int)) (by simp; omega) (by simp; omega) (by simp; omega) (by omega) (by omega) (by simp; omega)
        rw [show x ++ (A ++ (B ++ y)) = (x ++ A1) ++ (A2 ++ (B1 ++ (B2 ++ y))) by rw [← hAe, ← hBe]; simp, hr]
        simp
      · rw [if_neg (by simp only [Bool.and_eq_true, decide_eq_true_iff]; omega), ← hAe, ← hBe]
        by_cases c3 : k < A.length
        · have : B1 = [] := List.eq_nil_of_length_eq_zero (by omega)
          subst this; simp
        · have : A2 = [] := List.eq_nil_of_length_eq_zero (by omega)
          subst this; simp
    rw [q1]
    simp only [Option.bind_some]
    have q2 : ∃ M1, (if (decide ((x.length : Int) < ((x.length + k : Nat) : Int)) && decide (((x.length + k : Nat) : Int) < ((x.length + h : Nat) : Int))) = true then (Aw n (x ++ (A1 ++ (B1 ++ (A2 ++ (B2 ++ y))))) (x.length : Int) ((x.length + k : Nat) : Int) ((x.length + h : Nat) : Int)).bind fun x35 => some x35 else some (x ++ (A1 ++ (B1 ++ (A2 ++ (B2 ++ y)))))) = some (x ++ (M1 ++ (A2 ++ (B2 ++ y)))) ∧ Sm kl (A1 ++ B1) M1 ∧ Eo kl M1 := by
      by_cases c : 0 < k ∧ k < h
      · rw [if_pos (by simp only [Bool.and_eq_true, decide_eq_true_iff]; omega)]
        obtain ⟨M1, m1, m2, m3⟩ := ih h (by omega) x A1 B1 (A2 ++ (B2 ++ y)) (by omega) (by omega) (by omega) hs1.1 hs2.1 (by simp; omega) n (by omega)
        rw [show x.length + A1.length + B1.length = x.length + h by omega, l1] at m1
        exact ⟨M1, by rw [m1]; rfl, m2, m3⟩
      · rw [if_neg (by simp only [Bool.and_eq_true, decide_eq_true_iff]; omega)]
        refine ⟨A1 ++ B1, by simp, Sm.rfl, ?_⟩
        by_cases c3 : 0 < k
        · have : B1 = [] := List.eq_nil_of_length_eq_zero (by omega)
          subst this; rw [List.append_nil]; exact hs1.1
        · have : A1 = [] := List.eq_nil_of_length_eq_zero (by omega)
          subst this; exact hs2.1
    obtain ⟨M1, m1, m2, m3⟩ := q2
    rw [m1]
    simp only [Option.bind_some]
    have lm := m2.len
    rw [List.length_append] at lm
    have q3 : ∃ M2, (if (decide (((x.length + h : Nat) : Int) < ((x.length + A.length + u : Nat) : Int)) && decide (((x.length + A.length + u : Nat) : Int) < ((x.length + A.length + B.length : Nat) : Int))) = true then (Aw n (x ++ (M1 ++ (A2 ++ (B2 ++ y)))) ((x.length + h : Nat) : Int) ((x.length + A.length + u : Nat) : Int) ((x.length + A.length + B.length : Nat) : Int)).bind fun x36 => some x36 else some (x ++ (M1 ++ (A2 ++ (B2 ++ y))))) = some (x ++ (M1 ++ (M2 ++ y))) ∧ Sm kl (A2 ++ B2) M2 ∧ Eo kl M2 := by
      by_cases c : k < A.length ∧ u < B.length
      · rw [if_pos (by simp only [Bool.and_eq_true, decide_eq_true_iff]; omega)]
        obtain ⟨M2, m4, m5, m6⟩ := ih (A2.length + B2.length) (by omega) (x ++ M1) A2 B2 y rfl (by omega) (by omega) hs1.2.1 hs2.2.1 (by simp; omega) n (by omega)
        rw [show (x ++ M1).length + A2.length + B2.length = x.length + A.length + B.length by rw [List.length_append]; omega, show (x ++ M1).length + A2.length = x.length + A.length + u by rw [List.length_append]; omega, show (x ++ M1).length = x.length + h by rw [List.length_append]; omega, show (x ++ M1) ++ (A2 ++ (B2 ++ y)) = x ++ (M1 ++ (A2 ++ (B2 ++ y))) by simp] at m4
        exact ⟨M2, by rw [m4]; simp, m5, m6⟩
      · rw [if_neg (by simp only [Bool.and_eq_true, decide_eq_true_iff]; omega)]
        refine ⟨A2 ++ B2, by simp, Sm.rfl, ?_⟩
        by_cases c3 : k < A.length
        · have : B2 = [] := List.eq_nil_of_length_eq_zero (by omega)
          subst this; rw [List.append_nil]; exact hs1.2.1
        · have : A2 = [] := List.eq_nil_of_length_eq_zero (by omega)
          subst this; exact hs2.2.1
    obtain ⟨M2, m4, m5, m6⟩ := q3
    refine ⟨M1 ++ M2, by rw [m4]; simp, ?_⟩
    have hf := IA hA' hB' g4 g5 m2 m3 m5 m6
    rw [hAe, hBe] at hf
    exact hf
theorem Ju {x A B y : List Wy} (hA0 : 0 < A.length) (hB0 : 0 < B.length) (hA : Eo kl A) (hB : Eo kl B) (hN : (x ++ (A ++ (B ++ y))).length ≤ 1000000000) {a m b : Int} (ha : a = x.length) (hm : m = ((x.length + A.length : Nat) : Int)) (hb : b = ((x.length + A.length + B.length : Nat) : Int)) :
    ∃ M, Bd (x ++ (A ++ (B ++ y))) a m b = some (x ++ (M ++ y)) ∧ Sm kl (A ++ B) M ∧ Eo kl M := by
  subst ha hm hb
  obtain ⟨M, h1, h2⟩ := Lv (A.length + B.length) x A B y rfl hA0 hB0 hA hB hN (A.length + B.length) (Nat.le_refl _)
  exact ⟨M, Kx (g := fun n => Aw n (x ++ (A ++ (B ++ y))) _ _ _) (fun n r h => Cs n _ _ _ _ r h) h1, h2⟩
def I3 (k : Nat) (Ls : List (List Wy)) : Prop := ∀ S ∈ Ls, S.length = k ∧ Eo kl S
theorem Ky {N : Nat} (hN : N ≤ 1000000) : ∀ (d : Nat) (D R : List Wy) (Ls : List (List Wy)), R.length = d → D = Ls.flatten → I3 20 Ls → (D ++ R).length = N →
    ∃ D' R' Ls', AU (AW (N : Int)) (D ++ R, (D.length : Int), ((D.length + 20 : Nat) : Int)) = some (D' ++ R', (D'.length : Int)) ∧ D' = Ls'.flatten ∧ I3 20 Ls' ∧ R'.length < 20 ∧ Sm kl (D ++ R) (D' ++ R') := by
  intro d
  induction d using Nat.strongRecOn with
  | _ d ih =>
    intro D R Ls hd hD hL hl
    have hl' := hl
    rw [List.length_append] at hl'
    by_cases c : R.length < 20
    · refine ⟨D, R, Ls, Bu ?_, hD, hL, c, Sm.rfl⟩
      rw [AW, if_neg (by omega)]
    · obtain ⟨S, y, rfl, hS⟩ : ∃ S y, R = S ++ y ∧ S.length = 20 := ⟨R.take 20, R.drop 20, (List.take_append_drop _ _).symm, by rw [List.length_take]; omega⟩
      rw [List.length_append] at hd hl' c
      obtain ⟨M, m1, m2, m3⟩ := Jp (x := D) (S := S) (y := y) (by rw [hl]; omega)
      have hM := m3.len
      obtain ⟨D', R', Ls', e1, e2, e3, e4, e5⟩ := ih y.length (by omega) (D ++ M) y (Ls ++ [M]) rfl (by rw [hD]; simp) (fun T hT => by
        rcases List.mem_append.1 hT with h | h
        · exact hL T h
        · rw [List.mem_singleton.1 h]; exact ⟨by omega, m2⟩) (by simp; omega)
      refine ⟨D', R', Ls', ?_, e2, e3, e4, ?_⟩
      · have hst : AW (N : Int) (D ++ (S ++ y), (D.length : Int), ((D.length + 20 : Nat) : Int)) = some (.inl ((D ++ M) ++ y, ((D ++ M).length : Int), (((D ++ M).length + 20 : Nat) : Int))) := by
          rw [AW, if_pos (by omega), show ((D.length + 20 : Nat) : Int) = ((D.length + S.length : Nat) : Int) by omega, m1, Option.bind_some, AY (by omega)]
          rw [show (D ++ M).length = D.length + S.length by rw [List.length_append]; omega, List.append_assoc, show ((D.length + S.length : Nat) : Int) + 20 = ((D.length + S.length + 20 : Nat) : Int) by omega]
        rw [Cu hst]; exact e1
      · have h1 : Sm kl (D ++ (S ++ y)) (D ++ (M ++ y)) := (Sm.rfl).app (m3.app Sm.rfl)
        rw [← List.append_assoc D M y] at h1
        exact h1.trans e5
theorem Kj {N k : Nat} (hN : N ≤ 1000000) (hk : 0 < k) (hk2 : k ≤ N) : ∀ (n : Nat) (D : List Wy) (Ls : List (List Wy)) (R : List Wy) (Ds : List (List Wy)), Ls.length = n → D = Ds.flatten → I3 (2 * k) Ds → I3 k Ls → Eo kl R → R.length < k → (D ++ (Ls.flatten ++ R)).length = N →
    ∃ L' Ds' R', ((AU (AX (N : Int) (k : Int)) (D ++ (Ls.flatten ++ R), (D.length : Int), ((D.length + 2 * k : Nat) : Int))).bind fun (x10, x11) => (if AD (x11 + (k : Int)) < (N : Int) then (Bd x10 x11 (AD (x11 + (k : Int))) (N : Int)).bind fun x17 => some x17 else some x10)) = some L' ∧ L' = Ds'.flatten ++ R' ∧ I3 (2 * k) Ds' ∧ Eo kl R' ∧ R'.length < 2 * k ∧ Sm kl (D ++ (Ls.flatten ++ R)) L' := by
  intro n
  induction n using Nat.strongRecOn with
  | _ n ih =>
    intro D Ls R Ds hn hD hDs hL hR hRk hl
    have hl' := hl
    simp only [List.length_append] at hl'
    match Ls, hn, hL with
    | [], hn, hL =>
      simp only [List.flatten_nil, List.nil_append, List.length_nil, Nat.zero_add] at hl hl' ⊢
      rw [Bu (e := (D ++ R, (D.length : Int))) (by rw [AX, if_neg (by omega)]), Option.bind_some]
      refine ⟨D ++ R, Ds, R, ?_, by rw [hD], hDs, hR, by omega, Sm.rfl⟩
      show (if AD ((D.length : Int) + (k : Int)) < (N : Int) then _ else _) = _
      rw [AY (by omega), if_neg (by omega)]
    | [S], hn, hL =>
      have hS := hL S (List.mem_singleton.2 rfl)
      simp only [List.flatten_cons, List.flatten_nil, List.append_nil] at hl hl' ⊢
      rw [Bu (e := (D ++ (S ++ R), (D.length : Int))) (by rw [AX, if_neg (by omega)]), Option.bind_some]
      show ∃ L' Ds' R', (if AD ((D.length : Int) + (k : Int)) < (N : Int) then (Bd (D ++ (S ++ R)) (D.length : Int) (AD ((D.length : Int) + (k : Int))) (N : Int)).bind fun x17 => some x17 else some (D ++ (S ++ R))) = _ ∧ _
      rw [AY (by omega)]
      by_cases c : 0 < R.length
      · rw [if_pos (by omega)]
        obtain ⟨M, m1, m2, m3⟩ := Ju (x := D) (A := S) (B := R) (y := []) (a := (D.length : Int)) (m := (D.length : Int) + (k : Int)) (b := (N : Int)) (by omega) c hS.2 hR (by simp; omega) rfl (by omega) (by omega)
        rw [List.append_nil, List.append_nil] at m1
        have hM := m2.len
        rw [List.length_append] at hM
        refine ⟨D ++ M, Ds, M, by rw [m1]; rfl, by rw [hD], hDs, m3, by omega, (Sm.rfl).app m2⟩
      · rw [if_neg (by omega)]
        have : R = [] := List.eq_nil_of_length_eq_zero (by omega)
        subst this
        rw [List.append_nil]
        exact ⟨D ++ S, Ds, S, rfl, by rw [hD], hDs, hS.2, by omega, Sm.rfl⟩
    | S1 :: S2 :: Ls, hn, hL =>
      have hS1 := hL S1 (by simp)
      have hS2 := hL S2 (by simp)
      simp only [List.flatten_cons, List.append_assoc, List.length_append] at hl hl' ⊢
      simp only [List.length_cons] at hn
      obtain ⟨M, m1, m2, m3⟩ := Ju (x := D) (A := S1) (B := S2) (y := Ls.flatten ++ R) (a := (D.length : Int)) (m := (D.length : Int) + (k : Int)) (b := ((D.length + 2 * k : Nat) : Int)) (by omega) (by omega) hS1.2 hS2.2 (by simp only [List.length_append]; omega) rfl (by omega) (by omega)
      have hM := m2.len
      rw [List.length_append] at hM
      obtain ⟨L', Ds', R', e1, e2, e3, e4, e5, e6⟩ := ih Ls.length (by omega) (D ++ M) Ls R (Ds ++ [M]) rfl (by rw [hD]; simp) (fun T hT => by
        rcases List.mem_append.1 hT with h | h
        · exact hDs T h
        · rw [List.mem_singleton.1 h]; exact ⟨by omega, m3⟩) (fun T hT => hL T (by simp [hT])) hR hRk (by simp only [List.length_append]; omega)
      refine ⟨L', Ds', R', ?_, e2, e3, e4, e5, ?_⟩
      · have hst : AX (N : Int) (k : Int) (D ++ (S1 ++ (S2 ++ (Ls.flatten ++ R))), (D.length : Int), ((D.length + 2 * k : Nat) : Int)) = some (.inl ((D ++ M) ++ (Ls.flatten ++ R), ((D ++ M).length : Int), (((D ++ M).length + 2 * k : Nat) : Int))) := by
          rw [AX, if_pos (by omega), AY (x := (D.length : Int) + (k : Int)) (by omega), m1, Option.bind_some, AY (x := 2 * (k : Int)) (by omega), AY (by omega)]
          rw [show (D ++ M).length = D.length + 2 * k by rw [List.length_append]; omega, List.append_assoc, show ((D.length + 2 * k : Nat) : Int) + 2 * (k : Int) = ((D.length + 2 * k + 2 * k : Nat) : Int) by omega]
        rw [Cu hst]; exact e1
      · have h1 : Sm kl (D ++ (S1 ++ (S2 ++ (Ls.flatten ++ R)))) (D ++ (M ++ (Ls.flatten ++ R))) := by
          have := (Sm.rfl (key := kl) (L := D)).app (m2.app (Sm.rfl (key := kl) (L := Ls.flatten ++ R)))
          simpa using this
        rw [← List.append_assoc D M] at h1
        exact h1.trans e6
theorem Kq {N : Nat} (hN : N ≤ 1000000) : ∀ (d k : Nat) (Ls : List (List Wy)) (R : List Wy), N - k = d → 0 < k → I3 k Ls → Eo kl R → R.length < k → (Ls.flatten ++ R).length = N →
    ∃ M, AU (Bb (N : Int)) (Ls.flatten ++ R, (k : Int)) = some M ∧ Eo kl M ∧ Sm kl (Ls.flatten ++ R) M := by
  intro d
  induction d using Nat.strongRecOn with
  | _ d ih =>
    intro k Ls R hd hk hL hR hRk hl
    by_cases c : k < N
    · obtain ⟨L', Ds', R', e1, e2, e3, e4, e5, e6⟩ := Kj hN hk (by omega) Ls.length [] Ls R [] rfl rfl (fun _ h => nomatch h) hL hR hRk (by rw [List.nil_append]; exact hl)
      simp only [List.nil_append, List.length_nil, Nat.zero_add] at e1 e6
      subst e2
      obtain ⟨M, m1, m2, m3⟩ := ih (N - 2 * k) (by omega) (2 * k) Ds' R' rfl (by omega) e3 e4 e5 (by rw [e6.len]; exact hl)
      have hst : Bb (N : Int) (Ls.flatten ++ R, (k : Int)) = some (.inl (Ds'.flatten ++ R', ((2 * k : Nat) : Int))) := by
        rw [Bb, if_pos (by omega), AY (x := 2 * (k : Int)) (by omega), show 2 * (k : Int) = ((2 * k : Nat) : Int) by omega]
        obtain ⟨⟨u, v⟩, h1, h2⟩ := An e1
        simp only at h2
        rw [show ((0 : Nat) : Int) = 0 from rfl] at h1
        rw [h1, Option.bind_some]
        simp only []
        rw [h2, Option.bind_some, AY (by omega)]
        rw [show (k : Int) * 2 = ((2 * k : Nat) : Int) by omega]
      exact ⟨M, by rw [Cu hst]; exact m1, m2, e6.trans m3⟩
    · refine ⟨Ls.flatten ++ R, Bu (by rw [Bb, if_neg (by omega)]), ?_, Sm.rfl⟩
      rw [List.length_append] at hl
      match Ls, hL with
      | [], hL => exact hR
      | [S], hL =>
        have hS := hL S (List.mem_singleton.2 rfl)
        simp only [List.flatten_cons, List.flatten_nil, List.append_nil] at hl ⊢
        have : R = [] := List.eq_nil_of_length_eq_zero (by omega)
        subst this
        rw [List.append_nil]; exact hS.2
      | S1 :: S2 :: Ls, hL =>
        have hS1 := hL S1 (by simp)
        have hS2 := hL S2 (by simp)
        simp only [List.flatten_cons, List.length_append] at hl
        omega
theorem Jh {L : List Wy} (hN : L.length ≤ 1000000) : ∃ M, AR L = some M ∧ Eo kl M ∧ Sm kl L M := by
  obtain ⟨D, R, Ls, e1, e2, e3, e4, e5⟩ := Ky hN L.length [] L [] rfl rfl (fun _ h => nomatch h) rfl
  simp only [List.nil_append, List.length_nil, Nat.zero_add] at e1 e5
  have hl := e5.len
  rw [List.length_append] at hl
  obtain ⟨M, m1, m2, m3⟩ := Jp (x := D) (S := R) (y := []) (by simp; omega)
  rw [List.append_nil, List.append_nil] at m1
  subst e2
  obtain ⟨M', n1, n2, n3⟩ := Kq hN _ 20 Ls M rfl (by decide) e3 m2 (by rw [m3.len]; exact e4) (by rw [List.length_append, m3.len]; omega)
  refine ⟨M', ?_, n2, e5.trans (((Sm.rfl).app m3).trans n3)⟩
  unfold AR BV
  rw [show ((20 : Int)) = ((20 : Nat) : Int) from rfl, show AU (AW (L.length : Int)) (L, 0, ((20 : Nat) : Int)) = some (Ls.flatten ++ R, (Ls.flatten.length : Int)) from e1, Option.bind_some]
  simp only []
  rw [show ((L.length : Nat) : Int) = ((Ls.flatten.length + R.length : Nat) : Int) by omega, m1, Option.bind_some, show ((Ls.flatten.length + R.length : Nat) : Int) = (L.length : Int) by omega, n1]
  rfl
end Go.Proofs.Ytemacefkdopgaaa
