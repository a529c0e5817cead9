/- Layer 35: what wires answer. Conditions: none. -/
import Derived.Test.YtemacefkdopgaaacM35N
namespace Go.Proofs.Ytemacefkdopgaaa
set_option linter.unusedVariables false
set_option linter.unusedSimpArgs false
open Go Go.RowKit
theorem Kc {t t' : Tp} (h : t.2.1 = t'.2.1) (a p : Int) : Ey t' a p = Cu t a p := by
  have hl : Eg t' a p = BR t a p := by
    funext i
    rw [Eg, BR, h]
    by_cases c : i < (t'.2.1.length : Int)
    · rw [if_pos c, if_pos c]
      congr 1; funext x
      by_cases c1 : a = x.1 ∧ p = x.2.1
      · rw [if_pos c1, if_pos (by simp [c1.1, c1.2])]
      · rw [if_neg c1, if_neg (by simp only [Bool.and_eq_true, decide_eq_true_iff]; exact fun h => c1 ⟨h.1.symm, h.2.symm⟩)]
        by_cases c2 : a = x.2.2.1 ∧ p = x.2.2.2.1
        · rw [if_pos c2, if_pos (by simp [c2.1, c2.2])]
        · rw [if_neg c2, if_neg (by simp only [Bool.and_eq_true, decide_eq_true_iff]; exact fun h => c2 ⟨h.1.symm, h.2.symm⟩)]
    · rw [if_neg c, if_neg c]
  unfold Ey Cu
  rw [hl]
theorem Kx (t : Tp) : DR t = some (if JD t then .inl ((t.1, t.2.1, []), []) else .inr ()) := by
  unfold DR
  rw [J5, Option.bind_some]
  by_cases c : JD t
  · rw [if_neg (by rw [decide_eq_true c]; decide), if_pos c]
    unfold A7
    rw [DK (by simp; have := c.1.2.2.1; omega)]; rfl
  · rw [if_pos (by rw [decide_eq_false c]; rfl), if_neg c]
theorem Ku {t t' : Tp} (h : t.2.1 = t'.2.1) (hl : t.2.1.length ≤ 24) {L : List Wy} (hL : L.length ≤ 256) (now a p id : Int) (q : Int × Int × Int × Int) :
    ∃ c L', B5 (t, L) now a p id q = some (c, (t, L')) ∧ Fb (t', L) now a p id q = some (c, (t', L')) ∧ L'.length ≤ 256 ∧
      ((c ≠ 0 ∧ L' = L) ∨ (c = 0 ∧ ∃ i x R, t.2.1[i]? = some x ∧ H0 i x a p R ∧ L' = L ++ [(id, R.1, R.2.1, q, Ay (now + x.2.2.2.2.1), Ay (now + x.2.2.2.2.2))])) := by
  unfold B5 Fb
  rw [Kc h]
  obtain ⟨R, hR, h1⟩ := GX hl a p
  rw [show Cu (t, L).1 a p = some R from hR, Option.bind_some, Option.bind_some]
  rcases h1 with ⟨rfl, _⟩ | ⟨i, x, hx, hs⟩
  · exact ⟨7, L, by rw [if_pos (by simp)], by rw [if_pos (by simp)], hL, .inl ⟨by decide, rfl⟩⟩
  · have hR3 : R.2.2 = ((i : Int), true) := by rcases hs with ⟨_, _, rfl⟩ | ⟨_, _, _, rfl⟩ <;> rfl
    have hR4 : ¬ (!R.2.2.2) = true := by rw [hR3]; simp
    have hR5 : R.2.2.1 = (i : Int) := by rw [hR3]
    have e1 : ix t.2.1 R.2.2.1 = some x := by rw [hR5]; exact BO hx
    have e2 : ix t'.2.1 R.2.2.1 = some x := by rw [← h]; exact e1
    by_cases c : 256 ≤ (L.length : Int)
    · refine ⟨6, L, ?_, ?_, hL, .inl ⟨by decide, rfl⟩⟩
      · rw [if_neg hR4, if_pos (show 256 ≤ ((t, L).2.length : Int) from c)]
      · rw [if_neg hR4, if_pos (show 255 < ((t', L).2.length : Int) by show 255 < (L.length : Int); omega)]
    · refine ⟨0, _, ?_, ?_, ?_, .inr ⟨rfl, i, x, R, hx, hs, rfl⟩⟩
      · rw [if_neg hR4, if_neg (show ¬ 256 ≤ ((t, L).2.length : Int) from c)]
        show (ix t.2.1 R.2.2.1).bind _ = _
        rw [e1, Option.bind_some, DK (by simp only [List.length_singleton]; omega)]; rfl
      · rw [if_neg hR4, if_neg (show ¬ 255 < ((t', L).2.length : Int) by show ¬ 255 < (L.length : Int); omega)]
        show (ix t'.2.1 R.2.2.1).bind (fun x2 => (ix t'.2.1 R.2.2.1).bind _) = _
        rw [e2, Option.bind_some, Option.bind_some, DK (by simp only [List.length_singleton]; omega)]; rfl
      · simp; omega
theorem J1 (t t' : Tp) (L : List Wy) (k : Int) : E2 (t', L) k = BQ (t, L) k ∧ ((BQ (t, L) k = some ((0, 0, 0, (0, 0, 0, 0), 0, 0), 7)) ∨ ∃ n x, k = ((n : Nat) : Int) ∧ L[n]? = some x ∧ BQ (t, L) k = some (x, 0)) := by
  refine ⟨rfl, ?_⟩
  unfold BQ
  by_cases c : k < 0 ∨ (L.length : Int) ≤ k
  · exact .inl (by rw [if_pos (by simpa using c)])
  · refine .inr ?_
    obtain ⟨n, rfl⟩ := Int.eq_ofNat_of_zero_le (show 0 ≤ k by omega)
    have hn : n < L.length := by omega
    refine ⟨n, L[n], rfl, List.getElem?_eq_getElem hn, ?_⟩
    rw [if_neg (by simpa using c), show ix (t, L).2 ((n : Nat) : Int) = some L[n] from BO (List.getElem?_eq_getElem hn)]; rfl
theorem GG (t : Tp) {L : List Wy} (hL : L.length ≤ 1000000) (k : Nat) : Cv (t, L) (k : Int) = some (t, L.eraseIdx k) := by
  unfold Cv
  have h := HI (step := CW (t, L) (k : Int)) (fun s => ∃ i, i ≤ L.length ∧ s = ((L.take i).eraseIdx k, (i : Int))) (fun s => L.length - s.2.toNat) (L.eraseIdx k) (fun s hs => by
    obtain ⟨i, hi, rfl⟩ := hs
    rw [CW]
    by_cases c : i < L.length
    · refine .inl ⟨((L.take (i + 1)).eraseIdx k, ((i + 1 : Nat) : Int)), ?_, ⟨i + 1, by omega, rfl⟩, by simp; omega⟩
      rw [if_pos (by show (i : Int) < (L.length : Int); omega)]
      have ht : L.take (i + 1) = L.take i ++ [L[i]] := List.take_succ_eq_append_getElem c
      have hli : (L.take i).length = i := by rw [List.length_take]; omega
      have h1 : ((L.take i).eraseIdx k).length ≤ L.length := Nat.le_trans (List.length_eraseIdx_le _ _) (by omega)
      rw [AJ (by omega), show (i : Int) + 1 = ((i + 1 : Nat) : Int) by omega]
      by_cases c2 : i = k
      · subst c2
        rw [if_neg (by simp), Option.bind_some, ht, List.eraseIdx_append_of_length_le (by omega), hli, Nat.sub_self]
        rw [List.eraseIdx_of_length_le (by omega)]; simp
      · rw [if_pos (by omega), show ix (t, L).2 (i : Int) = some L[i] from BO (List.getElem?_eq_getElem c), Option.bind_some, DK (by simp; omega), Option.bind_some, Option.bind_some, ht]
        by_cases c3 : k < i
        · rw [List.eraseIdx_append_of_lt_length (by omega)]
        · rw [List.eraseIdx_append_of_length_le (by omega), hli, List.eraseIdx_of_length_le (l := L.take i) (by omega), List.eraseIdx_of_length_le (l := [L[i]]) (by simp; omega)]
    · have : i = L.length := by omega
      subst this
      exact .inr (by rw [if_neg (by show ¬ ((L.length : Nat) : Int) < (L.length : Int); omega), List.take_length])) ([], 0) ⟨0, by omega, by simp⟩
  rw [h]; rfl
theorem JF (t t' : Tp) {L : List Wy} (hL : L.length ≤ 256) (now k : Int) :
    ∃ x c L', Bv (t, L) now k = some (x, c, (t, L')) ∧ E0 (t', L) now k = some (x, c, (t', L')) ∧ ((c ≠ 0 ∧ L' = L) ∨ (c = 0 ∧ ∃ n : Nat, L[n]? = some x ∧ L' = L.eraseIdx n ∧ x.2.2.2.2.1 ≤ now)) := by
  unfold Bv E0
  obtain ⟨e, h⟩ := J1 t t' L k
  rw [e]
  rcases h with h | ⟨n, x, rfl, hx, h⟩
  · rw [h, Option.bind_some, Option.bind_some]
    exact ⟨(0, 0, 0, (0, 0, 0, 0), 0, 0), 7, L, by rw [if_pos (by simp)], by rw [if_pos (by simp)], .inl ⟨by decide, rfl⟩⟩
  · obtain ⟨hn, _⟩ := List.getElem?_eq_some_iff.1 hx
    have h0 : ¬ ((x, (0 : Int)).2 ≠ 0) := fun h => h rfl
    by_cases c : now < x.2.2.2.2.1
    · refine ⟨(0, 0, 0, (0, 0, 0, 0), 0, 0), 15, L, ?_, ?_, .inl ⟨by decide, rfl⟩⟩
      · rw [h, Option.bind_some, if_neg h0, if_pos (show now < (x, (0 : Int)).1.2.2.2.2.1 from c)]
      · rw [h, Option.bind_some, if_neg h0, if_pos (show now < (x, (0 : Int)).1.2.2.2.2.1 from c)]
    · refine ⟨x, 0, L.eraseIdx n, ?_, ?_, .inr ⟨rfl, n, hx, rfl, by omega⟩⟩
      · rw [h, Option.bind_some, if_neg h0, if_neg (show ¬ now < (x, (0 : Int)).1.2.2.2.2.1 from c), show Ay (((n : Nat) : Int) + 1) = ((n + 1 : Nat) : Int) by rw [AJ (by omega)]; rfl, show A3 (t, L).2 (n : Int) ((n + 1 : Nat) : Int) = some (L.eraseIdx n) from Kp (0, 0, 0, (0, 0, 0, 0), 0, 0) L n hn]; rfl
      · rw [h, Option.bind_some, if_neg h0, if_neg (show ¬ now < (x, (0 : Int)).1.2.2.2.2.1 from c), GG t' (by omega)]; rfl
def Ha (L : List Wy) (r : Int) : Prop := (∃ w ∈ L, kl w = r) ∧ ∀ v ∈ L, r ≤ kl v
theorem IV {L : List Wy} {r s : Int} (h1 : Ha L r) (h2 : Ha L s) : r = s := by
  obtain ⟨⟨w, hw, rfl⟩, h3⟩ := h1
  obtain ⟨⟨v, hv, rfl⟩, h4⟩ := h2
  have := h3 v hv
  have := h4 w hw
  omega
theorem JZ {L : List Wy} (h0 : 0 < L.length) (hL : L.length ≤ 1000000) : ∃ w, AH L = some w ∧ Ha L (kl w) := by
  unfold AH
  rw [if_neg (by omega), show ix L 0 = some L[0] from BO (k := 0) (List.getElem?_eq_getElem h0), Option.bind_some]
  obtain ⟨e, h1, w, rfl, h2, h3⟩ := EC (step := AV L) (fun s => ∃ (w : Wy) (k : Nat), s = ((k : Int), w.1, w.2.1, w.2.2.1, w.2.2.2.1.1, w.2.2.2.1.2.1, w.2.2.2.1.2.2.1, w.2.2.2.1.2.2.2, w.2.2.2.2.1, w.2.2.2.2.2) ∧ k ≤ L.length ∧ w ∈ L ∧ ∀ v ∈ L.take k, kl w ≤ kl v) (fun s => L.length - s.1.toNat)
    (fun e => ∃ w : Wy, e = (w.1, w.2.1, w.2.2.1, w.2.2.2.1.1, w.2.2.2.1.2.1, w.2.2.2.1.2.2.1, w.2.2.2.1.2.2.2, w.2.2.2.2.1, w.2.2.2.2.2) ∧ w ∈ L ∧ ∀ v ∈ L, kl w ≤ kl v) (fun s hs => by
      obtain ⟨w, k, rfl, hk, hw, hm⟩ := hs
      rw [AV]
      by_cases c : k < L.length
      · rw [if_pos (by omega), show ix L (k : Int) = some L[k] from BO (List.getElem?_eq_getElem c), Option.bind_some, AJ (by omega), show (k : Int) + 1 = ((k + 1 : Nat) : Int) by omega]
        have ht : ∀ v ∈ L.take (k + 1), v ∈ L.take k ∨ v = L[k] := fun v hv => by
          rw [List.take_succ_eq_append_getElem c] at hv
          rcases List.mem_append.1 hv with h | h
          · exact .inl h
          · exact .inr (List.mem_singleton.1 h)
        by_cases c2 : kl L[k] < kl w
        · rw [if_pos ((DO L[k] w).2 c2)]
          refine .inl ⟨_, rfl, ⟨L[k], k + 1, rfl, by omega, List.getElem_mem c, fun v hv => ?_⟩, by simp; omega⟩
          rcases ht v hv with h | rfl
          · have := hm v h; omega
          · omega
        · rw [if_neg (fun h => c2 ((DO L[k] w).1 h))]
          refine .inl ⟨_, rfl, ⟨w, k + 1, rfl, by omega, hw, fun v hv => ?_⟩, by simp; omega⟩
          rcases ht v hv with h | rfl
          · exact hm v h
          · omega
      · rw [if_neg (by omega)]
        refine .inr ⟨_, rfl, w, rfl, hw, ?_⟩
        rwa [List.take_of_length_le (by omega)] at hm) (((1 : Nat) : Int), L[0].1, L[0].2.1, L[0].2.2.1, L[0].2.2.2.1.1, L[0].2.2.2.1.2.1, L[0].2.2.2.1.2.2.1, L[0].2.2.2.1.2.2.2, L[0].2.2.2.2.1, L[0].2.2.2.2.2) ⟨L[0], 1, rfl, by omega, List.getElem_mem h0, fun v hv => by
        obtain ⟨j, hj, hj1, rfl⟩ := Es hv
        obtain rfl : j = 0 := by omega
        omega⟩
  rw [show (1 : Int) = ((1 : Nat) : Int) from rfl, h1]
  exact ⟨w, rfl, ⟨w, h2, rfl⟩, h3⟩
theorem HA (t : Tp) {L : List Wy} (h0 : 0 < L.length) (hL : L.length ≤ 1000000) : ∃ r, CC (t, L) = some r ∧ Ha L r := by
  unfold CC
  rw [if_neg (by show ¬ (L.length : Int) = 0; omega), show ix (t, L).2 0 = some L[0] from BO (k := 0) (List.getElem?_eq_getElem h0), Option.bind_some]
  obtain ⟨e, h1, h2⟩ := EC (step := Dz (t, L)) (fun s => ∃ k : Nat, s.2 = (k : Int) ∧ k ≤ L.length ∧ (∃ w ∈ L, kl w = s.1) ∧ ∀ v ∈ L.take k, s.1 ≤ kl v) (fun s => L.length - s.2.toNat) (fun e => Ha L e) (fun s hs => by
      obtain ⟨m, i⟩ := s
      obtain ⟨k, hi, hk, hw, hm⟩ := hs
      simp only at hi hw hm
      subst hi
      rw [Dz]
      by_cases c : k < L.length
      · rw [if_pos (by show (k : Int) < (L.length : Int); omega), show ix (t, L).2 (k : Int) = some L[k] from BO (List.getElem?_eq_getElem c), Option.bind_some, Option.bind_some, AJ (by omega), show (k : Int) + 1 = ((k + 1 : Nat) : Int) by omega]
        have ht : ∀ v ∈ L.take (k + 1), v ∈ L.take k ∨ v = L[k] := fun v hv => by
          rw [List.take_succ_eq_append_getElem c] at hv
          rcases List.mem_append.1 hv with h | h
          · exact .inl h
          · exact .inr (List.mem_singleton.1 h)
        by_cases c2 : L[k].2.2.2.2.2 < m
        · rw [if_pos c2]
          refine .inl ⟨_, rfl, ⟨k + 1, rfl, by omega, ⟨L[k], List.getElem_mem c, rfl⟩, fun v hv => ?_⟩, by simp; omega⟩
          rcases ht v hv with h | rfl
          · have := hm v h; show L[k].2.2.2.2.2 ≤ kl v; omega
          · exact Int.le_refl _
        · rw [if_neg c2]
          refine .inl ⟨_, rfl, ⟨k + 1, rfl, by omega, hw, fun v hv => ?_⟩, by simp; omega⟩
          rcases ht v hv with h | rfl
          · exact hm v h
          · show m ≤ L[k].2.2.2.2.2; omega
      · rw [if_neg (by show ¬ (k : Int) < (L.length : Int); omega)]
        refine .inr ⟨m, rfl, hw, ?_⟩
        rwa [List.take_of_length_le (by omega)] at hm) (L[0].2.2.2.2.2, 0) ⟨0, rfl, by omega, ⟨L[0], List.getElem_mem h0, rfl⟩, fun v hv => by simp at hv⟩
  exact ⟨e, by rw [h1]; rfl, h2⟩
theorem JG (t t' : Tp) {L : List Wy} (hL : L.length ≤ 1000000) : ∃ r, BS (t, L) = some r ∧ CC (t', L) = some r ∧ ((L = [] ∧ r = -1) ∨ Ha L r) := by
  by_cases c : L.length = 0
  · have : L = [] := List.eq_nil_of_length_eq_zero c
    subst this
    exact ⟨-1, rfl, rfl, .inl ⟨rfl, rfl⟩⟩
  · obtain ⟨w, h1, h2⟩ := JZ (L := L) (by omega) hL
    obtain ⟨r, h3, h4⟩ := HA t' (L := L) (by omega) hL
    refine ⟨r, ?_, h3, .inr h4⟩
    unfold BS BN
    rw [if_neg (by show ¬ (L.length : Int) = 0; omega), show AH (t, L).2 = some w from h1, IV h4 h2]; rfl
abbrev Hr (now : Int) (L : List Wy) : List Wy := L.filter fun w => decide (kl w ≤ now)
abbrev Ch (now : Int) (L : List Wy) : List Wy := L.filter fun w => !decide (kl w ≤ now)
theorem Jj (now : Int) (A : List Wy) (w : Wy) : Hr now (A ++ [w]) = if kl w ≤ now then Hr now A ++ [w] else Hr now A := by
  rw [Hr, List.filter_append]
  by_cases c : kl w ≤ now
  · rw [if_pos c, List.filter_cons_of_pos (by simpa using c)]; rfl
  · rw [if_neg c, List.filter_cons_of_neg (by simpa using c)]; simp
theorem IL (now : Int) (A : List Wy) (w : Wy) : Ch now (A ++ [w]) = if kl w ≤ now then Ch now A else Ch now A ++ [w] := by
  rw [Ch, List.filter_append]
  by_cases c : kl w ≤ now
  · rw [if_pos c, List.filter_cons_of_neg (by simpa using c)]; simp
  · rw [if_neg c, List.filter_cons_of_pos (by simpa using c)]; rfl
theorem Jq (t : Tp) {L : List Wy} (hL : L.length ≤ 1000000) (now : Int) : AM (CM (t, L) now) ([], [], 0) = some (Hr now L, Ch now L) := by
  refine HI (fun s => ∃ i, i ≤ L.length ∧ s = (Hr now (L.take i), Ch now (L.take i), (i : Int))) (fun s => L.length - s.2.2.toNat) _ (fun s hs => ?_) _ ⟨0, by omega, by simp⟩
  obtain ⟨i, hi, rfl⟩ := hs
  rw [CM]
  by_cases c : i < L.length
  · refine .inl ⟨(Hr now (L.take (i + 1)), Ch now (L.take (i + 1)), ((i + 1 : Nat) : Int)), ?_, ⟨i + 1, by omega, rfl⟩, by simp; omega⟩
    have h1 : (Hr now (L.take i)).length ≤ L.length := Nat.le_trans (List.length_filter_le _ _) (by rw [List.length_take]; omega)
    have h2 : (Ch now (L.take i)).length ≤ L.length := Nat.le_trans (List.length_filter_le _ _) (by rw [List.length_take]; omega)
    rw [if_pos (by show (i : Int) < (L.length : Int); omega), show ix (t, L).2 (i : Int) = some L[i] from BO (List.getElem?_eq_getElem c), Option.bind_some, AJ (by omega), show (i : Int) + 1 = ((i + 1 : Nat) : Int) by omega, List.take_succ_eq_append_getElem c, Jj, IL]
    by_cases c2 : kl L[i] ≤ now
    · rw [if_pos c2, if_pos c2, if_pos c2, DK (by simp only [List.length_singleton]; omega)]; rfl
    · rw [if_neg c2, if_neg c2, if_neg c2, DK (by simp only [List.length_singleton]; omega)]; rfl
  · have : i = L.length := by omega
    subst this
    exact .inr (by rw [if_neg (by show ¬ ((L.length : Nat) : Int) < (L.length : Int); omega), List.take_length])
theorem Jn {L : List Wy} (hL : L.length ≤ 1000000) {r : Int} (hr : ∃ w ∈ L, kl w = r) :
    ∃ k, ∃ hk : k < L.length, AM (C0 L r) ((-1), Ay ((L.length : Int) - 1)) = some (k : Int) ∧ kl L[k] = r ∧ ∀ j, ∀ hj : j < k, kl (L[j]'(by omega)) ≠ r := by
  rw [AJ (by omega)]
  obtain ⟨e, h1, k, hk, rfl, h2, h3⟩ := EC (step := C0 L r) (fun s => ∃ n : Nat, s.2 = (n : Int) - 1 ∧ n ≤ L.length ∧ ((s.1 = -1 ∧ ∀ j (hj : j < L.length), n ≤ j → kl L[j] ≠ r) ∨ ∃ k, ∃ hk : k < L.length, s.1 = (k : Int) ∧ n ≤ k ∧ kl L[k] = r ∧ ∀ j, ∀ hj : j < k, n ≤ j → kl (L[j]'(by omega)) ≠ r)) (fun s => (s.2 + 1).toNat)
    (fun e => ∃ k, ∃ hk : k < L.length, e = (k : Int) ∧ kl L[k] = r ∧ ∀ j, ∀ hj : j < k, kl (L[j]'(by omega)) ≠ r) (fun s hs => by
      obtain ⟨a, i⟩ := s
      obtain ⟨n, hi, hn, h⟩ := hs
      simp only at hi h
      subst hi
      rw [C0]
      by_cases c : 0 < n
      · obtain ⟨m, rfl⟩ : ∃ m, n = m + 1 := ⟨n - 1, by omega⟩
        have hm : m < L.length := by omega
        rw [show ((m + 1 : Nat) : Int) - 1 = (m : Int) by omega, if_pos (by omega), BO (List.getElem?_eq_getElem hm), Option.bind_some, AJ (by omega)]
        by_cases c2 : L[m].2.2.2.2.2 = r
        · rw [if_pos c2]
          exact .inl ⟨_, rfl, ⟨m, rfl, by omega, .inr ⟨m, hm, rfl, Nat.le_refl _, c2, fun j hj hmj => by omega⟩⟩, by simp <;> omega⟩
        · rw [if_neg c2]
          refine .inl ⟨_, rfl, ⟨m, rfl, by omega, ?_⟩, by simp <;> omega⟩
          rcases h with ⟨h1, h2⟩ | ⟨k, hk, h1, h2, h3, h4⟩
          · refine .inl ⟨h1, fun j hj hmj => ?_⟩
            by_cases c3 : j = m
            · subst c3; exact c2
            · exact h2 j hj (by omega)
          · refine .inr ⟨k, hk, h1, by omega, h3, fun j hj hmj => ?_⟩
            by_cases c3 : j = m
            · subst c3; exact c2
            · exact h4 j hj (by omega)
      · obtain rfl : n = 0 := by omega
        rw [if_neg (by omega)]
        refine .inr ⟨a, rfl, ?_⟩
        rcases h with ⟨h1, h2⟩ | ⟨k, hk, h1, h2, h3, h4⟩
        · obtain ⟨w, hw, e⟩ := hr
          obtain ⟨j, hj, rfl⟩ := List.mem_iff_getElem.1 hw
          exact absurd e (h2 j hj (by omega))
        · exact ⟨k, hk, h1, h3, fun j hj => h4 j hj (by omega)⟩) ((-1), (L.length : Int) - 1) ⟨L.length, rfl, Nat.le_refl _, .inl ⟨rfl, fun j hj h => by omega⟩⟩
  exact ⟨k, hk, h1, h2, h3⟩
theorem Kn (t : Tp) (now : Int) : ∀ (n : Nat) (out L : List Wy), L.length = n → out.length + L.length ≤ 1000000 →
    ∃ R, AM (Cd now) (out, t.1, t.2.1, t.2.2, L) = some (out ++ R, t.1, t.2.1, t.2.2, Ch now L) ∧ D9 kl R ∧ Sm kl (Hr now L) R := by
  intro n
  induction n with
  | zero =>
    intro out L hn hb
    have : L = [] := List.eq_nil_of_length_eq_zero hn
    subst this
    exact ⟨[], by rw [List.append_nil]; exact Bh (by rw [Cd]; rfl), Hl, Sm.rfl⟩
  | succ n ih =>
    intro out L hn hb
    obtain ⟨r, h1, h2⟩ := HA t (L := L) (by omega) (by omega)
    have h1' : CC ((t.1, t.2.1, t.2.2), L) = some r := h1
    by_cases c : r ≤ now
    · obtain ⟨k, hk, f1, f2, f3⟩ := Jn (L := L) (by omega) h2.1
      have hst : Cd now (out, t.1, t.2.1, t.2.2, L) = some (.inl (out ++ [L[k]], t.1, t.2.1, t.2.2, L.eraseIdx k)) := by
        rw [Cd, if_pos (by omega), h1', Option.bind_some, Option.bind_some, if_pos (decide_eq_true c), Option.bind_some, f1, Option.bind_some, BO (List.getElem?_eq_getElem hk), Option.bind_some, DK (by simp only [List.length_singleton]; omega), Option.bind_some]
        rw [show Cv ((t.1, t.2.1, t.2.2), L) (k : Int) = some (t, L.eraseIdx k) from GG t (by omega) k]; rfl
      have hl : (L.eraseIdx k).length = n := by rw [List.length_eraseIdx, if_pos hk]; omega
      obtain ⟨R, e1, e2, e3⟩ := ih (out ++ [L[k]]) (L.eraseIdx k) hl (by simp; omega)
      have hL : L = L.take k ++ L[k] :: L.drop (k + 1) := by rw [← List.drop_eq_getElem_cons hk, List.take_append_drop]
      have hE : L.eraseIdx k = L.take k ++ L.drop (k + 1) := List.eraseIdx_eq_take_drop_succ ..
      have hk1 : kl L[k] ≤ now := by rw [f2]; exact c
      refine ⟨L[k] :: R, ?_, ?_, ?_⟩
      · rw [Cj hst, e1]
        congr 2
        · simp
        · rw [hE, Ch, List.filter_append]
          conv => rhs; rw [hL]
          rw [Ch, List.filter_append, List.filter_cons_of_neg (by simpa using hk1)]
      · refine ES.2 ⟨fun b hb => ?_, e2⟩
        have h5 := (List.mem_filter.1 (e3.mem.1 hb)).1
        rw [f2]; exact h2.2 b (List.mem_of_mem_eraseIdx h5)
      · have h6 : Sm kl (Hr now L) ([L[k]] ++ Hr now (L.eraseIdx k)) := by
          conv => lhs; rw [hL]
          rw [hE, Hr, Hr, List.filter_append, List.filter_append, List.filter_cons_of_pos (by simpa using hk1)]
          have h7 : Sm kl (List.filter (fun w => decide (kl w ≤ now)) (L.take k) ++ [L[k]]) ([L[k]] ++ List.filter (fun w => decide (kl w ≤ now)) (L.take k)) := Sm.comm fun a ha b hb => by
            rw [List.mem_singleton.1 hb, f2]
            obtain ⟨j, hj, hjk, rfl⟩ := Es (List.mem_filter.1 ha).1
            exact f3 j hjk
          have h8 := h7.app (Sm.rfl (key := kl) (L := List.filter (fun w => decide (kl w ≤ now)) (L.drop (k + 1))))
          simpa using h8
        exact h6.trans ((Sm.rfl (key := kl) (L := [L[k]])).app e3)
    · have hall : ∀ v ∈ L, ¬ kl v ≤ now := fun v hv hh => c (Int.le_trans (h2.2 v hv) hh)
      refine ⟨[], ?_, Hl, ?_⟩
      · rw [List.append_nil, Ch, List.filter_eq_self.2 (fun v hv => by simpa using hall v hv)]
        exact Bh (by rw [Cd, if_pos (by omega), h1', Option.bind_some, Option.bind_some, if_neg (by simpa using c)])
      · rw [Hr, List.filter_eq_nil_iff.2 (fun v hv => by simpa using hall v hv)]; exact Sm.rfl
theorem Kq (t t' : Tp) {L : List Wy} (hL : L.length ≤ 256) (now : Int) : ∃ R, CX (t, L) now = some (R, (t, Ch now L)) ∧ Fd (t', L) now = some (R, (t', Ch now L)) ∧ R.Perm (Hr now L) := by
  obtain ⟨R, r1, r2, r3⟩ := Kn t' now L.length [] L rfl (by simp; omega)
  obtain ⟨M, m1, m2, m3⟩ := IF (L := Hr now L) (Nat.le_trans (List.length_filter_le _ _) (by omega))
  have e := FH r2 m2 ⟨m3.1.trans r3.1.symm, fun k => (m3.2 k).trans (r3.2 k).symm⟩
  subst e
  refine ⟨M, ?_, ?_, r3.1⟩
  · unfold CX
    rw [Jq t (by omega), Option.bind_some]
    show (AL (Hr now L)).bind _ = _
    rw [m1]; rfl
  · unfold Fd
    rw [show AM (Cd now) ([], (t', L).1.1, (t', L).1.2.1, (t', L).1.2.2, (t', L).2) = _ from r1]; rfl
end Go.Proofs.Ytemacefkdopgaaa
