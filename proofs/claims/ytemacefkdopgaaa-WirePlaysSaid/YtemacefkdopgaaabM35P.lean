/- Layer 35: what wires answer. Conditions: none. -/
import Derived.Test.YtemacefkdopgaaabM35N
namespace Go.Proofs.Ytemacefkdopgaaa
set_option linter.unusedVariables false
set_option linter.unusedSimpArgs false
open Go Go.RowKit
abbrev Ws : Type := Tp × List Wy
theorem LB {t t' : Tp} (h : t.2.1 = t'.2.1) (a p : Int) : Fh t' a p = Da t a p := by
  have hl : EC t' a p = B3 t a p := by
    funext i
    rw [EC, B3, h]
    by_cases c : i < (t'.2.1.length : Int)
    · rw [if_pos c, if_pos c]
      congr 1; funext x
      by_cases c1 : a = x.1 ∧ p = x.2.1
      · rw [if_pos c1, if_pos (by simp [c1.1, c1.2])]
      · rw [if_neg c1, if_neg (by simp only [Bool.and_eq_true, decide_eq_true_iff]; exact fun h => c1 ⟨h.1.symm, h.2.symm⟩)]
        by_cases c2 : a = x.2.2.1 ∧ p = x.2.2.2.1
        · rw [if_pos c2, if_pos (by simp [c2.1, c2.2])]
        · rw [if_neg c2, if_neg (by simp only [Bool.and_eq_true, decide_eq_true_iff]; exact fun h => c2 ⟨h.1.symm, h.2.symm⟩)]
    · rw [if_neg c, if_neg c]
  unfold Fh Da
  rw [hl]
theorem KS (t : Tp) : D5 t = some (if J7 t then .inl ((t.1, t.2.1, []), []) else .inr ()) := by
  unfold D5
  rw [Kz, Option.bind_some]
  by_cases c : J7 t
  · rw [if_neg (by rw [decide_eq_true c]; decide), if_pos c]
    unfold Bf
    rw [EW (by simp; have := c.1.2.2.1; omega)]; rfl
  · rw [if_pos (by rw [decide_eq_false c]; rfl), if_neg c]
theorem Kd (t : Tp) : Fp t = some (if J7 t then .inl (t, []) else .inr ()) := by
  unfold Fp
  rw [Jz, Option.bind_some]
  by_cases c : J7 t
  · rw [if_neg (by rw [decide_eq_true c]; decide), if_pos c]
  · rw [if_pos (by rw [decide_eq_false c]; rfl), if_neg c]
theorem KL {t t' : Tp} (h : t.2.1 = t'.2.1) (hl : t.2.1.length ≤ 24) {L : List Wy} (hL : L.length ≤ 256) (now a p id : Int) (q : Int × Int × Int × Int) :
    ∃ c L', Cn (t, L) now a p id q = some (c, (t, L')) ∧ Di (t', L) now a p id q = some (c, (t', L')) ∧ L'.length ≤ 256 ∧
      ((c ≠ 0 ∧ L' = L) ∨ (c = 0 ∧ ∃ i x R, t.2.1[i]? = some x ∧ JC i x a p R ∧ L' = L ++ [(id, R.1, R.2.1, q, AD (now + x.2.2.2.2.1), AD (now + x.2.2.2.2.2))])) := by
  unfold Cn Di
  rw [LB h]
  obtain ⟨R, hR, h1⟩ := I7 hl a p
  rw [show Da (t, L).1 a p = some R from hR, Option.bind_some, Option.bind_some]
  rcases h1 with ⟨rfl, _⟩ | ⟨i, x, hx, hs⟩
  · exact ⟨7, L, by rw [if_pos (by simp)], by rw [if_pos (by simp)], hL, .inl ⟨by decide, rfl⟩⟩
  · have hR3 : R.2.2 = ((i : Int), true) := by rcases hs with ⟨_, _, rfl⟩ | ⟨_, _, _, rfl⟩ <;> rfl
    have hR4 : ¬ (!R.2.2.2) = true := by rw [hR3]; simp
    have hR5 : R.2.2.1 = (i : Int) := by rw [hR3]
    have e1 : ix t.2.1 R.2.2.1 = some x := by rw [hR5]; exact Ci hx
    have e2 : ix t'.2.1 R.2.2.1 = some x := by rw [← h]; exact e1
    by_cases c : 256 ≤ (L.length : Int)
    · refine ⟨6, L, ?_, ?_, hL, .inl ⟨by decide, rfl⟩⟩
      · rw [if_neg hR4, if_pos (show 256 ≤ ((t, L).2.length : Int) from c)]
      · rw [if_neg hR4, if_pos (show 255 < ((t', L).2.length : Int) by show 255 < (L.length : Int); omega)]
    · refine ⟨0, _, ?_, ?_, ?_, .inr ⟨rfl, i, x, R, hx, hs, rfl⟩⟩
      · rw [if_neg hR4, if_neg (show ¬ 256 ≤ ((t, L).2.length : Int) from c)]
        show (ix t.2.1 R.2.2.1).bind _ = _
        rw [e1, Option.bind_some, EW (by simp only [List.length_singleton]; omega)]; rfl
      · rw [if_neg hR4, if_neg (show ¬ 255 < ((t', L).2.length : Int) by show ¬ 255 < (L.length : Int); omega)]
        show (ix t'.2.1 R.2.2.1).bind (fun x2 => (ix t'.2.1 R.2.2.1).bind _) = _
        rw [e2, Option.bind_some, Option.bind_some, EW (by simp only [List.length_singleton]; omega)]; rfl
      · simp; omega
theorem II (t t' : Tp) (L : List Wy) (k : Int) : C2 (t', L) k = BP (t, L) k ∧ ((BP (t, L) k = some ((0, 0, 0, (0, 0, 0, 0), 0, 0), 7)) ∨ ∃ n x, k = ((n : Nat) : Int) ∧ L[n]? = some x ∧ BP (t, L) k = some (x, 0)) := by
  refine ⟨rfl, ?_⟩
  unfold BP
  by_cases c : k < 0 ∨ (L.length : Int) ≤ k
  · exact .inl (by rw [if_pos (by simpa using c)])
  · refine .inr ?_
    obtain ⟨n, rfl⟩ := Int.eq_ofNat_of_zero_le (show 0 ≤ k by omega)
    have hn : n < L.length := by omega
    refine ⟨n, L[n], rfl, List.getElem?_eq_getElem hn, ?_⟩
    rw [if_neg (by simpa using c), show ix (t, L).2 ((n : Nat) : Int) = some L[n] from Ci (List.getElem?_eq_getElem hn)]; rfl
theorem GW (t : Tp) {L : List Wy} (hL : L.length ≤ 1000000) (k : Nat) : Ce (t, L) (k : Int) = some (t, L.eraseIdx k) := by
  unfold Ce
  have h := Hc (step := CC (t, L) (k : Int)) (fun s => ∃ i, i ≤ L.length ∧ s = ((L.take i).eraseIdx k, (i : Int))) (fun s => L.length - s.2.toNat) (L.eraseIdx k) (fun s hs => by
    obtain ⟨i, hi, rfl⟩ := hs
    rw [CC]
    by_cases c : i < L.length
    · refine .inl ⟨((L.take (i + 1)).eraseIdx k, ((i + 1 : Nat) : Int)), ?_, ⟨i + 1, by omega, rfl⟩, by simp; omega⟩
      rw [if_pos (by show (i : Int) < (L.length : Int); omega)]
      have ht : L.take (i + 1) = L.take i ++ [L[i]] := List.take_succ_eq_append_getElem c
      have hli : (L.take i).length = i := by rw [List.length_take]; omega
      have h1 : ((L.take i).eraseIdx k).length ≤ L.length := Nat.le_trans (List.length_eraseIdx_le _ _) (by omega)
      rw [AY (by omega), show (i : Int) + 1 = ((i + 1 : Nat) : Int) by omega]
      by_cases c2 : i = k
      · subst c2
        rw [if_neg (by simp), Option.bind_some, ht, List.eraseIdx_append_of_length_le (by omega), hli, Nat.sub_self]
        rw [List.eraseIdx_of_length_le (by omega)]; simp
      · rw [if_pos (by omega), show ix (t, L).2 (i : Int) = some L[i] from Ci (List.getElem?_eq_getElem c), Option.bind_some, EW (by simp; omega), Option.bind_some, Option.bind_some, ht]
        by_cases c3 : k < i
        · rw [List.eraseIdx_append_of_lt_length (by omega)]
        · rw [List.eraseIdx_append_of_length_le (by omega), hli, List.eraseIdx_of_length_le (l := L.take i) (by omega), List.eraseIdx_of_length_le (l := [L[i]]) (by simp; omega)]
    · have : i = L.length := by omega
      subst this
      exact .inr (by rw [if_neg (by show ¬ ((L.length : Nat) : Int) < (L.length : Int); omega), List.take_length])) ([], 0) ⟨0, by omega, by simp⟩
  rw [h]; rfl
theorem Kh (t t' : Tp) {L : List Wy} (hL : L.length ≤ 256) (now k : Int) :
    ∃ x c L', B4 (t, L) now k = some (x, c, (t, L')) ∧ C7 (t', L) now k = some (x, c, (t', L')) ∧ ((c ≠ 0 ∧ L' = L) ∨ (c = 0 ∧ ∃ n : Nat, L[n]? = some x ∧ L' = L.eraseIdx n ∧ x.2.2.2.2.1 ≤ now)) := by
  unfold B4 C7
  obtain ⟨e, h⟩ := II t t' L k
  rw [e]
  rcases h with h | ⟨n, x, rfl, hx, h⟩
  · rw [h, Option.bind_some, Option.bind_some]
    exact ⟨(0, 0, 0, (0, 0, 0, 0), 0, 0), 7, L, by rw [if_pos (by simp)], by rw [if_pos (by simp)], .inl ⟨by decide, rfl⟩⟩
  · obtain ⟨hn, _⟩ := List.getElem?_eq_some_iff.1 hx
    have h0 : ¬ ((x, (0 : Int)).2 ≠ 0) := fun h => h rfl
    by_cases c : now < x.2.2.2.2.1
    · refine ⟨(0, 0, 0, (0, 0, 0, 0), 0, 0), 15, L, ?_, ?_, .inl ⟨by decide, rfl⟩⟩
      · rw [h, Option.bind_some, if_neg h0, if_pos (show now < (x, (0 : Int)).1.2.2.2.2.1 from c)]
      · rw [h, Option.bind_some, if_neg h0, if_pos (show now < (x, (0 : Int)).1.2.2.2.2.1 from c)]
    · refine ⟨x, 0, L.eraseIdx n, ?_, ?_, .inr ⟨rfl, n, hx, rfl, by omega⟩⟩
      · rw [h, Option.bind_some, if_neg h0, if_neg (show ¬ now < (x, (0 : Int)).1.2.2.2.2.1 from c), show AD (((n : Nat) : Int) + 1) = ((n + 1 : Nat) : Int) by rw [AY (by omega)]; rfl, show Bc (t, L).2 (n : Int) ((n + 1 : Nat) : Int) = some (L.eraseIdx n) from KV (0, 0, 0, (0, 0, 0, 0), 0, 0) L n hn]; rfl
      · rw [h, Option.bind_some, if_neg h0, if_neg (show ¬ now < (x, (0 : Int)).1.2.2.2.2.1 from c), GW t' (by omega)]; rfl
def Hy (L : List Wy) (r : Int) : Prop := (∃ w ∈ L, kl w = r) ∧ ∀ v ∈ L, r ≤ kl v
theorem Jd {L : List Wy} {r s : Int} (h1 : Hy L r) (h2 : Hy L s) : r = s := by
  obtain ⟨⟨w, hw, rfl⟩, h3⟩ := h1
  obtain ⟨⟨v, hv, rfl⟩, h4⟩ := h2
  have := h3 v hv
  have := h4 w hw
  omega
theorem Ko {L : List Wy} (h0 : 0 < L.length) (hL : L.length ≤ 1000000) : ∃ w, AP L = some w ∧ Hy L (kl w) := by
  unfold AP
  rw [if_neg (by omega), show ix L 0 = some L[0] from Ci (k := 0) (List.getElem?_eq_getElem h0), Option.bind_some]
  obtain ⟨e, h1, w, rfl, h2, h3⟩ := Fi (step := A4 L) (fun s => ∃ (w : Wy) (k : Nat), s = ((k : Int), w.1, w.2.1, w.2.2.1, w.2.2.2.1.1, w.2.2.2.1.2.1, w.2.2.2.1.2.2.1, w.2.2.2.1.2.2.2, w.2.2.2.2.1, w.2.2.2.2.2) ∧ k ≤ L.length ∧ w ∈ L ∧ ∀ v ∈ L.take k, kl w ≤ kl v) (fun s => L.length - s.1.toNat)
    (fun e => ∃ w : Wy, e = (w.1, w.2.1, w.2.2.1, w.2.2.2.1.1, w.2.2.2.1.2.1, w.2.2.2.1.2.2.1, w.2.2.2.1.2.2.2, w.2.2.2.2.1, w.2.2.2.2.2) ∧ w ∈ L ∧ ∀ v ∈ L, kl w ≤ kl v) (fun s hs => by
      obtain ⟨w, k, rfl, hk, hw, hm⟩ := hs
      rw [A4]
      by_cases c : k < L.length
      · rw [if_pos (by omega), show ix L (k : Int) = some L[k] from Ci (List.getElem?_eq_getElem c), Option.bind_some, AY (by omega), show (k : Int) + 1 = ((k + 1 : Nat) : Int) by omega]
        have ht : ∀ v ∈ L.take (k + 1), v ∈ L.take k ∨ v = L[k] := fun v hv => by
          rw [List.take_succ_eq_append_getElem c] at hv
          rcases List.mem_append.1 hv with h | h
          · exact .inl h
          · exact .inr (List.mem_singleton.1 h)
        by_cases c2 : kl L[k] < kl w
        · rw [if_pos ((D3 L[k] w).2 c2)]
          refine .inl ⟨_, rfl, ⟨L[k], k + 1, rfl, by omega, List.getElem_mem c, fun v hv => ?_⟩, by simp; omega⟩
          rcases ht v hv with h | rfl
          · have := hm v h; omega
          · omega
        · rw [if_neg (fun h => c2 ((D3 L[k] w).1 h))]
          refine .inl ⟨_, rfl, ⟨w, k + 1, rfl, by omega, hw, fun v hv => ?_⟩, by simp; omega⟩
          rcases ht v hv with h | rfl
          · exact hm v h
          · omega
      · rw [if_neg (by omega)]
        refine .inr ⟨_, rfl, w, rfl, hw, ?_⟩
        rwa [List.take_of_length_le (by omega)] at hm) (((1 : Nat) : Int), L[0].1, L[0].2.1, L[0].2.2.1, L[0].2.2.2.1.1, L[0].2.2.2.1.2.1, L[0].2.2.2.1.2.2.1, L[0].2.2.2.1.2.2.2, L[0].2.2.2.2.1, L[0].2.2.2.2.2) ⟨L[0], 1, rfl, by omega, List.getElem_mem h0, fun v hv => by
        obtain ⟨j, hj, hj1, rfl⟩ := EQ hv
        obtain rfl : j = 0 := by omega
        omega⟩
  rw [show (1 : Int) = ((1 : Nat) : Int) from rfl, h1]
  exact ⟨w, rfl, ⟨w, h2, rfl⟩, h3⟩
theorem HZ (t : Tp) {L : List Wy} (h0 : 0 < L.length) (hL : L.length ≤ 1000000) : ∃ r, Cf (t, L) = some r ∧ Hy L r := by
  unfold Cf
  rw [if_neg (by show ¬ (L.length : Int) = 0; omega), show ix (t, L).2 0 = some L[0] from Ci (k := 0) (List.getElem?_eq_getElem h0), Option.bind_some]
  obtain ⟨e, h1, h2⟩ := Fi (step := CW (t, L)) (fun s => ∃ k : Nat, s.2 = (k : Int) ∧ k ≤ L.length ∧ (∃ w ∈ L, kl w = s.1) ∧ ∀ v ∈ L.take k, s.1 ≤ kl v) (fun s => L.length - s.2.toNat) (fun e => Hy L e) (fun s hs => by
      obtain ⟨m, i⟩ := s
      obtain ⟨k, hi, hk, hw, hm⟩ := hs
      simp only at hi hw hm
      subst hi
      rw [CW]
      by_cases c : k < L.length
      · rw [if_pos (by show (k : Int) < (L.length : Int); omega), show ix (t, L).2 (k : Int) = some L[k] from Ci (List.getElem?_eq_getElem c), Option.bind_some, Option.bind_some, AY (by omega), show (k : Int) + 1 = ((k + 1 : Nat) : Int) by omega]
        have ht : ∀ v ∈ L.take (k + 1), v ∈ L.take k ∨ v = L[k] := fun v hv => by
          rw [List.take_succ_eq_append_getElem c] at hv
          rcases List.mem_append.1 hv with h | h
          · exact .inl h
          · exact .inr (List.mem_singleton.1 h)
        by_cases c2 : L[k].2.2.2.2.2 < m
        · rw [if_pos c2]
          refine .inl ⟨_, rfl, ⟨k + 1, rfl, by omega, ⟨L[k], List.getElem_mem c, rfl⟩, fun v hv => ?_⟩, by simp; omega⟩
          rcases ht v hv with h | rfl
          · have := hm v h; show L[k].2.2.2.2.2 ≤ kl v; omega
          · exact Int.le_refl _
        · rw [if_neg c2]
          refine .inl ⟨_, rfl, ⟨k + 1, rfl, by omega, hw, fun v hv => ?_⟩, by simp; omega⟩
          rcases ht v hv with h | rfl
          · exact hm v h
          · show m ≤ L[k].2.2.2.2.2; omega
      · rw [if_neg (by show ¬ (k : Int) < (L.length : Int); omega)]
        refine .inr ⟨m, rfl, hw, ?_⟩
        rwa [List.take_of_length_le (by omega)] at hm) (L[0].2.2.2.2.2, 0) ⟨0, rfl, by omega, ⟨L[0], List.getElem_mem h0, rfl⟩, fun v hv => by simp at hv⟩
  exact ⟨e, by rw [h1]; rfl, h2⟩
theorem Kr (t t' : Tp) {L : List Wy} (hL : L.length ≤ 1000000) : ∃ r, B0 (t, L) = some r ∧ Cf (t', L) = some r ∧ ((L = [] ∧ r = -1) ∨ Hy L r) := by
  by_cases c : L.length = 0
  · have : L = [] := List.eq_nil_of_length_eq_zero c
    subst this
    exact ⟨-1, rfl, rfl, .inl ⟨rfl, rfl⟩⟩
  · obtain ⟨w, h1, h2⟩ := Ko (L := L) (by omega) hL
    obtain ⟨r, h3, h4⟩ := HZ t' (L := L) (by omega) hL
    refine ⟨r, ?_, h3, .inr h4⟩
    unfold B0 Bp
    rw [if_neg (by show ¬ (L.length : Int) = 0; omega), show AP (t, L).2 = some w from h1, Jd h4 h2]; rfl
abbrev H2 (now : Int) (L : List Wy) : List Wy := L.filter fun w => decide (kl w ≤ now)
abbrev DH (now : Int) (L : List Wy) : List Wy := L.filter fun w => !decide (kl w ≤ now)
theorem JL (now : Int) (A : List Wy) (w : Wy) : H2 now (A ++ [w]) = if kl w ≤ now then H2 now A ++ [w] else H2 now A := by
  rw [H2, List.filter_append]
  by_cases c : kl w ≤ now
  · rw [if_pos c, List.filter_cons_of_pos (by simpa using c)]; rfl
  · rw [if_neg c, List.filter_cons_of_neg (by simpa using c)]; simp
theorem Ja (now : Int) (A : List Wy) (w : Wy) : DH now (A ++ [w]) = if kl w ≤ now then DH now A else DH now A ++ [w] := by
  rw [DH, List.filter_append]
  by_cases c : kl w ≤ now
  · rw [if_pos c, List.filter_cons_of_neg (by simpa using c)]; simp
  · rw [if_neg c, List.filter_cons_of_pos (by simpa using c)]; rfl
theorem JI (t : Tp) {L : List Wy} (hL : L.length ≤ 1000000) (now : Int) : AU (CT (t, L) now) ([], [], 0) = some (H2 now L, DH now L) := by
  refine Hc (fun s => ∃ i, i ≤ L.length ∧ s = (H2 now (L.take i), DH now (L.take i), (i : Int))) (fun s => L.length - s.2.2.toNat) _ (fun s hs => ?_) _ ⟨0, by omega, by simp⟩
  obtain ⟨i, hi, rfl⟩ := hs
  rw [CT]
  by_cases c : i < L.length
  · refine .inl ⟨(H2 now (L.take (i + 1)), DH now (L.take (i + 1)), ((i + 1 : Nat) : Int)), ?_, ⟨i + 1, by omega, rfl⟩, by simp; omega⟩
    have h1 : (H2 now (L.take i)).length ≤ L.length := Nat.le_trans (List.length_filter_le _ _) (by rw [List.length_take]; omega)
    have h2 : (DH now (L.take i)).length ≤ L.length := Nat.le_trans (List.length_filter_le _ _) (by rw [List.length_take]; omega)
    rw [if_pos (by show (i : Int) < (L.length : Int); omega), show ix (t, L).2 (i : Int) = some L[i] from Ci (List.getElem?_eq_getElem c), Option.bind_some, AY (by omega), show (i : Int) + 1 = ((i + 1 : Nat) : Int) by omega, List.take_succ_eq_append_getElem c, JL, Ja]
    by_cases c2 : kl L[i] ≤ now
    · rw [if_pos c2, if_pos c2, if_pos c2, EW (by simp only [List.length_singleton]; omega)]; rfl
    · rw [if_neg c2, if_neg c2, if_neg c2, EW (by simp only [List.length_singleton]; omega)]; rfl
  · have : i = L.length := by omega
    subst this
    exact .inr (by rw [if_neg (by show ¬ ((L.length : Nat) : Int) < (L.length : Int); omega), List.take_length])
theorem J0 {L : List Wy} (hL : L.length ≤ 1000000) {r : Int} (hr : ∃ w ∈ L, kl w = r) :
    ∃ k, ∃ hk : k < L.length, AU (CE L r) ((-1), AD ((L.length : Int) - 1)) = some (k : Int) ∧ kl L[k] = r ∧ ∀ j, ∀ hj : j < k, kl (L[j]'(by omega)) ≠ r := by
  rw [AY (by omega)]
  obtain ⟨e, h1, k, hk, rfl, h2, h3⟩ := Fi (step := CE L r) (fun s => ∃ n : Nat, s.2 = (n : Int) - 1 ∧ n ≤ L.length ∧ ((s.1 = -1 ∧ ∀ j (hj : j < L.length), n ≤ j → kl L[j] ≠ r) ∨ ∃ k, ∃ hk : k < L.length, s.1 = (k : Int) ∧ n ≤ k ∧ kl L[k] = r ∧ ∀ j, ∀ hj : j < k, n ≤ j → kl (L[j]'(by omega)) ≠ r)) (fun s => (s.2 + 1).toNat)
    (fun e => ∃ k, ∃ hk : k < L.length, e = (k : Int) ∧ kl L[k] = r ∧ ∀ j, ∀ hj : j < k, kl (L[j]'(by omega)) ≠ r) (fun s hs => by
      obtain ⟨a, i⟩ := s
      obtain ⟨n, hi, hn, h⟩ := hs
      simp only at hi h
      subst hi
      rw [CE]
      by_cases c : 0 < n
      · obtain ⟨m, rfl⟩ : ∃ m, n = m + 1 := ⟨n - 1, by omega⟩
        have hm : m < L.length := by omega
        rw [show ((m + 1 : Nat) : Int) - 1 = (m : Int) by omega, if_pos (by omega), Ci (List.getElem?_eq_getElem hm), Option.bind_some, AY (by omega)]
        by_cases c2 : L[m].2.2.2.2.2 = r
        · rw [if_pos c2]
          exact .inl ⟨_, rfl, ⟨m, rfl, by omega, .inr ⟨m, hm, rfl, Nat.le_refl _, c2, fun j hj hmj => by omega⟩⟩, by simp <;> omega⟩
        · rw [if_neg c2]
          refine .inl ⟨_, rfl, ⟨m, rfl, by omega, ?_⟩, by simp <;> omega⟩
          rcases h with ⟨h1, h2⟩ | ⟨k, hk, h1, h2, h3, h4⟩
          · refine .inl ⟨h1, fun j hj hmj => ?_⟩
            by_cases c3 : j = m
            · subst c3; exact c2
            · exact h2 j hj (by omega)
          · refine .inr ⟨k, hk, h1, by omega, h3, fun j hj hmj => ?_⟩
            by_cases c3 : j = m
            · subst c3; exact c2
            · exact h4 j hj (by omega)
      · obtain rfl : n = 0 := by omega
        rw [if_neg (by omega)]
        refine .inr ⟨a, rfl, ?_⟩
        rcases h with ⟨h1, h2⟩ | ⟨k, hk, h1, h2, h3, h4⟩
        · obtain ⟨w, hw, e⟩ := hr
          obtain ⟨j, hj, rfl⟩ := List.mem_iff_getElem.1 hw
          exact absurd e (h2 j hj (by omega))
        · exact ⟨k, hk, h1, h3, fun j hj => h4 j hj (by omega)⟩) ((-1), (L.length : Int) - 1) ⟨L.length, rfl, Nat.le_refl _, .inl ⟨rfl, fun j hj h => by omega⟩⟩
  exact ⟨k, hk, h1, h2, h3⟩
theorem KG (t : Tp) (now : Int) : ∀ (n : Nat) (out L : List Wy), L.length = n → out.length + L.length ≤ 1000000 →
    ∃ R, AU (B8 now) (out, t.1, t.2.1, t.2.2, L) = some (out ++ R, t.1, t.2.1, t.2.2, DH now L) ∧ Eo kl R ∧ Sm kl (H2 now L) R := by
  intro n
  induction n with
  | zero =>
    intro out L hn hb
    have : L = [] := List.eq_nil_of_length_eq_zero hn
    subst this
    exact ⟨[], by rw [List.append_nil]; exact Bu (by rw [B8]; rfl), HI, Sm.rfl⟩
  | succ n ih =>
    intro out L hn hb
    obtain ⟨r, h1, h2⟩ := HZ t (L := L) (by omega) (by omega)
    have h1' : Cf ((t.1, t.2.1, t.2.2), L) = some r := h1
    by_cases c : r ≤ now
    · obtain ⟨k, hk, f1, f2, f3⟩ := J0 (L := L) (by omega) h2.1
      have hst : B8 now (out, t.1, t.2.1, t.2.2, L) = some (.inl (out ++ [L[k]], t.1, t.2.1, t.2.2, L.eraseIdx k)) := by
        rw [B8, if_pos (by omega), h1', Option.bind_some, Option.bind_some, if_pos (decide_eq_true c), Option.bind_some, f1, Option.bind_some, Ci (List.getElem?_eq_getElem hk), Option.bind_some, EW (by simp only [List.length_singleton]; omega), Option.bind_some]
        rw [show Ce ((t.1, t.2.1, t.2.2), L) (k : Int) = some (t, L.eraseIdx k) from GW t (by omega) k]; rfl
      have hl : (L.eraseIdx k).length = n := by rw [List.length_eraseIdx, if_pos hk]; omega
      obtain ⟨R, e1, e2, e3⟩ := ih (out ++ [L[k]]) (L.eraseIdx k) hl (by simp; omega)
      have hL : L = L.take k ++ L[k] :: L.drop (k + 1) := by rw [← List.drop_eq_getElem_cons hk, List.take_append_drop]
      have hE : L.eraseIdx k = L.take k ++ L.drop (k + 1) := List.eraseIdx_eq_take_drop_succ ..
      have hk1 : kl L[k] ≤ now := by rw [f2]; exact c
      refine ⟨L[k] :: R, ?_, ?_, ?_⟩
      · rw [Cu hst, e1]
        congr 2
        · simp
        · rw [hE, DH, List.filter_append]
          conv => rhs; rw [hL]
          rw [DH, List.filter_append, List.filter_cons_of_neg (by simpa using hk1)]
      · refine Ff.2 ⟨fun b hb => ?_, e2⟩
        have h5 := (List.mem_filter.1 (e3.mem.1 hb)).1
        rw [f2]; exact h2.2 b (List.mem_of_mem_eraseIdx h5)
      · have h6 : Sm kl (H2 now L) ([L[k]] ++ H2 now (L.eraseIdx k)) := by
          conv => lhs; rw [hL]
          rw [hE, H2, H2, List.filter_append, List.filter_append, List.filter_cons_of_pos (by simpa using hk1)]
          have h7 : Sm kl (List.filter (fun w => decide (kl w ≤ now)) (L.take k) ++ [L[k]]) ([L[k]] ++ List.filter (fun w => decide (kl w ≤ now)) (L.take k)) := Sm.comm fun a ha b hb => by
            rw [List.mem_singleton.1 hb, f2]
            obtain ⟨j, hj, hjk, rfl⟩ := EQ (List.mem_filter.1 ha).1
            exact f3 j hjk
          have h8 := h7.app (Sm.rfl (key := kl) (L := List.filter (fun w => decide (kl w ≤ now)) (L.drop (k + 1))))
          simpa using h8
        exact h6.trans ((Sm.rfl (key := kl) (L := [L[k]])).app e3)
    · have hall : ∀ v ∈ L, ¬ kl v ≤ now := fun v hv hh => c (Int.le_trans (h2.2 v hv) hh)
      refine ⟨[], ?_, HI, ?_⟩
      · rw [List.append_nil, DH, List.filter_eq_self.2 (fun v hv => by simpa using hall v hv)]
        exact Bu (by rw [B8, if_pos (by omega), h1', Option.bind_some, Option.bind_some, if_neg (by simpa using c)])
      · rw [H2, List.filter_eq_nil_iff.2 (fun v hv => by simpa using hall v hv)]; exact Sm.rfl
theorem KT (t t' : Tp) {L : List Wy} (hL : L.length ≤ 256) (now : Int) : ∃ R, C0 (t, L) now = some (R, (t, DH now L)) ∧ Dn (t', L) now = some (R, (t', DH now L)) ∧ R.Perm (H2 now L) := by
  obtain ⟨R, r1, r2, r3⟩ := KG t' now L.length [] L rfl (by simp; omega)
  obtain ⟨M, m1, m2, m3⟩ := Jh (L := H2 now L) (Nat.le_trans (List.length_filter_le _ _) (by omega))
  have e := F3 r2 m2 ⟨m3.1.trans r3.1.symm, fun k => (m3.2 k).trans (r3.2 k).symm⟩
  subst e
  refine ⟨M, ?_, ?_, r3.1⟩
  · unfold C0
    rw [JI t (by omega), Option.bind_some]
    show (AR (H2 now L)).bind _ = _
    rw [m1]; rfl
  · unfold Dn
    rw [show AU (B8 now) ([], (t', L).1.1, (t', L).1.2.1, (t', L).1.2.2, (t', L).2) = _ from r1]; rfl
theorem Ge (w : Wy) : CB w w = true := by unfold CB; simp
theorem I8 {L : List Wy} (hL : L.length ≤ 1000000) : E4 L L = some true := by
  unfold E4
  rw [if_neg (by simp)]
  have h := Hc (step := EA L L) (fun i => ∃ k : Nat, i = (k : Int) ∧ k ≤ L.length) (fun i => L.length - i.toNat) (.inl ()) (fun i hi => by
    obtain ⟨k, rfl, hk⟩ := hi
    rw [EA]
    by_cases c : k < L.length
    · refine .inl ⟨((k + 1 : Nat) : Int), ?_, ⟨k + 1, rfl, by omega⟩, by omega⟩
      rw [if_pos (by omega), Ci (List.getElem?_eq_getElem c), Option.bind_some, Option.bind_some, Ge, if_neg (by decide), AY (by omega)]; rfl
    · exact .inr (by rw [if_neg (by omega)])) 0 ⟨0, rfl, by omega⟩
  rw [h]; rfl
theorem J9 {t t' : Tp} (h : t.2.1 = t'.2.1) (hl : t.2.1.length ≤ 24) {L : List Wy} (hL : L.length ≤ 256) (d : Int × Int × Int × Int × Int × Int × (Int × Int × Int × Int)) :
    ∃ L', Fb (t, L) (t', L) d = some (true, (t, L'), (t', L')) ∧ L'.length ≤ 256 := by
  unfold Fb
  have e : (if d.1 = 0 then some true else (if d.1 = 1 then some true else some (decide (d.1 = 2)))) = some (decide (d.1 = 0 ∨ d.1 = 1 ∨ d.1 = 2)) := by
    by_cases c0 : d.1 = 0
    · rw [if_pos c0]; simp [c0]
    · rw [if_neg c0]
      by_cases c1 : d.1 = 1
      · rw [if_pos c1]; simp [c1]
      · rw [if_neg c1]; simp [c0, c1]
  rw [e, Option.bind_some]
  by_cases c : d.1 = 0 ∨ d.1 = 1 ∨ d.1 = 2
  · rw [if_pos (decide_eq_true c)]
    obtain ⟨x, L', p1, p2, p3, _⟩ := KL h hl hL d.2.1 d.2.2.1 d.2.2.2.1 d.2.2.2.2.1 d.2.2.2.2.2.2
    rw [p1, Option.bind_some, p2, Option.bind_some]
    exact ⟨L', by simp, p3⟩
  rw [if_neg (by simpa using c)]
  by_cases c3 : d.1 = 3
  · rw [if_pos c3]
    obtain ⟨x, q, L', p1, p2, p3⟩ := Kh t t' hL d.2.1 d.2.2.2.2.2.1
    rw [p1, Option.bind_some, p2, Option.bind_some]
    refine ⟨L', by simp [Ge], ?_⟩
    rcases p3 with ⟨_, rfl⟩ | ⟨_, n, _, rfl, _⟩
    · exact hL
    · exact Nat.le_trans (List.length_eraseIdx_le _ _) hL
  rw [if_neg c3]
  by_cases c4 : d.1 = 4
  · rw [if_pos c4]
    obtain ⟨R, p1, p2, p3⟩ := KT t t' hL d.2.1
    have hR : R.length ≤ 1000000 := by rw [p3.length_eq]; exact Nat.le_trans (List.length_filter_le _ _) (by omega)
    rw [p1, Option.bind_some, p2, Option.bind_some, I8 hR, Option.bind_some]
    exact ⟨_, rfl, Nat.le_trans (List.length_filter_le _ _) hL⟩
  rw [if_neg c4]
  by_cases c5 : d.1 = 5
  · rw [if_pos c5]
    obtain ⟨e, hh⟩ := II t t' L d.2.2.2.2.2.1
    rw [e]
    rcases hh with hh | ⟨n, x, _, _, hh⟩ <;> rw [hh] <;> exact ⟨L, by simp [Ge], hL⟩
  rw [if_neg c5]
  exact ⟨L, rfl, hL⟩
theorem GN (t : Tp) (l : List (Int × Int × Int × Int × Int × Int × (Int × Int × Int × Int))) : Dk t l = some true := by
  unfold Dk
  by_cases c : (decide (30 < (t.2.1.length : Int)) || decide (12 < (t.2.2.length : Int))) = true
  · rw [if_pos c, GF]; rfl
  rw [if_neg c, KS, Option.bind_some, Kd]
  by_cases hT : J7 t
  · rw [if_pos hT, if_pos hT]
    show ((some (Sum.inl (t, []) : Ws ⊕ Unit)).bind fun x5 => _) = _
    rw [Option.bind_some]
    show Hd (AU (CH l) (0, t.1, t.2.1, t.2.2, [], t.1, t.2.1, [], [])) _ = _
    obtain ⟨e, h1, h2⟩ := Fi (step := CH l) (fun s => ∃ (k : Nat) (L : List Wy), s = ((k : Int), t.1, t.2.1, t.2.2, L, t.1, t.2.1, [], L) ∧ k ≤ 300 ∧ L.length ≤ 256) (fun s => 300 - s.1.toNat) (fun e => e = .inr true ∨ ∃ q, e = .inl q) (fun s hs => by
      obtain ⟨k, L, rfl, hk, hL⟩ := hs
      rw [CH]
      by_cases c : (k : Int) < (l.length : Int) ∧ (k : Int) < 300
      · rw [if_pos (by simpa using c)]
        have hkl : k < l.length := by omega
        have e1 : ix l (k : Int) = some l[k] := Ci (List.getElem?_eq_getElem hkl)
        rw [e1, Option.bind_some]
        by_cases c2 : (!(Fc l[k].2.1)) = true
        · rw [if_pos c2, GF]; exact .inr ⟨_, rfl, .inl rfl⟩
        · rw [if_neg c2]
          obtain ⟨L', p1, p2⟩ := J9 (t := (t.1, t.2.1, [])) (t' := (t.1, t.2.1, t.2.2)) rfl hT.1.2.2.1 hL l[k]
          obtain ⟨r, n1, n2, _⟩ := Kr (t.1, t.2.1, []) (t.1, t.2.1, t.2.2) (L := L') (by omega)
          rw [Option.bind_some, p1, Option.bind_some, if_neg (show ¬ (!true) = true by decide), if_neg (show ¬ (Bp ((t.1, t.2.1, []), L') ≠ (L'.length : Int)) from fun h => h rfl), n1, Option.bind_some, n2, Option.bind_some, Option.bind_some]
          dsimp only
          rw [if_neg (by simp), AY (by omega)]
          exact .inl ⟨_, rfl, ⟨k + 1, L', rfl, by omega, p2⟩, by simp; omega⟩
      · rw [if_neg (by simpa using c)]
        exact .inr ⟨_, rfl, .inr ⟨_, rfl⟩⟩) (0, t.1, t.2.1, t.2.2, [], t.1, t.2.1, [], []) ⟨0, [], rfl, by omega, by simp⟩
    rw [h1]
    rcases h2 with rfl | ⟨q, rfl⟩
    · rfl
    · show (CI).bind _ = _
      rw [GF]; rfl
  · rw [if_neg hT, if_neg hT]
    show ((some (Sum.inr () : Ws ⊕ Unit)).bind fun x41 => _) = _
    rw [Option.bind_some]
    show (CI).bind _ = _
    rw [GF]; rfl
theorem GI (p0 : Tp) {A : Prop} (_ : A) (p1 : List (Int × Int × Int × Int × Int × Int × (Int × Int × Int × Int))) {B : Prop} (_ : B) : Dk p0 p1 = some true := GN p0 p1
end Go.Proofs.Ytemacefkdopgaaa
