/- Layer 35: stable order. Conditions: none. -/
import Derived.Test.YtemacefkdopgaaacLP
namespace Go.Proofs.Ytemacefkdopgaaa
set_option linter.unusedVariables false
set_option linter.unusedSimpArgs false
open Go Go.RowKit
section stable
variable {α : Type} (key : α → Int)
def D9 (l : List α) : Prop := l.Pairwise fun a b => key a ≤ key b
def Sm (L M : List α) : Prop := M.Perm L ∧ ∀ k, M.filter (fun a => decide (key a = k)) = L.filter (fun a => decide (key a = k))
variable {key}
theorem Sm.rfl {L : List α} : Sm key L L := ⟨List.Perm.refl _, fun _ => Eq.refl _⟩
theorem Sm.trans {L M N : List α} (h1 : Sm key L M) (h2 : Sm key M N) : Sm key L N := ⟨h2.1.trans h1.1, fun k => (h2.2 k).trans (h1.2 k)⟩
theorem Sm.app {L M L' M' : List α} (h1 : Sm key L M) (h2 : Sm key L' M') : Sm key (L ++ L') (M ++ M') :=
  ⟨h1.1.append h2.1, fun k => by rw [List.filter_append, List.filter_append, h1.2 k, h2.2 k]⟩
theorem Sm.comm {A B : List α} (h : ∀ a ∈ A, ∀ b ∈ B, key a ≠ key b) : Sm key (A ++ B) (B ++ A) := by
  refine ⟨List.perm_append_comm, fun k => ?_⟩
  rw [List.filter_append, List.filter_append]
  by_cases c : ∃ a ∈ A, key a = k
  · obtain ⟨a, ha, hk⟩ := c
    have e : B.filter (fun a => decide (key a = k)) = [] := by
      rw [List.filter_eq_nil_iff]
      intro b hb hh
      exact h a ha b hb (hk.trans (of_decide_eq_true hh).symm)
    rw [e, List.nil_append, List.append_nil]
  · have e : A.filter (fun a => decide (key a = k)) = [] := by
      rw [List.filter_eq_nil_iff]
      intro a ha hh
      exact c ⟨a, ha, of_decide_eq_true hh⟩
    rw [e, List.nil_append, List.append_nil]
theorem Sm.mem {L M : List α} (h : Sm key L M) {a : α} : a ∈ M ↔ a ∈ L := h.1.mem_iff
theorem Sm.len {L M : List α} (h : Sm key L M) : M.length = L.length := h.1.length_eq
theorem DL {A B : List α} : D9 key (A ++ B) ↔ D9 key A ∧ D9 key B ∧ ∀ a ∈ A, ∀ b ∈ B, key a ≤ key b := List.pairwise_append
theorem ES {a : α} {B : List α} : D9 key (a :: B) ↔ (∀ b ∈ B, key a ≤ key b) ∧ D9 key B := List.pairwise_cons
theorem Hl : D9 key ([] : List α) := List.Pairwise.nil
theorem Ik (a : α) : D9 key [a] := List.pairwise_singleton _ _
theorem FH : ∀ {M N : List α}, D9 key M → D9 key N → Sm key M N → N = M
  | [], N, _, _, h => List.eq_nil_of_length_eq_zero h.len
  | a :: t, [], _, _, h => nomatch h.len
  | a :: t, b :: u, hM, hN, h => by
    have h1 := ES.1 hM
    have h2 := ES.1 hN
    have e1 : key a ≤ key b := by
      rcases List.mem_cons.1 (h.mem.1 (List.mem_cons_self)) with e | e
      · rw [e]; omega
      · exact h1.1 b e
    have e2 : key b ≤ key a := by
      rcases List.mem_cons.1 (h.mem.2 (List.mem_cons_self)) with e | e
      · rw [e]; omega
      · exact h2.1 a e
    have e3 : key b = key a := by omega
    have h3 := h.2 (key a)
    rw [List.filter_cons_of_pos (by simpa using e3), List.filter_cons_of_pos (by simp)] at h3
    obtain ⟨rfl, h4⟩ := List.cons.inj h3
    rw [FH h1.2 h2.2 ⟨List.Perm.cons_inv h.1, fun k => ?_⟩]
    have h5 := h.2 k
    by_cases c : key b = k
    · rw [List.filter_cons_of_pos (by simpa using c), List.filter_cons_of_pos (by simpa using c)] at h5
      exact (List.cons.inj h5).2
    · rwa [List.filter_cons_of_neg (by simpa using c), List.filter_cons_of_neg (by simpa using c)] at h5
theorem Kv {A1 A2 B1 B2 : List α} (h : ∀ a ∈ A2, ∀ b ∈ B1, key b < key a) : Sm key ((A1 ++ A2) ++ (B1 ++ B2)) ((A1 ++ B1) ++ (A2 ++ B2)) := by
  have h1 : Sm key (A2 ++ B1) (B1 ++ A2) := Sm.comm fun a ha b hb => by have := h a ha b hb; omega
  have h2 := (Sm.rfl (key := key) (L := A1)).app (h1.app (Sm.rfl (key := key) (L := B2)))
  simpa only [List.append_assoc] using h2
theorem Io {A1 A2 B1 B2 M1 M2 : List α} (hA : D9 key (A1 ++ A2)) (hB : D9 key (B1 ++ B2)) (h : ∀ a ∈ A2, ∀ b ∈ B1, key b < key a) (h' : ∀ a ∈ A1, ∀ b ∈ B2, key a ≤ key b)
    (s1 : Sm key (A1 ++ B1) M1) (o1 : D9 key M1) (s2 : Sm key (A2 ++ B2) M2) (o2 : D9 key M2) : Sm key ((A1 ++ A2) ++ (B1 ++ B2)) (M1 ++ M2) ∧ D9 key (M1 ++ M2) := by
  refine ⟨(Kv h).trans (s1.app s2), DL.2 ⟨o1, o2, fun a ha b hb => ?_⟩⟩
  have ha := s1.mem.1 ha
  have hb := s2.mem.1 hb
  rcases List.mem_append.1 ha with ha | ha <;> rcases List.mem_append.1 hb with hb | hb
  · exact (DL.1 hA).2.2 a ha b hb
  · exact h' a ha b hb
  · exact Int.le_of_lt (h b hb a ha)
  · exact (DL.1 hB).2.2 a ha b hb
theorem Eb {l : List α} (h : D9 key l) {i j : Nat} (hij : i ≤ j) (hj : j < l.length) : key (l[i]'(by omega)) ≤ key l[j] := by
  by_cases c : i = j
  · subst c; omega
  · exact List.pairwise_iff_getElem.1 h i j (by omega) hj (by omega)
theorem Es {l : List α} {n : Nat} {a : α} (h : a ∈ l.take n) : ∃ i, ∃ hi : i < l.length, i < n ∧ l[i] = a := by
  obtain ⟨i, hi, e⟩ := List.mem_iff_getElem.1 h
  have := List.length_take (i := n) (l := l)
  exact ⟨i, by omega, by omega, by rw [← e, List.getElem_take]⟩
theorem Fx {l : List α} {n : Nat} {a : α} (h : a ∈ l.drop n) : ∃ i, ∃ hi : i < l.length, n ≤ i ∧ l[i] = a := by
  obtain ⟨i, hi, e⟩ := List.mem_iff_getElem.1 h
  have := List.length_drop (i := n) (l := l)
  exact ⟨n + i, by omega, by omega, by rw [← e, List.getElem_drop]⟩
theorem Ji {A B : List α} (hA : D9 key A) (hB : D9 key B) {s h : Nat} (hs : s ≤ A.length) (hsh : s ≤ h) (ht : h - s ≤ B.length)
    (lo : 0 < s → h - s < B.length → ∀ (h1 : s - 1 < A.length) (h2 : h - s < B.length), key A[s - 1] ≤ key B[h - s])
    (hi : s < A.length → s < h → ∀ (h1 : s < A.length) (h2 : h - 1 - s < B.length), key B[h - 1 - s] < key A[s]) :
    (∀ a ∈ A.drop s, ∀ b ∈ B.take (h - s), key b < key a) ∧ (∀ a ∈ A.take s, ∀ b ∈ B.drop (h - s), key a ≤ key b) := by
  refine ⟨fun a ha b hb => ?_, fun a ha b hb => ?_⟩
  · obtain ⟨i, hi', hn, rfl⟩ := Fx ha
    obtain ⟨j, hj', hm, rfl⟩ := Es hb
    have h1 := hi (by omega) (by omega) (by omega) (by omega)
    have h2 := Eb hA hn hi'
    have h3 := Eb hB (show j ≤ h - 1 - s by omega) (by omega)
    omega
  · obtain ⟨i, hi', hn, rfl⟩ := Es ha
    obtain ⟨j, hj', hm, rfl⟩ := Fx hb
    have h1 := lo (by omega) (by omega) (by omega) (by omega)
    have h2 := Eb hA (show i ≤ s - 1 by omega) (by omega)
    have h3 := Eb hB hm hj'
    omega
end stable
section midst
variable {α : Type}
theorem Gs {x : List α} {p : α} {z : List α} {i : Int} (h : i = x.length) : ix (x ++ p :: z) i = some p := by
  subst h
  exact BO (by simp)
theorem E4 {x : List α} {p q : α} {z : List α} {i : Int} (h : i = x.length) : Cq (x ++ p :: z) i q = x ++ q :: z := by
  subst h
  unfold Cq
  rw [show ((x.length : Int)).toNat = x.length by omega, List.set_append_right _ _ (Nat.le_refl _), Nat.sub_self, List.set_cons_zero]
theorem EP {x z y : List α} {p q : α} {i j : Int} (hi : i = x.length) (hj : j = x.length + 1 + z.length) :
    ix (x ++ p :: (z ++ q :: y)) i = some p ∧ ix (x ++ p :: (z ++ q :: y)) j = some q ∧ Cq (Cq (x ++ p :: (z ++ q :: y)) i q) j p = x ++ q :: (z ++ p :: y) ∧ Cq (Cq (x ++ p :: (z ++ q :: y)) j p) i q = x ++ q :: (z ++ p :: y) := by
  have e : ∀ u : α, x ++ u :: (z ++ q :: y) = (x ++ u :: z) ++ q :: y := fun u => by simp
  have e' : ∀ u : α, x ++ u :: (z ++ p :: y) = (x ++ u :: z) ++ p :: y := fun u => by simp
  have l : ∀ u : α, j = (x ++ u :: z).length := fun u => by simp; omega
  refine ⟨Gs hi, by rw [e]; exact Gs (l p), ?_, ?_⟩
  · rw [E4 hi, e, E4 (l q), ← e']
  · rw [e, E4 (l p), ← e', E4 hi]
end midst
section blocks
variable {α : Type}
theorem Mf {S : List α × Int → Option ((List α × Int) ⊕ List α)} {a b n : Nat}
    (hS : ∀ (x z y : List α) (p q : α) (i : Nat), i < n → x.length = a + i → a + 1 + z.length = b → S (x ++ p :: (z ++ q :: y), (i : Int)) = some (.inl (x ++ q :: (z ++ p :: y), ((i + 1 : Nat) : Int))))
    (hE : ∀ L, S (L, (n : Int)) = some (.inr L)) {x z y P Q : List α} (hx : x.length = a) (hP : P.length = n) (hQ : Q.length = n) (hz : a + n + z.length = b) :
    AM S (x ++ (P ++ (z ++ (Q ++ y))), 0) = some (x ++ (Q ++ (z ++ (P ++ y)))) := by
  have key : ∀ (P2 Q2 P1 Q1 : List α), P2.length = Q2.length → P1.length = Q1.length → P1.length + P2.length = n →
      AM S ((x ++ Q1) ++ (P2 ++ ((z ++ P1) ++ (Q2 ++ y))), (P1.length : Int)) = some (x ++ ((Q1 ++ Q2) ++ (z ++ ((P1 ++ P2) ++ y)))) := by
    intro P2
    induction P2 with
    | nil =>
      intro Q2 P1 Q1 h1 h2 h3
      obtain rfl : Q2 = [] := List.eq_nil_of_length_eq_zero h1.symm
      simp only [List.length_nil, Nat.add_zero] at h3
      rw [h3, Bh (hE _)]
      simp
    | cons p P2 ih =>
      intro Q2 P1 Q1 h1 h2 h3
      cases Q2 with
      | nil => simp at h1
      | cons q Q2 =>
        simp only [List.length_cons, Nat.add_right_cancel_iff] at h1
        simp only [List.length_cons] at h3
        have h4 := hS (x ++ Q1) (P2 ++ (z ++ P1)) (Q2 ++ y) p q P1.length (by omega) (by simp; omega) (by simp; omega)
        have e1 : (x ++ Q1) ++ ((p :: P2) ++ ((z ++ P1) ++ ((q :: Q2) ++ y))) = (x ++ Q1) ++ p :: ((P2 ++ (z ++ P1)) ++ q :: (Q2 ++ y)) := by simp
        have e2 : (x ++ Q1) ++ q :: ((P2 ++ (z ++ P1)) ++ p :: (Q2 ++ y)) = (x ++ (Q1 ++ [q])) ++ (P2 ++ ((z ++ (P1 ++ [p])) ++ (Q2 ++ y))) := by simp
        rw [e1, Cj h4, e2]
        have h5 := ih Q2 (P1 ++ [p]) (Q1 ++ [q]) h1 (by simp; omega) (by simp; omega)
        rw [show (P1 ++ [p]).length = P1.length + 1 by simp] at h5
        rw [h5]
        simp
  have h := key P Q [] [] (by omega) rfl (by simp; omega)
  simpa using h
theorem Mj {sR : List α → Int → Int → Int → Option (List α)} {N : Nat} (hR : ∀ (x P z Q y : List α) (a b n : Int), (x ++ (P ++ (z ++ (Q ++ y)))).length = N → a = x.length → n = P.length → n = Q.length → b = x.length + P.length + z.length → sR (x ++ (P ++ (z ++ (Q ++ y)))) a b n = some (x ++ (Q ++ (z ++ (P ++ y)))))
    {T : List α × Int × Int → Option ((List α × Int × Int) ⊕ (List α × Int))} {m : Int}
    (hT : ∀ (L : List α) (i j : Nat), L.length = N → i + j ≤ N → (i : Int) ≤ m → m + j ≤ N → 0 < i → 0 < j → T (L, (i : Int), (j : Int)) = if (i : Int) ≠ j then (if (j : Int) < i then (sR L (m - i) m j).bind fun L' => some (.inl (L', ((i - j : Nat) : Int), (j : Int))) else (sR L (m - i) (m + j - i) i).bind fun L' => some (.inl (L', (i : Int), ((j - i : Nat) : Int)))) else some (.inr (L, (i : Int)))) :
    ∀ (t : Nat) (x P Q y : List α), P.length + Q.length = t → 0 < P.length → 0 < Q.length → m = x.length + P.length → (x ++ (P ++ (Q ++ y))).length = N →
      ∃ (L : List α) (i : Nat), AM T (x ++ (P ++ (Q ++ y)), (P.length : Int), (Q.length : Int)) = some (L, (i : Int)) ∧ (i : Int) ≤ m ∧ sR L (m - i) m i = some (x ++ (Q ++ (P ++ y))) := by
  intro t
  induction t using Nat.strongRecOn with
  | _ t ih =>
    intro x P Q y ht hP hQ hm hN
    have hlen := hN
    simp only [List.length_append] at hlen
    have h1 := hT (x ++ (P ++ (Q ++ y))) P.length Q.length hN (by omega) (by omega) (by omega) hP hQ
    by_cases c : P.length = Q.length
    · rw [if_neg (by omega)] at h1
      refine ⟨_, _, Bh h1, by omega, ?_⟩
      have h2 := hR x P [] Q y (m - P.length) m P.length (by simp only [List.length_append, List.length_nil] at hN ⊢; omega) (by omega) rfl (by omega) (by simp; omega)
      simpa using h2
    · rw [if_pos (by omega)] at h1
      by_cases c2 : Q.length < P.length
      · rw [if_pos (by omega)] at h1
        obtain ⟨P1, P2, rfl, hP1⟩ : ∃ P1 P2, P = P1 ++ P2 ∧ P1.length = Q.length := ⟨P.take Q.length, P.drop Q.length, (List.take_append_drop _ _).symm, by rw [List.length_take]; omega⟩
        simp only [List.length_append] at c c2 hm h1 hP hlen ht
        have h2 := hR x P1 P2 Q y (m - ((P1.length + P2.length : Nat) : Int)) m Q.length (by simp only [List.length_append, List.length_nil] at hN ⊢; omega) (by omega) (by omega) rfl (by omega)
        rw [show x ++ ((P1 ++ P2) ++ (Q ++ y)) = x ++ (P1 ++ (P2 ++ (Q ++ y))) by simp] at h1 ⊢
        rw [h2, Option.bind_some] at h1
        have h3 := ih (P2.length + P1.length) (by omega) (x ++ Q) P2 P1 y rfl (by omega) (by omega) (by simp only [List.length_append]; omega) (by simp only [List.length_append]; omega)
        obtain ⟨L, i, e1, e2, e3⟩ := h3
        refine ⟨L, i, ?_, e2, by rw [e3]; simp⟩
        simp only [List.length_append]
        rw [Cj h1]
        rw [show x ++ (Q ++ (P2 ++ (P1 ++ y))) = (x ++ Q) ++ (P2 ++ (P1 ++ y)) by simp, show P1.length + P2.length - Q.length = P2.length by omega, show (Q.length : Int) = P1.length by omega]
        exact e1
      · rw [if_neg (by omega)] at h1
        obtain ⟨Q1, Q2, rfl, hQ2⟩ : ∃ Q1 Q2, Q = Q1 ++ Q2 ∧ Q2.length = P.length := ⟨Q.take (Q.length - P.length), Q.drop (Q.length - P.length), (List.take_append_drop _ _).symm, by rw [List.length_drop]; omega⟩
        simp only [List.length_append] at c c2 hm h1 hQ hlen ht
        have h2 := hR x P Q1 Q2 y (m - P.length) (m + ((Q1.length + Q2.length : Nat) : Int) - P.length) P.length (by simp only [List.length_append, List.length_nil] at hN ⊢; omega) (by omega) rfl (by omega) (by omega)
        rw [show x ++ (P ++ ((Q1 ++ Q2) ++ y)) = x ++ (P ++ (Q1 ++ (Q2 ++ y))) by simp] at h1 ⊢
        rw [h2, Option.bind_some] at h1
        have h3 := ih (Q2.length + Q1.length) (by omega) x Q2 Q1 (P ++ y) rfl (by omega) (by omega) (by omega) (by simp only [List.length_append]; omega)
        obtain ⟨L, i, e1, e2, e3⟩ := h3
        refine ⟨L, i, ?_, e2, by rw [e3]; simp⟩
        simp only [List.length_append]
        rw [Cj h1]
        rw [show Q1.length + Q2.length - P.length = Q1.length by omega, show (P.length : Int) = Q2.length by omega]
        exact e1
end blocks
theorem Li {ε : Type} {S : Int × Int → Option ((Int × Int) ⊕ ε)} {fin : Int → ε} {lo hi : Nat} {P : Nat → Bool} (hlo : lo ≤ hi)
    (hS : ∀ s r : Nat, lo ≤ s → s < r → r ≤ hi → S ((s : Int), (r : Int)) = some (.inl (if P ((s + r) / 2) = true then ((((s + r) / 2 + 1 : Nat) : Int), (r : Int)) else ((s : Int), (((s + r) / 2 : Nat) : Int)))))
    (hE : ∀ s : Nat, lo ≤ s → s ≤ hi → S ((s : Int), (s : Int)) = some (.inr (fin s))) :
    ∃ s : Nat, lo ≤ s ∧ s ≤ hi ∧ AM S ((lo : Int), (hi : Int)) = some (fin s) ∧ (lo < s → P (s - 1) = true) ∧ (s < hi → P s = false) := by
  have key : ∀ (d s r : Nat), r - s = d → lo ≤ s → s ≤ r → r ≤ hi → (lo < s → P (s - 1) = true) → (r < hi → P r = false) →
      ∃ t : Nat, lo ≤ t ∧ t ≤ hi ∧ AM S ((s : Int), (r : Int)) = some (fin t) ∧ (lo < t → P (t - 1) = true) ∧ (t < hi → P t = false) := by
    intro d
    induction d using Nat.strongRecOn with
    | _ d ih =>
      intro s r hd h1 h2 h3 h4 h5
      by_cases c : s = r
      · subst c
        exact ⟨s, h1, h3, Bh (hE s h1 h3), h4, h5⟩
      · have h6 := hS s r h1 (by omega) h3
        by_cases c2 : P ((s + r) / 2) = true
        · rw [if_pos c2] at h6
          obtain ⟨t, t1, t2, t3, t4, t5⟩ := ih (r - ((s + r) / 2 + 1)) (by omega) ((s + r) / 2 + 1) r rfl (by omega) (by omega) h3 (fun _ => by rw [Nat.add_sub_cancel]; exact c2) h5
          exact ⟨t, t1, t2, by rw [Cj h6]; exact t3, t4, t5⟩
        · rw [if_neg c2] at h6
          obtain ⟨t, t1, t2, t3, t4, t5⟩ := ih ((s + r) / 2 - s) (by omega) s ((s + r) / 2) rfl h1 (by omega) (by omega) h4 (fun _ => by simpa using c2)
          exact ⟨t, t1, t2, by rw [Cj h6]; exact t3, t4, t5⟩
  exact key (hi - lo) lo hi rfl (Nat.le_refl _) hlo (Nat.le_refl _) (fun h => by omega) (fun h => by omega)
section sinking
variable {α : Type}
theorem KZ {S : List α × Int → Option ((List α × Int) ⊕ List α)} {n : Nat}
    (hS : ∀ (x y : List α) (p q : α), x.length < n → S (x ++ p :: q :: y, (x.length : Int)) = some (.inl (x ++ q :: p :: y, ((x.length + 1 : Nat) : Int))))
    (hE : ∀ L, S (L, (n : Int)) = some (.inr L)) : ∀ (B x y : List α) (p : α), x.length + B.length = n → AM S (x ++ p :: (B ++ y), (x.length : Int)) = some (x ++ (B ++ p :: y))
  | [], x, y, p, h => by
    simp only [List.length_nil, Nat.add_zero] at h
    rw [h, Bh (hE _)]; rfl
  | q :: B, x, y, p, h => by
    simp only [List.length_cons] at h
    have h1 := hS x (B ++ y) p q (by omega)
    rw [show x ++ p :: (q :: B ++ y) = x ++ p :: q :: (B ++ y) from rfl, Cj h1]
    have h2 := KZ hS hE B (x ++ [q]) y p (by simp; omega)
    rw [show (x ++ [q]).length = x.length + 1 by simp] at h2
    rw [show x ++ q :: p :: (B ++ y) = (x ++ [q]) ++ p :: (B ++ y) by simp, h2]
    simp
theorem Ll {S : List α × Int → Option ((List α × Int) ⊕ List α)} {n N : Nat}
    (hS : ∀ (x y : List α) (p q : α), n ≤ x.length → (x ++ p :: q :: y).length = N → S (x ++ p :: q :: y, ((x.length + 1 : Nat) : Int)) = some (.inl (x ++ q :: p :: y, (x.length : Int))))
    (hE : ∀ L, S (L, (n : Int)) = some (.inr L)) (x : List α) (hx : x.length = n) (p : α) : ∀ (B y : List α), (x ++ (B ++ p :: y)).length = N → AM S (x ++ (B ++ p :: y), ((x.length + B.length : Nat) : Int)) = some (x ++ p :: (B ++ y)) := by
  refine Hw (fun y hN => ?_) fun B q ih y hN => ?_
  · simp only [List.length_nil, Nat.add_zero, List.nil_append]
    rw [hx, Bh (hE _)]
  · have h1 := hS (x ++ B) y q p (by simp; omega) (by rw [← hN]; simp)
    rw [show x ++ ((B ++ [q]) ++ p :: y) = (x ++ B) ++ q :: p :: y by simp, show x.length + (B ++ [q]).length = (x ++ B).length + 1 by simp; omega, Cj h1]
    rw [show (x ++ B) ++ p :: q :: y = x ++ (B ++ p :: (q :: y)) by simp, List.length_append, ih (q :: y) (by rw [← hN]; simp)]
    simp
variable {key : α → Int}
theorem LA {S : List α × Int → Option ((List α × Int) ⊕ List α)} {n N : Nat}
    (hS : ∀ (x y : List α) (p q : α), n ≤ x.length → (x ++ p :: q :: y).length = N → S (x ++ p :: q :: y, ((x.length + 1 : Nat) : Int)) = if key q < key p then some (.inl (x ++ q :: p :: y, (x.length : Int))) else some (.inr (x ++ p :: q :: y)))
    (hE : ∀ L, S (L, (n : Int)) = some (.inr L)) (x : List α) (hx : x.length = n) (e : α) : ∀ (B y : List α), (x ++ (B ++ e :: y)).length = N → D9 key B →
      ∃ B1 B2, B = B1 ++ B2 ∧ AM S (x ++ (B ++ e :: y), ((x.length + B.length : Nat) : Int)) = some (x ++ (B1 ++ e :: (B2 ++ y))) ∧ (∀ b ∈ B1, key b ≤ key e) ∧ ∀ b ∈ B2, key e < key b := by
  refine Hw (fun y hN hB => ?_) fun B q ih y hN hB => ?_
  · refine ⟨[], [], rfl, ?_, (fun _ h => nomatch h), (fun _ h => nomatch h)⟩
    simp only [List.length_nil, Nat.add_zero, List.nil_append]
    rw [hx, Bh (hE _)]
  · have h1 := hS (x ++ B) y q e (by simp; omega) (by rw [← hN]; simp)
    have hs := DL.1 hB
    rw [show x ++ ((B ++ [q]) ++ e :: y) = (x ++ B) ++ q :: e :: y by simp, show x.length + (B ++ [q]).length = (x ++ B).length + 1 by simp; omega]
    by_cases c : key e < key q
    · rw [if_pos c] at h1
      obtain ⟨B1, B2, rfl, e2, h3, h4⟩ := ih (q :: y) (by rw [← hN]; simp) hs.1
      refine ⟨B1, B2 ++ [q], by simp, ?_, h3, fun b hb => ?_⟩
      · rw [Cj h1, show (x ++ (B1 ++ B2)) ++ e :: q :: y = x ++ ((B1 ++ B2) ++ e :: (q :: y)) by simp, List.length_append, e2]
        simp
      · rcases List.mem_append.1 hb with hb | hb
        · exact h4 b hb
        · rw [List.mem_singleton.1 hb]; exact c
    · rw [if_neg c] at h1
      refine ⟨B ++ [q], [], by simp, ?_, fun b hb => ?_, (fun _ h => nomatch h)⟩
      · rw [Bh h1]; simp
      · rcases List.mem_append.1 hb with hb | hb
        · have := hs.2.2 b hb q (List.mem_singleton.2 rfl); omega
        · rw [List.mem_singleton.1 hb]; omega
theorem Ix {B1 B2 : List α} {e : α} (h : D9 key (B1 ++ B2)) (h1 : ∀ b ∈ B1, key b ≤ key e) (h2 : ∀ b ∈ B2, key e < key b) : D9 key (B1 ++ e :: B2) ∧ Sm key ((B1 ++ B2) ++ [e]) (B1 ++ e :: B2) := by
  have hs := DL.1 h
  refine ⟨DL.2 ⟨hs.1, ES.2 ⟨fun b hb => Int.le_of_lt (h2 b hb), hs.2.1⟩, fun a ha b hb => ?_⟩, ?_⟩
  · rcases List.mem_cons.1 hb with rfl | hb
    · exact h1 a ha
    · exact hs.2.2 a ha b hb
  · have h3 : Sm key (B2 ++ [e]) ([e] ++ B2) := Sm.comm fun a ha b hb => by
      rw [List.mem_singleton.1 hb]; have := h2 a ha; omega
    have h4 := (Sm.rfl (key := key) (L := B1)).app h3
    simpa using h4
theorem KT {S : List α × Int → Option ((List α × Int) ⊕ List α)} {T : List α × Int → Option ((List α × Int) ⊕ List α)} {n b N : Nat}
    (hS : ∀ (x y : List α) (p q : α), n ≤ x.length → (x ++ p :: q :: y).length = N → S (x ++ p :: q :: y, ((x.length + 1 : Nat) : Int)) = if key q < key p then some (.inl (x ++ q :: p :: y, (x.length : Int))) else some (.inr (x ++ p :: q :: y)))
    (hE : ∀ L, S (L, (n : Int)) = some (.inr L))
    (hT : ∀ (L : List α) (i : Nat), L.length = N → n < i → i < b → T (L, (i : Int)) = (AM S (L, (i : Int))).bind fun x => some (.inl (x, ((i + 1 : Nat) : Int))))
    (hTe : ∀ (L : List α) (i : Nat), b ≤ i → T (L, (i : Int)) = some (.inr L)) (x : List α) (hx : x.length = n) : ∀ (R B y : List α), (x ++ (B ++ (R ++ y))).length = N → 0 < B.length → x.length + B.length + R.length = b → D9 key B →
      ∃ M, AM T (x ++ (B ++ (R ++ y)), ((x.length + B.length : Nat) : Int)) = some (x ++ (M ++ y)) ∧ D9 key M ∧ Sm key (B ++ R) M
  | [], B, y, hN, h0, hb, hB => ⟨B, by
      simp only [List.length_nil, Nat.add_zero] at hb
      rw [hb, Bh (hTe _ b (Nat.le_refl _))]; rfl, hB, by rw [List.append_nil]; exact Sm.rfl⟩
  | e :: R, B, y, hN, h0, hb, hB => by
    simp only [List.length_cons] at hb
    obtain ⟨B1, B2, rfl, e2, h3, h4⟩ := LA hS hE x hx e B (R ++ y) (by rw [← hN]; simp) hB
    have h5 := Ix hB h3 h4
    have h6 := hT (x ++ ((B1 ++ B2) ++ (e :: R ++ y))) (x.length + (B1 ++ B2).length) hN (by omega) (by omega)
    rw [show x ++ ((B1 ++ B2) ++ (e :: R ++ y)) = x ++ ((B1 ++ B2) ++ e :: (R ++ y)) from rfl] at h6 ⊢
    rw [e2, Option.bind_some] at h6
    have hl : (B1 ++ e :: B2).length = (B1 ++ B2).length + 1 := by simp; omega
    obtain ⟨M, m1, m2, m3⟩ := KT hS hE hT hTe x hx R (B1 ++ e :: B2) y (by rw [← hN]; simp; omega) (by rw [hl]; omega) (by rw [hl]; omega) h5.1
    refine ⟨M, ?_, m2, ?_⟩
    · rw [Cj h6, show x ++ (B1 ++ e :: (B2 ++ (R ++ y))) = x ++ ((B1 ++ e :: B2) ++ (R ++ y)) by simp, show x.length + (B1 ++ B2).length + 1 = x.length + (B1 ++ e :: B2).length by rw [hl]; omega]
      exact m1
    · have h7 := (h5.2.app (Sm.rfl (key := key) (L := R))).trans m3
      simpa using h7
end sinking
section cutting
variable {α : Type} {key : α → Int}
theorem J6 {A B : List α} (hA : D9 key A) (hB : D9 key B) {s h lo hi : Nat} (hh : h = (A.length + B.length) / 2) (a0 : 0 < A.length) (b0 : 0 < B.length)
    (hlo : lo = if h < A.length then h - B.length else 0) (hhi : hi = if h < A.length then h else A.length) (s1 : lo ≤ s) (s2 : s ≤ hi)
    (p1 : lo < s → ∀ (h1 : s - 1 < A.length) (h2 : h - 1 - (s - 1) < B.length), key A[s - 1] ≤ key B[h - 1 - (s - 1)])
    (p2 : s < hi → ∀ (h1 : s < A.length) (h2 : h - 1 - s < B.length), key B[h - 1 - s] < key A[s]) :
    s ≤ A.length ∧ s ≤ h ∧ h - s ≤ B.length ∧ (∀ a ∈ A.drop s, ∀ b ∈ B.take (h - s), key b < key a) ∧ (∀ a ∈ A.take s, ∀ b ∈ B.drop (h - s), key a ≤ key b) := by
  have c1 : s ≤ A.length ∧ s ≤ h ∧ h - s ≤ B.length := by
    by_cases c : h < A.length
    · rw [if_pos c] at hlo hhi; omega
    · rw [if_neg c] at hlo hhi; omega
  refine ⟨c1.1, c1.2.1, c1.2.2, Ji hA hB c1.1 c1.2.1 c1.2.2 (fun z1 z2 h1 h2 => ?_) (fun z1 z2 h1 h2 => ?_)⟩
  · have z3 : lo < s := by
      by_cases c : h < A.length
      · rw [if_pos c] at hlo; omega
      · rw [if_neg c] at hlo; omega
    have z4 := p1 z3 h1 (by omega)
    have e : h - 1 - (s - 1) = h - s := by omega
    simp only [e] at z4
    exact z4
  · have z3 : s < hi := by
      by_cases c : h < A.length
      · rw [if_pos c] at hhi; omega
      · rw [if_neg c] at hhi; omega
    exact p2 z3 h1 h2
theorem Ki {a : α} {B : List α} (hB : D9 key B) {s : Nat} (hs : s ≤ B.length) (p1 : 0 < s → ∀ (h1 : s - 1 < B.length), key B[s - 1] < key a) (p2 : s < B.length → ∀ (h1 : s < B.length), key a ≤ key B[s]) :
    Sm key ([a] ++ B) (B.take s ++ a :: B.drop s) ∧ D9 key (B.take s ++ a :: B.drop s) := by
  have hB' : D9 key (B.take s ++ B.drop s) := by rw [List.take_append_drop]; exact hB
  have h1 : ∀ b ∈ B.take s, key b < key a := fun b hb => by
    obtain ⟨j, hj, hm, rfl⟩ := Es hb
    have := p1 (by omega) (by omega)
    have := Eb hB (show j ≤ s - 1 by omega) (by omega)
    omega
  have h2 : ∀ b ∈ B.drop s, key a ≤ key b := fun b hb => by
    obtain ⟨j, hj, hm, rfl⟩ := Fx hb
    have := p2 (by omega) (by omega)
    have := Eb hB hm hj
    omega
  have h3 := Io (A1 := []) (A2 := [a]) (B1 := B.take s) (B2 := B.drop s) (M1 := B.take s) (M2 := a :: B.drop s) (Ik a) hB'
    (fun x hx b hb => by rw [List.mem_singleton.1 hx]; exact h1 b hb) (fun _ h => nomatch h) (by rw [List.nil_append]; exact Sm.rfl) (DL.1 hB').1 (by exact Sm.rfl) (ES.2 ⟨h2, (DL.1 hB').2.1⟩)
  rw [List.nil_append, List.take_append_drop] at h3
  exact h3
theorem Kt {b : α} {A : List α} (hA : D9 key A) {s : Nat} (hs : s ≤ A.length) (p1 : 0 < s → ∀ (h1 : s - 1 < A.length), key A[s - 1] ≤ key b) (p2 : s < A.length → ∀ (h1 : s < A.length), key b < key A[s]) :
    Sm key (A ++ [b]) (A.take s ++ b :: A.drop s) ∧ D9 key (A.take s ++ b :: A.drop s) := by
  have hA' : D9 key (A.take s ++ A.drop s) := by rw [List.take_append_drop]; exact hA
  have h1 : ∀ x ∈ A.take s, key x ≤ key b := fun x hx => by
    obtain ⟨j, hj, hm, rfl⟩ := Es hx
    have := p1 (by omega) (by omega)
    have := Eb hA (show j ≤ s - 1 by omega) (by omega)
    omega
  have h2 : ∀ x ∈ A.drop s, key b < key x := fun x hx => by
    obtain ⟨j, hj, hm, rfl⟩ := Fx hx
    have := p2 (by omega) (by omega)
    have := Eb hA hm hj
    omega
  have h3 := Ix hA' h1 h2
  rw [List.take_append_drop] at h3
  exact ⟨h3.2, h3.1⟩
end cutting
end Go.Proofs.Ytemacefkdopgaaa
