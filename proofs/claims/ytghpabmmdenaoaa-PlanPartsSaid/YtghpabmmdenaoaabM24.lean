/- Layer 24: plans. Conditions: none. -/
import Derived.Test.YtghpabmmdenaoaabM23
import Derived.Test.YtghpabmmdenaoaabMO
namespace Go.Proofs.Ytghpabmmdenaoaa
set_option linter.unusedVariables false
set_option linter.unusedSimpArgs false
open Go Go.RowKit
theorem ST {L : List Int} (hl : L.length ≤ 1000000) (hs : L.Pairwise (· ≤ ·)) : ∃ R, D0 L = some R ∧ R.Pairwise (· < ·) ∧ ∀ x, x ∈ R ↔ x ∈ L := by
  obtain ⟨R, h1, h2, h3⟩ := Ms hl hs
  exact ⟨R, by unfold D0; rw [Nr hl hs, Option.bind_some, h1]; rfl, h2, h3⟩
open Classical in
noncomputable def NJ (P : Int → Prop) : List Int := ((List.range 64).map fun (n : Nat) => (n : Int)).filter fun x => decide (P x)
open Classical in
theorem Ih {P : Int → Prop} {x : Int} : x ∈ NJ P ↔ (0 ≤ x ∧ x < 64) ∧ P x := by
  unfold NJ
  rw [List.mem_filter, List.mem_map]
  constructor
  · rintro ⟨⟨n, h1, h2⟩, h3⟩
    have := List.mem_range.1 h1
    exact ⟨by omega, of_decide_eq_true h3⟩
  · rintro ⟨h1, h2⟩
    exact ⟨⟨x.toNat, List.mem_range.2 (by omega), by omega⟩, decide_eq_true h2⟩
theorem JG {P : Int → Prop} : (NJ P).Pairwise (· < ·) := by
  unfold NJ
  refine List.Pairwise.filter _ ?_
  rw [List.pairwise_map]
  exact List.pairwise_lt_range.imp fun h => by omega
noncomputable def CY (L : List Mv) : List Int := NJ fun n => ∃ m ∈ L, m.2.2.2 = n
noncomputable def JM (L : List Mv) (n : Int) : List Int := NJ fun i => ∃ m ∈ L, m.2.2.2 = n ∧ m.1 = i
theorem Qp {L : List Mv} (hl : L.length ≤ 64) (hs : L.Pairwise (fun x y => AX x y = true)) (hr : ∀ m ∈ L, 0 ≤ m.2.2.2 ∧ m.2.2.2 < 64) : EZ L = some (CY L) := by
  obtain ⟨Q, h1, h2⟩ := E5 L.length (fun (s : List Int) (k : Nat) => (s, (k : Int))) (Dx L) id (fun Q k => Q = (L.take k).map (·.2.2.2))
    (fun Q k hk hI => by
      have hb : Q.length ≤ 64 := by rw [hI, List.length_map, List.length_take]; omega
      refine ⟨Q ++ [L[k].2.2.2], ?_, by rw [hI, List.take_succ_eq_append_getElem hk, List.map_append]; rfl⟩
      rw [Dx, if_pos (by omega), Cq (List.getElem?_eq_getElem hk), Option.bind_some, HL (by simp; omega), Option.bind_some, AA (by omega)]; rfl)
    (fun Q _ => by rw [Dx, if_neg (by omega)]; rfl) [] (by simp)
  have e1 : AH (Dx L) ([], 0) = some Q := h2
  rw [List.take_length] at h1
  have hsq : Q.Pairwise (· ≤ ·) := by
    rw [h1, List.pairwise_map]
    exact hs.imp fun h => by rw [Jy] at h; omega
  obtain ⟨R, r1, r2, r3⟩ := ST (by rw [h1, List.length_map]; omega) hsq
  have : R = CY L := LZ r2 JG fun x => by
    rw [r3, h1, CY, Ih, List.mem_map]
    constructor
    · rintro ⟨m, hm, e⟩; have := hr m hm; exact ⟨by omega, m, hm, e⟩
    · rintro ⟨_, m, hm, e⟩; exact ⟨m, hm, e⟩
  unfold EZ
  rw [e1, Option.bind_some, r1, this]; rfl
theorem On {L : List Mv} (hl : L.length ≤ 64) (hs : L.Pairwise (fun x y => AX x y = true)) (hr : ∀ m ∈ L, 0 ≤ m.1 ∧ m.1 < 64) (n : Int) : EJ L n = some (JM L n) := by
  obtain ⟨Q, h1, h2⟩ := E5 L.length (fun (s : List Int) (k : Nat) => (s, (k : Int))) (CZ L n) id (fun Q k => Q = ((L.take k).filter fun m => decide (m.2.2.2 = n)).map (·.1))
    (fun Q k hk hI => by
      have hb : Q.length ≤ 64 := by
        rw [hI, List.length_map]
        exact Nat.le_trans (List.length_filter_le _ _) (by rw [List.length_take]; omega)
      by_cases c : L[k].2.2.2 = n
      · refine ⟨Q ++ [L[k].1], ?_, by rw [hI, List.take_succ_eq_append_getElem hk, List.filter_append, List.map_append]; simp [c]⟩
        rw [CZ, if_pos (by omega), Cq (List.getElem?_eq_getElem hk), Option.bind_some, if_pos c, HL (by simp; omega), Option.bind_some, Option.bind_some, AA (by omega)]; rfl
      · refine ⟨Q, ?_, by rw [hI, List.take_succ_eq_append_getElem hk, List.filter_append, List.map_append]; simp [c]⟩
        rw [CZ, if_pos (by omega), Cq (List.getElem?_eq_getElem hk), Option.bind_some, if_neg c, Option.bind_some, AA (by omega)]; rfl)
    (fun Q _ => by rw [CZ, if_neg (by omega)]; rfl) [] (by simp)
  have e1 : AH (CZ L n) ([], 0) = some Q := h2
  rw [List.take_length] at h1
  have hsq : Q.Pairwise (· ≤ ·) := by
    rw [h1, List.pairwise_map]
    refine List.Pairwise.imp_of_mem ?_ (hs.filter _)
    intro a b ha hb h
    have h1 := of_decide_eq_true (List.mem_filter.1 ha).2
    have h2 := of_decide_eq_true (List.mem_filter.1 hb).2
    rw [Jy] at h; omega
  have hql : Q.length ≤ 64 := by
    rw [h1, List.length_map]
    exact Nat.le_trans (List.length_filter_le _ _) hl
  obtain ⟨R, r1, r2, r3⟩ := Ms (by omega) hsq
  have : R = JM L n := LZ r2 JG fun x => by
    rw [r3, h1, JM, Ih, List.mem_map]
    constructor
    · rintro ⟨m, hm, e⟩
      obtain ⟨k1, k2⟩ := List.mem_filter.1 hm
      have := hr m k1
      exact ⟨by omega, m, k1, of_decide_eq_true k2, e⟩
    · rintro ⟨_, m, hm, e, e2⟩; exact ⟨m, List.mem_filter.2 ⟨hm, decide_eq_true e⟩, e2⟩
  unfold EJ
  rw [e1, Option.bind_some, Nr (by omega) hsq, Option.bind_some, r1, this]; rfl
theorem Rz {t : Tp} (hok : PV t) : ∃ s, Ez t = some s ∧ 0 ≤ s ∧ s ≤ 1000 := by
  have h8 := hok.1
  obtain ⟨s, h1, h2⟩ := E5 t.2.1.length (fun (s : Int) (k : Nat) => (s, (k : Int))) (Dv t) id (fun s k => 0 ≤ s ∧ s ≤ 1000)
    (fun s k hk hI => by
      have hl := (hok.2.1 _ (List.getElem_mem hk)).2.2.2.1
      refine ⟨max s t.2.1[k].2.2.2.2.2, ?_, by omega⟩
      rw [Dv, if_pos (by omega), Cq (List.getElem?_eq_getElem hk), Option.bind_some, AA (by omega)]; rfl)
    (fun s _ => by rw [Dv, if_neg (by omega)]; rfl) 0 (by omega)
  have e1 : AH (Dv t) (0, 0) = some s := h2
  exact ⟨s, by unfold Ez; rw [e1]; rfl, h1⟩
noncomputable def CV (t : Tp) : Int := t.1 * (Ez t).getD 0
theorem PN {t : Tp} (hok : PV t) : Gk t = some (CV t) ∧ 0 ≤ CV t ∧ CV t ≤ 8000 := by
  obtain ⟨s, e, h0, h1⟩ := Rz hok
  have h8 := hok.1
  have hL : CV t = t.1 * s := by unfold CV; rw [e]; rfl
  have b1 : 0 ≤ t.1 * s := Int.mul_nonneg (by omega) h0
  have b2 : t.1 * s ≤ 8 * 1000 := Int.mul_le_mul (by omega) h1 h0 (by omega)
  rw [hL]
  refine ⟨?_, b1, by omega⟩
  unfold Gk
  rw [e, Option.bind_some, AA (by omega)]
theorem SJ {t : Tp} (hok : PV t) {miss : Int} (hm : 0 ≤ miss ∧ miss ≤ 1048576) : Hp t miss = some (2 * miss + CV t + 1) := by
  obtain ⟨h1, h2, h3⟩ := PN hok
  unfold Hp
  rw [h1, Option.bind_some, AA (x := 2 * miss) (by omega), AA (x := 2 * miss + CV t) (by omega), AA (by omega)]
def Lj (gap : Int) (n : Nat) : List (Int × Int × Int) := (List.range n).map fun (k : Nat) => ((k : Int), ((k + 1 : Nat) : Int), gap)
def Ji (gap : Int) (n m : Nat) : List Int := (List.range n).map fun (k : Nat) => if k ≤ m then (k : Int) * gap else 0
theorem ND {gap : Int} {n k : Nat} (h : k < n) : ix (Lj gap n) (k : Int) = some ((k : Int), ((k + 1 : Nat) : Int), gap) := Cq (by unfold Lj; simp [h])
theorem Kx {gap : Int} {n m k : Nat} (h : k < n) : ix (Ji gap n m) (k : Int) = some (if k ≤ m then (k : Int) * gap else 0) := Cq (by unfold Ji; simp [h])
theorem RN {gap : Int} {n m : Nat} (h : m + 1 < n) : AE (Ji gap n m) ((m + 1 : Nat) : Int) (((m + 1 : Nat) : Int) * gap) = Ji gap n (m + 1) := by
  unfold AE Ji
  apply List.ext_getElem
  · simp
  · intro i h1 h2
    simp only [Int.toNat_natCast, List.length_set, List.length_map, List.length_range] at h1
    rw [List.getElem_set]
    by_cases c : m + 1 = i
    · subst c
      simp
    · simp only [Int.toNat_natCast, if_neg c, List.getElem_map, List.getElem_range]
      by_cases d : i ≤ m
      · rw [if_pos d, if_pos (by omega)]
      · rw [if_neg d, if_neg (by omega)]
theorem NQ {k gap : Int} {b : Int} (hk : 0 ≤ k ∧ k ≤ 64) (hg : 0 ≤ gap ∧ gap ≤ b) : 0 ≤ k * gap ∧ k * gap ≤ 64 * b :=
  ⟨Int.mul_nonneg hk.1 hg.1, Int.mul_le_mul hk.2 hg.2 hg.1 (by omega)⟩
theorem Qr {gap : Int} (hg : 1 ≤ gap ∧ gap ≤ 1073741824) {n : Nat} (hn : 2 ≤ n) (hn2 : n ≤ 64) : ∀ (d i : Nat) (c : List Int) (ch : Bool), i + d = n - 1 → c.length = n → (0 < i → ch = true) →
    ∃ c', AH (CD (n : Int) (Lj gap (n - 1)) 1) (ch, (i : Int), Ji gap n i, c) = some (.inl (true, Ji gap n (n - 1), c')) ∧ c'.length = n := by
  intro d
  have hlen : (Lj gap (n - 1)).length = n - 1 := by unfold Lj; simp
  induction d with
  | zero =>
    intro i c ch h1 h2 h3
    refine ⟨c, AJ ?_, h2⟩
    rw [CD, if_neg (by omega), h3 (by omega), show i = n - 1 by omega]
  | succ d ih =>
    intro i c ch h1 h2 h3
    have hb := NQ (k := (i : Int)) (gap := gap) (b := 1073741824) (by omega) (by omega)
    have hxi : ix (Ji gap n i) (i : Int) = some ((i : Int) * gap) := by rw [Kx (by omega), if_pos (Nat.le_refl _)]
    have hxj : ix (Ji gap n i) ((i + 1 : Nat) : Int) = some 0 := by rw [Kx (by omega), if_neg (by omega)]
    have hci : ix c ((i + 1 : Nat) : Int) = some (c[i + 1]'(by omega)) := Cq (List.getElem?_eq_getElem _)
    have hs : Az ((i : Int) * gap + gap) = ((i + 1 : Nat) : Int) * gap := by
      rw [AA (by omega), show ((i + 1 : Nat) : Int) = (i : Int) + 1 by omega, Int.add_mul, Int.one_mul]
    have hpos : ¬ ((i + 1 : Nat) : Int) * gap ≤ 0 := by
      rw [show ((i + 1 : Nat) : Int) = (i : Int) + 1 by omega, Int.add_mul, Int.one_mul]; omega
    have hst : CD (n : Int) (Lj gap (n - 1)) 1 (ch, (i : Int), Ji gap n i, c) = some (.inl (true, ((i + 1 : Nat) : Int), Ji gap n (i + 1), AE c ((i + 1 : Nat) : Int) (i : Int))) := by
      rw [CD, if_pos (by omega), ND (by omega), Option.bind_some]
      simp only []
      rw [hxi, Option.bind_some, hxj, Option.bind_some, hs, if_neg hpos, Option.bind_some, hci, Option.bind_some, if_neg (by omega), RN (by omega)]
      show some _ = _
      rw [AA (by omega)]; rfl
    rw [BA hst]
    exact ih (i + 1) _ true (by omega) (by unfold AE; simp [h2]) (fun _ => rfl)
theorem Qh {gap : Int} (hg : 1 ≤ gap ∧ gap ≤ 1073741824) {n : Nat} (hn2 : n ≤ 64) (r : Int) (c : List Int) : ∀ (d i : Nat), i + d = n - 1 →
    AH (CD (n : Int) (Lj gap (n - 1)) r) (false, (i : Int), Ji gap n (n - 1), c) = some (.inl (false, Ji gap n (n - 1), c)) := by
  intro d
  have hlen : (Lj gap (n - 1)).length = n - 1 := by unfold Lj; simp
  induction d with
  | zero => intro i h1; exact AJ (by rw [CD, if_neg (by omega)])
  | succ d ih =>
    intro i h1
    have hb := NQ (k := (i : Int)) (gap := gap) (b := 1073741824) (by omega) (by omega)
    have hxi : ix (Ji gap n (n - 1)) (i : Int) = some ((i : Int) * gap) := by rw [Kx (by omega), if_pos (by omega)]
    have hxj : ix (Ji gap n (n - 1)) ((i + 1 : Nat) : Int) = some (((i + 1 : Nat) : Int) * gap) := by rw [Kx (by omega), if_pos (by omega)]
    have hs : Az ((i : Int) * gap + gap) = ((i + 1 : Nat) : Int) * gap := by
      rw [AA (by omega), show ((i + 1 : Nat) : Int) = (i : Int) + 1 by omega, Int.add_mul, Int.one_mul]
    have hst : CD (n : Int) (Lj gap (n - 1)) r (false, (i : Int), Ji gap n (n - 1), c) = some (.inl (false, ((i + 1 : Nat) : Int), Ji gap n (n - 1), c)) := by
      rw [CD, if_pos (by omega), ND (by omega), Option.bind_some]
      simp only []
      rw [hxi, Option.bind_some, hxj, Option.bind_some, hs, if_pos (Int.le_refl _)]
      show some _ = _
      rw [AA (by omega)]; rfl
    rw [BA hst]
    exact ih (i + 1) (by omega)
theorem Oa {gap : Int} (hg : 1 ≤ gap ∧ gap ≤ 1073741824) {n : Nat} (hn1 : 1 ≤ n) (hn2 : n ≤ 64) : EF (n : Int) (Lj gap (n - 1)) = some (Ji gap n (n - 1), true) := by
  have hlen : (Lj gap (n - 1)).length = n - 1 := by unfold Lj; simp
  have hright : Gi (n : Int) (Lj gap (n - 1)) = some true := by
    unfold Gi
    rw [if_neg (by simp; omega)]
    have key : ∀ (d k : Nat), k + d = n - 1 → AH (DG (n : Int) (Lj gap (n - 1))) (k : Int) = some (.inl ()) := by
      intro d
      induction d with
      | zero => intro k hk; exact AJ (by rw [DG, if_neg (by omega)])
      | succ d ih =>
        intro k hk
        have hst : DG (n : Int) (Lj gap (n - 1)) (k : Int) = some (.inl ((k + 1 : Nat) : Int)) := by
          rw [DG, if_pos (by omega), ND (by omega), Option.bind_some, if_neg (by simp; omega), AA (by omega)]; rfl
        rw [BA hst]
        exact ih (k + 1) (by omega)
    rw [show AH (DG (n : Int) (Lj gap (n - 1))) 0 = some (.inl ()) from key (n - 1) 0 (by omega)]; rfl
  have hz : List.replicate n (0 : Int) = Ji gap n 0 := by
    unfold Ji
    apply List.ext_getElem
    · simp
    · intro i h1 h2
      simp only [List.getElem_replicate, List.getElem_map, List.getElem_range]
      by_cases c : i ≤ 0
      · rw [if_pos c, show i = 0 by omega]; simp
      · rw [if_neg c]
  have hsolve : ∃ c, Gb (n : Int) (Lj gap (n - 1)) = some (Ji gap n (n - 1), c, -1) := by
    have fin : ∀ (r : Int) (c : List Int), DF (n : Int) (Lj gap (n - 1)) (r, Ji gap n (n - 1), c) = some (.inr (Ji gap n (n - 1), c, -1)) := fun r c => by
      rw [DF, show AH (CD (n : Int) (Lj gap (n - 1)) r) (false, 0, Ji gap n (n - 1), c) = _ from Qh hg hn2 r c (n - 1) 0 (by omega)]; rfl
    unfold Gb
    rw [R7 (by omega), Option.bind_some, Option.bind_some, Int.toNat_natCast]
    by_cases c1 : n = 1
    · refine ⟨List.replicate n 0, ?_⟩
      have h0 : List.replicate n (0 : Int) = Ji gap n (n - 1) := by rw [hz, c1]
      conv => lhs; rw [h0]
      rw [AJ (fin 1 _)]; rw [← h0]; rfl
    · obtain ⟨c', e1, e2⟩ := Qr hg (n := n) (by omega) hn2 (n - 1) 0 (List.replicate n 0) false (by omega) (by simp) (fun h => by omega)
      refine ⟨c', ?_⟩
      have hst : DF (n : Int) (Lj gap (n - 1)) (1, Ji gap n 0, List.replicate n 0) = some (.inl (2, Ji gap n (n - 1), c')) := by
        rw [DF, show AH (CD (n : Int) (Lj gap (n - 1)) 1) (false, 0, Ji gap n 0, List.replicate n 0) = _ from e1]; rfl
      show (AH (DF (n : Int) (Lj gap (n - 1))) (1, List.replicate n 0, List.replicate n 0)).bind _ = _
      rw [show (1, List.replicate n (0 : Int), List.replicate n (0 : Int)) = ((1 : Int), Ji gap n 0, List.replicate n (0 : Int)) by rw [hz], BA hst, AJ (fin 2 c')]; rfl
  obtain ⟨c, hc⟩ := hsolve
  unfold EF
  rw [hright, Option.bind_some, if_neg (by decide), hc, Option.bind_some, if_neg (by show ¬ (0 : Int) ≤ -1; decide)]
abbrev T9 := Int × Int × List Int
noncomputable def IJ (L : List Mv) (first gap : Int) : List T9 := (List.range (CY L).length).map fun (k : Nat) => ((CY L).getD k 0, first + (k : Int) * gap, JM L ((CY L).getD k 0))
theorem OW {L : List Mv} (hl : L.length ≤ 64) (hs : L.Pairwise (fun x y => AX x y = true)) (hr : ∀ m ∈ L, (0 ≤ m.1 ∧ m.1 < 64) ∧ 0 ≤ m.2.2.2 ∧ m.2.2.2 < 64) (hne : L ≠ []) {first gap : Int} (hf : 0 ≤ first ∧ first ≤ 4398046511104) (hg : 1 ≤ gap ∧ gap ≤ 1073741824) :
    FB L first gap = some (IJ L first gap) ∧ 1 ≤ (CY L).length ∧ (CY L).length ≤ 64 := by
  have hn1 : 1 ≤ (CY L).length := by
    cases L with
    | nil => exact absurd rfl hne
    | cons m L =>
      have hm := hr m (List.mem_cons_self ..)
      have : m.2.2.2 ∈ CY (m :: L) := Ih.2 ⟨by omega, m, List.mem_cons_self .., rfl⟩
      exact List.length_pos_of_mem this
  have hn2 : (CY L).length ≤ 64 := by
    unfold CY NJ
    exact Nat.le_trans (List.length_filter_le _ _) (by simp)
  refine ⟨?_, hn1, hn2⟩
  have hw : Az (((CY L).length : Int) - 1) = (((CY L).length - 1 : Nat) : Int) := by rw [AA (by omega)]; omega
  unfold FB
  rw [Qp hl hs (fun m hm => (hr m hm).2), Option.bind_some]
  obtain ⟨C, c1, c2⟩ := E5 ((CY L).length - 1) (fun (s : List (Int × Int × Int)) (k : Nat) => (s, (k : Int))) (DR gap (CY L)) id (fun C k => C = Lj gap k)
    (fun C k hk hI => by
      have hcl : C.length = k := by rw [hI]; unfold Lj; simp
      refine ⟨C ++ [((k : Int), ((k + 1 : Nat) : Int), gap)], ?_, by rw [hI]; unfold Lj; rw [List.range_succ, List.map_append]; rfl⟩
      rw [DR, hw, if_pos (by omega), AA (x := (k : Int) + 1) (by omega), HL (by simp; omega), Option.bind_some]; rfl)
    (fun C _ => by rw [DR, hw, if_neg (by omega)]; rfl) [] rfl
  rw [show AH (DR gap (CY L)) ([], 0) = some C from c2, Option.bind_some, c1, Oa hg hn1 hn2, Option.bind_some]
  have htl : (Ji gap (CY L).length ((CY L).length - 1)).length = (CY L).length := by unfold Ji; simp
  obtain ⟨D, d1, d2⟩ := E5 (CY L).length (fun (s : List T9) (k : Nat) => (s, (k : Int))) (DP L first (CY L) (Ji gap (CY L).length ((CY L).length - 1), true)) id (fun D k => D = (List.range k).map fun (k : Nat) => ((CY L).getD k 0, first + (k : Int) * gap, JM L ((CY L).getD k 0)))
    (fun D k hk hI => by
      have hdl : D.length = k := by rw [hI]; simp
      have hb := NQ (k := (k : Int)) (gap := gap) (b := 1073741824) (by omega) (by omega)
      have hrk : ix (CY L) (k : Int) = some ((CY L).getD k 0) := Cq (by rw [List.getD_eq_getElem?_getD, List.getElem?_eq_getElem hk]; rfl)
      refine ⟨D ++ [((CY L).getD k 0, first + (k : Int) * gap, JM L ((CY L).getD k 0))], ?_, by rw [hI, List.range_succ, List.map_append]; rfl⟩
      rw [DP, if_pos (by show (k : Int) < (((Ji gap (CY L).length ((CY L).length - 1)).length : Nat) : Int); omega)]
      show (ix (Ji gap (CY L).length ((CY L).length - 1)) (k : Int)).bind _ = _
      rw [Kx hk, if_pos (by omega), Option.bind_some, hrk, Option.bind_some, Option.bind_some, On hl hs (fun m hm => (hr m hm).1), Option.bind_some, AA (x := first + (k : Int) * gap) (by omega), HL (by simp; omega), Option.bind_some, AA (by omega)]; rfl)
    (fun D _ => by rw [DP, if_neg (by show ¬ (((CY L).length : Nat) : Int) < (((Ji gap (CY L).length ((CY L).length - 1)).length : Nat) : Int); omega)]; rfl) [] rfl
  rw [show AH (DP L first (CY L) (Ji gap (CY L).length ((CY L).length - 1), true)) ([], 0) = some D from d2, d1]; rfl
abbrev VR := List Mv × List T9 × Int × Int × Int × Int
abbrev MS : VR := ([], [], 0, 0, 0, 0)
abbrev Ma (at_ miss lead : Int) : Prop := 0 ≤ at_ ∧ at_ ≤ 1099511627776 ∧ 0 ≤ miss ∧ miss ≤ 1048576 ∧ 0 ≤ lead ∧ lead ≤ 1048576
def Sj (t : Tp) (old now : Rt) (L : List Mv) : Prop := L.length ≤ 64 ∧ L.Pairwise (fun x y => AX x y = true) ∧ L.Pairwise Kp ∧ ∀ m, m ∈ L ↔ LA t old now m
theorem LA.bd {t : Tp} {old now : Rt} (ho : FS t old) (hn : FS t now) {m : Mv} (h : LA t old now m) : (0 ≤ m.1 ∧ m.1 < 8) ∧ 1 ≤ m.2.2.2 ∧ m.2.2.2 < t.1 ∧ m.2.2.2 < 8 := by
  obtain ⟨q1, q2, q3, q4, l, q5, q6⟩ := h
  have h8 := hn.1.1.1
  have hin := q5.in_ hn.1.1 (fun s e => by rw [← Option.some.inj e]; exact q1)
  have hnd := Hd t.1.toNat (m.1 :: l) q5.nodup (fun x hx => by have := hin x hx; omega)
  rw [List.length_cons] at hnd
  refine ⟨by omega, ?_, by omega, by omega⟩
  cases q5 with
  | last hhome => exact absurd (Qy ho q1 q2 hhome) q4
  | go _ _ _ => rw [q6]; simp; omega
theorem RD {t : Tp} {old now : Rt} (s1 : TK old) (s2 : TK now) (at_ miss lead : Int) :
    (¬ Ma at_ miss lead ∧ DY t old now at_ miss lead = some (MS, 2)) ∨ (Ma at_ miss lead ∧ ¬ (FS t old ∧ FS t now) ∧ DY t old now at_ miss lead = some (MS, 2)) ∨
    (Ma at_ miss lead ∧ FS t old ∧ FS t now ∧ ∃ L, Sj t old now L ∧ Ea t old now = some (L, 0) ∧
      ((L = [] ∧ DY t old now at_ miss lead = some (MS, 7)) ∨ (L ≠ [] ∧ 1 ≤ (CY L).length ∧ (CY L).length ≤ 64 ∧
        DY t old now at_ miss lead = some (if 1099511627776 < at_ + lead + miss + CV t + 1 + (((CY L).length - 1 : Nat) : Int) * (2 * miss + CV t + 1) + miss then (MS, 11)
          else ((L, IJ L (at_ + lead + miss + CV t + 1) (2 * miss + CV t + 1), miss, CV t, at_ + lead + 1, at_ + lead + miss + CV t + 1 + (((CY L).length - 1 : Nat) : Int) * (2 * miss + CV t + 1) + miss), 0))))) := by
  by_cases ca : Ma at_ miss lead
  · by_cases cg : FS t old ∧ FS t now
    · right; right
      obtain ⟨L, e, hl, hs, hne, hm⟩ := Ry s1.1 s1.2 s2.1 s2.2 cg.1 cg.2
      refine ⟨ca, cg.1, cg.2, L, ⟨hl, hs, hne, hm⟩, e, ?_⟩
      have hok := cg.1.1.1
      obtain ⟨l1, l2, l3⟩ := PN hok
      by_cases cl : L = []
      · left
        refine ⟨cl, ?_⟩
        unfold DY
        rw [if_neg (by simp; omega), e, Option.bind_some, if_neg (by show ¬ (0 : Int) ≠ 0; decide), if_pos (by rw [cl]; rfl)]
      · right
        have hbd : ∀ m ∈ L, (0 ≤ m.1 ∧ m.1 < 64) ∧ 0 ≤ m.2.2.2 ∧ m.2.2.2 < 64 := fun m h => by
          have := LA.bd cg.1 cg.2 ((hm m).1 h)
          omega
        obtain ⟨p1, p2, p3⟩ := OW hl hs hbd cl (first := at_ + lead + miss + CV t + 1) (gap := 2 * miss + CV t + 1) (by omega) (by omega)
        refine ⟨cl, p2, p3, ?_⟩
        have hlp : 0 < L.length := List.length_pos_iff.2 cl
        have hb := NQ (k := (((CY L).length - 1 : Nat) : Int)) (gap := 2 * miss + CV t + 1) (b := 4194304) (by omega) (by omega)
        have hrl : (IJ L (at_ + lead + miss + CV t + 1) (2 * miss + CV t + 1)).length = (CY L).length := by unfold IJ; simp
        have hlast : ix (IJ L (at_ + lead + miss + CV t + 1) (2 * miss + CV t + 1)) (((CY L).length - 1 : Nat) : Int) = some ((CY L).getD ((CY L).length - 1) 0, at_ + lead + miss + CV t + 1 + (((CY L).length - 1 : Nat) : Int) * (2 * miss + CV t + 1), JM L ((CY L).getD ((CY L).length - 1) 0)) := by
          refine Cq ?_
          unfold IJ
          rw [List.getElem?_map, List.getElem?_range (by omega)]; rfl
        unfold DY
        rw [if_neg (by simp; omega), e, Option.bind_some, if_neg (by show ¬ (0 : Int) ≠ 0; decide), if_neg (by show ¬ ((L.length : Nat) : Int) = 0; omega), l1, Option.bind_some, SJ hok (by omega), Option.bind_some,
          AA (x := at_ + lead) (by omega), AA (x := at_ + lead + miss) (by omega), AA (x := at_ + lead + miss + CV t) (by omega), AA (x := at_ + lead + miss + CV t + 1) (by omega), p1, Option.bind_some, hrl,
          show Az (((CY L).length : Int) - 1) = (((CY L).length - 1 : Nat) : Int) by rw [AA (by omega)]; omega, hlast, Option.bind_some]
        simp only []
        rw [AA (x := at_ + lead + miss + CV t + 1 + (((CY L).length - 1 : Nat) : Int) * (2 * miss + CV t + 1) + miss) (by omega), AA (x := at_ + lead + miss + CV t + 1 - miss) (by omega), AA (x := at_ + lead + miss + CV t + 1 - miss - CV t) (by omega), show at_ + lead + miss + CV t + 1 - miss - CV t = at_ + lead + 1 by omega]
        split <;> rfl
    · right; left
      refine ⟨ca, cg, ?_⟩
      have : Ea t old now = some ([], 2) := by
        unfold Ea
        rw [NI s1.1 s1.2, Option.bind_some]
        by_cases c1 : FS t old
        · rw [decide_eq_true c1, if_neg (by decide), NI s2.1 s2.2, Option.bind_some, decide_eq_false (fun h => cg ⟨c1, h⟩), Option.bind_some, if_pos (by decide)]
        · rw [decide_eq_false c1, if_pos (by decide), Option.bind_some, if_pos rfl]
      unfold DY
      rw [if_neg (by simp; omega), this]; rfl
  · left
    refine ⟨ca, ?_⟩
    unfold DY
    rw [if_pos (by simp only [Ma] at ca; simp; omega)]
end Go.Proofs.Ytghpabmmdenaoaa
