/- Layer 25: plans. Conditions: none. -/
import Derived.Test.YthhoflfhegfmcaaGreatbM23
import Derived.Test.YthhoflfhegfmcaaGreatbMO
namespace Go.Proofs.YthhoflfhegfmcaaGreat
set_option linter.unusedVariables false
set_option linter.unusedSimpArgs false
open Go Go.RowKit
theorem W1 {L : List Int} (hl : L.length ≤ 1000000) (hs : L.Pairwise (· ≤ ·)) : ∃ R, FY L = some R ∧ R.Pairwise (· < ·) ∧ ∀ x, x ∈ R ↔ x ∈ L := by
  obtain ⟨R, h1, h2, h3⟩ := NI hl hs
  exact ⟨R, by unfold FY; rw [O1 hl hs, Option.bind_some, h1]; rfl, h2, h3⟩
open Classical in
noncomputable def QD (P : Int → Prop) : List Int := ((List.range 64).map fun (n : Nat) => (n : Int)).filter fun x => decide (P x)
open Classical in
theorem Jb {P : Int → Prop} {x : Int} : x ∈ QD P ↔ (0 ≤ x ∧ x < 64) ∧ P x := by
  unfold QD
  rw [List.mem_filter, List.mem_map]
  constructor
  · rintro ⟨⟨n, h1, h2⟩, h3⟩
    have := List.mem_range.1 h1
    exact ⟨by omega, of_decide_eq_true h3⟩
  · rintro ⟨h1, h2⟩
    exact ⟨⟨x.toNat, List.mem_range.2 (by omega), by omega⟩, decide_eq_true h2⟩
theorem Lb {P : Int → Prop} : (QD P).Pairwise (· < ·) := by
  unfold QD
  refine List.Pairwise.filter _ ?_
  rw [List.pairwise_map]
  exact List.pairwise_lt_range.imp fun h => by omega
noncomputable def CV (L : List Mv) : List Int := QD fun n => ∃ m ∈ L, m.2.2.2 = n
noncomputable def My (L : List Mv) (n : Int) : List Int := QD fun i => ∃ m ∈ L, m.2.2.2 = n ∧ m.1 = i
theorem Sw {L : List Mv} (hl : L.length ≤ 64) (hs : L.Pairwise (fun x y => AM x y = true)) (hr : ∀ m ∈ L, 0 ≤ m.2.2.2 ∧ m.2.2.2 < 64) : Hz L = some (CV L) := by
  obtain ⟨Q, h1, h2⟩ := DK L.length (fun (s : List Int) (k : Nat) => (s, (k : Int))) (EZ L) id (fun Q k => Q = (L.take k).map (·.2.2.2))
    (fun Q k hk hI => by
      have hb : Q.length ≤ 64 := by rw [hI, List.length_map, List.length_take]; omega
      refine ⟨Q ++ [L[k].2.2.2], ?_, by rw [hI, List.take_succ_eq_append_getElem hk, List.map_append]; rfl⟩
      rw [EZ, if_pos (by omega), BF (List.getElem?_eq_getElem hk), Option.bind_some, Fb (by simp; omega), Option.bind_some, Aj (by omega)]; rfl)
    (fun Q _ => by rw [EZ, if_neg (by omega)]; rfl) [] (by simp)
  have e1 : Ap (EZ L) ([], 0) = some Q := h2
  rw [List.take_length] at h1
  have hsq : Q.Pairwise (· ≤ ·) := by
    rw [h1, List.pairwise_map]
    exact hs.imp fun h => by rw [KN] at h; omega
  obtain ⟨R, r1, r2, r3⟩ := W1 (by rw [h1, List.length_map]; omega) hsq
  have : R = CV L := Oo r2 Lb fun x => by
    rw [r3, h1, CV, Jb, List.mem_map]
    constructor
    · rintro ⟨m, hm, e⟩; have := hr m hm; exact ⟨by omega, m, hm, e⟩
    · rintro ⟨_, m, hm, e⟩; exact ⟨m, hm, e⟩
  unfold Hz
  rw [e1, Option.bind_some, r1, this]; rfl
theorem QB {L : List Mv} (hl : L.length ≤ 64) (hs : L.Pairwise (fun x y => AM x y = true)) (hr : ∀ m ∈ L, 0 ≤ m.1 ∧ m.1 < 64) (n : Int) : GR L n = some (My L n) := by
  obtain ⟨Q, h1, h2⟩ := DK L.length (fun (s : List Int) (k : Nat) => (s, (k : Int))) (D3 L n) id (fun Q k => Q = ((L.take k).filter fun m => decide (m.2.2.2 = n)).map (·.1))
    (fun Q k hk hI => by
      have hb : Q.length ≤ 64 := by
        rw [hI, List.length_map]
        exact Nat.le_trans (List.length_filter_le _ _) (by rw [List.length_take]; omega)
      by_cases c : L[k].2.2.2 = n
      · refine ⟨Q ++ [L[k].1], ?_, by rw [hI, List.take_succ_eq_append_getElem hk, List.filter_append, List.map_append]; simp [c]⟩
        rw [D3, if_pos (by omega), BF (List.getElem?_eq_getElem hk), Option.bind_some, if_pos c, Fb (by simp; omega), Option.bind_some, Option.bind_some, Aj (by omega)]; rfl
      · refine ⟨Q, ?_, by rw [hI, List.take_succ_eq_append_getElem hk, List.filter_append, List.map_append]; simp [c]⟩
        rw [D3, if_pos (by omega), BF (List.getElem?_eq_getElem hk), Option.bind_some, if_neg c, Option.bind_some, Aj (by omega)]; rfl)
    (fun Q _ => by rw [D3, if_neg (by omega)]; rfl) [] (by simp)
  have e1 : Ap (D3 L n) ([], 0) = some Q := h2
  rw [List.take_length] at h1
  have hsq : Q.Pairwise (· ≤ ·) := by
    rw [h1, List.pairwise_map]
    refine List.Pairwise.imp_of_mem ?_ (hs.filter _)
    intro a b ha hb h
    have h1 := of_decide_eq_true (List.mem_filter.1 ha).2
    have h2 := of_decide_eq_true (List.mem_filter.1 hb).2
    rw [KN] at h; omega
  have hql : Q.length ≤ 64 := by
    rw [h1, List.length_map]
    exact Nat.le_trans (List.length_filter_le _ _) hl
  obtain ⟨R, r1, r2, r3⟩ := NI (by omega) hsq
  have : R = My L n := Oo r2 Lb fun x => by
    rw [r3, h1, My, Jb, List.mem_map]
    constructor
    · rintro ⟨m, hm, e⟩
      obtain ⟨k1, k2⟩ := List.mem_filter.1 hm
      have := hr m k1
      exact ⟨by omega, m, k1, of_decide_eq_true k2, e⟩
    · rintro ⟨_, m, hm, e, e2⟩; exact ⟨m, List.mem_filter.2 ⟨hm, decide_eq_true e⟩, e2⟩
  unfold GR
  rw [e1, Option.bind_some, O1 (by omega) hsq, Option.bind_some, r1, this]; rfl
theorem VE {t : Tp} (hok : Oz t) : ∃ s, E6 t = some s ∧ 0 ≤ s ∧ s ≤ 1000 := by
  have h8 := hok.1
  obtain ⟨s, h1, h2⟩ := DK t.2.1.length (fun (s : Int) (k : Nat) => (s, (k : Int))) (DY t) id (fun s k => 0 ≤ s ∧ s ≤ 1000)
    (fun s k hk hI => by
      have hl := (hok.2.1 _ (List.getElem_mem hk)).2.2.2.1
      refine ⟨max s t.2.1[k].2.2.2.2.2, ?_, by omega⟩
      rw [DY, if_pos (by omega), BF (List.getElem?_eq_getElem hk), Option.bind_some, Aj (by omega)]; rfl)
    (fun s _ => by rw [DY, if_neg (by omega)]; rfl) 0 (by omega)
  have e1 : Ap (DY t) (0, 0) = some s := h2
  exact ⟨s, by unfold E6; rw [e1]; rfl, h1⟩
noncomputable def Cy (t : Tp) : Int := t.1 * (E6 t).getD 0
theorem ND {t : Tp} (hok : Oz t) : Hj t = some (Cy t) ∧ 0 ≤ Cy t ∧ Cy t ≤ 8000 := by
  obtain ⟨s, e, h0, h1⟩ := VE hok
  have h8 := hok.1
  have hL : Cy t = t.1 * s := by unfold Cy; rw [e]; rfl
  have b1 : 0 ≤ t.1 * s := Int.mul_nonneg (by omega) h0
  have b2 : t.1 * s ≤ 8 * 1000 := Int.mul_le_mul (by omega) h1 h0 (by omega)
  rw [hL]
  refine ⟨?_, b1, by omega⟩
  unfold Hj
  rw [e, Option.bind_some, Aj (by omega)]
theorem S8 {t : Tp} (hok : Oz t) {miss : Int} (hm : 0 ≤ miss ∧ miss ≤ 1048576) : Hw t miss = some (2 * miss + Cy t + 1) := by
  obtain ⟨h1, h2, h3⟩ := ND hok
  unfold Hw
  rw [h1, Option.bind_some, Aj (x := 2 * miss) (by omega), Aj (x := 2 * miss + Cy t) (by omega), Aj (by omega)]
def Nc (gap : Int) (n : Nat) : List (Int × Int × Int) := (List.range n).map fun (k : Nat) => ((k : Int), ((k + 1 : Nat) : Int), gap)
def Kz (gap : Int) (n m : Nat) : List Int := (List.range n).map fun (k : Nat) => if k ≤ m then (k : Int) * gap else 0
theorem PV {gap : Int} {n k : Nat} (h : k < n) : ix (Nc gap n) (k : Int) = some ((k : Int), ((k + 1 : Nat) : Int), gap) := BF (by unfold Nc; simp [h])
theorem Me {gap : Int} {n m k : Nat} (h : k < n) : ix (Kz gap n m) (k : Int) = some (if k ≤ m then (k : Int) * gap else 0) := BF (by unfold Kz; simp [h])
theorem UN {gap : Int} {n m : Nat} (h : m + 1 < n) : Ah (Kz gap n m) ((m + 1 : Nat) : Int) (((m + 1 : Nat) : Int) * gap) = Kz gap n (m + 1) := by
  unfold Ah Kz
  apply List.ext_getElem
  · simp
  · intro i h1 h2
    simp only [Int.toNat_natCast, List.length_set, List.length_map, List.length_range] at h1
    rw [List.getElem_set]
    by_cases c : m + 1 = i
    · subst c
      simp
    · simp only [Int.toNat_natCast, if_neg c, List.getElem_map, List.getElem_range]
      by_cases d : i ≤ m
      · rw [if_pos d, if_pos (by omega)]
      · rw [if_neg d, if_neg (by omega)]
theorem Ow {k gap : Int} {b : Int} (hk : 0 ≤ k ∧ k ≤ 64) (hg : 0 ≤ gap ∧ gap ≤ b) : 0 ≤ k * gap ∧ k * gap ≤ 64 * b :=
  ⟨Int.mul_nonneg hk.1 hg.1, Int.mul_le_mul hk.2 hg.2 hg.1 (by omega)⟩
theorem SM {gap : Int} (hg : 1 ≤ gap ∧ gap ≤ 1073741824) {n : Nat} (hn : 2 ≤ n) (hn2 : n ≤ 64) : ∀ (d i : Nat) (c : List Int) (ch : Bool), i + d = n - 1 → c.length = n → (0 < i → ch = true) →
    ∃ c', Ap (Dq (n : Int) (Nc gap (n - 1)) 1) (ch, (i : Int), Kz gap n i, c) = some (.inl (true, Kz gap n (n - 1), c')) ∧ c'.length = n := by
  intro d
  have hlen : (Nc gap (n - 1)).length = n - 1 := by unfold Nc; simp
  induction d with
  | zero =>
    intro i c ch h1 h2 h3
    refine ⟨c, Av ?_, h2⟩
    rw [Dq, if_neg (by omega), h3 (by omega), show i = n - 1 by omega]
  | succ d ih =>
    intro i c ch h1 h2 h3
    have hb := Ow (k := (i : Int)) (gap := gap) (b := 1073741824) (by omega) (by omega)
    have hxi : ix (Kz gap n i) (i : Int) = some ((i : Int) * gap) := by rw [Me (by omega), if_pos (Nat.le_refl _)]
    have hxj : ix (Kz gap n i) ((i + 1 : Nat) : Int) = some 0 := by rw [Me (by omega), if_neg (by omega)]
    have hci : ix c ((i + 1 : Nat) : Int) = some (c[i + 1]'(by omega)) := BF (List.getElem?_eq_getElem _)
    have hs : An ((i : Int) * gap + gap) = ((i + 1 : Nat) : Int) * gap := by
      rw [Aj (by omega), show ((i + 1 : Nat) : Int) = (i : Int) + 1 by omega, Int.add_mul, Int.one_mul]
    have hpos : ¬ ((i + 1 : Nat) : Int) * gap ≤ 0 := by
      rw [show ((i + 1 : Nat) : Int) = (i : Int) + 1 by omega, Int.add_mul, Int.one_mul]; omega
    have hst : Dq (n : Int) (Nc gap (n - 1)) 1 (ch, (i : Int), Kz gap n i, c) = some (.inl (true, ((i + 1 : Nat) : Int), Kz gap n (i + 1), Ah c ((i + 1 : Nat) : Int) (i : Int))) := by
      rw [Dq, if_pos (by omega), PV (by omega), Option.bind_some]
      simp only []
      rw [hxi, Option.bind_some, hxj, Option.bind_some, hs, if_neg hpos, Option.bind_some, hci, Option.bind_some, if_neg (by omega), UN (by omega)]
      show some _ = _
      rw [Aj (by omega)]; rfl
    rw [A4 hst]
    exact ih (i + 1) _ true (by omega) (by unfold Ah; simp [h2]) (fun _ => rfl)
theorem SA {gap : Int} (hg : 1 ≤ gap ∧ gap ≤ 1073741824) {n : Nat} (hn2 : n ≤ 64) (r : Int) (c : List Int) : ∀ (d i : Nat), i + d = n - 1 →
    Ap (Dq (n : Int) (Nc gap (n - 1)) r) (false, (i : Int), Kz gap n (n - 1), c) = some (.inl (false, Kz gap n (n - 1), c)) := by
  intro d
  have hlen : (Nc gap (n - 1)).length = n - 1 := by unfold Nc; simp
  induction d with
  | zero => intro i h1; exact Av (by rw [Dq, if_neg (by omega)])
  | succ d ih =>
    intro i h1
    have hb := Ow (k := (i : Int)) (gap := gap) (b := 1073741824) (by omega) (by omega)
    have hxi : ix (Kz gap n (n - 1)) (i : Int) = some ((i : Int) * gap) := by rw [Me (by omega), if_pos (by omega)]
    have hxj : ix (Kz gap n (n - 1)) ((i + 1 : Nat) : Int) = some (((i + 1 : Nat) : Int) * gap) := by rw [Me (by omega), if_pos (by omega)]
    have hs : An ((i : Int) * gap + gap) = ((i + 1 : Nat) : Int) * gap := by
      rw [Aj (by omega), show ((i + 1 : Nat) : Int) = (i : Int) + 1 by omega, Int.add_mul, Int.one_mul]
    have hst : Dq (n : Int) (Nc gap (n - 1)) r (false, (i : Int), Kz gap n (n - 1), c) = some (.inl (false, ((i + 1 : Nat) : Int), Kz gap n (n - 1), c)) := by
      rw [Dq, if_pos (by omega), PV (by omega), Option.bind_some]
      simp only []
      rw [hxi, Option.bind_some, hxj, Option.bind_some, hs, if_pos (Int.le_refl _)]
      show some _ = _
      rw [Aj (by omega)]; rfl
    rw [A4 hst]
    exact ih (i + 1) (by omega)
theorem QT {gap : Int} (hg : 1 ≤ gap ∧ gap ≤ 1073741824) {n : Nat} (hn1 : 1 ≤ n) (hn2 : n ≤ 64) : GP (n : Int) (Nc gap (n - 1)) = some (Kz gap n (n - 1), true) := by
  have hlen : (Nc gap (n - 1)).length = n - 1 := by unfold Nc; simp
  have hright : I8 (n : Int) (Nc gap (n - 1)) = some true := by
    unfold I8
    rw [if_neg (by simp; omega)]
    have key : ∀ (d k : Nat), k + d = n - 1 → Ap (Fe (n : Int) (Nc gap (n - 1))) (k : Int) = some (.inl ()) := by
      intro d
      induction d with
      | zero => intro k hk; exact Av (by rw [Fe, if_neg (by omega)])
      | succ d ih =>
        intro k hk
        have hst : Fe (n : Int) (Nc gap (n - 1)) (k : Int) = some (.inl ((k + 1 : Nat) : Int)) := by
          rw [Fe, if_pos (by omega), PV (by omega), Option.bind_some, if_neg (by simp; omega), Aj (by omega)]; rfl
        rw [A4 hst]
        exact ih (k + 1) (by omega)
    rw [show Ap (Fe (n : Int) (Nc gap (n - 1))) 0 = some (.inl ()) from key (n - 1) 0 (by omega)]; rfl
  have hz : List.replicate n (0 : Int) = Kz gap n 0 := by
    unfold Kz
    apply List.ext_getElem
    · simp
    · intro i h1 h2
      simp only [List.getElem_replicate, List.getElem_map, List.getElem_range]
      by_cases c : i ≤ 0
      · rw [if_pos c, show i = 0 by omega]; simp
      · rw [if_neg c]
  have hsolve : ∃ c, I7 (n : Int) (Nc gap (n - 1)) = some (Kz gap n (n - 1), c, -1) := by
    have fin : ∀ (r : Int) (c : List Int), Fg (n : Int) (Nc gap (n - 1)) (r, Kz gap n (n - 1), c) = some (.inr (Kz gap n (n - 1), c, -1)) := fun r c => by
      rw [Fg, show Ap (Dq (n : Int) (Nc gap (n - 1)) r) (false, 0, Kz gap n (n - 1), c) = _ from SA hg hn2 r c (n - 1) 0 (by omega)]; rfl
    unfold I7
    rw [T0 (by omega), Option.bind_some, Option.bind_some, Int.toNat_natCast]
    by_cases c1 : n = 1
    · refine ⟨List.replicate n 0, ?_⟩
      have h0 : List.replicate n (0 : Int) = Kz gap n (n - 1) := by rw [hz, c1]
      conv => lhs; rw [h0]
      rw [Av (fin 1 _)]; rw [← h0]; rfl
    · obtain ⟨c', e1, e2⟩ := SM hg (n := n) (by omega) hn2 (n - 1) 0 (List.replicate n 0) false (by omega) (by simp) (fun h => by omega)
      refine ⟨c', ?_⟩
      have hst : Fg (n : Int) (Nc gap (n - 1)) (1, Kz gap n 0, List.replicate n 0) = some (.inl (2, Kz gap n (n - 1), c')) := by
        rw [Fg, show Ap (Dq (n : Int) (Nc gap (n - 1)) 1) (false, 0, Kz gap n 0, List.replicate n 0) = _ from e1]; rfl
      show (Ap (Fg (n : Int) (Nc gap (n - 1))) (1, List.replicate n 0, List.replicate n 0)).bind _ = _
      rw [show (1, List.replicate n (0 : Int), List.replicate n (0 : Int)) = ((1 : Int), Kz gap n 0, List.replicate n (0 : Int)) by rw [hz], A4 hst, Av (fin 2 c')]; rfl
  obtain ⟨c, hc⟩ := hsolve
  unfold GP
  rw [hright, Option.bind_some, if_neg (by decide), hc, Option.bind_some, if_neg (by show ¬ (0 : Int) ≤ -1; decide)]
abbrev Pe := Int × Int × List Int
noncomputable def NL (L : List Mv) (first gap : Int) : List Pe := (List.range (CV L).length).map fun (k : Nat) => ((CV L).getD k 0, first + (k : Int) * gap, My L ((CV L).getD k 0))
theorem Q4 {L : List Mv} (hl : L.length ≤ 64) (hs : L.Pairwise (fun x y => AM x y = true)) (hr : ∀ m ∈ L, (0 ≤ m.1 ∧ m.1 < 64) ∧ 0 ≤ m.2.2.2 ∧ m.2.2.2 < 64) (hne : L ≠ []) {first gap : Int} (hf : 0 ≤ first ∧ first ≤ 4398046511104) (hg : 1 ≤ gap ∧ gap ≤ 1073741824) :
    Ic L first gap = some (NL L first gap) ∧ 1 ≤ (CV L).length ∧ (CV L).length ≤ 64 := by
  have hn1 : 1 ≤ (CV L).length := by
    cases L with
    | nil => exact absurd rfl hne
    | cons m L =>
      have hm := hr m (List.mem_cons_self ..)
      have : m.2.2.2 ∈ CV (m :: L) := Jb.2 ⟨by omega, m, List.mem_cons_self .., rfl⟩
      exact List.length_pos_of_mem this
  have hn2 : (CV L).length ≤ 64 := by
    unfold CV QD
    exact Nat.le_trans (List.length_filter_le _ _) (by simp)
  refine ⟨?_, hn1, hn2⟩
  have hw : An (((CV L).length : Int) - 1) = (((CV L).length - 1 : Nat) : Int) := by rw [Aj (by omega)]; omega
  unfold Ic
  rw [Sw hl hs (fun m hm => (hr m hm).2), Option.bind_some]
  obtain ⟨C, c1, c2⟩ := DK ((CV L).length - 1) (fun (s : List (Int × Int × Int)) (k : Nat) => (s, (k : Int))) (FA gap (CV L)) id (fun C k => C = Nc gap k)
    (fun C k hk hI => by
      have hcl : C.length = k := by rw [hI]; unfold Nc; simp
      refine ⟨C ++ [((k : Int), ((k + 1 : Nat) : Int), gap)], ?_, by rw [hI]; unfold Nc; rw [List.range_succ, List.map_append]; rfl⟩
      rw [FA, hw, if_pos (by omega), Aj (x := (k : Int) + 1) (by omega), Fb (by simp; omega), Option.bind_some]; rfl)
    (fun C _ => by rw [FA, hw, if_neg (by omega)]; rfl) [] rfl
  rw [show Ap (FA gap (CV L)) ([], 0) = some C from c2, Option.bind_some, c1, QT hg hn1 hn2, Option.bind_some]
  have htl : (Kz gap (CV L).length ((CV L).length - 1)).length = (CV L).length := by unfold Kz; simp
  obtain ⟨D, d1, d2⟩ := DK (CV L).length (fun (s : List Pe) (k : Nat) => (s, (k : Int))) (FE L first (CV L) (Kz gap (CV L).length ((CV L).length - 1), true)) id (fun D k => D = (List.range k).map fun (k : Nat) => ((CV L).getD k 0, first + (k : Int) * gap, My L ((CV L).getD k 0)))
    (fun D k hk hI => by
      have hdl : D.length = k := by rw [hI]; simp
      have hb := Ow (k := (k : Int)) (gap := gap) (b := 1073741824) (by omega) (by omega)
      have hrk : ix (CV L) (k : Int) = some ((CV L).getD k 0) := BF (by rw [List.getD_eq_getElem?_getD, List.getElem?_eq_getElem hk]; rfl)
      refine ⟨D ++ [((CV L).getD k 0, first + (k : Int) * gap, My L ((CV L).getD k 0))], ?_, by rw [hI, List.range_succ, List.map_append]; rfl⟩
      rw [FE, if_pos (by show (k : Int) < (((Kz gap (CV L).length ((CV L).length - 1)).length : Nat) : Int); omega)]
      show (ix (Kz gap (CV L).length ((CV L).length - 1)) (k : Int)).bind _ = _
      rw [Me hk, if_pos (by omega), Option.bind_some, hrk, Option.bind_some, Option.bind_some, QB hl hs (fun m hm => (hr m hm).1), Option.bind_some, Aj (x := first + (k : Int) * gap) (by omega), Fb (by simp; omega), Option.bind_some, Aj (by omega)]; rfl)
    (fun D _ => by rw [FE, if_neg (by show ¬ (((CV L).length : Nat) : Int) < (((Kz gap (CV L).length ((CV L).length - 1)).length : Nat) : Int); omega)]; rfl) [] rfl
  rw [show Ap (FE L first (CV L) (Kz gap (CV L).length ((CV L).length - 1), true)) ([], 0) = some D from d2, d1]; rfl
abbrev bT := List Mv × List Pe × Int × Int × Int × Int
abbrev Vm : bT := ([], [], 0, 0, 0, 0)
abbrev NS (at_ miss lead : Int) : Prop := 0 ≤ at_ ∧ at_ ≤ 1099511627776 ∧ 0 ≤ miss ∧ miss ≤ 1048576 ∧ 0 ≤ lead ∧ lead ≤ 1048576
def Jn (t : Tp) (old now : Rt) (L : List Mv) : Prop := L.length ≤ 64 ∧ L.Pairwise (fun x y => AM x y = true) ∧ L.Pairwise LG ∧ ∀ m, m ∈ L ↔ N7 t old now m
theorem N7.bd {t : Tp} {old now : Rt} (ho : CW t old) (hn : CW t now) {m : Mv} (h : N7 t old now m) : (0 ≤ m.1 ∧ m.1 < 8) ∧ 1 ≤ m.2.2.2 ∧ m.2.2.2 < t.1 ∧ m.2.2.2 < 8 := by
  obtain ⟨q1, q2, q3, q4, l, q5, q6⟩ := h
  have h8 := hn.1.1.1
  have hin := q5.in_ hn.1.1 (fun s e => by rw [← Option.some.inj e]; exact q1)
  have hnd := Hk t.1.toNat (m.1 :: l) q5.nodup (fun x hx => by have := hin x hx; omega)
  rw [List.length_cons] at hnd
  refine ⟨by omega, ?_, by omega, by omega⟩
  cases q5 with
  | last hhome => exact absurd (Un ho q1 q2 hhome) q4
  | go _ _ _ => rw [q6]; simp; omega
theorem UQ {t : Tp} {old now : Rt} (s1 : Yf old) (s2 : Yf now) (at_ miss lead : Int) :
    (¬ NS at_ miss lead ∧ Fw t old now at_ miss lead = some (Vm, 2)) ∨ (NS at_ miss lead ∧ ¬ (CW t old ∧ CW t now) ∧ Fw t old now at_ miss lead = some (Vm, 2)) ∨
    (NS at_ miss lead ∧ CW t old ∧ CW t now ∧ ∃ L, Jn t old now L ∧ FO t old now = some (L, 0) ∧
      ((L = [] ∧ Fw t old now at_ miss lead = some (Vm, 7)) ∨ (L ≠ [] ∧ 1 ≤ (CV L).length ∧ (CV L).length ≤ 64 ∧
        Fw t old now at_ miss lead = some (if 1099511627776 < at_ + lead + miss + Cy t + 1 + (((CV L).length - 1 : Nat) : Int) * (2 * miss + Cy t + 1) + miss then (Vm, 11)
          else ((L, NL L (at_ + lead + miss + Cy t + 1) (2 * miss + Cy t + 1), miss, Cy t, at_ + lead + 1, at_ + lead + miss + Cy t + 1 + (((CV L).length - 1 : Nat) : Int) * (2 * miss + Cy t + 1) + miss), 0))))) := by
  by_cases ca : NS at_ miss lead
  · by_cases cg : CW t old ∧ CW t now
    · right; right
      obtain ⟨L, e, hl, hs, hne, hm⟩ := U5 s1.1 s1.2 s2.1 s2.2 cg.1 cg.2
      refine ⟨ca, cg.1, cg.2, L, ⟨hl, hs, hne, hm⟩, e, ?_⟩
      have hok := cg.1.1.1
      obtain ⟨l1, l2, l3⟩ := ND hok
      by_cases cl : L = []
      · left
        refine ⟨cl, ?_⟩
        unfold Fw
        rw [if_neg (by simp; omega), e, Option.bind_some, if_neg (by show ¬ (0 : Int) ≠ 0; decide), if_pos (by rw [cl]; rfl)]
      · right
        have hbd : ∀ m ∈ L, (0 ≤ m.1 ∧ m.1 < 64) ∧ 0 ≤ m.2.2.2 ∧ m.2.2.2 < 64 := fun m h => by
          have := N7.bd cg.1 cg.2 ((hm m).1 h)
          omega
        obtain ⟨p1, p2, p3⟩ := Q4 hl hs hbd cl (first := at_ + lead + miss + Cy t + 1) (gap := 2 * miss + Cy t + 1) (by omega) (by omega)
        refine ⟨cl, p2, p3, ?_⟩
        have hlp : 0 < L.length := List.length_pos_iff.2 cl
        have hb := Ow (k := (((CV L).length - 1 : Nat) : Int)) (gap := 2 * miss + Cy t + 1) (b := 4194304) (by omega) (by omega)
        have hrl : (NL L (at_ + lead + miss + Cy t + 1) (2 * miss + Cy t + 1)).length = (CV L).length := by unfold NL; simp
        have hlast : ix (NL L (at_ + lead + miss + Cy t + 1) (2 * miss + Cy t + 1)) (((CV L).length - 1 : Nat) : Int) = some ((CV L).getD ((CV L).length - 1) 0, at_ + lead + miss + Cy t + 1 + (((CV L).length - 1 : Nat) : Int) * (2 * miss + Cy t + 1), My L ((CV L).getD ((CV L).length - 1) 0)) := by
          refine BF ?_
          unfold NL
          rw [List.getElem?_map, List.getElem?_range (by omega)]; rfl
        unfold Fw
        rw [if_neg (by simp; omega), e, Option.bind_some, if_neg (by show ¬ (0 : Int) ≠ 0; decide), if_neg (by show ¬ ((L.length : Nat) : Int) = 0; omega), l1, Option.bind_some, S8 hok (by omega), Option.bind_some,
          Aj (x := at_ + lead) (by omega), Aj (x := at_ + lead + miss) (by omega), Aj (x := at_ + lead + miss + Cy t) (by omega), Aj (x := at_ + lead + miss + Cy t + 1) (by omega), p1, Option.bind_some, hrl,
          show An (((CV L).length : Int) - 1) = (((CV L).length - 1 : Nat) : Int) by rw [Aj (by omega)]; omega, hlast, Option.bind_some]
        simp only []
        rw [Aj (x := at_ + lead + miss + Cy t + 1 + (((CV L).length - 1 : Nat) : Int) * (2 * miss + Cy t + 1) + miss) (by omega), Aj (x := at_ + lead + miss + Cy t + 1 - miss) (by omega), Aj (x := at_ + lead + miss + Cy t + 1 - miss - Cy t) (by omega), show at_ + lead + miss + Cy t + 1 - miss - Cy t = at_ + lead + 1 by omega]
        split <;> rfl
    · right; left
      refine ⟨ca, cg, ?_⟩
      have : FO t old now = some ([], 2) := by
        unfold FO
        rw [MT s1.1 s1.2, Option.bind_some]
        by_cases c1 : CW t old
        · rw [decide_eq_true c1, if_neg (by decide), MT s2.1 s2.2, Option.bind_some, decide_eq_false (fun h => cg ⟨c1, h⟩), Option.bind_some, if_pos (by decide)]
        · rw [decide_eq_false c1, if_pos (by decide), Option.bind_some, if_pos rfl]
      unfold Fw
      rw [if_neg (by simp; omega), this]; rfl
  · left
    refine ⟨ca, ?_⟩
    unfold Fw
    rw [if_pos (by simp only [NS] at ca; simp; omega)]
end Go.Proofs.YthhoflfhegfmcaaGreat
