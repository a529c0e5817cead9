/- Layer 25: plans. Conditions: none. -/
import Derived.Test.YthhoflfhegfmcaaGreatcM23
import Derived.Test.YthhoflfhegfmcaaGreatcMO
namespace Go.Proofs.YthhoflfhegfmcaaGreat
noncomputable section
set_option linter.unusedVariables false
set_option linter.unusedSimpArgs false
open Go Go.RowKit
theorem Wx {L : List Int} (hl : L.length ≤ 1000000) (hs : L.Pairwise (· ≤ ·)) : ∃ R, F3 L = some R ∧ R.Pairwise (· < ·) ∧ ∀ x, x ∈ R ↔ x ∈ L := by
  obtain ⟨R, h1, h2, h3⟩ := NO hl hs
  exact ⟨R, by unfold F3; rw [Pd hl hs, Option.bind_some, h1]; rfl, h2, h3⟩
open Classical in
def QX (P : Int → Prop) : List Int := ((List.range 64).map fun (n : Nat) => (n : Int)).filter fun x => decide (P x)
open Classical in
theorem Jg {P : Int → Prop} {x : Int} : x ∈ QX P ↔ (0 ≤ x ∧ x < 64) ∧ P x := by
  unfold QX
  rw [List.mem_filter, List.mem_map]
  constructor
  · rintro ⟨⟨n, h1, h2⟩, h3⟩
    have := List.mem_range.1 h1
    exact ⟨by omega, of_decide_eq_true h3⟩
  · rintro ⟨h1, h2⟩
    exact ⟨⟨x.toNat, List.mem_range.2 (by omega), by omega⟩, decide_eq_true h2⟩
theorem Li {P : Int → Prop} : (QX P).Pairwise (· < ·) := by
  unfold QX
  refine List.Pairwise.filter _ ?_
  rw [List.pairwise_map]
  exact List.pairwise_lt_range.imp fun h => by omega
def CH (L : List Mv) : List Int := QX fun n => ∃ m ∈ L, m.2.2.2 = n
def Mm (L : List Mv) (n : Int) : List Int := QX fun i => ∃ m ∈ L, m.2.2.2 = n ∧ m.1 = i
theorem SA {L : List Mv} (hl : L.length ≤ 64) (hs : L.Pairwise (fun x y => AO x y = true)) (hr : ∀ m ∈ L, 0 ≤ m.2.2.2 ∧ m.2.2.2 < 64) : Hx L = some (CH L) := by
  obtain ⟨Q, h1, h2⟩ := DM L.length (fun (s : List Int) (k : Nat) => (s, (k : Int))) (E2 L) id (fun Q k => Q = (L.take k).map (·.2.2.2))
    (fun Q k hk hI => by
      have hb : Q.length ≤ 64 := by rw [hI, List.length_map, List.length_take]; omega
      refine ⟨Q ++ [L[k].2.2.2], ?_, by rw [hI, List.take_succ_eq_append_getElem hk, List.map_append]; rfl⟩
      rw [E2, if_pos (by omega), BA (List.getElem?_eq_getElem hk), Option.bind_some, EC (by simp; omega), Option.bind_some, Aj (by omega)]; rfl)
    (fun Q _ => by rw [E2, if_neg (by omega)]; rfl) [] (by simp)
  have e1 : Aq (E2 L) ([], 0) = some Q := h2
  rw [List.take_length] at h1
  have hsq : Q.Pairwise (· ≤ ·) := by
    rw [h1, List.pairwise_map]
    exact hs.imp fun h => by rw [KU] at h; omega
  obtain ⟨R, r1, r2, r3⟩ := Wx (by rw [h1, List.length_map]; omega) hsq
  have : R = CH L := NS r2 Li fun x => by
    rw [r3, h1, CH, Jg, List.mem_map]
    constructor
    · rintro ⟨m, hm, e⟩; have := hr m hm; exact ⟨by omega, m, hm, e⟩
    · rintro ⟨_, m, hm, e⟩; exact ⟨m, hm, e⟩
  unfold Hx
  rw [e1, Option.bind_some, r1, this]; rfl
theorem Qe {L : List Mv} (hl : L.length ≤ 64) (hs : L.Pairwise (fun x y => AO x y = true)) (hr : ∀ m ∈ L, 0 ≤ m.1 ∧ m.1 < 64) (n : Int) : GQ L n = some (Mm L n) := by
  obtain ⟨Q, h1, h2⟩ := DM L.length (fun (s : List Int) (k : Nat) => (s, (k : Int))) (D6 L n) id (fun Q k => Q = ((L.take k).filter fun m => decide (m.2.2.2 = n)).map (·.1))
    (fun Q k hk hI => by
      have hb : Q.length ≤ 64 := by
        rw [hI, List.length_map]
        exact Nat.le_trans (List.length_filter_le _ _) (by rw [List.length_take]; omega)
      by_cases c : L[k].2.2.2 = n
      · refine ⟨Q ++ [L[k].1], ?_, by rw [hI, List.take_succ_eq_append_getElem hk, List.filter_append, List.map_append]; simp [c]⟩
        rw [D6, if_pos (by omega), BA (List.getElem?_eq_getElem hk), Option.bind_some, if_pos c, EC (by simp; omega), Option.bind_some, Option.bind_some, Aj (by omega)]; rfl
      · refine ⟨Q, ?_, by rw [hI, List.take_succ_eq_append_getElem hk, List.filter_append, List.map_append]; simp [c]⟩
        rw [D6, if_pos (by omega), BA (List.getElem?_eq_getElem hk), Option.bind_some, if_neg c, Option.bind_some, Aj (by omega)]; rfl)
    (fun Q _ => by rw [D6, if_neg (by omega)]; rfl) [] (by simp)
  have e1 : Aq (D6 L n) ([], 0) = some Q := h2
  rw [List.take_length] at h1
  have hsq : Q.Pairwise (· ≤ ·) := by
    rw [h1, List.pairwise_map]
    refine List.Pairwise.imp_of_mem ?_ (hs.filter _)
    intro a b ha hb h
    have h1 := of_decide_eq_true (List.mem_filter.1 ha).2
    have h2 := of_decide_eq_true (List.mem_filter.1 hb).2
    rw [KU] at h; omega
  have hql : Q.length ≤ 64 := by
    rw [h1, List.length_map]
    exact Nat.le_trans (List.length_filter_le _ _) hl
  obtain ⟨R, r1, r2, r3⟩ := NO (by omega) hsq
  have : R = Mm L n := NS r2 Li fun x => by
    rw [r3, h1, Mm, Jg, List.mem_map]
    constructor
    · rintro ⟨m, hm, e⟩
      obtain ⟨k1, k2⟩ := List.mem_filter.1 hm
      have := hr m k1
      exact ⟨by omega, m, k1, of_decide_eq_true k2, e⟩
    · rintro ⟨_, m, hm, e, e2⟩; exact ⟨m, List.mem_filter.2 ⟨hm, decide_eq_true e⟩, e2⟩
  unfold GQ
  rw [e1, Option.bind_some, Pd (by omega) hsq, Option.bind_some, r1, this]; rfl
theorem VA {t : Tp} (hok : OD t) : ∃ s, E7 t = some s ∧ 0 ≤ s ∧ s ≤ 1000 := by
  have h8 := hok.1
  obtain ⟨s, h1, h2⟩ := DM t.2.1.length (fun (s : Int) (k : Nat) => (s, (k : Int))) (D0 t) id (fun s k => 0 ≤ s ∧ s ≤ 1000)
    (fun s k hk hI => by
      have hl := (hok.2.1 _ (List.getElem_mem hk)).2.2.2.1
      refine ⟨max s t.2.1[k].2.2.2.2.2, ?_, by omega⟩
      rw [D0, if_pos (by omega), BA (List.getElem?_eq_getElem hk), Option.bind_some, Aj (by omega)]; rfl)
    (fun s _ => by rw [D0, if_neg (by omega)]; rfl) 0 (by omega)
  have e1 : Aq (D0 t) (0, 0) = some s := h2
  exact ⟨s, by unfold E7; rw [e1]; rfl, h1⟩
def Cp (t : Tp) : Int := t.1 * (E7 t).getD 0
theorem NI {t : Tp} (hok : OD t) : Hm t = some (Cp t) ∧ 0 ≤ Cp t ∧ Cp t ≤ 8000 := by
  obtain ⟨s, e, h0, h1⟩ := VA hok
  have h8 := hok.1
  have hL : Cp t = t.1 * s := by unfold Cp; rw [e]; rfl
  have b1 : 0 ≤ t.1 * s := Int.mul_nonneg (by omega) h0
  have b2 : t.1 * s ≤ 8 * 1000 := Int.mul_le_mul (by omega) h1 h0 (by omega)
  rw [hL]
  refine ⟨?_, b1, by omega⟩
  unfold Hm
  rw [e, Option.bind_some, Aj (by omega)]
theorem Tm {t : Tp} (hok : OD t) {miss : Int} (hm : 0 ≤ miss ∧ miss ≤ 1048576) : HG t miss = some (2 * miss + Cp t + 1) := by
  obtain ⟨h1, h2, h3⟩ := NI hok
  unfold HG
  rw [h1, Option.bind_some, Aj (x := 2 * miss) (by omega), Aj (x := 2 * miss + Cp t) (by omega), Aj (by omega)]
def M3 (gap : Int) (n : Nat) : List (Int × Int × Int) := (List.range n).map fun (k : Nat) => ((k : Int), ((k + 1 : Nat) : Int), gap)
def KD (gap : Int) (n m : Nat) : List Int := (List.range n).map fun (k : Nat) => if k ≤ m then (k : Int) * gap else 0
theorem Pp {gap : Int} {n k : Nat} (h : k < n) : ix (M3 gap n) (k : Int) = some ((k : Int), ((k + 1 : Nat) : Int), gap) := BA (by unfold M3; simp [h])
theorem Mj {gap : Int} {n m k : Nat} (h : k < n) : ix (KD gap n m) (k : Int) = some (if k ≤ m then (k : Int) * gap else 0) := BA (by unfold KD; simp [h])
theorem VP {gap : Int} {n m : Nat} (h : m + 1 < n) : Ah (KD gap n m) ((m + 1 : Nat) : Int) (((m + 1 : Nat) : Int) * gap) = KD gap n (m + 1) := by
  unfold Ah KD
  apply List.ext_getElem
  · simp
  · intro i h1 h2
    simp only [Int.toNat_natCast, List.length_set, List.length_map, List.length_range] at h1
    rw [List.getElem_set]
    by_cases c : m + 1 = i
    · subst c
      simp
    · simp only [Int.toNat_natCast, if_neg c, List.getElem_map, List.getElem_range]
      by_cases d : i ≤ m
      · rw [if_pos d, if_pos (by omega)]
      · rw [if_neg d, if_neg (by omega)]
theorem Ot {k gap : Int} {b : Int} (hk : 0 ≤ k ∧ k ≤ 64) (hg : 0 ≤ gap ∧ gap ≤ b) : 0 ≤ k * gap ∧ k * gap ≤ 64 * b :=
  ⟨Int.mul_nonneg hk.1 hg.1, Int.mul_le_mul hk.2 hg.2 hg.1 (by omega)⟩
theorem Sv {gap : Int} (hg : 1 ≤ gap ∧ gap ≤ 1073741824) {n : Nat} (hn : 2 ≤ n) (hn2 : n ≤ 64) : ∀ (d i : Nat) (c : List Int) (ch : Bool), i + d = n - 1 → c.length = n → (0 < i → ch = true) →
    ∃ c', Aq (Ds (n : Int) (M3 gap (n - 1)) 1) (ch, (i : Int), KD gap n i, c) = some (.inl (true, KD gap n (n - 1), c')) ∧ c'.length = n := by
  intro d
  have hlen : (M3 gap (n - 1)).length = n - 1 := by unfold M3; simp
  induction d with
  | zero =>
    intro i c ch h1 h2 h3
    refine ⟨c, Av ?_, h2⟩
    rw [Ds, if_neg (by omega), h3 (by omega), show i = n - 1 by omega]
  | succ d ih =>
    intro i c ch h1 h2 h3
    have hb := Ot (k := (i : Int)) (gap := gap) (b := 1073741824) (by omega) (by omega)
    have hxi : ix (KD gap n i) (i : Int) = some ((i : Int) * gap) := by rw [Mj (by omega), if_pos (Nat.le_refl _)]
    have hxj : ix (KD gap n i) ((i + 1 : Nat) : Int) = some 0 := by rw [Mj (by omega), if_neg (by omega)]
    have hci : ix c ((i + 1 : Nat) : Int) = some (c[i + 1]'(by omega)) := BA (List.getElem?_eq_getElem _)
    have hs : An ((i : Int) * gap + gap) = ((i + 1 : Nat) : Int) * gap := by
      rw [Aj (by omega), show ((i + 1 : Nat) : Int) = (i : Int) + 1 by omega, Int.add_mul, Int.one_mul]
    have hpos : ¬ ((i + 1 : Nat) : Int) * gap ≤ 0 := by
      rw [show ((i + 1 : Nat) : Int) = (i : Int) + 1 by omega, Int.add_mul, Int.one_mul]; omega
    have hst : Ds (n : Int) (M3 gap (n - 1)) 1 (ch, (i : Int), KD gap n i, c) = some (.inl (true, ((i + 1 : Nat) : Int), KD gap n (i + 1), Ah c ((i + 1 : Nat) : Int) (i : Int))) := by
      rw [Ds, if_pos (by omega), Pp (by omega), Option.bind_some]
      simp only []
      rw [hxi, Option.bind_some, hxj, Option.bind_some, hs, if_neg hpos, Option.bind_some, hci, Option.bind_some, if_neg (by omega), VP (by omega)]
      show some _ = _
      rw [Aj (by omega)]; rfl
    rw [A7 hst]
    exact ih (i + 1) _ true (by omega) (by unfold Ah; simp [h2]) (fun _ => rfl)
theorem SD {gap : Int} (hg : 1 ≤ gap ∧ gap ≤ 1073741824) {n : Nat} (hn2 : n ≤ 64) (r : Int) (c : List Int) : ∀ (d i : Nat), i + d = n - 1 →
    Aq (Ds (n : Int) (M3 gap (n - 1)) r) (false, (i : Int), KD gap n (n - 1), c) = some (.inl (false, KD gap n (n - 1), c)) := by
  intro d
  have hlen : (M3 gap (n - 1)).length = n - 1 := by unfold M3; simp
  induction d with
  | zero => intro i h1; exact Av (by rw [Ds, if_neg (by omega)])
  | succ d ih =>
    intro i h1
    have hb := Ot (k := (i : Int)) (gap := gap) (b := 1073741824) (by omega) (by omega)
    have hxi : ix (KD gap n (n - 1)) (i : Int) = some ((i : Int) * gap) := by rw [Mj (by omega), if_pos (by omega)]
    have hxj : ix (KD gap n (n - 1)) ((i + 1 : Nat) : Int) = some (((i + 1 : Nat) : Int) * gap) := by rw [Mj (by omega), if_pos (by omega)]
    have hs : An ((i : Int) * gap + gap) = ((i + 1 : Nat) : Int) * gap := by
      rw [Aj (by omega), show ((i + 1 : Nat) : Int) = (i : Int) + 1 by omega, Int.add_mul, Int.one_mul]
    have hst : Ds (n : Int) (M3 gap (n - 1)) r (false, (i : Int), KD gap n (n - 1), c) = some (.inl (false, ((i + 1 : Nat) : Int), KD gap n (n - 1), c)) := by
      rw [Ds, if_pos (by omega), Pp (by omega), Option.bind_some]
      simp only []
      rw [hxi, Option.bind_some, hxj, Option.bind_some, hs, if_pos (Int.le_refl _)]
      show some _ = _
      rw [Aj (by omega)]; rfl
    rw [A7 hst]
    exact ih (i + 1) (by omega)
theorem QU {gap : Int} (hg : 1 ≤ gap ∧ gap ≤ 1073741824) {n : Nat} (hn1 : 1 ≤ n) (hn2 : n ≤ 64) : GX (n : Int) (M3 gap (n - 1)) = some (KD gap n (n - 1), true) := by
  have hlen : (M3 gap (n - 1)).length = n - 1 := by unfold M3; simp
  have hright : I3 (n : Int) (M3 gap (n - 1)) = some true := by
    unfold I3
    rw [if_neg (by simp; omega)]
    have key : ∀ (d k : Nat), k + d = n - 1 → Aq (Fc (n : Int) (M3 gap (n - 1))) (k : Int) = some (.inl ()) := by
      intro d
      induction d with
      | zero => intro k hk; exact Av (by rw [Fc, if_neg (by omega)])
      | succ d ih =>
        intro k hk
        have hst : Fc (n : Int) (M3 gap (n - 1)) (k : Int) = some (.inl ((k + 1 : Nat) : Int)) := by
          rw [Fc, if_pos (by omega), Pp (by omega), Option.bind_some, if_neg (by simp; omega), Aj (by omega)]; rfl
        rw [A7 hst]
        exact ih (k + 1) (by omega)
    rw [show Aq (Fc (n : Int) (M3 gap (n - 1))) 0 = some (.inl ()) from key (n - 1) 0 (by omega)]; rfl
  have hz : List.replicate n (0 : Int) = KD gap n 0 := by
    unfold KD
    apply List.ext_getElem
    · simp
    · intro i h1 h2
      simp only [List.getElem_replicate, List.getElem_map, List.getElem_range]
      by_cases c : i ≤ 0
      · rw [if_pos c, show i = 0 by omega]; simp
      · rw [if_neg c]
  have hsolve : ∃ c, I2 (n : Int) (M3 gap (n - 1)) = some (KD gap n (n - 1), c, -1) := by
    have fin : ∀ (r : Int) (c : List Int), Fk (n : Int) (M3 gap (n - 1)) (r, KD gap n (n - 1), c) = some (.inr (KD gap n (n - 1), c, -1)) := fun r c => by
      rw [Fk, show Aq (Ds (n : Int) (M3 gap (n - 1)) r) (false, 0, KD gap n (n - 1), c) = _ from SD hg hn2 r c (n - 1) 0 (by omega)]; rfl
    unfold I2
    rw [TM (by omega), Option.bind_some, Option.bind_some, Int.toNat_natCast]
    by_cases c1 : n = 1
    · refine ⟨List.replicate n 0, ?_⟩
      have h0 : List.replicate n (0 : Int) = KD gap n (n - 1) := by rw [hz, c1]
      conv => lhs; rw [h0]
      rw [Av (fin 1 _)]; rw [← h0]; rfl
    · obtain ⟨c', e1, e2⟩ := Sv hg (n := n) (by omega) hn2 (n - 1) 0 (List.replicate n 0) false (by omega) (by simp) (fun h => by omega)
      refine ⟨c', ?_⟩
      have hst : Fk (n : Int) (M3 gap (n - 1)) (1, KD gap n 0, List.replicate n 0) = some (.inl (2, KD gap n (n - 1), c')) := by
        rw [Fk, show Aq (Ds (n : Int) (M3 gap (n - 1)) 1) (false, 0, KD gap n 0, List.replicate n 0) = _ from e1]; rfl
      show (Aq (Fk (n : Int) (M3 gap (n - 1))) (1, List.replicate n 0, List.replicate n 0)).bind _ = _
      rw [show (1, List.replicate n (0 : Int), List.replicate n (0 : Int)) = ((1 : Int), KD gap n 0, List.replicate n (0 : Int)) by rw [hz], A7 hst, Av (fin 2 c')]; rfl
  obtain ⟨c, hc⟩ := hsolve
  unfold GX
  rw [hright, Option.bind_some, if_neg (by decide), hc, Option.bind_some, if_neg (by show ¬ (0 : Int) ≤ -1; decide)]
abbrev Pf := Int × Int × List Int
def Oz (L : List Mv) (first gap : Int) : List Pf := (List.range (CH L).length).map fun (k : Nat) => ((CH L).getD k 0, first + (k : Int) * gap, Mm L ((CH L).getD k 0))
theorem Ra {L : List Mv} (hl : L.length ≤ 64) (hs : L.Pairwise (fun x y => AO x y = true)) (hr : ∀ m ∈ L, (0 ≤ m.1 ∧ m.1 < 64) ∧ 0 ≤ m.2.2.2 ∧ m.2.2.2 < 64) (hne : L ≠ []) {first gap : Int} (hf : 0 ≤ first ∧ first ≤ 4398046511104) (hg : 1 ≤ gap ∧ gap ≤ 1073741824) :
    Ie L first gap = some (Oz L first gap) ∧ 1 ≤ (CH L).length ∧ (CH L).length ≤ 64 := by
  have hn1 : 1 ≤ (CH L).length := by
    cases L with
    | nil => exact absurd rfl hne
    | cons m L =>
      have hm := hr m (List.mem_cons_self ..)
      have : m.2.2.2 ∈ CH (m :: L) := Jg.2 ⟨by omega, m, List.mem_cons_self .., rfl⟩
      exact List.length_pos_of_mem this
  have hn2 : (CH L).length ≤ 64 := by
    unfold CH QX
    exact Nat.le_trans (List.length_filter_le _ _) (by simp)
  refine ⟨?_, hn1, hn2⟩
  have hw : An (((CH L).length : Int) - 1) = (((CH L).length - 1 : Nat) : Int) := by rw [Aj (by omega)]; omega
  unfold Ie
  rw [SA hl hs (fun m hm => (hr m hm).2), Option.bind_some]
  obtain ⟨C, c1, c2⟩ := DM ((CH L).length - 1) (fun (s : List (Int × Int × Int)) (k : Nat) => (s, (k : Int))) (FE gap (CH L)) id (fun C k => C = M3 gap k)
    (fun C k hk hI => by
      have hcl : C.length = k := by rw [hI]; unfold M3; simp
      refine ⟨C ++ [((k : Int), ((k + 1 : Nat) : Int), gap)], ?_, by rw [hI]; unfold M3; rw [List.range_succ, List.map_append]; rfl⟩
      rw [FE, hw, if_pos (by omega), Aj (x := (k : Int) + 1) (by omega), EC (by simp; omega), Option.bind_some]; rfl)
    (fun C _ => by rw [FE, hw, if_neg (by omega)]; rfl) [] rfl
  rw [show Aq (FE gap (CH L)) ([], 0) = some C from c2, Option.bind_some, c1, QU hg hn1 hn2, Option.bind_some]
  have htl : (KD gap (CH L).length ((CH L).length - 1)).length = (CH L).length := by unfold KD; simp
  obtain ⟨D, d1, d2⟩ := DM (CH L).length (fun (s : List Pf) (k : Nat) => (s, (k : Int))) (Fs L first (CH L) (KD gap (CH L).length ((CH L).length - 1), true)) id (fun D k => D = (List.range k).map fun (k : Nat) => ((CH L).getD k 0, first + (k : Int) * gap, Mm L ((CH L).getD k 0)))
    (fun D k hk hI => by
      have hdl : D.length = k := by rw [hI]; simp
      have hb := Ot (k := (k : Int)) (gap := gap) (b := 1073741824) (by omega) (by omega)
      have hrk : ix (CH L) (k : Int) = some ((CH L).getD k 0) := BA (by rw [List.getD_eq_getElem?_getD, List.getElem?_eq_getElem hk]; rfl)
      refine ⟨D ++ [((CH L).getD k 0, first + (k : Int) * gap, Mm L ((CH L).getD k 0))], ?_, by rw [hI, List.range_succ, List.map_append]; rfl⟩
      rw [Fs, if_pos (by show (k : Int) < (((KD gap (CH L).length ((CH L).length - 1)).length : Nat) : Int); omega)]
      show (ix (KD gap (CH L).length ((CH L).length - 1)) (k : Int)).bind _ = _
      rw [Mj hk, if_pos (by omega), Option.bind_some, hrk, Option.bind_some, Option.bind_some, Qe hl hs (fun m hm => (hr m hm).1), Option.bind_some, Aj (x := first + (k : Int) * gap) (by omega), EC (by simp; omega), Option.bind_some, Aj (by omega)]; rfl)
    (fun D _ => by rw [Fs, if_neg (by show ¬ (((CH L).length : Nat) : Int) < (((KD gap (CH L).length ((CH L).length - 1)).length : Nat) : Int); omega)]; rfl) [] rfl
  rw [show Aq (Fs L first (CH L) (KD gap (CH L).length ((CH L).length - 1), true)) ([], 0) = some D from d2, d1]; rfl
abbrev aF := List Mv × List Pf × Int × Int × Int × Int
abbrev VI : aF := ([], [], 0, 0, 0, 0)
abbrev Ol (at_ miss lead : Int) : Prop := 0 ≤ at_ ∧ at_ ≤ 1099511627776 ∧ 0 ≤ miss ∧ miss ≤ 1048576 ∧ 0 ≤ lead ∧ lead ≤ 1048576
def Iz (t : Tp) (old now : Rt) (L : List Mv) : Prop := L.length ≤ 64 ∧ L.Pairwise (fun x y => AO x y = true) ∧ L.Pairwise LJ ∧ ∀ m, m ∈ L ↔ Oh t old now m
theorem Oh.bd {t : Tp} {old now : Rt} (ho : CJ t old) (hn : CJ t now) {m : Mv} (h : Oh t old now m) : (0 ≤ m.1 ∧ m.1 < 8) ∧ 1 ≤ m.2.2.2 ∧ m.2.2.2 < t.1 ∧ m.2.2.2 < 8 := by
  obtain ⟨q1, q2, q3, q4, l, q5, q6⟩ := h
  have h8 := hn.1.1.1
  have hin := q5.in_ hn.1.1 (fun s e => by rw [← Option.some.inj e]; exact q1)
  have hnd := Hn t.1.toNat (m.1 :: l) q5.nodup (fun x hx => by have := hin x hx; omega)
  rw [List.length_cons] at hnd
  refine ⟨by omega, ?_, by omega, by omega⟩
  cases q5 with
  | last hhome => exact absurd (Tf ho q1 q2 hhome) q4
  | go _ _ _ => rw [q6]; simp; omega
theorem Vf {t : Tp} {old now : Rt} (s1 : Ys old) (s2 : Ys now) (at_ miss lead : Int) :
    (¬ Ol at_ miss lead ∧ FB t old now at_ miss lead = some (VI, 2)) ∨ (Ol at_ miss lead ∧ ¬ (CJ t old ∧ CJ t now) ∧ FB t old now at_ miss lead = some (VI, 2)) ∨
    (Ol at_ miss lead ∧ CJ t old ∧ CJ t now ∧ ∃ L, Iz t old now L ∧ FP t old now = some (L, 0) ∧
      ((L = [] ∧ FB t old now at_ miss lead = some (VI, 7)) ∨ (L ≠ [] ∧ 1 ≤ (CH L).length ∧ (CH L).length ≤ 64 ∧
        FB t old now at_ miss lead = some (if 1099511627776 < at_ + lead + miss + Cp t + 1 + (((CH L).length - 1 : Nat) : Int) * (2 * miss + Cp t + 1) + miss then (VI, 11)
          else ((L, Oz L (at_ + lead + miss + Cp t + 1) (2 * miss + Cp t + 1), miss, Cp t, at_ + lead + 1, at_ + lead + miss + Cp t + 1 + (((CH L).length - 1 : Nat) : Int) * (2 * miss + Cp t + 1) + miss), 0))))) := by
  by_cases ca : Ol at_ miss lead
  · by_cases cg : CJ t old ∧ CJ t now
    · right; right
      obtain ⟨L, e, hl, hs, hne, hm⟩ := VG s1.1 s1.2 s2.1 s2.2 cg.1 cg.2
      refine ⟨ca, cg.1, cg.2, L, ⟨hl, hs, hne, hm⟩, e, ?_⟩
      have hok := cg.1.1.1
      obtain ⟨l1, l2, l3⟩ := NI hok
      by_cases cl : L = []
      · left
        refine ⟨cl, ?_⟩
        unfold FB
        rw [if_neg (by simp; omega), e, Option.bind_some, if_neg (by show ¬ (0 : Int) ≠ 0; decide), if_pos (by rw [cl]; rfl)]
      · right
        have hbd : ∀ m ∈ L, (0 ≤ m.1 ∧ m.1 < 64) ∧ 0 ≤ m.2.2.2 ∧ m.2.2.2 < 64 := fun m h => by
          have := Oh.bd cg.1 cg.2 ((hm m).1 h)
          omega
        obtain ⟨p1, p2, p3⟩ := Ra hl hs hbd cl (first := at_ + lead + miss + Cp t + 1) (gap := 2 * miss + Cp t + 1) (by omega) (by omega)
        refine ⟨cl, p2, p3, ?_⟩
        have hlp : 0 < L.length := List.length_pos_iff.2 cl
        have hb := Ot (k := (((CH L).length - 1 : Nat) : Int)) (gap := 2 * miss + Cp t + 1) (b := 4194304) (by omega) (by omega)
        have hrl : (Oz L (at_ + lead + miss + Cp t + 1) (2 * miss + Cp t + 1)).length = (CH L).length := by unfold Oz; simp
        have hlast : ix (Oz L (at_ + lead + miss + Cp t + 1) (2 * miss + Cp t + 1)) (((CH L).length - 1 : Nat) : Int) = some ((CH L).getD ((CH L).length - 1) 0, at_ + lead + miss + Cp t + 1 + (((CH L).length - 1 : Nat) : Int) * (2 * miss + Cp t + 1), Mm L ((CH L).getD ((CH L).length - 1) 0)) := by
          refine BA ?_
          unfold Oz
          rw [List.getElem?_map, List.getElem?_range (by omega)]; rfl
        unfold FB
        rw [if_neg (by simp; omega), e, Option.bind_some, if_neg (by show ¬ (0 : Int) ≠ 0; decide), if_neg (by show ¬ ((L.length : Nat) : Int) = 0; omega), l1, Option.bind_some, Tm hok (by omega), Option.bind_some,
          Aj (x := at_ + lead) (by omega), Aj (x := at_ + lead + miss) (by omega), Aj (x := at_ + lead + miss + Cp t) (by omega), Aj (x := at_ + lead + miss + Cp t + 1) (by omega), p1, Option.bind_some, hrl,
          show An (((CH L).length : Int) - 1) = (((CH L).length - 1 : Nat) : Int) by rw [Aj (by omega)]; omega, hlast, Option.bind_some]
        simp only []
        rw [Aj (x := at_ + lead + miss + Cp t + 1 + (((CH L).length - 1 : Nat) : Int) * (2 * miss + Cp t + 1) + miss) (by omega), Aj (x := at_ + lead + miss + Cp t + 1 - miss) (by omega), Aj (x := at_ + lead + miss + Cp t + 1 - miss - Cp t) (by omega), show at_ + lead + miss + Cp t + 1 - miss - Cp t = at_ + lead + 1 by omega]
        split <;> rfl
    · right; left
      refine ⟨ca, cg, ?_⟩
      have : FP t old now = some ([], 2) := by
        unfold FP
        rw [MZ s1.1 s1.2, Option.bind_some]
        by_cases c1 : CJ t old
        · rw [decide_eq_true c1, if_neg (by decide), MZ s2.1 s2.2, Option.bind_some, decide_eq_false (fun h => cg ⟨c1, h⟩), Option.bind_some, if_pos (by decide)]
        · rw [decide_eq_false c1, if_pos (by decide), Option.bind_some, if_pos rfl]
      unfold FB
      rw [if_neg (by simp; omega), this]; rfl
  · left
    refine ⟨ca, ?_⟩
    unfold FB
    rw [if_pos (by simp only [Ol] at ca; simp; omega)]
end
end Go.Proofs.YthhoflfhegfmcaaGreat
