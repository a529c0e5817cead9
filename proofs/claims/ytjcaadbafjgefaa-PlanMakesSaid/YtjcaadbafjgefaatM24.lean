/- Layer 24: plans. Conditions: none. -/
import Derived.Test.YtjcaadbafjgefaatM23
import Derived.Test.YtjcaadbafjgefaatMO
namespace Go.Proofs.Ytjcaadbafjgefaa
set_option linter.unusedVariables false
set_option linter.unusedSimpArgs false
open Go Go.RowKit
theorem RJ {L : List Int} (hl : L.length ≤ 1000000) (hs : L.Pairwise (· ≤ ·)) : ∃ R, DX L = some R ∧ R.Pairwise (· < ·) ∧ ∀ x, x ∈ R ↔ x ∈ L := by
  obtain ⟨R, h1, h2, h3⟩ := Mb hl hs
  exact ⟨R, by unfold DX; rw [MW hl hs, Option.bind_some, h1]; rfl, h2, h3⟩
open Classical in
noncomputable def NO (P : Int → Prop) : List Int := ((List.range 64).map fun (n : Nat) => (n : Int)).filter fun x => decide (P x)
open Classical in
theorem Ez {P : Int → Prop} {x : Int} : x ∈ NO P ↔ (0 ≤ x ∧ x < 64) ∧ P x := by
  unfold NO
  rw [List.mem_filter, List.mem_map]
  constructor
  · rintro ⟨⟨n, h1, h2⟩, h3⟩
    have := List.mem_range.1 h1
    exact ⟨by omega, of_decide_eq_true h3⟩
  · rintro ⟨h1, h2⟩
    exact ⟨⟨x.toNat, List.mem_range.2 (by omega), by omega⟩, decide_eq_true h2⟩
theorem IC {P : Int → Prop} : (NO P).Pairwise (· < ·) := by
  unfold NO
  refine List.Pairwise.filter _ ?_
  rw [List.pairwise_map]
  exact List.pairwise_lt_range.imp fun h => by omega
noncomputable def Cz (L : List Mv) : List Int := NO fun n => ∃ m ∈ L, m.2.2.2 = n
noncomputable def I6 (L : List Mv) (n : Int) : List Int := NO fun i => ∃ m ∈ L, m.2.2.2 = n ∧ m.1 = i
theorem Pu {L : List Mv} (hl : L.length ≤ 64) (hs : L.Pairwise (fun x y => AX x y = true)) (hr : ∀ m ∈ L, 0 ≤ m.2.2.2 ∧ m.2.2.2 < 64) : EU L = some (Cz L) := by
  obtain ⟨Q, h1, h2⟩ := DO L.length (fun (s : List Int) (k : Nat) => (s, (k : Int))) (Dq L) id (fun Q k => Q = (L.take k).map (·.2.2.2))
    (fun Q k hk hI => by
      have hb : Q.length ≤ 64 := by rw [hI, List.length_map, List.length_take]; omega
      refine ⟨Q ++ [L[k].2.2.2], ?_, by rw [hI, List.take_succ_eq_append_getElem hk, List.map_append]; rfl⟩
      rw [Dq, if_pos (by omega), Cl (List.getElem?_eq_getElem hk), Option.bind_some, Gf (by simp; omega), Option.bind_some, Az (by omega)]; rfl)
    (fun Q _ => by rw [Dq, if_neg (by omega)]; rfl) [] (by simp)
  have e1 : AE (Dq L) ([], 0) = some Q := h2
  rw [List.take_length] at h1
  have hsq : Q.Pairwise (· ≤ ·) := by
    rw [h1, List.pairwise_map]
    exact hs.imp fun h => by rw [HZ] at h; omega
  obtain ⟨R, r1, r2, r3⟩ := RJ (by rw [h1, List.length_map]; omega) hsq
  have : R = Cz L := Kd r2 IC fun x => by
    rw [r3, h1, Cz, Ez, List.mem_map]
    constructor
    · rintro ⟨m, hm, e⟩; have := hr m hm; exact ⟨by omega, m, hm, e⟩
    · rintro ⟨_, m, hm, e⟩; exact ⟨m, hm, e⟩
  unfold EU
  rw [e1, Option.bind_some, r1, this]; rfl
theorem NQ {L : List Mv} (hl : L.length ≤ 64) (hs : L.Pairwise (fun x y => AX x y = true)) (hr : ∀ m ∈ L, 0 ≤ m.1 ∧ m.1 < 64) (n : Int) : EE L n = some (I6 L n) := by
  obtain ⟨Q, h1, h2⟩ := DO L.length (fun (s : List Int) (k : Nat) => (s, (k : Int))) (CW L n) id (fun Q k => Q = ((L.take k).filter fun m => decide (m.2.2.2 = n)).map (·.1))
    (fun Q k hk hI => by
      have hb : Q.length ≤ 64 := by
        rw [hI, List.length_map]
        exact Nat.le_trans (List.length_filter_le _ _) (by rw [List.length_take]; omega)
      by_cases c : L[k].2.2.2 = n
      · refine ⟨Q ++ [L[k].1], ?_, by rw [hI, List.take_succ_eq_append_getElem hk, List.filter_append, List.map_append]; simp [c]⟩
        rw [CW, if_pos (by omega), Cl (List.getElem?_eq_getElem hk), Option.bind_some, if_pos c, Gf (by simp; omega), Option.bind_some, Option.bind_some, Az (by omega)]; rfl
      · refine ⟨Q, ?_, by rw [hI, List.take_succ_eq_append_getElem hk, List.filter_append, List.map_append]; simp [c]⟩
        rw [CW, if_pos (by omega), Cl (List.getElem?_eq_getElem hk), Option.bind_some, if_neg c, Option.bind_some, Az (by omega)]; rfl)
    (fun Q _ => by rw [CW, if_neg (by omega)]; rfl) [] (by simp)
  have e1 : AE (CW L n) ([], 0) = some Q := h2
  rw [List.take_length] at h1
  have hsq : Q.Pairwise (· ≤ ·) := by
    rw [h1, List.pairwise_map]
    refine List.Pairwise.imp_of_mem ?_ (hs.filter _)
    intro a b ha hb h
    have h1 := of_decide_eq_true (List.mem_filter.1 ha).2
    have h2 := of_decide_eq_true (List.mem_filter.1 hb).2
    rw [HZ] at h; omega
  have hql : Q.length ≤ 64 := by
    rw [h1, List.length_map]
    exact Nat.le_trans (List.length_filter_le _ _) hl
  obtain ⟨R, r1, r2, r3⟩ := Mb (by omega) hsq
  have : R = I6 L n := Kd r2 IC fun x => by
    rw [r3, h1, I6, Ez, List.mem_map]
    constructor
    · rintro ⟨m, hm, e⟩
      obtain ⟨k1, k2⟩ := List.mem_filter.1 hm
      have := hr m k1
      exact ⟨by omega, m, k1, of_decide_eq_true k2, e⟩
    · rintro ⟨_, m, hm, e, e2⟩; exact ⟨m, List.mem_filter.2 ⟨hm, decide_eq_true e⟩, e2⟩
  unfold EE
  rw [e1, Option.bind_some, MW (by omega) hsq, Option.bind_some, r1, this]; rfl
theorem QK {t : Tp} (hok : NE t) : ∃ s, DH t = some s ∧ 0 ≤ s ∧ s ≤ 1000 := by
  have h8 := hok.1
  obtain ⟨s, h1, h2⟩ := DO t.2.1.length (fun (s : Int) (k : Nat) => (s, (k : Int))) (Cs t) id (fun s k => 0 ≤ s ∧ s ≤ 1000)
    (fun s k hk hI => by
      have hl := (hok.2.1 _ (List.getElem_mem hk)).2.2.2.1
      refine ⟨max s t.2.1[k].2.2.2.2.2, ?_, by omega⟩
      rw [Cs, if_pos (by omega), Cl (List.getElem?_eq_getElem hk), Option.bind_some, Az (by omega)]; rfl)
    (fun s _ => by rw [Cs, if_neg (by omega)]; rfl) 0 (by omega)
  have e1 : AE (Cs t) (0, 0) = some s := h2
  exact ⟨s, by unfold DH; rw [e1]; rfl, h1⟩
noncomputable def CF (t : Tp) : Int := t.1 * (DH t).getD 0
theorem LK {t : Tp} (hok : NE t) : FH t = some (CF t) ∧ 0 ≤ CF t ∧ CF t ≤ 8000 := by
  obtain ⟨s, e, h0, h1⟩ := QK hok
  have h8 := hok.1
  have hL : CF t = t.1 * s := by unfold CF; rw [e]; rfl
  have b1 : 0 ≤ t.1 * s := Int.mul_nonneg (by omega) h0
  have b2 : t.1 * s ≤ 8 * 1000 := Int.mul_le_mul (by omega) h1 h0 (by omega)
  rw [hL]
  refine ⟨?_, b1, by omega⟩
  unfold FH
  rw [e, Option.bind_some, Az (by omega)]
theorem Rx {t : Tp} (hok : NE t) {miss : Int} (hm : 0 ≤ miss ∧ miss ≤ 1048576) : Hf t miss = some (2 * miss + CF t + 1) := by
  obtain ⟨h1, h2, h3⟩ := LK hok
  unfold Hf
  rw [h1, Option.bind_some, Az (x := 2 * miss) (by omega), Az (x := 2 * miss + CF t) (by omega), Az (by omega)]
def Lv (gap : Int) (n : Nat) : List (Int × Int × Int) := (List.range n).map fun (k : Nat) => ((k : Int), ((k + 1 : Nat) : Int), gap)
def Jc (gap : Int) (n m : Nat) : List Int := (List.range n).map fun (k : Nat) => if k ≤ m then (k : Int) * gap else 0
theorem Nz {gap : Int} {n k : Nat} (h : k < n) : ix (Lv gap n) (k : Int) = some ((k : Int), ((k + 1 : Nat) : Int), gap) := Cl (by unfold Lv; simp [h])
theorem J9 {gap : Int} {n m k : Nat} (h : k < n) : ix (Jc gap n m) (k : Int) = some (if k ≤ m then (k : Int) * gap else 0) := Cl (by unfold Jc; simp [h])
theorem QW {gap : Int} {n m : Nat} (h : m + 1 < n) : AQ (Jc gap n m) ((m + 1 : Nat) : Int) (((m + 1 : Nat) : Int) * gap) = Jc gap n (m + 1) := by
  unfold AQ Jc
  apply List.ext_getElem
  · simp
  · intro i h1 h2
    simp only [Int.toNat_natCast, List.length_set, List.length_map, List.length_range] at h1
    rw [List.getElem_set]
    by_cases c : m + 1 = i
    · subst c
      simp
    · simp only [Int.toNat_natCast, if_neg c, List.getElem_map, List.getElem_range]
      by_cases d : i ≤ m
      · rw [if_pos d, if_pos (by omega)]
      · rw [if_neg d, if_neg (by omega)]
theorem Md {k gap : Int} {b : Int} (hk : 0 ≤ k ∧ k ≤ 64) (hg : 0 ≤ gap ∧ gap ≤ b) : 0 ≤ k * gap ∧ k * gap ≤ 64 * b :=
  ⟨Int.mul_nonneg hk.1 hg.1, Int.mul_le_mul hk.2 hg.2 hg.1 (by omega)⟩
theorem Px {gap : Int} (hg : 1 ≤ gap ∧ gap ≤ 1073741824) {n : Nat} (hn : 2 ≤ n) (hn2 : n ≤ 64) : ∀ (d i : Nat) (c : List Int) (ch : Bool), i + d = n - 1 → c.length = n → (0 < i → ch = true) →
    ∃ c', AE (CA (n : Int) (Lv gap (n - 1)) 1) (ch, (i : Int), Jc gap n i, c) = some (.inl (true, Jc gap n (n - 1), c')) ∧ c'.length = n := by
  intro d
  have hlen : (Lv gap (n - 1)).length = n - 1 := by unfold Lv; simp
  induction d with
  | zero =>
    intro i c ch h1 h2 h3
    refine ⟨c, AF ?_, h2⟩
    rw [CA, if_neg (by omega), h3 (by omega), show i = n - 1 by omega]
  | succ d ih =>
    intro i c ch h1 h2 h3
    have hb := Md (k := (i : Int)) (gap := gap) (b := 1073741824) (by omega) (by omega)
    have hxi : ix (Jc gap n i) (i : Int) = some ((i : Int) * gap) := by rw [J9 (by omega), if_pos (Nat.le_refl _)]
    have hxj : ix (Jc gap n i) ((i + 1 : Nat) : Int) = some 0 := by rw [J9 (by omega), if_neg (by omega)]
    have hci : ix c ((i + 1 : Nat) : Int) = some (c[i + 1]'(by omega)) := Cl (List.getElem?_eq_getElem _)
    have hs : AA ((i : Int) * gap + gap) = ((i + 1 : Nat) : Int) * gap := by
      rw [Az (by omega), show ((i + 1 : Nat) : Int) = (i : Int) + 1 by omega, Int.add_mul, Int.one_mul]
    have hpos : ¬ ((i + 1 : Nat) : Int) * gap ≤ 0 := by
      rw [show ((i + 1 : Nat) : Int) = (i : Int) + 1 by omega, Int.add_mul, Int.one_mul]; omega
    have hst : CA (n : Int) (Lv gap (n - 1)) 1 (ch, (i : Int), Jc gap n i, c) = some (.inl (true, ((i + 1 : Nat) : Int), Jc gap n (i + 1), AQ c ((i + 1 : Nat) : Int) (i : Int))) := by
      rw [CA, if_pos (by omega), Nz (by omega), Option.bind_some]
      simp only []
      rw [hxi, Option.bind_some, hxj, Option.bind_some, hs, if_neg hpos, Option.bind_some, hci, Option.bind_some, if_neg (by omega), QW (by omega)]
      show some _ = _
      rw [Az (by omega)]; rfl
    rw [Bm hst]
    exact ih (i + 1) _ true (by omega) (by unfold AQ; simp [h2]) (fun _ => rfl)
theorem Pw {gap : Int} (hg : 1 ≤ gap ∧ gap ≤ 1073741824) {n : Nat} (hn2 : n ≤ 64) (r : Int) (c : List Int) : ∀ (d i : Nat), i + d = n - 1 →
    AE (CA (n : Int) (Lv gap (n - 1)) r) (false, (i : Int), Jc gap n (n - 1), c) = some (.inl (false, Jc gap n (n - 1), c)) := by
  intro d
  have hlen : (Lv gap (n - 1)).length = n - 1 := by unfold Lv; simp
  induction d with
  | zero => intro i h1; exact AF (by rw [CA, if_neg (by omega)])
  | succ d ih =>
    intro i h1
    have hb := Md (k := (i : Int)) (gap := gap) (b := 1073741824) (by omega) (by omega)
    have hxi : ix (Jc gap n (n - 1)) (i : Int) = some ((i : Int) * gap) := by rw [J9 (by omega), if_pos (by omega)]
    have hxj : ix (Jc gap n (n - 1)) ((i + 1 : Nat) : Int) = some (((i + 1 : Nat) : Int) * gap) := by rw [J9 (by omega), if_pos (by omega)]
    have hs : AA ((i : Int) * gap + gap) = ((i + 1 : Nat) : Int) * gap := by
      rw [Az (by omega), show ((i + 1 : Nat) : Int) = (i : Int) + 1 by omega, Int.add_mul, Int.one_mul]
    have hst : CA (n : Int) (Lv gap (n - 1)) r (false, (i : Int), Jc gap n (n - 1), c) = some (.inl (false, ((i + 1 : Nat) : Int), Jc gap n (n - 1), c)) := by
      rw [CA, if_pos (by omega), Nz (by omega), Option.bind_some]
      simp only []
      rw [hxi, Option.bind_some, hxj, Option.bind_some, hs, if_pos (Int.le_refl _)]
      show some _ = _
      rw [Az (by omega)]; rfl
    rw [Bm hst]
    exact ih (i + 1) (by omega)
theorem NP {gap : Int} (hg : 1 ≤ gap ∧ gap ≤ 1073741824) {n : Nat} (hn1 : 1 ≤ n) (hn2 : n ≤ 64) : ED (n : Int) (Lv gap (n - 1)) = some (Jc gap n (n - 1), true) := by
  have hlen : (Lv gap (n - 1)).length = n - 1 := by unfold Lv; simp
  have hright : Gd (n : Int) (Lv gap (n - 1)) = some true := by
    unfold Gd
    rw [if_neg (by simp; omega)]
    have key : ∀ (d k : Nat), k + d = n - 1 → AE (DE (n : Int) (Lv gap (n - 1))) (k : Int) = some (.inl ()) := by
      intro d
      induction d with
      | zero => intro k hk; exact AF (by rw [DE, if_neg (by omega)])
      | succ d ih =>
        intro k hk
        have hst : DE (n : Int) (Lv gap (n - 1)) (k : Int) = some (.inl ((k + 1 : Nat) : Int)) := by
          rw [DE, if_pos (by omega), Nz (by omega), Option.bind_some, if_neg (by simp; omega), Az (by omega)]; rfl
        rw [Bm hst]
        exact ih (k + 1) (by omega)
    rw [show AE (DE (n : Int) (Lv gap (n - 1))) 0 = some (.inl ()) from key (n - 1) 0 (by omega)]; rfl
  have hz : List.replicate n (0 : Int) = Jc gap n 0 := by
    unfold Jc
    apply List.ext_getElem
    · simp
    · intro i h1 h2
      simp only [List.getElem_replicate, List.getElem_map, List.getElem_range]
      by_cases c : i ≤ 0
      · rw [if_pos c, show i = 0 by omega]; simp
      · rw [if_neg c]
  have hsolve : ∃ c, Gb (n : Int) (Lv gap (n - 1)) = some (Jc gap n (n - 1), c, -1) := by
    have fin : ∀ (r : Int) (c : List Int), DB (n : Int) (Lv gap (n - 1)) (r, Jc gap n (n - 1), c) = some (.inr (Jc gap n (n - 1), c, -1)) := fun r c => by
      rw [DB, show AE (CA (n : Int) (Lv gap (n - 1)) r) (false, 0, Jc gap n (n - 1), c) = _ from Pw hg hn2 r c (n - 1) 0 (by omega)]; rfl
    unfold Gb
    rw [R7 (by omega), Option.bind_some, Option.bind_some, Int.toNat_natCast]
    by_cases c1 : n = 1
    · refine ⟨List.replicate n 0, ?_⟩
      have h0 : List.replicate n (0 : Int) = Jc gap n (n - 1) := by rw [hz, c1]
      conv => lhs; rw [h0]
      rw [AF (fin 1 _)]; rw [← h0]; rfl
    · obtain ⟨c', e1, e2⟩ := Px hg (n := n) (by omega) hn2 (n - 1) 0 (List.replicate n 0) false (by omega) (by simp) (fun h => by omega)
      refine ⟨c', ?_⟩
      have hst : DB (n : Int) (Lv gap (n - 1)) (1, Jc gap n 0, List.replicate n 0) = some (.inl (2, Jc gap n (n - 1), c')) := by
        rw [DB, show AE (CA (n : Int) (Lv gap (n - 1)) 1) (false, 0, Jc gap n 0, List.replicate n 0) = _ from e1]; rfl
      show (AE (DB (n : Int) (Lv gap (n - 1))) (1, List.replicate n 0, List.replicate n 0)).bind _ = _
      rw [show (1, List.replicate n (0 : Int), List.replicate n (0 : Int)) = ((1 : Int), Jc gap n 0, List.replicate n (0 : Int)) by rw [hz], Bm hst, AF (fin 2 c')]; rfl
  obtain ⟨c, hc⟩ := hsolve
  unfold ED
  rw [hright, Option.bind_some, if_neg (by decide), hc, Option.bind_some, if_neg (by show ¬ (0 : Int) ≤ -1; decide)]
abbrev SF := Int × Int × List Int
noncomputable def Gh (L : List Mv) (first gap : Int) : List SF := (List.range (Cz L).length).map fun (k : Nat) => ((Cz L).getD k 0, first + (k : Int) * gap, I6 L ((Cz L).getD k 0))
theorem OD {L : List Mv} (hl : L.length ≤ 64) (hs : L.Pairwise (fun x y => AX x y = true)) (hr : ∀ m ∈ L, (0 ≤ m.1 ∧ m.1 < 64) ∧ 0 ≤ m.2.2.2 ∧ m.2.2.2 < 64) (hne : L ≠ []) {first gap : Int} (hf : 0 ≤ first ∧ first ≤ 4398046511104) (hg : 1 ≤ gap ∧ gap ≤ 1073741824) :
    Fn L first gap = some (Gh L first gap) ∧ 1 ≤ (Cz L).length ∧ (Cz L).length ≤ 64 := by
  have hn1 : 1 ≤ (Cz L).length := by
    cases L with
    | nil => exact absurd rfl hne
    | cons m L =>
      have hm := hr m (List.mem_cons_self ..)
      have : m.2.2.2 ∈ Cz (m :: L) := Ez.2 ⟨by omega, m, List.mem_cons_self .., rfl⟩
      exact List.length_pos_of_mem this
  have hn2 : (Cz L).length ≤ 64 := by
    unfold Cz NO
    exact Nat.le_trans (List.length_filter_le _ _) (by simp)
  refine ⟨?_, hn1, hn2⟩
  have hw : AA (((Cz L).length : Int) - 1) = (((Cz L).length - 1 : Nat) : Int) := by rw [Az (by omega)]; omega
  unfold Fn
  rw [Pu hl hs (fun m hm => (hr m hm).2), Option.bind_some]
  obtain ⟨C, c1, c2⟩ := DO ((Cz L).length - 1) (fun (s : List (Int × Int × Int)) (k : Nat) => (s, (k : Int))) (DR gap (Cz L)) id (fun C k => C = Lv gap k)
    (fun C k hk hI => by
      have hcl : C.length = k := by rw [hI]; unfold Lv; simp
      refine ⟨C ++ [((k : Int), ((k + 1 : Nat) : Int), gap)], ?_, by rw [hI]; unfold Lv; rw [List.range_succ, List.map_append]; rfl⟩
      rw [DR, hw, if_pos (by omega), Az (x := (k : Int) + 1) (by omega), Gf (by simp; omega), Option.bind_some]; rfl)
    (fun C _ => by rw [DR, hw, if_neg (by omega)]; rfl) [] rfl
  rw [show AE (DR gap (Cz L)) ([], 0) = some C from c2, Option.bind_some, c1, NP hg hn1 hn2, Option.bind_some]
  have htl : (Jc gap (Cz L).length ((Cz L).length - 1)).length = (Cz L).length := by unfold Jc; simp
  obtain ⟨D, d1, d2⟩ := DO (Cz L).length (fun (s : List SF) (k : Nat) => (s, (k : Int))) (DK L first (Cz L) (Jc gap (Cz L).length ((Cz L).length - 1), true)) id (fun D k => D = (List.range k).map fun (k : Nat) => ((Cz L).getD k 0, first + (k : Int) * gap, I6 L ((Cz L).getD k 0)))
    (fun D k hk hI => by
      have hdl : D.length = k := by rw [hI]; simp
      have hb := Md (k := (k : Int)) (gap := gap) (b := 1073741824) (by omega) (by omega)
      have hrk : ix (Cz L) (k : Int) = some ((Cz L).getD k 0) := Cl (by rw [List.getD_eq_getElem?_getD, List.getElem?_eq_getElem hk]; rfl)
      refine ⟨D ++ [((Cz L).getD k 0, first + (k : Int) * gap, I6 L ((Cz L).getD k 0))], ?_, by rw [hI, List.range_succ, List.map_append]; rfl⟩
      rw [DK, if_pos (by show (k : Int) < (((Jc gap (Cz L).length ((Cz L).length - 1)).length : Nat) : Int); omega)]
      show (ix (Jc gap (Cz L).length ((Cz L).length - 1)) (k : Int)).bind _ = _
      rw [J9 hk, if_pos (by omega), Option.bind_some, hrk, Option.bind_some, Option.bind_some, NQ hl hs (fun m hm => (hr m hm).1), Option.bind_some, Az (x := first + (k : Int) * gap) (by omega), Gf (by simp; omega), Option.bind_some, Az (by omega)]; rfl)
    (fun D _ => by rw [DK, if_neg (by show ¬ (((Cz L).length : Nat) : Int) < (((Jc gap (Cz L).length ((Cz L).length - 1)).length : Nat) : Int); omega)]; rfl) [] rfl
  rw [show AE (DK L first (Cz L) (Jc gap (Cz L).length ((Cz L).length - 1), true)) ([], 0) = some D from d2, d1]; rfl
abbrev RZ := List Mv × List SF × Int × Int × Int × Int
abbrev OR : RZ := ([], [], 0, 0, 0, 0)
abbrev KV (at_ miss lead : Int) : Prop := 0 ≤ at_ ∧ at_ ≤ 1099511627776 ∧ 0 ≤ miss ∧ miss ≤ 1048576 ∧ 0 ≤ lead ∧ lead ≤ 1048576
def Sa (t : Tp) (old now : Rt) (L : List Mv) : Prop := L.length ≤ 64 ∧ L.Pairwise (fun x y => AX x y = true) ∧ L.Pairwise Kl ∧ ∀ m, m ∈ L ↔ JF t old now m
theorem JF.bd {t : Tp} {old now : Rt} (ho : D7 t old) (hn : D7 t now) {m : Mv} (h : JF t old now m) : (0 ≤ m.1 ∧ m.1 < 8) ∧ 1 ≤ m.2.2.2 ∧ m.2.2.2 < t.1 ∧ m.2.2.2 < 8 := by
  obtain ⟨q1, q2, q3, q4, l, q5, q6⟩ := h
  have h8 := hn.1.1.1
  have hin := q5.in_ hn.1.1 (fun s e => by rw [← Option.some.inj e]; exact q1)
  have hnd := Gj t.1.toNat (m.1 :: l) q5.nodup (fun x hx => by have := hin x hx; omega)
  rw [List.length_cons] at hnd
  refine ⟨by omega, ?_, by omega, by omega⟩
  cases q5 with
  | last hhome => exact absurd (Qw ho q1 q2 hhome) q4
  | go _ _ _ => rw [q6]; simp; omega
theorem Q4 {t : Tp} {old now : Rt} (s1 : RX old) (s2 : RX now) (at_ miss lead : Int) :
    (¬ KV at_ miss lead ∧ Dx t old now at_ miss lead = some (OR, 2)) ∨ (KV at_ miss lead ∧ ¬ (D7 t old ∧ D7 t now) ∧ Dx t old now at_ miss lead = some (OR, 2)) ∨
    (KV at_ miss lead ∧ D7 t old ∧ D7 t now ∧ ∃ L, Sa t old now L ∧ D9 t old now = some (L, 0) ∧
      ((L = [] ∧ Dx t old now at_ miss lead = some (OR, 7)) ∨ (L ≠ [] ∧ 1 ≤ (Cz L).length ∧ (Cz L).length ≤ 64 ∧
        Dx t old now at_ miss lead = some (if 1099511627776 < at_ + lead + miss + CF t + 1 + (((Cz L).length - 1 : Nat) : Int) * (2 * miss + CF t + 1) + miss then (OR, 11)
          else ((L, Gh L (at_ + lead + miss + CF t + 1) (2 * miss + CF t + 1), miss, CF t, at_ + lead + 1, at_ + lead + miss + CF t + 1 + (((Cz L).length - 1 : Nat) : Int) * (2 * miss + CF t + 1) + miss), 0))))) := by
  by_cases ca : KV at_ miss lead
  · by_cases cg : D7 t old ∧ D7 t now
    · right; right
      obtain ⟨L, e, hl, hs, hne, hm⟩ := QL s1.1 s1.2 s2.1 s2.2 cg.1 cg.2
      refine ⟨ca, cg.1, cg.2, L, ⟨hl, hs, hne, hm⟩, e, ?_⟩
      have hok := cg.1.1.1
      obtain ⟨l1, l2, l3⟩ := LK hok
      by_cases cl : L = []
      · left
        refine ⟨cl, ?_⟩
        unfold Dx
        rw [if_neg (by simp; omega), e, Option.bind_some, if_neg (by show ¬ (0 : Int) ≠ 0; decide), if_pos (by rw [cl]; rfl)]
      · right
        have hbd : ∀ m ∈ L, (0 ≤ m.1 ∧ m.1 < 64) ∧ 0 ≤ m.2.2.2 ∧ m.2.2.2 < 64 := fun m h => by
          have := JF.bd cg.1 cg.2 ((hm m).1 h)
          omega
        obtain ⟨p1, p2, p3⟩ := OD hl hs hbd cl (first := at_ + lead + miss + CF t + 1) (gap := 2 * miss + CF t + 1) (by omega) (by omega)
        refine ⟨cl, p2, p3, ?_⟩
        have hlp : 0 < L.length := List.length_pos_iff.2 cl
        have hb := Md (k := (((Cz L).length - 1 : Nat) : Int)) (gap := 2 * miss + CF t + 1) (b := 4194304) (by omega) (by omega)
        have hrl : (Gh L (at_ + lead + miss + CF t + 1) (2 * miss + CF t + 1)).length = (Cz L).length := by unfold Gh; simp
        have hlast : ix (Gh L (at_ + lead + miss + CF t + 1) (2 * miss + CF t + 1)) (((Cz L).length - 1 : Nat) : Int) = some ((Cz L).getD ((Cz L).length - 1) 0, at_ + lead + miss + CF t + 1 + (((Cz L).length - 1 : Nat) : Int) * (2 * miss + CF t + 1), I6 L ((Cz L).getD ((Cz L).length - 1) 0)) := by
          refine Cl ?_
          unfold Gh
          rw [List.getElem?_map, List.getElem?_range (by omega)]; rfl
        unfold Dx
        rw [if_neg (by simp; omega), e, Option.bind_some, if_neg (by show ¬ (0 : Int) ≠ 0; decide), if_neg (by show ¬ ((L.length : Nat) : Int) = 0; omega), l1, Option.bind_some, Rx hok (by omega), Option.bind_some,
          Az (x := at_ + lead) (by omega), Az (x := at_ + lead + miss) (by omega), Az (x := at_ + lead + miss + CF t) (by omega), Az (x := at_ + lead + miss + CF t + 1) (by omega), p1, Option.bind_some, hrl,
          show AA (((Cz L).length : Int) - 1) = (((Cz L).length - 1 : Nat) : Int) by rw [Az (by omega)]; omega, hlast, Option.bind_some]
        simp only []
        rw [Az (x := at_ + lead + miss + CF t + 1 + (((Cz L).length - 1 : Nat) : Int) * (2 * miss + CF t + 1) + miss) (by omega), Az (x := at_ + lead + miss + CF t + 1 - miss) (by omega), Az (x := at_ + lead + miss + CF t + 1 - miss - CF t) (by omega), show at_ + lead + miss + CF t + 1 - miss - CF t = at_ + lead + 1 by omega]
        split <;> rfl
    · right; left
      refine ⟨ca, cg, ?_⟩
      have : D9 t old now = some ([], 2) := by
        unfold D9
        rw [Ny s1.1 s1.2, Option.bind_some]
        by_cases c1 : D7 t old
        · rw [decide_eq_true c1, if_neg (by decide), Ny s2.1 s2.2, Option.bind_some, decide_eq_false (fun h => cg ⟨c1, h⟩), Option.bind_some, if_pos (by decide)]
        · rw [decide_eq_false c1, if_pos (by decide), Option.bind_some, if_pos rfl]
      unfold Dx
      rw [if_neg (by simp; omega), this]; rfl
  · left
    refine ⟨ca, ?_⟩
    unfold Dx
    rw [if_pos (by simp only [KV] at ca; simp; omega)]
end Go.Proofs.Ytjcaadbafjgefaa
