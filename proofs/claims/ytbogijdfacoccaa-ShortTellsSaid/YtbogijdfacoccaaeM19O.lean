/- Layer 19: routes. Conditions: none. -/
import Derived.Test.YtbogijdfacoccaaeM19T
import Derived.Test.YtbogijdfacoccaaeEV
namespace Go.Proofs.Ytbogijdfacoccaa
set_option linter.unusedVariables false
set_option linter.unusedSimpArgs false
open Go Go.RowKit
section
variable {t : Tp} {L : List Nat}
theorem II {M : List Nat} {s : Int} (hM : ∀ x ∈ M, FX x) (hl : M.length ≤ 1000000) (h : ¬ ((DD t ∧ Gq t M) ∧ VV t s)) : BO t (M.map EU) s = some [] ∧ CQ t (nz M) s = some [] := by
  unfold BO CQ
  rw [Db hM hl, GR hl, Option.bind_some]
  by_cases ok : DD t ∧ Gq t M
  · rw [decide_eq_true ok, if_neg (by decide)]
    by_cases a1 : s < 0
    · rw [if_pos a1]; exact ⟨rfl, rfl⟩
    · have a2 : t.1 ≤ s := by
        refine Classical.byContradiction fun hn => h ⟨ok, by omega, by omega⟩
      rw [if_neg a1, decide_eq_true a2]; exact ⟨rfl, rfl⟩
  · rw [decide_eq_false ok, if_pos (by decide)]; exact ⟨rfl, rfl⟩
theorem Nd (hL : ∀ x ∈ L, FX x) (hl : L.length ≤ 1000000) (s : Int) : ∃ c : List Nat, BO t (L.map EU) s = some c ∧ CQ t (nz L) s = some (nz c) ∧ c.length ≤ 100 ∧ c.map EU = c := by
  by_cases h : (DD t ∧ Gq t L) ∧ VV t s
  · obtain ⟨⟨hok, hw⟩, hs⟩ := h
    obtain ⟨c, r, c1, c2⟩ := KN hok hw hs
    have hc := c2.len
    have h8 := hok.1.2.1
    refine ⟨c, by rw [HV hw]; exact c1, J4 hok hw hs c2, by omega, ?_⟩
    refine List.ext_getElem (by simp) fun i h1 h2 => ?_
    rw [List.getElem_map]
    have hb := c2.bd (i : Int) ⟨by omega, by omega⟩
    have e : wg c (i : Int) = c[i] := by unfold wg; rw [Int.toNat_natCast, List.getD_eq_getElem?_getD, List.getElem?_eq_getElem h2]; rfl
    rw [e] at hb
    exact cost_cfn' (DA hb)
  · exact ⟨[], (II hL hl h).1, (II hL hl h).2, by simp, rfl⟩
theorem MQ (hL : ∀ x ∈ L, FX x) (hl : L.length ≤ 1000000) (s : Int) : ∃ h : List Int, Cl t (L.map EU) s = some h ∧ DW t (nz L) s = some h ∧ h.length ≤ 100 := by
  by_cases h : (DD t ∧ Gq t L) ∧ VV t s
  · obtain ⟨⟨hok, hw⟩, hs⟩ := h
    obtain ⟨c, r, h, H⟩ := Qx (L := L) (g := (s, 0)) hok hw hs
    have := H.sp.len
    have := hok.1.2.1
    exact ⟨h, by rw [HV hw]; exact H.ps, H.rs, by omega⟩
  · obtain ⟨h1, h2⟩ := II hL hl h
    refine ⟨[], ?_, ?_, by simp⟩
    · unfold Cl
      rw [h1]; rfl
    · unfold DW
      rw [h2, Option.bind_some, show AH (CV []) ([], 0) = some [] from A5 (by rw [CV, if_neg (by simp)]), Option.bind_some, if_neg (by simp), Option.bind_some, show AH (CT t (nz L) []) ([], 1) = some [] from A5 (by rw [CT, if_neg (by simp)])]; rfl
theorem Pp (hL : ∀ x ∈ L, FX x) (hl : L.length ≤ 1000000) (i : Int) (h : ¬ ((DD t ∧ Gq t L) ∧ 0 ≤ i ∧ i < (t.2.2.length : Int))) : ∃ e : Int, B9 t (L.map EU) i = some ([], e) ∧ Ee t (nz L) i = some ([], e) := by
  unfold B9 Ee
  rw [Db hL hl, GR hl, Option.bind_some, Option.bind_some]
  by_cases ok : DD t ∧ Gq t L
  · rw [decide_eq_true ok, if_neg (show ¬ (!true) = true by decide), if_neg (show ¬ (!true) = true by decide)]
    have hb : (decide (i < 0) || decide ((t.2.2.length : Int) ≤ i)) = true := by
      rw [← Bool.decide_or]
      refine decide_eq_true (Classical.byContradiction fun hn => h ⟨ok, by omega, by omega⟩)
    rw [if_pos hb, if_pos hb]
    exact ⟨7, rfl, rfl⟩
  · rw [decide_eq_false ok, if_pos (by decide), if_pos (by decide)]; exact ⟨2, rfl, rfl⟩
structure Ps19 (t : Tp) (L : List Nat) (P : Nat → List Int) : Prop where
  tree : ∀ i, i < t.2.2.length → B9 t L (i : Int) = some (P i, 0) ∧ Ee t (nz L) (i : Int) = some (P i, 0)
  len : ∀ i, i < t.2.2.length → ((P i).length : Int) = t.1
  port : ∀ i, i < t.2.2.length → ∀ u, VV t u → -1 ≤ hv (P i) u
theorem PR (hok : DD t) (hw : Gq t L) : ∃ P, Ps19 t L P ∧ ∀ i (hi : i < t.2.2.length), ∃ c r h, Tr19 t L t.2.2[i] c r h ∧ P i = GT t L c h t.2.2[i] := by
  have hx : ∀ i : Nat, ∃ p : List Int, ∀ hi : i < t.2.2.length, ∃ c r h, Tr19 t L t.2.2[i] c r h ∧ p = GT t L c h t.2.2[i] := fun i => by
    by_cases hi : i < t.2.2.length
    · have hpo := hok.2.2 _ (List.getElem_mem hi)
      obtain ⟨c, r, h, H⟩ := Qx (L := L) (g := t.2.2[i]) hok hw ⟨hpo.1, hpo.2.1⟩
      exact ⟨GT t L c h t.2.2[i], fun _ => ⟨c, r, h, H, rfl⟩⟩
    · exact ⟨[], fun h => absurd h hi⟩
  refine ⟨fun i => (hx i).choose, ⟨fun i hi => ?_, fun i hi => ?_, fun i hi u hu => ?_⟩, fun i hi => (hx i).choose_spec hi⟩
  · obtain ⟨c, r, h, H, e⟩ := (hx i).choose_spec hi
    show B9 t L (i : Int) = some ((hx i).choose, 0) ∧ _
    rw [e]
    exact PP hok hw hi H
  · obtain ⟨c, r, h, H, e⟩ := (hx i).choose_spec hi
    show (((hx i).choose.length : Nat) : Int) = _
    rw [e]; exact P7 hok
  · obtain ⟨c, r, h, H, e⟩ := (hx i).choose_spec hi
    have hpo := hok.2.2 _ (List.getElem_mem hi)
    show -1 ≤ hv ((hx i).choose) u
    rw [e, Q4 hu]
    rcases H.port hok hpo.2.2.1 hu with q | q <;> omega
abbrev LV (t : Tp) (P : Nat → List Int) : Prop := ∃ i, i < t.2.2.length ∧ ∃ k : Nat, (k : Int) < t.1 ∧ hv (P i) (k : Int) < 0
def Eo (P : Nat → List Int) (m k : Nat) : List Int := (List.range m).map fun i => hv (P i) (k : Int)
theorem LJ (P : Nat → List Int) (m k : Nat) : Eo P (m + 1) k = Eo P m k ++ [hv (P m) (k : Int)] := by unfold Eo; rw [List.range_succ, List.map_append]; rfl
theorem La (P : Nat → List Int) (m k : Nat) : (Eo P m k).length = m := by unfold Eo; simp
def CH (t : Tp) (P : Nat → List Int) (m j : Nat) : List (Nat × List Int) := (List.range t.1.toNat).map fun k => (2, Eo P (if k < j then m + 1 else m) k)
theorem FH (P : Nat → List Int) (m j : Nat) : (CH t P m j).length = t.1.toNat := by unfold CH; simp
theorem F4 (P : Nat → List Int) (m j k : Nat) (h : k < t.1.toNat) : (CH t P m j)[k]? = some (2, Eo P (if k < j then m + 1 else m) k) := by
  unfold CH
  rw [List.getElem?_map, List.getElem?_range h]; rfl
open Classical in
theorem Oo (hok : DD t) {P : Nat → List Int} (H : Ps19 t L P) {m : Nat} (hm : m < t.2.2.length) (e : Int) : ∀ (d j : Nat), (j : Int) + d = t.1 → (∀ k : Nat, k < j → 0 ≤ hv (P m) (k : Int)) →
    AH (BA (P m, e)) (CH t P m j, (j : Int)) = some (if ∃ k : Nat, (k : Int) < t.1 ∧ hv (P m) (k : Int) < 0 then .inr (.inr (.inr ([], 7))) else .inl (CH t P (m + 1) 0)) := by
  have h8 := hok.1.2.1
  have h1t := hok.1.1
  have hh := hok.1.2.2.2
  have hlen := H.len m hm
  intro d
  induction d with
  | zero =>
    intro j hj hk
    rw [if_neg (fun ⟨k, k1, k2⟩ => by have := hk k (by omega); omega)]
    have e1 : CH t P m j = CH t P (m + 1) 0 := by
      refine List.ext_getElem? fun k => ?_
      by_cases hk2 : k < t.1.toNat
      · rw [F4 P m j k hk2, F4 P (m + 1) 0 k hk2, if_pos (by omega), if_neg (by omega)]
      · rw [List.getElem?_eq_none (by rw [FH]; omega), List.getElem?_eq_none (by rw [FH]; omega)]
    refine A5 ?_
    rw [BA, if_neg (show ¬ (j : Int) < ((P m).length : Int) by omega), e1]
  | succ d ih =>
    intro j hj hk
    have hV : VV t (j : Int) := ⟨by omega, by omega⟩
    have hp := Gy (h := P m) hV.1 (by omega)
    by_cases q : hv (P m) (j : Int) < 0
    · rw [if_pos ⟨j, by omega, q⟩]
      exact A5 (by rw [BA, if_pos (show (j : Int) < ((P m).length : Int) by omega), hp, Option.bind_some, if_pos q])
    · have hjn : j < t.1.toNat := by omega
      have hg := F4 (t := t) P m j j hjn
      rw [if_neg (by omega)] at hg
      have hset : ∀ (x : Nat × List Int), (AD (CH t P m j) (j : Int) x)[j]? = some x := fun x => by
        unfold AD
        rw [Int.toNat_natCast, List.getElem?_set_self (by rw [FH]; exact hjn)]
      have hst : BA (P m, e) (CH t P m j, (j : Int)) = some (.inl (CH t P m (j + 1), ((j + 1 : Nat) : Int))) := by
        rw [BA, if_pos (show (j : Int) < ((P m).length : Int) by omega), hp, Option.bind_some, if_neg q, Bp hg, Option.bind_some, show OS 2 = some () from rfl, Option.bind_some, Dy (by rw [La]; simp; omega), Option.bind_some, Bp (hset _), Option.bind_some, Option.bind_some, AZ (by omega)]
        have e1 : AD (AD (CH t P m j) (j : Int) (0, [])) (j : Int) (2, Eo P m j ++ [hv (P m) (j : Int)]) = CH t P m (j + 1) := by
          unfold AD
          rw [Int.toNat_natCast, List.set_set]
          refine List.ext_getElem? fun k => ?_
          by_cases hk2 : k < t.1.toNat
          · rw [F4 P m (j + 1) k hk2, List.getElem?_set]
            by_cases ek : j = k
            · subst ek
              rw [if_pos rfl, if_pos (by rw [FH]; exact hjn), if_pos (by omega), LJ]
            · rw [if_neg ek, F4 P m j k hk2]
              by_cases lt : k < j
              · rw [if_pos lt, if_pos (by omega)]
              · rw [if_neg lt, if_neg (by omega)]
          · rw [List.getElem?_eq_none (by rw [List.length_set, FH]; omega), List.getElem?_eq_none (by rw [FH]; omega)]
        rw [e1]; rfl
      rw [Cx hst]
      exact ih (j + 1) (by omega) (fun k hk2 => by
        by_cases ek : k = j
        · rw [ek]; omega
        · exact hk k (by omega))
open Classical in
theorem Nm (hok : DD t) {P : Nat → List Int} (H : Ps19 t L P) : ∀ (d m : Nat), m + d = t.2.2.length → (∀ i, i < m → ∀ k : Nat, (k : Int) < t.1 → 0 ≤ hv (P i) (k : Int)) →
    HK (AH (BU t L) (CH t P m 0, (m : Int))) (fun x3 => some (x3, 0)) = some (if LV t P then ([], 7) else (CH t P t.2.2.length 0, 0)) := by
  have hh := hok.1.2.2.2
  have h1t := hok.1.1
  intro d
  induction d with
  | zero =>
    intro m hm hi
    rw [if_neg (fun ⟨i, i1, k, k1, k2⟩ => by have := hi i (by omega) k k1; omega), A5 (e := .inl (CH t P m 0)) (by rw [BU, if_neg (by omega)])]
    rw [show m = t.2.2.length by omega]; rfl
  | succ d ih =>
    intro m hm hi
    have hml : m < t.2.2.length := by omega
    have hin := Oo hok H hml 0 t.1.toNat 0 (by omega) (fun k hk => by omega)
    by_cases q : ∃ k : Nat, (k : Int) < t.1 ∧ hv (P m) (k : Int) < 0
    · rw [if_pos q] at hin
      obtain ⟨k, k1, k2⟩ := q
      rw [if_pos ⟨m, hml, k, k1, k2⟩, A5 (e := .inr ([], 7)) (by rw [BU, if_pos (by omega), (H.tree m hml).1, Option.bind_some, show AH (BA (P m, 0)) (CH t P m 0, 0) = _ from hin]; rfl)]; rfl
    · rw [if_neg q] at hin
      have hst : BU t L (CH t P m 0, (m : Int)) = some (.inl (CH t P (m + 1) 0, ((m + 1 : Nat) : Int))) := by
        rw [BU, if_pos (by omega), (H.tree m hml).1, Option.bind_some, show AH (BA (P m, 0)) (CH t P m 0, 0) = _ from hin]
        show some (Sum.inl (_, BI ((m : Int) + 1))) = _
        rw [AZ (by omega)]; rfl
      rw [Cx hst]
      refine ih (m + 1) (by omega) fun i hi2 k hk => ?_
      by_cases e : i = m
      · rw [e]
        exact Classical.byContradiction fun hn => q ⟨k, hk, by omega⟩
      · exact hi i (by omega) k hk
open Classical in
theorem Ms (hok : DD t) (hw : Gq t L) {P : Nat → List Int} (H : Ps19 t L P) : Cg t L = some (if LV t P then ([], 7) else (CH t P t.2.2.length 0, 0)) := by
  have h8 := hok.1.2.1
  have h1t := hok.1.1
  have hL : L.length ≤ 1000000 := by have := hw.2; have := hok.1.2.2.1; omega
  have hR := Db (t := t) (NL hw.1) hL
  rw [HV hw, decide_eq_true ⟨hok, hw⟩] at hR
  have e1 : List.replicate t.1.toNat ((2, []) : Nat × List Int) = CH t P 0 0 := by
    refine List.ext_getElem? fun k => ?_
    by_cases hk2 : k < t.1.toNat
    · rw [F4 P 0 0 k hk2, List.getElem?_replicate, if_pos hk2, if_neg (by omega)]; rfl
    · rw [List.getElem?_eq_none (by simp; omega), List.getElem?_eq_none (by rw [FH]; omega)]
  unfold Cg
  rw [hR, Option.bind_some, if_neg (by decide), HB (by omega), Option.bind_some, e1]
  exact Nm hok H t.2.2.length 0 (by omega) (fun i hi => by omega)
open Classical in
theorem M4 (hok : DD t) {P : Nat → List Int} (H : Ps19 t L P) {j : Nat} (hj : (j : Int) < t.1) : ∀ (d m : Nat), m + d = t.2.2.length → (∀ i, i < m → 0 ≤ hv (P i) (j : Int)) →
    AH (Ch t (nz L) (j : Int)) (Eo P m j, (m : Int)) = some (if ∃ i, i < t.2.2.length ∧ hv (P i) (j : Int) < 0 then .inr (.inr (.inr (.inr ([], 7)))) else .inl (Eo P t.2.2.length j)) := by
  have hh := hok.1.2.2.2
  intro d
  induction d with
  | zero =>
    intro m hm hi
    rw [if_neg (fun ⟨i, i1, i2⟩ => by have := hi i (by omega); omega)]
    refine A5 ?_
    rw [Ch, if_neg (by omega), show m = t.2.2.length by omega]
  | succ d ih =>
    intro m hm hi
    have hml : m < t.2.2.length := by omega
    have hV : VV t (j : Int) := ⟨by omega, by omega⟩
    have hlen := H.len m hml
    have hpo := H.port m hml _ hV
    have hp := Gy (h := P m) hV.1 (by omega)
    by_cases q : hv (P m) (j : Int) < 0
    · rw [if_pos ⟨m, hml, q⟩]
      exact A5 (by rw [Ch, if_pos (by omega), (H.tree m hml).2, Option.bind_some, hp, Option.bind_some, if_pos (by omega)])
    · have hst : Ch t (nz L) (j : Int) (Eo P m j, (m : Int)) = some (.inl (Eo P (m + 1) j, ((m + 1 : Nat) : Int))) := by
        rw [Ch, if_pos (by omega), (H.tree m hml).2, Option.bind_some, hp, Option.bind_some, if_neg (by omega), Option.bind_some, Dy (by rw [La]; simp; omega), Option.bind_some, AZ (by omega), LJ]; rfl
      rw [Cx hst]
      refine ih (m + 1) (by omega) fun i hi2 => ?_
      by_cases e : i = m
      · rw [e]; omega
      · exact hi i (by omega)
def Hp (t : Tp) (P : Nat → List Int) : List (List Int) := (List.range t.1.toNat).map fun k => Eo P t.2.2.length k
open Classical in
theorem MA (hok : DD t) {P : Nat → List Int} (H : Ps19 t L P) : ∀ (d j : Nat), (j : Int) + d = t.1 → (∀ k : Nat, k < j → ∀ i, i < t.2.2.length → 0 ≤ hv (P i) (k : Int)) →
    HK (AH (C5 t (nz L)) ((List.range j).map fun k => Eo P t.2.2.length k, (j : Int))) (fun x2 => some (x2, 0)) = some (if LV t P then ([], 7) else (Hp t P, 0)) := by
  have h8 := hok.1.2.1
  intro d
  induction d with
  | zero =>
    intro j hj hk
    rw [if_neg (fun ⟨i, i1, k, k1, k2⟩ => by have := hk k (by omega) i i1; omega), A5 (e := .inl ((List.range j).map fun k => Eo P t.2.2.length k)) (by rw [C5, if_neg (by omega)])]
    unfold Hp
    rw [show j = t.1.toNat by omega]; rfl
  | succ d ih =>
    intro j hj hk
    have hin := M4 hok H (j := j) (by omega) t.2.2.length 0 (by omega) (fun i hi => by omega)
    have e0 : Eo P 0 j = [] := rfl
    rw [e0] at hin
    by_cases q : ∃ i, i < t.2.2.length ∧ hv (P i) (j : Int) < 0
    · rw [if_pos q] at hin
      obtain ⟨i, i1, i2⟩ := q
      rw [if_pos ⟨i, i1, j, by omega, i2⟩, A5 (e := .inr ([], 7)) (by rw [C5, if_pos (by omega), show AH (Ch t (nz L) (j : Int)) ([], 0) = _ from hin]; rfl)]; rfl
    · rw [if_neg q] at hin
      have hst : C5 t (nz L) ((List.range j).map (fun k => Eo P t.2.2.length k), (j : Int)) = some (.inl ((List.range (j + 1)).map (fun k => Eo P t.2.2.length k), ((j + 1 : Nat) : Int))) := by
        rw [C5, if_pos (by omega), show AH (Ch t (nz L) (j : Int)) ([], 0) = _ from hin]
        show HK ((Hz ((List.range j).map fun k => Eo P t.2.2.length k) [Eo P t.2.2.length j]).bind fun x13 => some (.inl x13)) _ = _
        rw [Dy (by simp; omega), Option.bind_some]
        show some (Sum.inl (_, BI ((j : Int) + 1))) = _
        rw [AZ (by omega), List.range_succ, List.map_append]; rfl
      rw [Cx hst]
      refine ih (j + 1) (by omega) fun k hk2 i hi => ?_
      by_cases e : k = j
      · rw [e]
        exact Classical.byContradiction fun hn => q ⟨i, hi, by omega⟩
      · exact hk k (by omega) i hi
open Classical in
theorem Nh (hok : DD t) (hw : Gq t L) {P : Nat → List Int} (H : Ps19 t L P) : Ek t (nz L) = some (if LV t P then ([], 7) else (Hp t P, 0)) := by
  have h1t := hok.1.1
  have hL : L.length ≤ 1000000 := by have := hw.2; have := hok.1.2.2.1; omega
  unfold Ek
  rw [GR hL, Option.bind_some, decide_eq_true ⟨hok, hw⟩, if_neg (by decide)]
  exact MA hok H t.1.toNat 0 (by omega) (fun k hk => by omega)
end
theorem MV {l : List Int} (hl : l.length ≤ 1000) : EA l l = some true := by
  unfold EA
  rw [if_neg (by simp), Gj l.length (E2 l l) (fun _ => False) false (fun k hk => by
    rw [E2, if_pos (by omega), Bp (List.getElem?_eq_getElem hk), Option.bind_some, Option.bind_some, if_neg (by simp), if_neg (fun h => h), AZ (by omega)]; rfl) (by rw [E2, if_neg (by omega)]), if_neg (fun h => h.elim fun _ hh => hh.2)]; rfl
theorem QI {l : List Int} (hl : l.length ≤ 1000) : F7 l l = some true := by
  unfold F7
  rw [if_neg (by simp), Gj l.length (E7 l l) (fun _ => False) false (fun k hk => by
    rw [E7, if_pos (by omega), Bp (List.getElem?_eq_getElem hk), Option.bind_some, Option.bind_some, if_neg (by simp), if_neg (fun h => h), AZ (by omega)]; rfl) (by rw [E7, if_neg (by omega)]), if_neg (fun h => h.elim fun _ hh => hh.2)]; rfl
theorem Mw {t : Tp} {L : List Nat} (hL : ∀ x ∈ L, FX x) (hl : L.length ≤ 1000000) : ∃ (R : List (Nat × List Int)) (Q : List (List Int)) (e : Int), Cg t (L.map EU) = some (R, e) ∧ Ek t (nz L) = some (Q, e) ∧ R = Q.map (fun l => (2, l)) ∧ Q.length ≤ 100 ∧ ∀ l ∈ Q, l.length ≤ 100 := by
  by_cases ok : DD t ∧ Gq t L
  · obtain ⟨hok, hw⟩ := ok
    obtain ⟨P, H, _⟩ := PR (L := L) hok hw
    have h1 := Ms hok hw H
    have h2 := Nh hok hw H
    rw [HV hw]
    by_cases b : LV t P
    · rw [if_pos b] at h1 h2
      exact ⟨[], [], 7, h1, h2, rfl, by simp, by simp⟩
    · rw [if_neg b] at h1 h2
      have h8 := hok.1.2.1
      have hh := hok.1.2.2.2
      refine ⟨_, _, 0, h1, h2, ?_, by unfold Hp; simp; omega, fun l hl2 => ?_⟩
      · unfold CH Hp
        rw [List.map_map]
        rfl
      · unfold Hp at hl2
        obtain ⟨k, _, rfl⟩ := List.mem_map.1 hl2
        rw [La]; omega
  · refine ⟨[], [], 2, ?_, ?_, rfl, by simp, by simp⟩
    · unfold Cg
      rw [Db hL hl, decide_eq_false ok]; rfl
    · unfold Ek
      rw [GR hl, decide_eq_false ok]; rfl
theorem Jk (t : Tp) (L : List Nat) (hL : ∀ x ∈ L, FX x) (s hi : Int) : DG t (nz L) s hi = some true := by
  unfold DG
  by_cases sm : Fv t (nz L) = true
  · rw [sm, if_neg (by decide)]
    have hsm : t.2.1.length ≤ 30 ∧ t.2.2.length ≤ 12 ∧ L.length ≤ 30 := by
      unfold Fv at sm
      rw [GP] at sm
      simp only [Bool.and_eq_true, decide_eq_true_eq] at sm
      omega
    have hll : L.length ≤ 1000000 := by omega
    obtain ⟨c, c1, c2, c3, c4⟩ := Nd (t := t) hL hll s
    obtain ⟨h, h1, h2, h3⟩ := MQ (t := t) hL hll s
    have htree : ∃ (p : List Int) (e : Int), B9 t (L.map EU) hi = some (p, e) ∧ Ee t (nz L) hi = some (p, e) ∧ p.length ≤ 100 := by
      by_cases q : (DD t ∧ Gq t L) ∧ 0 ≤ hi ∧ hi < (t.2.2.length : Int)
      · obtain ⟨⟨hok, hw⟩, q1, q2⟩ := q
        obtain ⟨P, H, _⟩ := PR (L := L) hok hw
        obtain ⟨a, b⟩ := H.tree hi.toNat (by omega)
        rw [show ((hi.toNat : Nat) : Int) = hi by omega] at a b
        have := H.len hi.toNat (by omega)
        have := hok.1.2.1
        exact ⟨_, _, by rw [HV hw]; exact a, b, by omega⟩
      · obtain ⟨e, e1, e2⟩ := Pp (t := t) hL hll hi q
        exact ⟨_, _, e1, e2, by simp⟩
    obtain ⟨p, e, p1, p2, p3⟩ := htree
    obtain ⟨R, Q, f, r1, r2, r3, r4, r5⟩ := Mw (t := t) hL hll
    have sc : F7 (nz c) (nz c) = some true := QI (by rw [GP]; omega)
    have sh : EA h h = some true := MV (by omega)
    have sp : EA p p = some true := MV (by omega)
    rw [P8 hll, Option.bind_some, c1, Option.bind_some, Oa (by omega), Option.bind_some, c2, Option.bind_some, c4, sc, Option.bind_some, if_neg (by decide), h1, Option.bind_some, h2, Option.bind_some, sh, Option.bind_some, Option.bind_some, if_neg (by decide), p1, Option.bind_some, p2, Option.bind_some, sp, Option.bind_some, if_neg (by decide), Option.bind_some, if_neg (by simp), r1, Option.bind_some, r2, Option.bind_some, if_neg (by rw [r3]; simp)]
    rw [Gj Q.length (C0 (R, f) (Q, f)) (fun _ => False) false (fun k hk => by
      have hR : R[k]? = some (2, Q[k]) := by rw [r3, List.getElem?_map, List.getElem?_eq_getElem hk]; rfl
      rw [C0, if_pos (show (k : Int) < ((Q.length : Nat) : Int) by omega), Bp hR, Option.bind_some, Bp (List.getElem?_eq_getElem hk), Option.bind_some, MV (l := Q[k]) (by have := r5 _ (List.getElem_mem hk); omega), Option.bind_some, show Kk 2 = some () from rfl, Option.bind_some, if_neg (by decide), if_neg (fun h => h), AZ (by omega)]; rfl) (by rw [C0, if_neg (by simp)]), if_neg (fun h => h.elim fun _ hh => hh.2)]
    show (Option.bind _ fun x22 => _) = _
    rw [Nx]; rfl
  · rw [if_pos (by simpa using sm), Nx]; rfl
theorem Ji (p0 : Tp) {A : Prop} (_ : A) (p1 : List Int) (ok1 : Qy (fun n => (Lit.int .u64 n).wf = true) p1) (p2 : Int) {B : Prop} (_ : B) (p3 : Int) {C : Prop} (_ : C) : DG p0 p1 p2 p3 = some true := by
  obtain ⟨L, rfl, hL⟩ := Sg ok1
  exact Jk p0 L hL p2 p3
end Go.Proofs.Ytbogijdfacoccaa
