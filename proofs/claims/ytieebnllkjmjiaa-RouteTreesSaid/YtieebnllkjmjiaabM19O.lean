/- Layer 19: routes. Conditions: none. -/
import Derived.Test.YtieebnllkjmjiaabM19T
namespace Go.Proofs.Ytieebnllkjmjiaa
set_option linter.unusedVariables false
set_option linter.unusedSimpArgs false
open Go Go.RowKit
section
variable {t : Tp} {L : List Nat}
structure Ps19 (t : Tp) (L : List Nat) (P : Nat → List Int) : Prop where
  tree : ∀ i, i < t.2.2.length → DQ t L (i : Int) = some (P i, 0) ∧ IW t (nz L) (i : Int) = some (P i, 0)
  len : ∀ i, i < t.2.2.length → ((P i).length : Int) = t.1
  port : ∀ i, i < t.2.2.length → ∀ u, VV t u → -1 ≤ hv (P i) u
theorem PZ (hok : C6 t) (hw : GT t L) : ∃ P, Ps19 t L P ∧ ∀ i (hi : i < t.2.2.length), ∃ c r h, Tr19 t L t.2.2[i] c r h ∧ P i = FX t L c h t.2.2[i] := by
  have hx : ∀ i : Nat, ∃ p : List Int, ∀ hi : i < t.2.2.length, ∃ c r h, Tr19 t L t.2.2[i] c r h ∧ p = FX t L c h t.2.2[i] := fun i => by
    by_cases hi : i < t.2.2.length
    · have hpo := hok.2.2 _ (List.getElem_mem hi)
      obtain ⟨c, r, h, H⟩ := QP (L := L) (g := t.2.2[i]) hok hw ⟨hpo.1, hpo.2.1⟩
      exact ⟨FX t L c h t.2.2[i], fun _ => ⟨c, r, h, H, rfl⟩⟩
    · exact ⟨[], fun h => absurd h hi⟩
  refine ⟨fun i => (hx i).choose, ⟨fun i hi => ?_, fun i hi => ?_, fun i hi u hu => ?_⟩, fun i hi => (hx i).choose_spec hi⟩
  · obtain ⟨c, r, h, H, e⟩ := (hx i).choose_spec hi
    show DQ t L (i : Int) = some ((hx i).choose, 0) ∧ _
    rw [e]
    exact Ol hok hw hi H
  · obtain ⟨c, r, h, H, e⟩ := (hx i).choose_spec hi
    show (((hx i).choose.length : Nat) : Int) = _
    rw [e]; exact PM hok
  · obtain ⟨c, r, h, H, e⟩ := (hx i).choose_spec hi
    have hpo := hok.2.2 _ (List.getElem_mem hi)
    show -1 ≤ hv ((hx i).choose) u
    rw [e, Hf hu]
    rcases H.port hok hpo.2.2.1 hu with q | q <;> omega
abbrev Oz (t : Tp) (P : Nat → List Int) : Prop := ∃ i, i < t.2.2.length ∧ ∃ k : Nat, (k : Int) < t.1 ∧ hv (P i) (k : Int) < 0
def Ff (P : Nat → List Int) (m k : Nat) : List Int := (List.range m).map fun i => hv (P i) (k : Int)
theorem Ox (P : Nat → List Int) (m k : Nat) : Ff P (m + 1) k = Ff P m k ++ [hv (P m) (k : Int)] := by unfold Ff; rw [List.range_succ, List.map_append]; rfl
theorem KC (P : Nat → List Int) (m k : Nat) : (Ff P m k).length = m := by unfold Ff; simp
def Ca (t : Tp) (P : Nat → List Int) (m j : Nat) : List (Nat × List Int) := (List.range t.1.toNat).map fun k => (2, Ff P (if k < j then m + 1 else m) k)
theorem E6 (P : Nat → List Int) (m j : Nat) : (Ca t P m j).length = t.1.toNat := by unfold Ca; simp
theorem FI (P : Nat → List Int) (m j k : Nat) (h : k < t.1.toNat) : (Ca t P m j)[k]? = some (2, Ff P (if k < j then m + 1 else m) k) := by
  unfold Ca
  rw [List.getElem?_map, List.getElem?_range h]; rfl
open Classical in
theorem Nn (hok : C6 t) {P : Nat → List Int} (H : Ps19 t L P) {m : Nat} (hm : m < t.2.2.length) (e : Int) : ∀ (d j : Nat), (j : Int) + d = t.1 → (∀ k : Nat, k < j → 0 ≤ hv (P m) (k : Int)) →
    AA (BI (P m, e)) (Ca t P m j, (j : Int)) = some (if ∃ k : Nat, (k : Int) < t.1 ∧ hv (P m) (k : Int) < 0 then .inr (.inr (.inr ([], 7))) else .inl (Ca t P (m + 1) 0)) := by
  have h8 := hok.1.2.1
  have h1t := hok.1.1
  have hh := hok.1.2.2.2
  have hlen := H.len m hm
  intro d
  induction d with
  | zero =>
    intro j hj hk
    rw [if_neg (fun ⟨k, k1, k2⟩ => by have := hk k (by omega); omega)]
    have e1 : Ca t P m j = Ca t P (m + 1) 0 := by
      refine List.ext_getElem? fun k => ?_
      by_cases hk2 : k < t.1.toNat
      · rw [FI P m j k hk2, FI P (m + 1) 0 k hk2, if_pos (by omega), if_neg (by omega)]
      · rw [List.getElem?_eq_none (by rw [E6]; omega), List.getElem?_eq_none (by rw [E6]; omega)]
    refine AZ ?_
    rw [BI, if_neg (show ¬ (j : Int) < ((P m).length : Int) by omega), e1]
  | succ d ih =>
    intro j hj hk
    have hV : VV t (j : Int) := ⟨by omega, by omega⟩
    have hp := Gt (h := P m) hV.1 (by omega)
    by_cases q : hv (P m) (j : Int) < 0
    · rw [if_pos ⟨j, by omega, q⟩]
      exact AZ (by rw [BI, if_pos (show (j : Int) < ((P m).length : Int) by omega), hp, Option.bind_some, if_pos q])
    · have hjn : j < t.1.toNat := by omega
      have hg := FI (t := t) P m j j hjn
      rw [if_neg (by omega)] at hg
      have hset : ∀ (x : Nat × List Int), (AE (Ca t P m j) (j : Int) x)[j]? = some x := fun x => by
        unfold AE
        rw [Int.toNat_natCast, List.getElem?_set_self (by rw [E6]; exact hjn)]
      have hst : BI (P m, e) (Ca t P m j, (j : Int)) = some (.inl (Ca t P m (j + 1), ((j + 1 : Nat) : Int))) := by
        rw [BI, if_pos (show (j : Int) < ((P m).length : Int) by omega), hp, Option.bind_some, if_neg q, Bd hg, Option.bind_some, show Ps 2 = some () from rfl, Option.bind_some, Di (by rw [KC]; simp; omega), Option.bind_some, Bd (hset _), Option.bind_some, Option.bind_some, AY (by omega)]
        have e1 : AE (AE (Ca t P m j) (j : Int) (0, [])) (j : Int) (2, Ff P m j ++ [hv (P m) (j : Int)]) = Ca t P m (j + 1) := by
          unfold AE
          rw [Int.toNat_natCast, List.set_set]
          refine List.ext_getElem? fun k => ?_
          by_cases hk2 : k < t.1.toNat
          · rw [FI P m (j + 1) k hk2, List.getElem?_set]
            by_cases ek : j = k
            · subst ek
              rw [if_pos rfl, if_pos (by rw [E6]; exact hjn), if_pos (by omega), Ox]
            · rw [if_neg ek, FI P m j k hk2]
              by_cases lt : k < j
              · rw [if_pos lt, if_pos (by omega)]
              · rw [if_neg lt, if_neg (by omega)]
          · rw [List.getElem?_eq_none (by rw [List.length_set, E6]; omega), List.getElem?_eq_none (by rw [E6]; omega)]
        rw [e1]; rfl
      rw [Ch hst]
      exact ih (j + 1) (by omega) (fun k hk2 => by
        by_cases ek : k = j
        · rw [ek]; omega
        · exact hk k (by omega))
open Classical in
theorem Mi (hok : C6 t) {P : Nat → List Int} (H : Ps19 t L P) : ∀ (d m : Nat), m + d = t.2.2.length → (∀ i, i < m → ∀ k : Nat, (k : Int) < t.1 → 0 ≤ hv (P i) (k : Int)) →
    Fv (AA (Cc t L) (Ca t P m 0, (m : Int))) (fun x3 => some (x3, 0)) = some (if Oz t P then ([], 7) else (Ca t P t.2.2.length 0, 0)) := by
  have hh := hok.1.2.2.2
  have h1t := hok.1.1
  intro d
  induction d with
  | zero =>
    intro m hm hi
    rw [if_neg (fun ⟨i, i1, k, k1, k2⟩ => by have := hi i (by omega) k k1; omega), AZ (e := .inl (Ca t P m 0)) (by rw [Cc, if_neg (by omega)])]
    rw [show m = t.2.2.length by omega]; rfl
  | succ d ih =>
    intro m hm hi
    have hml : m < t.2.2.length := by omega
    have hin := Nn hok H hml 0 t.1.toNat 0 (by omega) (fun k hk => by omega)
    by_cases q : ∃ k : Nat, (k : Int) < t.1 ∧ hv (P m) (k : Int) < 0
    · rw [if_pos q] at hin
      obtain ⟨k, k1, k2⟩ := q
      rw [if_pos ⟨m, hml, k, k1, k2⟩, AZ (e := .inr ([], 7)) (by rw [Cc, if_pos (by omega), (H.tree m hml).1, Option.bind_some, show AA (BI (P m, 0)) (Ca t P m 0, 0) = _ from hin]; rfl)]; rfl
    · rw [if_neg q] at hin
      have hst : Cc t L (Ca t P m 0, (m : Int)) = some (.inl (Ca t P (m + 1) 0, ((m + 1 : Nat) : Int))) := by
        rw [Cc, if_pos (by omega), (H.tree m hml).1, Option.bind_some, show AA (BI (P m, 0)) (Ca t P m 0, 0) = _ from hin]
        show some (Sum.inl (_, BV ((m : Int) + 1))) = _
        rw [AY (by omega)]; rfl
      rw [Ch hst]
      refine ih (m + 1) (by omega) fun i hi2 k hk => ?_
      by_cases e : i = m
      · rw [e]
        exact Classical.byContradiction fun hn => q ⟨k, hk, by omega⟩
      · exact hi i (by omega) k hk
open Classical in
theorem Ll (hok : C6 t) (hw : GT t L) {P : Nat → List Int} (H : Ps19 t L P) : Ea t L = some (if Oz t P then ([], 7) else (Ca t P t.2.2.length 0, 0)) := by
  have h8 := hok.1.2.1
  have h1t := hok.1.1
  have hL : L.length ≤ 1000000 := by have := hw.2; have := hok.1.2.2.1; omega
  have hR := E8 (t := t) (MJ hw.1) hL
  rw [KB hw, decide_eq_true ⟨hok, hw⟩] at hR
  have e1 : List.replicate t.1.toNat ((2, []) : Nat × List Int) = Ca t P 0 0 := by
    refine List.ext_getElem? fun k => ?_
    by_cases hk2 : k < t.1.toNat
    · rw [FI P 0 0 k hk2, List.getElem?_replicate, if_pos hk2, if_neg (by omega)]; rfl
    · rw [List.getElem?_eq_none (by simp; omega), List.getElem?_eq_none (by rw [E6]; omega)]
  unfold Ea
  rw [hR, Option.bind_some, if_neg (by decide), GO (by omega), Option.bind_some, e1]
  exact Mi hok H t.2.2.length 0 (by omega) (fun i hi => by omega)
end
end Go.Proofs.Ytieebnllkjmjiaa
