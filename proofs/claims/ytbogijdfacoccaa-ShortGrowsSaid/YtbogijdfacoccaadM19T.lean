/- Layer 19: trees. Conditions: none. -/
import Derived.Test.YtbogijdfacoccaadM19S
namespace Go.Proofs.Ytbogijdfacoccaa
set_option linter.unusedVariables false
set_option linter.unusedSimpArgs false
open Go Go.RowKit
noncomputable def FP (t : Tp) (u : Int) : List Sd := (CH t u).getD []
section
variable {t : Tp} {L c : List Nat} {s : Int}
theorem LN (hok : Fh t) (u : Int) : CH t u = some (FP t u) ∧ FS t u = some (FP t u) ∧ (∀ x, x ∈ FP t u ↔ GS t u x) ∧ (FP t u).length ≤ 8 := by
  obtain ⟨N, n1, n2, n3, n4⟩ := JB hok u
  obtain ⟨M, m1, m2, m3⟩ := Ll hok u
  have e : FP t u = N := by unfold FP; rw [n1]; rfl
  have e2 : M = N := ND m3 n3 fun x => (m2 x).trans (n2 x).symm
  rw [e]
  exact ⟨n1, by rw [m1, e2], n2, n4⟩
noncomputable def OH (L c : List Nat) (h : List Int) (u : Int) (x : Sd) : Bool := decide (hv h x.2.1 = hv h u - 1 ∧ P0 L c u x.2.1 x.2.2)
def pick (N : List Sd) (P : Sd → Bool) (p : Int) : Int := match N.find? P with | some x => x.1 | none => p
noncomputable def N6 (t : Tp) (L c : List Nat) (h : List Int) (g : Int × Int) (u : Int) : Int := if u = g.1 then g.2 else pick (FP t u) (OH L c h u) (-1)
structure Tr19 (t : Tp) (L : List Nat) (g : Int × Int) (c : List Nat) (r : Int → Nat) (h : List Int) : Prop where
  best : Best t L g.1 r c
  sp : Sp t (Td t L c) g.1 h
  pc : B5 t L g.1 = some c
  rc : Jy t (nz L) g.1 = some (nz c)
  ps : DG t L g.1 = some h
  rs : Mn t (nz L) g.1 = some h
theorem Tr19.bd (hok : Fh t) {g : Int × Int} {r : Int → Nat} {h : List Int} (H : Tr19 t L g c r h) : ∀ v, VV t v → -1 ≤ hv h v ∧ hv h v ≤ 100 := fun v hV => by
  have := H.sp.lo v hV
  have := H.sp.toBs17.lt hok (fun h => h.V hok) hV
  have := hok.1.2.1
  omega
theorem Tr19.far (hok : Fh t) (hw : Kz t L) {g : Int × Int} {r : Int → Nat} {h : List Int} (H : Tr19 t L g c r h) : ∀ (n : Nat) (u : Int), r u = n → VV t u → wg c u ≠ D4 → 0 ≤ hv h u := by
  intro n
  induction n using Nat.strongRecOn with
  | ind n ih =>
    intro u hn hu hne
    rcases H.best.att u hu with e | e | ⟨v, k, he, e, hr⟩
    · exact absurd e hne
    · subst e; have := H.sp.src hu; omega
    · have hV := (he.V hok).2.1
      obtain ⟨_, hcost⟩ := hw.cost hok he
      have hbv := H.best.bd v hV
      have hbu := H.best.bd u hu
      have hge := Np hcost hbv
      have hvn : wg c v ≠ D4 := fun q => hne (by rw [q] at hge; rw [e, q]; exact Nat.le_antisymm (by rw [e, q] at hbu; exact hbu) hge)
      have hup : NV (wg L k) = true := Classical.byContradiction fun q => by
        rw [LT hcost q, L8 hbv] at e
        exact hne e
      have h1 := ih (r v) (by omega) v rfl hV hvn
      exact (H.sp.up v u ⟨k, he, hup, hne, e.symm⟩ h1).1
theorem Tr19.next (hok : Fh t) {g : Int × Int} {r : Int → Nat} {h : List Int} (H : Tr19 t L g c r h) {u : Int} (hu : VV t u) (hne : u ≠ g.1) (h0 : 0 ≤ hv h u) : ∃ x, GS t u x ∧ hv h x.2.1 = hv h u - 1 ∧ P0 L c u x.2.1 x.2.2 ∧ N6 t L c h g u = x.1 ∧ 0 < hv h u := by
  obtain ⟨_, _, hN, _⟩ := LN hok u
  have hpos : 0 < hv h u := by
    have : hv h u ≠ 0 := fun e => hne (H.sp.zero u hu e)
    omega
  obtain ⟨v, ⟨k, ⟨p, hp⟩, hs⟩, e⟩ := H.sp.dn u hu hpos
  have hm : (p, v, k) ∈ FP t u := (hN _).2 hp
  have hP : OH L c h u (p, v, k) = true := decide_eq_true ⟨e, hs⟩
  have hpt : N6 t L c h g u = pick (FP t u) (OH L c h u) (-1) := if_neg hne
  unfold pick at hpt
  cases hf : (FP t u).find? (OH L c h u) with
  | none =>
    have := List.find?_eq_none.1 hf _ hm
    exact absurd hP this
  | some x =>
    rw [hf] at hpt
    have hx := List.mem_of_find?_eq_some hf
    have hx3 : OH L c h u x = true := List.find?_some hf
    have hx2 := of_decide_eq_true hx3
    exact ⟨x, (hN x).1 hx, hx2.1, hx2.2, hpt, hpos⟩
theorem Tr19.none (hok : Fh t) {g : Int × Int} {r : Int → Nat} {h : List Int} (H : Tr19 t L g c r h) {u : Int} (hu : VV t u) (hne : u ≠ g.1) (h0 : ¬ 0 ≤ hv h u) : N6 t L c h g u = -1 := by
  obtain ⟨_, _, hN, _⟩ := LN hok u
  have hpt : N6 t L c h g u = pick (FP t u) (OH L c h u) (-1) := if_neg hne
  rw [hpt]
  unfold pick
  cases hf : (FP t u).find? (OH L c h u) with
  | none => rfl
  | some x =>
    have hx := List.mem_of_find?_eq_some hf
    have hx3 : OH L c h u x = true := List.find?_some hf
    have hx2 := (of_decide_eq_true hx3).1
    have he : E t u x.2.1 x.2.2 := ⟨x.1, (hN x).1 hx⟩
    have := H.sp.lo _ (he.V hok).2.1
    omega
end
end Go.Proofs.Ytbogijdfacoccaa
