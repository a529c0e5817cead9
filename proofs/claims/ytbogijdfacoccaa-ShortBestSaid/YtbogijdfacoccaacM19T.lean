/- Layer 19: trees. Conditions: none. -/
import Derived.Test.YtbogijdfacoccaacM19S
namespace Go.Proofs.Ytbogijdfacoccaa
set_option linter.unusedVariables false
set_option linter.unusedSimpArgs false
open Go Go.RowKit
noncomputable def FW (t : Tp) (u : Int) : List Sd := (CG t u).getD []
section
variable {t : Tp} {L c : List Nat} {s : Int}
theorem Mq (hok : Fq t) (u : Int) : CG t u = some (FW t u) ∧ F1 t u = some (FW t u) ∧ (∀ x, x ∈ FW t u ↔ Hj t u x) ∧ (FW t u).length ≤ 8 := by
  obtain ⟨N, n1, n2, n3, n4⟩ := JC hok u
  obtain ⟨M, m1, m2, m3⟩ := Ll hok u
  have e : FW t u = N := by unfold FW; rw [n1]; rfl
  have e2 : M = N := NU m3 n3 fun x => (m2 x).trans (n2 x).symm
  rw [e]
  exact ⟨n1, by rw [m1, e2], n2, n4⟩
noncomputable def Pg (L c : List Nat) (h : List Int) (u : Int) (x : Sd) : Bool := decide (hv h x.2.1 = hv h u - 1 ∧ QP L c u x.2.1 x.2.2)
def pick (N : List Sd) (P : Sd → Bool) (p : Int) : Int := match N.find? P with | some x => x.1 | none => p
noncomputable def Pd (t : Tp) (L c : List Nat) (h : List Int) (g : Int × Int) (u : Int) : Int := if u = g.1 then g.2 else pick (FW t u) (Pg L c h u) (-1)
structure Tr19 (t : Tp) (L : List Nat) (g : Int × Int) (c : List Nat) (r : Int → Nat) (h : List Int) : Prop where
  best : Best t L g.1 r c
  sp : Sp t (Td t L c) g.1 h
  pc : B6 t L g.1 = some c
  rc : JD t (nz L) g.1 = some (nz c)
  ps : DK t L g.1 = some h
  rs : MR t (nz L) g.1 = some h
theorem Tr19.bd (hok : Fq t) {g : Int × Int} {r : Int → Nat} {h : List Int} (H : Tr19 t L g c r h) : ∀ v, VV t v → -1 ≤ hv h v ∧ hv h v ≤ 100 := fun v hV => by
  have := H.sp.lo v hV
  have := H.sp.toBs17.lt hok (fun h => h.V hok) hV
  have := hok.1.2.1
  omega
theorem Tr19.far (hok : Fq t) (hw : Li t L) {g : Int × Int} {r : Int → Nat} {h : List Int} (H : Tr19 t L g c r h) : ∀ (n : Nat) (u : Int), r u = n → VV t u → wg c u ≠ DP → 0 ≤ hv h u := by
  intro n
  induction n using Nat.strongRecOn with
  | ind n ih =>
    intro u hn hu hne
    rcases H.best.att u hu with e | e | ⟨v, k, he, e, hr⟩
    · exact absurd e hne
    · subst e; have := H.sp.src hu; omega
    · have hV := (he.V hok).2.1
      obtain ⟨_, hcost⟩ := hw.cost hok he
      have hbv := H.best.bd v hV
      have hbu := H.best.bd u hu
      have hge := Ou hcost hbv
      have hvn : wg c v ≠ DP := fun q => hne (by rw [q] at hge; rw [e, q]; exact Nat.le_antisymm (by rw [e, q] at hbu; exact hbu) hge)
      have hup : Ow (wg L k) = true := Classical.byContradiction fun q => by
        rw [Me hcost q, Md hbv] at e
        exact hne e
      have h1 := ih (r v) (by omega) v rfl hV hvn
      exact (H.sp.up v u ⟨k, he, hup, hne, e.symm⟩ h1).1
theorem Tr19.next (hok : Fq t) {g : Int × Int} {r : Int → Nat} {h : List Int} (H : Tr19 t L g c r h) {u : Int} (hu : VV t u) (hne : u ≠ g.1) (h0 : 0 ≤ hv h u) : ∃ x, Hj t u x ∧ hv h x.2.1 = hv h u - 1 ∧ QP L c u x.2.1 x.2.2 ∧ Pd t L c h g u = x.1 ∧ 0 < hv h u := by
  obtain ⟨_, _, hN, _⟩ := Mq hok u
  have hpos : 0 < hv h u := by
    have : hv h u ≠ 0 := fun e => hne (H.sp.zero u hu e)
    omega
  obtain ⟨v, ⟨k, ⟨p, hp⟩, hs⟩, e⟩ := H.sp.dn u hu hpos
  have hm : (p, v, k) ∈ FW t u := (hN _).2 hp
  have hP : Pg L c h u (p, v, k) = true := decide_eq_true ⟨e, hs⟩
  have hpt : Pd t L c h g u = pick (FW t u) (Pg L c h u) (-1) := if_neg hne
  unfold pick at hpt
  cases hf : (FW t u).find? (Pg L c h u) with
  | none =>
    have := List.find?_eq_none.1 hf _ hm
    exact absurd hP this
  | some x =>
    rw [hf] at hpt
    have hx := List.mem_of_find?_eq_some hf
    have hx3 : Pg L c h u x = true := List.find?_some hf
    have hx2 := of_decide_eq_true hx3
    exact ⟨x, (hN x).1 hx, hx2.1, hx2.2, hpt, hpos⟩
theorem Tr19.none (hok : Fq t) {g : Int × Int} {r : Int → Nat} {h : List Int} (H : Tr19 t L g c r h) {u : Int} (hu : VV t u) (hne : u ≠ g.1) (h0 : ¬ 0 ≤ hv h u) : Pd t L c h g u = -1 := by
  obtain ⟨_, _, hN, _⟩ := Mq hok u
  have hpt : Pd t L c h g u = pick (FW t u) (Pg L c h u) (-1) := if_neg hne
  rw [hpt]
  unfold pick
  cases hf : (FW t u).find? (Pg L c h u) with
  | none => rfl
  | some x =>
    have hx := List.mem_of_find?_eq_some hf
    have hx3 : Pg L c h u x = true := List.find?_some hf
    have hx2 := (of_decide_eq_true hx3).1
    have he : E t u x.2.1 x.2.2 := ⟨x.1, (hN x).1 hx⟩
    have := H.sp.lo _ (he.V hok).2.1
    omega
end
end Go.Proofs.Ytbogijdfacoccaa
