/- Twins with fuel of E5 functions: what a twin answers, the function answers. Conditions: none. -/
import Derived.Test.YtlgjpoapclifbaaDoorcEV
namespace Go.Proofs.YtlgjpoapclifbaaDoor
open Go Go.RowKit
set_option linter.unusedVariables false
set_option linter.unusedSimpArgs false
set_option maxRecDepth 20000
set_option maxHeartbeats 1600000
theorem Ma {fRec fRec' : Tr34 → Option Bool} (hfRec : ∀ a0, Le (fRec a0) (fRec' a0)) (p0 : Tr34) : ∀ s, Le (Eg fRec p0 s) (Eg fRec' p0 s) := by
  intro x1
  unfold Eg
  repeat' with_reducible (first | refine Le.orR' ?_ ?_ | refine Le.bind' ?_ ?_ | refine Le.ite' ?_ ?_ | refine Le.loopM ?_ | refine Le.altS' ?_ ?_ | exact hfRec | exact hfRec _ | exact Le.rfl' _ | (refine Le.pi2 ?_; intro _) | intro _)
theorem L5 {fRec fRec' : Tr34 → Option Bool} (hfRec : ∀ a0, Le (fRec a0) (fRec' a0)) (p0 : Tr34) : Le (Ed fRec p0) (Ed fRec' p0) := by
  unfold Ed
  repeat' with_reducible (first | refine Le.orR' ?_ ?_ | refine Le.bind' ?_ ?_ | refine Le.ite' ?_ ?_ | refine Le.loopM ?_ | refine Le.altS' ?_ ?_ | exact hfRec | exact hfRec _ | apply Ma | exact Le.rfl' _ | (refine Le.pi2 ?_; intro _) | intro _)
theorem JQ : ∀ (m : Nat) a0, Le (Dz m a0) (Dz (m + 1) a0)
  | 0, a0 => fun _ h => nomatch h
  | m + 1, a0 => L5 (JQ m) a0
theorem Mn {fRec fRec' : Tr34 → Option Int} (hfRec : ∀ a0, Le (fRec a0) (fRec' a0)) (p0 : Tr34) : ∀ s, Le (C1 fRec p0 s) (C1 fRec' p0 s) := by
  rintro ⟨x2, x3⟩
  show Le (C1 fRec p0 (x2, x3)) (C1 fRec' p0 (x2, x3))
  unfold C1
  repeat' with_reducible (first | refine Le.orR' ?_ ?_ | refine Le.bind' ?_ ?_ | refine Le.ite' ?_ ?_ | refine Le.loopM ?_ | refine Le.altS' ?_ ?_ | exact hfRec | exact hfRec _ | exact Le.rfl' _ | (refine Le.pi2 ?_; intro _) | intro _)
theorem Mu {fRec fRec' : Tr34 → Option Int} (hfRec : ∀ a0, Le (fRec a0) (fRec' a0)) (p0 : Tr34) : Le (Em fRec p0) (Em fRec' p0) := by
  unfold Em
  repeat' with_reducible (first | refine Le.orR' ?_ ?_ | refine Le.bind' ?_ ?_ | refine Le.ite' ?_ ?_ | refine Le.loopM ?_ | refine Le.altS' ?_ ?_ | exact hfRec | exact hfRec _ | apply Mn | exact Le.rfl' _ | (refine Le.pi2 ?_; intro _) | intro _)
theorem JK : ∀ (m : Nat) a0, Le (Dy m a0) (Dy (m + 1) a0)
  | 0, a0 => fun _ h => nomatch h
  | m + 1, a0 => Mu (JK m) a0
theorem Mm {fRec fRec' : Tr34 → Option Int} (hfRec : ∀ a0, Le (fRec a0) (fRec' a0)) (p0 : Tr34) : ∀ s, Le (C4 fRec p0 s) (C4 fRec' p0 s) := by
  rintro ⟨x2, x3⟩
  show Le (C4 fRec p0 (x2, x3)) (C4 fRec' p0 (x2, x3))
  unfold C4
  repeat' with_reducible (first | refine Le.orR' ?_ ?_ | refine Le.bind' ?_ ?_ | refine Le.ite' ?_ ?_ | refine Le.loopM ?_ | refine Le.altS' ?_ ?_ | exact hfRec | exact hfRec _ | exact Le.rfl' _ | (refine Le.pi2 ?_; intro _) | intro _)
theorem MD {fRec fRec' : Tr34 → Option Int} (hfRec : ∀ a0, Le (fRec a0) (fRec' a0)) (p0 : Tr34) : Le (Ec fRec p0) (Ec fRec' p0) := by
  unfold Ec
  repeat' with_reducible (first | refine Le.orR' ?_ ?_ | refine Le.bind' ?_ ?_ | refine Le.ite' ?_ ?_ | refine Le.loopM ?_ | refine Le.altS' ?_ ?_ | exact hfRec | exact hfRec _ | apply Mm | exact Le.rfl' _ | (refine Le.pi2 ?_; intro _) | intro _)
theorem JD : ∀ (m : Nat) a0, Le (DA m a0) (DA (m + 1) a0)
  | 0, a0 => fun _ h => nomatch h
  | m + 1, a0 => MD (JD m) a0
theorem LE {fRec fRec' : Tr37 → Option Bool} (hfRec : ∀ a0, Le (fRec a0) (fRec' a0)) (p0 : Tr37) : ∀ s, Le (Ee fRec p0 s) (Ee fRec' p0 s) := by
  intro x4
  unfold Ee
  repeat' with_reducible (first | refine Le.orR' ?_ ?_ | refine Le.bind' ?_ ?_ | refine Le.ite' ?_ ?_ | refine Le.loopM ?_ | refine Le.altS' ?_ ?_ | exact hfRec | exact hfRec _ | exact Le.rfl' _ | (refine Le.pi2 ?_; intro _) | intro _)
theorem MH {fRec fRec' : Tr37 → Option Bool} (hfRec : ∀ a0, Le (fRec a0) (fRec' a0)) (p0 : Tr37) : Le (Es fRec p0) (Es fRec' p0) := by
  unfold Es
  repeat' with_reducible (first | refine Le.orR' ?_ ?_ | refine Le.bind' ?_ ?_ | refine Le.ite' ?_ ?_ | refine Le.loopM ?_ | refine Le.altS' ?_ ?_ | exact hfRec | exact hfRec _ | apply LE | exact Le.rfl' _ | (refine Le.pi2 ?_; intro _) | intro _)
theorem JE : ∀ (m : Nat) a0, Le (Dv m a0) (Dv (m + 1) a0)
  | 0, a0 => fun _ h => nomatch h
  | m + 1, a0 => MH (JE m) a0
theorem LV {fRec fRec' : Tr37 → Option Int} (hfRec : ∀ a0, Le (fRec a0) (fRec' a0)) (p0 : Tr37) : ∀ s, Le (C9 fRec p0 s) (C9 fRec' p0 s) := by
  rintro ⟨x2, x3⟩
  show Le (C9 fRec p0 (x2, x3)) (C9 fRec' p0 (x2, x3))
  unfold C9
  repeat' with_reducible (first | refine Le.orR' ?_ ?_ | refine Le.bind' ?_ ?_ | refine Le.ite' ?_ ?_ | refine Le.loopM ?_ | refine Le.altS' ?_ ?_ | exact hfRec | exact hfRec _ | exact Le.rfl' _ | (refine Le.pi2 ?_; intro _) | intro _)
theorem MA {fRec fRec' : Tr37 → Option Int} (hfRec : ∀ a0, Le (fRec a0) (fRec' a0)) (p0 : Tr37) : Le (Eu fRec p0) (Eu fRec' p0) := by
  unfold Eu
  repeat' with_reducible (first | refine Le.orR' ?_ ?_ | refine Le.bind' ?_ ?_ | refine Le.ite' ?_ ?_ | refine Le.loopM ?_ | refine Le.altS' ?_ ?_ | exact hfRec | exact hfRec _ | apply LV | exact Le.rfl' _ | (refine Le.pi2 ?_; intro _) | intro _)
theorem JO : ∀ (m : Nat) a0, Le (DB m a0) (DB (m + 1) a0)
  | 0, a0 => fun _ h => nomatch h
  | m + 1, a0 => MA (JO m) a0
theorem Me {fRec fRec' : Tr37 → Option Int} (hfRec : ∀ a0, Le (fRec a0) (fRec' a0)) (p0 : Tr37) : ∀ s, Le (C6 fRec p0 s) (C6 fRec' p0 s) := by
  rintro ⟨x4, x5⟩
  show Le (C6 fRec p0 (x4, x5)) (C6 fRec' p0 (x4, x5))
  unfold C6
  repeat' with_reducible (first | refine Le.orR' ?_ ?_ | refine Le.bind' ?_ ?_ | refine Le.ite' ?_ ?_ | refine Le.loopM ?_ | refine Le.altS' ?_ ?_ | exact hfRec | exact hfRec _ | exact Le.rfl' _ | (refine Le.pi2 ?_; intro _) | intro _)
theorem LK {fRec fRec' : Tr37 → Option Int} (hfRec : ∀ a0, Le (fRec a0) (fRec' a0)) (p0 : Tr37) : Le (En fRec p0) (En fRec' p0) := by
  unfold En
  repeat' with_reducible (first | refine Le.orR' ?_ ?_ | refine Le.bind' ?_ ?_ | refine Le.ite' ?_ ?_ | refine Le.loopM ?_ | refine Le.altS' ?_ ?_ | exact hfRec | exact hfRec _ | apply Me | exact Le.rfl' _ | (refine Le.pi2 ?_; intro _) | intro _)
theorem Jz : ∀ (m : Nat) a0, Le (Dt m a0) (Dt (m + 1) a0)
  | 0, a0 => fun _ h => nomatch h
  | m + 1, a0 => LK (Jz m) a0
theorem LJ {fRec fRec' : Tr37 → Option Int} (hfRec : ∀ a0, Le (fRec a0) (fRec' a0)) (p0 : Tr37) : ∀ s, Le (Da fRec p0 s) (Da fRec' p0 s) := by
  rintro ⟨x3, x4⟩
  show Le (Da fRec p0 (x3, x4)) (Da fRec' p0 (x3, x4))
  unfold Da
  repeat' with_reducible (first | refine Le.orR' ?_ ?_ | refine Le.bind' ?_ ?_ | refine Le.ite' ?_ ?_ | refine Le.loopM ?_ | refine Le.altS' ?_ ?_ | exact hfRec | exact hfRec _ | exact Le.rfl' _ | (refine Le.pi2 ?_; intro _) | intro _)
theorem Mx {fRec fRec' : Tr37 → Option Int} (hfRec : ∀ a0, Le (fRec a0) (fRec' a0)) (p0 : Tr37) : Le (Ek fRec p0) (Ek fRec' p0) := by
  unfold Ek
  repeat' with_reducible (first | refine Le.orR' ?_ ?_ | refine Le.bind' ?_ ?_ | refine Le.ite' ?_ ?_ | refine Le.loopM ?_ | refine Le.altS' ?_ ?_ | exact hfRec | exact hfRec _ | apply LJ | exact Le.rfl' _ | (refine Le.pi2 ?_; intro _) | intro _)
theorem JI : ∀ (m : Nat) a0, Le (De m a0) (De (m + 1) a0)
  | 0, a0 => fun _ h => nomatch h
  | m + 1, a0 => Mx (JI m) a0
theorem MP {fRec fRec' : Tr34 → Option (List UInt8)} (hfRec : ∀ a0, Le (fRec a0) (fRec' a0)) (p0 : Tr34) (x5 : List UInt8) : ∀ s, Le (CT fRec p0 x5 s) (CT fRec' p0 x5 s) := by
  rintro ⟨x7, x8⟩
  show Le (CT fRec p0 x5 (x7, x8)) (CT fRec' p0 x5 (x7, x8))
  unfold CT
  repeat' with_reducible (first | refine Le.orR' ?_ ?_ | refine Le.bind' ?_ ?_ | refine Le.ite' ?_ ?_ | refine Le.loopM ?_ | refine Le.altS' ?_ ?_ | exact hfRec | exact hfRec _ | exact Le.rfl' _ | (refine Le.pi2 ?_; intro _) | intro _)
theorem MI {fRec fRec' : Tr34 → Option (List UInt8)} (hfRec : ∀ a0, Le (fRec a0) (fRec' a0)) (p0 : Tr34) : Le (Eh fRec p0) (Eh fRec' p0) := by
  unfold Eh
  repeat' with_reducible (first | refine Le.orR' ?_ ?_ | refine Le.bind' ?_ ?_ | refine Le.ite' ?_ ?_ | refine Le.loopM ?_ | refine Le.altS' ?_ ?_ | exact hfRec | exact hfRec _ | apply MP | exact Le.rfl' _ | (refine Le.pi2 ?_; intro _) | intro _)
theorem JN : ∀ (m : Nat) a0, Le (CX m a0) (CX (m + 1) a0)
  | 0, a0 => fun _ h => nomatch h
  | m + 1, a0 => MI (JN m) a0
theorem LR {fRec fRec' : Tr37 → Option (List UInt8)} (hfRec : ∀ a0, Le (fRec a0) (fRec' a0)) (p0 : Tr37) (x9 : List UInt8) : ∀ s, Le (Cj fRec p0 x9 s) (Cj fRec' p0 x9 s) := by
  rintro ⟨x14, x15⟩
  show Le (Cj fRec p0 x9 (x14, x15)) (Cj fRec' p0 x9 (x14, x15))
  unfold Cj
  repeat' with_reducible (first | refine Le.orR' ?_ ?_ | refine Le.bind' ?_ ?_ | refine Le.ite' ?_ ?_ | refine Le.loopM ?_ | refine Le.altS' ?_ ?_ | exact hfRec | exact hfRec _ | exact Le.rfl' _ | (refine Le.pi2 ?_; intro _) | intro _)
theorem Mg {fRec fRec' : Tr37 → Option (List UInt8)} (hfRec : ∀ a0, Le (fRec a0) (fRec' a0)) (p0 : Tr37) : Le (Ev fRec p0) (Ev fRec' p0) := by
  unfold Ev
  repeat' with_reducible (first | refine Le.orR' ?_ ?_ | refine Le.bind' ?_ ?_ | refine Le.ite' ?_ ?_ | refine Le.loopM ?_ | refine Le.altS' ?_ ?_ | exact hfRec | exact hfRec _ | apply LR | exact Le.rfl' _ | (refine Le.pi2 ?_; intro _) | intro _)
theorem JF : ∀ (m : Nat) a0, Le (Cv m a0) (Cv (m + 1) a0)
  | 0, a0 => fun _ h => nomatch h
  | m + 1, a0 => Mg (JF m) a0
theorem Mv {fRec fRec' : Tr34 → Option Tr25} (hfRec : ∀ a0, Le (fRec a0) (fRec' a0)) (p0 : Tr34) : ∀ s, Le (C3 fRec p0 s) (C3 fRec' p0 s) := by
  rintro ⟨x2, x3⟩
  show Le (C3 fRec p0 (x2, x3)) (C3 fRec' p0 (x2, x3))
  unfold C3
  repeat' with_reducible (first | refine Le.orR' ?_ ?_ | refine Le.bind' ?_ ?_ | refine Le.ite' ?_ ?_ | refine Le.loopM ?_ | refine Le.altS' ?_ ?_ | exact hfRec | exact hfRec _ | exact Le.rfl' _ | (refine Le.pi2 ?_; intro _) | intro _)
theorem Mh {fRec fRec' : Tr34 → Option Tr25} (hfRec : ∀ a0, Le (fRec a0) (fRec' a0)) (p0 : Tr34) : Le (Er fRec p0) (Er fRec' p0) := by
  unfold Er
  repeat' with_reducible (first | refine Le.orR' ?_ ?_ | refine Le.bind' ?_ ?_ | refine Le.ite' ?_ ?_ | refine Le.loopM ?_ | refine Le.altS' ?_ ?_ | exact hfRec | exact hfRec _ | apply Mv | exact Le.rfl' _ | (refine Le.pi2 ?_; intro _) | intro _)
theorem JS : ∀ (m : Nat) a0, Le (Ds m a0) (Ds (m + 1) a0)
  | 0, a0 => fun _ h => nomatch h
  | m + 1, a0 => Mh (JS m) a0
theorem Mz {fRec fRec' : Tr37 → Option Tr28} (hfRec : ∀ a0, Le (fRec a0) (fRec' a0)) (p0 : Tr37) : ∀ s, Le (Dm fRec p0 s) (Dm fRec' p0 s) := by
  rintro ⟨x3, x4⟩
  show Le (Dm fRec p0 (x3, x4)) (Dm fRec' p0 (x3, x4))
  unfold Dm
  repeat' with_reducible (first | refine Le.orR' ?_ ?_ | refine Le.bind' ?_ ?_ | refine Le.ite' ?_ ?_ | refine Le.loopM ?_ | refine Le.altS' ?_ ?_ | exact hfRec | exact hfRec _ | exact Le.rfl' _ | (refine Le.pi2 ?_; intro _) | intro _)
theorem L8 {fRec fRec' : Tr37 → Option Tr28} (hfRec : ∀ a0, Le (fRec a0) (fRec' a0)) (p0 : Tr37) : Le (Eo fRec p0) (Eo fRec' p0) := by
  unfold Eo
  repeat' with_reducible (first | refine Le.orR' ?_ ?_ | refine Le.bind' ?_ ?_ | refine Le.ite' ?_ ?_ | refine Le.loopM ?_ | refine Le.altS' ?_ ?_ | exact hfRec | exact hfRec _ | apply Mz | exact Le.rfl' _ | (refine Le.pi2 ?_; intro _) | intro _)
theorem Jv : ∀ (m : Nat) a0, Le (DW m a0) (DW (m + 1) a0)
  | 0, a0 => fun _ h => nomatch h
  | m + 1, a0 => L8 (Jv m) a0
end Go.Proofs.YtlgjpoapclifbaaDoor
