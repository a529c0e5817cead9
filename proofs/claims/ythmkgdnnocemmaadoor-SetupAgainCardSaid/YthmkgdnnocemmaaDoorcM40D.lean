/- Layer 40: SetupAgain; what is told is parsed. Conditions: none. -/
import Derived.Test.YthmkgdnnocemmaaDoorcM40C
import Derived.Test.YthmkgdnnocemmaaDoorcEV
namespace Go.Proofs.YthmkgdnnocemmaaDoor
set_option linter.unusedVariables false
set_option linter.unusedSimpArgs false
open Go Go.RowKit
theorem J6 : Da GL GL = some true := by
  have e1 : AR ([] : List Lk) [] = some true := by
    unfold AR
    rw [if_neg (fun h => h rfl), Cd (e := .inl ()) (by rw [Bl, if_neg (by decide)])]; rfl
  have e2 : AQ ([] : List (Int × Int)) [] = some true := by
    unfold AQ
    rw [if_neg (fun h => h rfl), Cd (e := .inl ()) (by rw [Bj, if_neg (by decide)])]; rfl
  have e3 : Aq ([] : List (List Int)) [] = some true := by
    unfold Aq
    rw [if_neg (fun h => h rfl), Cd (e := .inl ()) (by rw [AD, if_neg (by decide)])]; rfl
  have e4 : BM ([] : List Int) [] = some true := by
    unfold BM
    rw [if_neg (fun h => h rfl), Cd (e := .inl ()) (by rw [B4, if_neg (by decide)])]; rfl
  unfold Da
  dsimp only
  rw [if_pos rfl, e1, Option.bind_some, if_pos rfl, e2, Option.bind_some, if_pos rfl, e3, Option.bind_some, if_pos rfl, e4, Option.bind_some, if_pos rfl]
  rfl
theorem GQ (p0 : List UInt8) {A : Prop} (_ : A) : DA p0 = some true := by
  unfold DA
  by_cases c : 2000 < (p0.length : Int)
  · rw [if_pos c, Iz]; rfl
  rw [if_neg c]
  rcases LL (s := p0) (by omega) with ⟨x, h1, h2, h3⟩ | ⟨n, h1, h2⟩
  · have ht := LU h3 (by rw [← h2]; omega)
    rw [h1, Option.bind_some]
    dsimp only
    rw [if_neg (fun h => h rfl), if_pos rfl, ht, Option.bind_some, if_pos h2.symm, Iz]; rfl
  · rw [h2, Option.bind_some]
    dsimp only
    rw [if_pos (by decide), if_pos h1, show Da _ _ = some true from J6, Option.bind_some, if_pos rfl, Iz]; rfl
theorem Iv.len {n : Int} {s : List UInt8} (h : Iv n s) : s.length ≤ 100000 := by unfold Iv at h; omega
end Go.Proofs.YthmkgdnnocemmaaDoor
