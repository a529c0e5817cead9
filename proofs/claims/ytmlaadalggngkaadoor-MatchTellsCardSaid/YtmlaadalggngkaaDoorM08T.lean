/- Layer 8: the document's answers. Conditions: none. -/
import Derived.Test.YtmlaadalggngkaaDoorM08W
import Derived.Test.YtmlaadalggngkaaDoorM08R
namespace Go.Proofs.YtmlaadalggngkaaDoor
set_option linter.unusedVariables false
set_option linter.unusedSimpArgs false
open Go Go.RowKit
def ofM (f v : Int) : Mt := if 0 ≤ f ∧ f < 4 ∧ 0 ≤ v ∧ v ≤ r07_Top f then (-1, put4 (0, 0, 0, 0) f v, put4 (0, 0, 0, 0) f (r07_Top f)) else match_Any
theorem of_eq (f v : Int) : match_Of f v = some (ofM f v) := by
  unfold match_Of ofM
  rw [top_eq]
  by_cases h : 0 ≤ f ∧ f < 4 ∧ 0 ≤ v ∧ v ≤ r07_Top f
  · obtain ⟨x, hx, _⟩ := ix4' (0, 0, 0, 0) ⟨h.1, h.2.1⟩
    have hx' : ix ([match_Any.2.1.1, match_Any.2.1.2.1, match_Any.2.1.2.2.1, match_Any.2.1.2.2.2] : List Int) f = some x := hx
    have hx2 : ix ([match_Any.2.2.1, match_Any.2.2.2.1, match_Any.2.2.2.2.1, match_Any.2.2.2.2.2] : List Int) f = some x := hx
    rw [if_neg (by omega), if_neg (by omega), if_neg (by omega)]
    simp only [Option.bind_some]
    rw [decide_eq_false (by omega), if_neg (by decide), hx', hx2, if_pos h]; rfl
  · have hb : (if f < 0 then some true else (if 4 ≤ f then some true else (if v < 0 then some true else (some (r07_Top f)).bind fun x2 => some (decide (x2 < v))))) = some true := by
      by_cases c1 : f < 0
      · rw [if_pos c1]
      · rw [if_neg c1]
        by_cases c2 : 4 ≤ f
        · rw [if_pos c2]
        · rw [if_neg c2]
          by_cases c3 : v < 0
          · rw [if_pos c3]
          · rw [if_neg c3, Option.bind_some, decide_eq_true (by
              refine Classical.byContradiction fun hn => h ⟨by omega, by omega, by omega, by omega⟩)]
    rw [hb, if_neg h]; rfl
theorem rof_eq (f v : Int) : r08_Of f v = some (ofM f v) := by
  unfold r08_Of ofM
  by_cases h : 0 ≤ f ∧ f < 4 ∧ 0 ≤ v ∧ v ≤ r07_Top f
  · obtain ⟨x, hx, _⟩ := ix4' (0, 0, 0, 0) ⟨h.1, h.2.1⟩
    have hx' : ix ([0, 0, 0, 0] : List Int) f = some x := hx
    rw [if_pos (by simpa using h), hx', if_pos h]; rfl
  · rw [if_neg (by simpa using h), if_neg h]; rfl
theorem MatchTells_true (p0 : Int × (Int × Int × Int × Int) × (Int × Int × Int × Int)) (ok0 : okP (fun n => (Lit.int .i64 n).wf = true) (okP (okP (fun n => (Lit.int .i64 n).wf = true) (okP (fun n => (Lit.int .i64 n).wf = true) (okP (fun n => (Lit.int .i64 n).wf = true) (fun n => (Lit.int .i64 n).wf = true)))) (okP (fun n => (Lit.int .i64 n).wf = true) (okP (fun n => (Lit.int .i64 n).wf = true) (okP (fun n => (Lit.int .i64 n).wf = true) (fun n => (Lit.int .i64 n).wf = true))))) p0)
    (p1 : Mt) {A : Prop} (_ : A) (p2 : Int) {B : Prop} (_ : B) (p3 : P4) {C : Prop} (_ : C) (p4 : Int) {D : Prop} (_ : D) (p5 : Int) {E : Prop} (_ : E) : L08_MatchTells p0 p1 p2 p3 p4 p5 = some true := by
  have hi : I4 p0.2.1 := ⟨wf_i64 ok0.2.1.1, wf_i64 ok0.2.1.2.1, wf_i64 ok0.2.1.2.2.1, wf_i64 ok0.2.1.2.2.2⟩
  unfold L08_MatchTells
  rw [guard8, right_eq hi, rright8_eq p0, of_eq, rof_eq, rof_eq, awake08]
  simp only [Option.bind_some]
  rw [if_neg (by simp), if_neg (by simp), show ofM (-1) 0 = match_Any from rfl]
  simp only [Option.bind_some]
  rw [if_neg (by simp)]
  by_cases hg : Good p0 ∧ Good p1 ∧ Ok4 p3
  · have hg' := hg
    obtain ⟨ha, hb, hp⟩ := hg
    have hp := ok_bys hp
    rw [decide_eq_true hg', if_neg (by decide), meet_eq ha hb, rmeet_eq ha hb, hits_eq ha p2 hp, rhits_eq ha p2 hp, within_eq ha hb, rwithin_eq ha hb, asked_eq ha, rasked_eq ha, code_eq ha, rcode_eq ha, text_eq8 ha, rtext_eq8 ha]
    simp
  · rw [decide_eq_false hg, if_pos (show (!false) = true from rfl)]
end Go.Proofs.YtmlaadalggngkaaDoor
