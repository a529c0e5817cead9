/- Layer 25: the document's walks, good routes. Conditions: none. -/
import Derived.Test.YthhoflfhegfmcaacM21A
import Derived.Test.YthhoflfhegfmcaacA7
namespace Go.Proofs.Ythhoflfhegfmcaa
set_option linter.unusedVariables false
set_option linter.unusedSimpArgs false
open Go Go.RowKit
instance home_dec (t : Tp) (r : Rt) (h sw : Int) : Decidable (Od t r h sw) := inferInstanceAs (Decidable (_ = _))
theorem RL {t : Tp} (hok : La t) : ∃ s, Dl t = some s ∧ 0 ≤ s ∧ s ≤ 1000 := by
  have h8 := hok.1
  obtain ⟨s, h1, h2⟩ := Cl t.2.1.length (fun (s : Int) (k : Nat) => (s, (k : Int))) (Cy t) id (fun s k => 0 ≤ s ∧ s ≤ 1000)
    (fun s k hk hI => by
      have hl := (hok.2.1 _ (List.getElem_mem hk)).2.2.2.1
      refine ⟨max s t.2.1[k].2.2.2.2.2, ?_, by omega⟩
      rw [Cy, if_pos (by omega), AV (List.getElem?_eq_getElem hk), Option.bind_some, AL (by omega)]; rfl)
    (fun s _ => by rw [Cy, if_neg (by omega)]; rfl) 0 (by omega)
  have e1 : An (Cy t) (0, 0) = some s := h2
  exact ⟨s, by unfold Dl; rw [e1]; rfl, h1⟩
noncomputable def Hd (t : Tp) : Int := t.1 * (Dl t).getD 0
theorem OD {t : Tp} (hok : La t) : FB t = some (Hd t) ∧ 0 ≤ Hd t ∧ Hd t ≤ 8000 := by
  obtain ⟨s, e, h0, h1⟩ := RL hok
  have h8 := hok.1
  have hL : Hd t = t.1 * s := by unfold Hd; rw [e]; rfl
  have b1 : 0 ≤ t.1 * s := Int.mul_nonneg (by omega) h0
  have b2 : t.1 * s ≤ 8 * 1000 := Int.mul_le_mul (by omega) h1 h0 (by omega)
  rw [hL]
  refine ⟨?_, b1, by omega⟩
  unfold FB
  rw [e, Option.bind_some, AL (by omega)]
theorem Tv {t : Tp} (hok : La t) {miss : Int} (hm : 0 ≤ miss ∧ miss ≤ 1048576) : FL t miss = some (2 * miss + Hd t + 1) := by
  obtain ⟨h1, h2, h3⟩ := OD hok
  unfold FL
  rw [h1, Option.bind_some, AL (x := 2 * miss) (by omega), AL (x := 2 * miss + Hd t) (by omega), AL (by omega)]
theorem Pd (t : Tp) (r : Rt) (hl : r.length ≤ 9223372036854775807) : Ge t r = some (decide ((∀ row ∈ r, row.length ≤ 12) ∧ t.2.1.length ≤ 30 ∧ t.2.2.length ≤ 12 ∧ r.length ≤ 12)) := by
  unfold Ge
  rw [Hs r hl (E5 r) (fun row => ¬ row.length ≤ 12) false (fun k hk => by
    rw [E5, if_pos (by omega), AV (List.getElem?_eq_getElem hk), Option.bind_some]
    by_cases c : r[k].length ≤ 12
    · rw [if_neg (by omega), if_neg (fun h => h c)]
    · rw [if_pos (by omega), if_pos c]) (by rw [E5, if_neg (by omega)])]
  by_cases c : ∃ row ∈ r, ¬ row.length ≤ 12
  · rw [if_pos c]
    show some false = _
    rw [decide_eq_false (fun h => by obtain ⟨row, hm, hn⟩ := c; exact hn (h.1 row hm))]
  · rw [if_neg c]
    show some _ = some _
    congr 1
    rw [Bool.eq_iff_iff]
    simp only [Bool.and_eq_true, decide_eq_true_eq]
    constructor
    · intro h
      exact ⟨fun row hm => Decidable.not_not.1 fun hn => c ⟨row, hm, hn⟩, by omega⟩
    · intro h; omega
end Go.Proofs.Ythhoflfhegfmcaa
