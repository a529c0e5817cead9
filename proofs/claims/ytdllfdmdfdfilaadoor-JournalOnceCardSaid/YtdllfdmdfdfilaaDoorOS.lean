/- How long a slice that came in may be: what the reach of a claim says. Conditions: none. -/
import Derived.Test.YtdllfdmdfdfilaaDoorOA
import Derived.SizedLaws
namespace Go.Proofs.YtdllfdmdfdfilaaDoor
set_option linter.unusedVariables false
set_option linter.unusedSimpArgs false
open Go Go.RowKit
theorem sized_len {H : Type} {enc : TypeId × Value → H} {P : Program} {W : World} {base : Nat} {sp : Nat → Bool} {fuel : Nat} {t e : TypeId} {v : Value} {d : DataW H} {ps : List MemPlace} {α : Type} {r : Rp α} {l : List α} {ts : List TypeId} {ds : List (DataW H)} {j : Nat}
    (hsz : (DataW.weightsEach P ts ds).all (· ≤ reachBytes) = true) (ht : ts[j]? = some t) (hd : ds[j]? = some d) (hu : P.underlying t = some (.slice e)) (hf : DataW.trod enc P W base sp true fuel t [v] = some (d, ps)) (hr : Sl W any r v l) : l.length * P.bytesOf e ≤ reachBytes := by
  rcases hr with ⟨ad, cap, rfl, rfl⟩ | ⟨b, off, cap, xs, rfl, hc, _⟩
  · simp
  · cases fuel with
    | zero => simp [DataW.trod] at hf
    | succ fuel =>
      unfold DataW.trod at hf
      rw [hu] at hf
      simp only at hf
      split at hf
      · obtain ⟨elems, h4, h5⟩ := Option.bind_eq_some_iff.1 hf
        obtain ⟨rest, h6, h7⟩ := Option.map_eq_some_iff.1 h5
        have hd' := (Prod.mk.inj h7).1
        have hs := sized_slice hsz ht (by rw [hd, ← hd']) hu
        rw [List.length_map, List.length_map] at hs
        have hl := (mapM_get h4).1
        rw [List.length_range] at hl
        exact Nat.le_trans (Nat.mul_le_mul_right _ (by omega)) hs
      · cases hf
end Go.Proofs.YtdllfdmdfdfilaaDoor
