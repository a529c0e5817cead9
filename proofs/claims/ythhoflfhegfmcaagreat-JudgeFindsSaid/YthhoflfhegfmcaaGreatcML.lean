/- Plain mathematics: loops, ranges, bytes. Conditions: none. -/
import Derived.Test.YthhoflfhegfmcaaGreatcOR
namespace Go.Proofs.YthhoflfhegfmcaaGreat
set_option linter.unusedVariables false
set_option linter.unusedSimpArgs false
open Go Go.RowKit
theorem Aj {x : Int} (h : -9223372036854775808 ≤ x ∧ x ≤ 9223372036854775807) : An x = x := IntWalk.i64_in x h
theorem cB (x : Int) : IntKind.u8.wrap x = x % 256 := by
  unfold IntKind.wrap
  simp only [IntKind.bits, IntKind.signed]
  simp
theorem WK (x : Int) : IntKind.u32.wrap x = x % 4294967296 := by
  unfold IntKind.wrap
  simp only [IntKind.bits, IntKind.signed]
  simp
theorem Ur {σ ε : Type} {step : σ → Option (σ ⊕ ε)} (I : σ → Prop) (μ : σ → Nat) (Post : ε → Prop) (hs : ∀ s, I s → (∃ s', step s = some (.inl s') ∧ I s' ∧ μ s' < μ s) ∨ ∃ e, step s = some (.inr e) ∧ Post e) : ∀ (s : σ), I s → ∃ e, Aq step s = some e ∧ Post e := by
  have key : ∀ n s, μ s = n → I s → ∃ e, Aq step s = some e ∧ Post e := by
    intro n
    induction n using Nat.strongRecOn with
    | _ n ih =>
      intro s hn hI
      rw [Jj]
      rcases hs s hI with ⟨s', h1, h2, h3⟩ | ⟨e, h1, h2⟩
      · rw [h1]
        exact ih (μ s') (hn ▸ h3) s' rfl h2
      · rw [h1]; exact ⟨e, rfl, h2⟩
  exact fun s h => key _ s rfl h
theorem BA {α : Type} {l : List α} {k : Nat} {x : α} (h : l[k]? = some x) : ix l (k : Int) = some x := by
  unfold ix; rw [if_pos (by omega)]; simpa using h
theorem P5 {α : Type} {l : List α} {i : Int} (h0 : 0 ≤ i) (h1 : i < l.length) : ∃ x, ix l i = some x ∧ l[i.toNat]? = some x := by
  have : i.toNat < l.length := by omega
  exact ⟨l[i.toNat], by unfold ix; rw [if_pos h0]; simp [this], by simp [this]⟩
theorem EC {α : Type} {l m : List α} (h : l.length + m.length ≤ 1000000000) : HN l m = some (l ++ m) := by unfold HN; rw [if_pos h]
theorem IJ {α : Type} {l : List α} {lo hi : Int} (h : 0 ≤ lo ∧ lo ≤ hi ∧ hi ≤ l.length) : Jz l lo hi = some ((l.take hi.toNat).drop lo.toNat) := by unfold Jz; rw [if_pos h]
theorem TM {α : Type} {n : Int} {z : α} (h : 0 ≤ n ∧ n ≤ 1000000000) : mk n z = some (List.replicate n.toNat z) := by unfold mk; rw [if_pos h]
theorem Q7 {v y : Int} (h : 0 ≤ y) : Vh v y = some v := by unfold Vh; rw [if_pos h]
def be : Nat → Int → List UInt8
  | 0, _ => []
  | w + 1, n => be w (n / 256) ++ [UInt8.ofNat (n % 256).toNat]
def val (l : List UInt8) : Int := l.foldl (fun n b => n * 256 + (b.toNat : Int)) 0
end Go.Proofs.YthhoflfhegfmcaaGreat
