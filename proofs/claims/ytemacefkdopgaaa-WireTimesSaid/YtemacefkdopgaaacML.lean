/- Plain mathematics: loops, ranges, bytes. Conditions: none. -/
import Derived.Test.YtemacefkdopgaaacOR
namespace Go.Proofs.Ytemacefkdopgaaa
set_option linter.unusedVariables false
set_option linter.unusedSimpArgs false
open Go Go.RowKit
theorem AJ {x : Int} (h : -9223372036854775808 ≤ x ∧ x ≤ 9223372036854775807) : Ay x = x := IntWalk.i64_in x h
theorem EC {σ ε : Type} {step : σ → Option (σ ⊕ ε)} (I : σ → Prop) (μ : σ → Nat) (Post : ε → Prop) (hs : ∀ s, I s → (∃ s', step s = some (.inl s') ∧ I s' ∧ μ s' < μ s) ∨ ∃ e, step s = some (.inr e) ∧ Post e) : ∀ (s : σ), I s → ∃ e, AM step s = some e ∧ Post e := by
  have key : ∀ n s, μ s = n → I s → ∃ e, AM step s = some e ∧ Post e := by
    intro n
    induction n using Nat.strongRecOn with
    | _ n ih =>
      intro s hn hI
      rw [D7]
      rcases hs s hI with ⟨s', h1, h2, h3⟩ | ⟨e, h1, h2⟩
      · rw [h1]
        exact ih (μ s') (hn ▸ h3) s' rfl h2
      · rw [h1]; exact ⟨e, rfl, h2⟩
  exact fun s h => key _ s rfl h
theorem HI {σ ε : Type} {step : σ → Option (σ ⊕ ε)} (I : σ → Prop) (μ : σ → Nat) (e : ε) (hs : ∀ s, I s → (∃ s', step s = some (.inl s') ∧ I s' ∧ μ s' < μ s) ∨ step s = some (.inr e)) (s : σ) (h : I s) : AM step s = some e := by
  obtain ⟨e', h1, rfl⟩ := EC I μ (· = e) (fun s h => (hs s h).imp id fun h => ⟨e, h, rfl⟩) s h
  exact h1
theorem BO {α : Type} {l : List α} {k : Nat} {x : α} (h : l[k]? = some x) : ix l (k : Int) = some x := by
  unfold ix; rw [if_pos (by omega)]; simpa using h
theorem DK {α : Type} {l m : List α} (h : l.length + m.length ≤ 1000000000) : app l m = some (l ++ m) := by unfold app; rw [if_pos h]
theorem FQ {α : Type} {l : List α} {lo hi : Int} (h : 0 ≤ lo ∧ lo ≤ hi ∧ hi ≤ l.length) : C3 l lo hi = some ((l.take hi.toNat).drop lo.toNat) := by unfold C3; rw [if_pos h]
def be : Nat → Int → List UInt8
  | 0, _ => []
  | w + 1, n => be w (n / 256) ++ [UInt8.ofNat (n % 256).toNat]
theorem Hw {α : Type} {Q : List α → Prop} (h0 : Q []) (hs : ∀ l a, Q l → Q (l ++ [a])) : ∀ l, Q l := by
  have key : ∀ n (l : List α), l.length = n → Q l := by
    intro n
    induction n with
    | zero => intro l hl; rw [List.eq_nil_of_length_eq_zero hl]; exact h0
    | succ n ih =>
      intro l hl
      have hne : l ≠ [] := by intro h; rw [h] at hl; simp at hl
      rw [← List.dropLast_concat_getLast hne]
      exact hs _ _ (ih _ (by simp [hl]))
  exact fun l => key _ l rfl
def val (l : List UInt8) : Int := l.foldl (fun n b => n * 256 + (b.toNat : Int)) 0
end Go.Proofs.Ytemacefkdopgaaa
