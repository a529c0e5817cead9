/- Plain mathematics: loops, ranges, bytes. Conditions: none. -/
import Derived.Test.YthmpfhjdodfchaaOR
namespace Go.Proofs.Ythmpfhjdodfchaa
set_option linter.unusedVariables false
set_option linter.unusedSimpArgs false
open Go Go.RowKit

theorem w64_id {x : Int} (h : -9223372036854775808 ≤ x ∧ x ≤ 9223372036854775807) : w64 x = x := IntWalk.i64_in x h
theorem w64_def (x : Int) : w64 x = if 9223372036854775808 ≤ x % 18446744073709551616 then x % 18446744073709551616 - 18446744073709551616 else x % 18446744073709551616 := by
  show IntKind.i64.wrap x = _
  simp [IntKind.wrap, IntKind.bits, IntKind.signed]
theorem w64_bd (x : Int) : -9223372036854775808 ≤ w64 x ∧ w64 x ≤ 9223372036854775807 := by
  rw [w64_def]; split <;> omega
theorem w64_mod (x : Int) : (w64 x - x) % 18446744073709551616 = 0 := by
  rw [w64_def]; split <;> omega
theorem w64_congr {x y : Int} (h : (x - y) % 18446744073709551616 = 0) : w64 x = w64 y := by
  have h1 := w64_mod x
  have h2 := w64_mod y
  have h3 := w64_bd x
  have h4 := w64_bd y
  omega
theorem wu8 (x : Int) : IntKind.u8.wrap x = x % 256 := by
  unfold IntKind.wrap
  simp only [IntKind.bits, IntKind.signed]
  simp
theorem wu32 (x : Int) : IntKind.u32.wrap x = x % 4294967296 := by
  unfold IntKind.wrap
  simp only [IntKind.bits, IntKind.signed]
  simp

theorem wf_i64 {n : Int} (h : (Lit.int .i64 n).wf = true) : -9223372036854775808 ≤ n ∧ n ≤ 9223372036854775807 := by
  simp only [Lit.wf, IntKind.has] at h
  simpa [IntKind.min, IntKind.max, IntKind.bits, IntKind.signed] using h

/-- A loop that goes as its measure says. -/
theorem loopW_ex {σ ε : Type} {step : σ → Option (σ ⊕ ε)} (I : σ → Prop) (μ : σ → Nat) (Post : ε → Prop) (hs : ∀ s, I s → (∃ s', step s = some (.inl s') ∧ I s' ∧ μ s' < μ s) ∨ ∃ e, step s = some (.inr e) ∧ Post e) : ∀ (s : σ), I s → ∃ e, loopW step s = some e ∧ Post e := by
  have key : ∀ n s, μ s = n → I s → ∃ e, loopW step s = some e ∧ Post e := by
    intro n
    induction n using Nat.strongRecOn with
    | _ n ih =>
      intro s hn hI
      rw [loopW_eq]
      rcases hs s hI with ⟨s', h1, h2, h3⟩ | ⟨e, h1, h2⟩
      · rw [h1]
        exact ih (μ s') (hn ▸ h3) s' rfl h2
      · rw [h1]; exact ⟨e, rfl, h2⟩
  exact fun s h => key _ s rfl h
theorem loopW_is {σ ε : Type} {step : σ → Option (σ ⊕ ε)} (I : σ → Prop) (μ : σ → Nat) (e : ε) (hs : ∀ s, I s → (∃ s', step s = some (.inl s') ∧ I s' ∧ μ s' < μ s) ∨ step s = some (.inr e)) (s : σ) (h : I s) : loopW step s = some e := by
  obtain ⟨e', h1, rfl⟩ := loopW_ex I μ (· = e) (fun s h => (hs s h).imp id fun h => ⟨e, h, rfl⟩) s h
  exact h1
theorem ix_nat {α : Type} {l : List α} {k : Nat} {x : α} (h : l[k]? = some x) : ix l (k : Int) = some x := by
  unfold ix; rw [if_pos (by omega)]; simpa using h
theorem ix_getD {α : Type} {l : List α} {i : Int} (h0 : 0 ≤ i) (h1 : i < l.length) : ∃ x, ix l i = some x ∧ l[i.toNat]? = some x := by
  have : i.toNat < l.length := by omega
  exact ⟨l[i.toNat], by unfold ix; rw [if_pos h0]; simp [this], by simp [this]⟩
theorem app_is {α : Type} {l m : List α} (h : l.length + m.length ≤ 1000000000) : app l m = some (l ++ m) := by unfold app; rw [if_pos h]
theorem subl_is {α : Type} {l : List α} {lo hi : Int} (h : 0 ≤ lo ∧ lo ≤ hi ∧ hi ≤ l.length) : subl l lo hi = some ((l.take hi.toNat).drop lo.toNat) := by unfold subl; rw [if_pos h]
theorem mk_is {α : Type} {n : Int} {z : α} (h : 0 ≤ n ∧ n ≤ 1000000000) : mk n z = some (List.replicate n.toNat z) := by unfold mk; rw [if_pos h]
theorem shN_is {v y : Int} (h : 0 ≤ y) : shN v y = some v := by unfold shN; rw [if_pos h]

/-! ### Bytes -/
/-- The last w bytes of a number, the greatest first. -/
def be : Nat → Int → List UInt8
  | 0, _ => []
  | w + 1, n => be w (n / 256) ++ [UInt8.ofNat (n % 256).toNat]
theorem be_len : ∀ (w : Nat) (n : Int), (be w n).length = w
  | 0, _ => rfl
  | w + 1, n => by simp [be, be_len w]
theorem be_add : ∀ (b a : Nat) (n : Int), be (a + b) n = be a (n / 256 ^ b) ++ be b n
  | 0, a, n => by simp [be]
  | b + 1, a, n => by
    show be (a + b) (n / 256) ++ _ = _
    rw [be_add b a (n / 256), Int.ediv_ediv_of_nonneg (by decide), List.append_assoc]
    rw [show (256 : Int) ^ (b + 1) = 256 * 256 ^ b by rw [Int.pow_succ, Int.mul_comm]]
    rfl
theorem be_one (n : Int) : be 1 n = [UInt8.ofNat (n % 256).toNat] := rfl
theorem be_head (w : Nat) (n : Int) : be (w + 1) n = UInt8.ofNat ((n / 256 ^ w) % 256).toNat :: be w n := by
  rw [Nat.add_comm, be_add]; rfl
theorem be_get : ∀ (w : Nat) (n : Int) (i : Nat), i < w → (be w n)[i]? = some (UInt8.ofNat ((n / 256 ^ (w - 1 - i)) % 256).toNat)
  | 0, _, _, h => by omega
  | w + 1, n, 0, _ => by rw [be_head]; simp
  | w + 1, n, i + 1, h => by
    rw [be_head, List.getElem?_cons_succ, be_get w n i (by omega), show w + 1 - 1 - (i + 1) = w - 1 - i by omega]
theorem snoc_ind {α : Type} {Q : List α → Prop} (h0 : Q []) (hs : ∀ l a, Q l → Q (l ++ [a])) : ∀ l, Q l := by
  have key : ∀ n (l : List α), l.length = n → Q l := by
    intro n
    induction n with
    | zero => intro l hl; rw [List.eq_nil_of_length_eq_zero hl]; exact h0
    | succ n ih =>
      intro l hl
      have hne : l ≠ [] := by intro h; rw [h] at hl; simp at hl
      rw [← List.dropLast_concat_getLast hne]
      exact hs _ _ (ih _ (by simp [hl]))
  exact fun l => key _ l rfl
theorem pow_pos256 (m : Nat) : (0 : Int) < 256 ^ m := Int.pow_pos (by decide)
theorem emod_split (n : Int) (m : Int) (hm : 0 < m) : n % (256 * m) = n / 256 % m * 256 + n % 256 := by
  have h1 := Int.emod_nonneg (n / 256) (show m ≠ 0 by omega)
  have h2 := Int.emod_lt_of_pos (n / 256) hm
  have e : n = (n / 256 % m * 256 + n % 256) + 256 * m * (n / 256 / m) := by
    have h3 := Int.mul_ediv_add_emod (n / 256) m
    have h4 := Int.mul_ediv_add_emod n 256
    rw [Int.mul_assoc]
    omega
  have h5 : n % (256 * m) = ((n / 256 % m * 256 + n % 256) + 256 * m * (n / 256 / m)) % (256 * m) := by rw [← e]
  rw [h5, Int.add_mul_emod_self_left]
  exact Int.emod_eq_of_lt (by omega) (by omega)
/-- The number of bytes. -/
def val (l : List UInt8) : Int := l.foldl (fun n b => n * 256 + (b.toNat : Int)) 0
theorem val_snoc (l : List UInt8) (b : UInt8) : val (l ++ [b]) = val l * 256 + (b.toNat : Int) := by simp [val]
theorem val_bd (l : List UInt8) : 0 ≤ val l ∧ val l < 256 ^ l.length := by
  refine snoc_ind (Q := fun l => 0 ≤ val l ∧ val l < 256 ^ l.length) (by simp [val]) (fun l b ih => ?_) l
  · rw [val_snoc, List.length_append, List.length_singleton, Int.pow_succ]
    have hb : (b.toNat : Int) < 256 := by have := b.toNat_lt; omega
    omega
theorem val_be : ∀ (w : Nat) (n : Int), val (be w n) = n % 256 ^ w
  | 0, n => by simp [be, val, Int.emod_one]
  | w + 1, n => by
    rw [be, val_snoc, val_be w]
    have h1 : ((UInt8.ofNat (n % 256).toNat).toNat : Int) = n % 256 := by
      have : (n % 256).toNat < 256 := by omega
      rw [UInt8.toNat_ofNat_of_lt' (by simpa using this)]
      omega
    rw [h1, show (256 : Int) ^ (w + 1) = 256 * 256 ^ w by rw [Int.pow_succ, Int.mul_comm]]
    rw [emod_split n _ (pow_pos256 w)]
theorem be_val : ∀ (l : List UInt8), be l.length (val l) = l := by
  refine snoc_ind rfl fun l b ih => ?_
  · rw [List.length_append, List.length_singleton, val_snoc]
    have hb : (b.toNat : Int) < 256 := by have := b.toNat_lt; omega
    have h1 : (val l * 256 + (b.toNat : Int)) / 256 = val l := by omega
    have h2 : (val l * 256 + (b.toNat : Int)) % 256 = b.toNat := by omega
    rw [be, h1, h2, ih]
    simp

theorem or_step (x : Int) (b : Nat) (hb : b < 256) : orI .i64 (shlI .i64 x 8) (b : Int) = w64 (x * 256 + b) := by
  have h1 : shlI .i64 x 8 = w64 (x * 256) := rfl
  rw [h1]
  show IntKind.i64.wrap ((BitVec.ofInt 64 (w64 (x * 256)) ||| BitVec.ofInt 64 (b : Int)).toNat : Int) = _
  rw [BitVec.toNat_or, BitVec.toNat_ofInt, BitVec.toNat_ofInt]
  have hm := w64_mod (x * 256)
  obtain ⟨m, hm2⟩ : ∃ m : Nat, (w64 (x * 256) % ((2 ^ 64 : Nat) : Int)).toNat = 2 ^ 8 * m := by
    refine ⟨((w64 (x * 256) % 18446744073709551616) / 256).toNat, ?_⟩
    show (w64 (x * 256) % 18446744073709551616).toNat = _
    omega
  have hb2 : ((b : Int) % ((2 ^ 64 : Nat) : Int)).toNat = b := by
    show ((b : Int) % 18446744073709551616).toNat = b
    omega
  rw [hm2, hb2, ← Nat.two_pow_add_eq_or_of_lt (by simpa using hb)]
  refine w64_congr ?_
  have hm3 : (w64 (x * 256) % 18446744073709551616).toNat = 2 ^ 8 * m := hm2
  omega
theorem w64_step (x : Int) (b : Nat) (hb : b < 256) : w64 (w64 (x * 256) + w64 (b : Int)) = w64 (x * 256 + b) := by
  refine w64_congr ?_
  have h1 := w64_mod (x * 256)
  have h2 := w64_mod (b : Int)
  omega

/-- A loop over the elements of a list. -/
theorem loop_fold {α β : Type} (l : List α) (g : β → α → β) (step : β × Int → Option ((β × Int) ⊕ β)) (hl : l.length ≤ 1000000000)
    (hs : ∀ x i, step (x, i) = if i < (l.length : Int) then (ix l i).bind fun c => some (.inl (g x c, w64 (i + 1))) else some (.inr x)) (x0 : β) : loopW step (x0, 0) = some (l.foldl g x0) := by
  refine loopW_is (fun s => ∃ k, k ≤ l.length ∧ s = ((l.take k).foldl g x0, (k : Int))) (fun s => l.length - s.2.toNat) _ ?_ _ ⟨0, by omega, by simp⟩
  rintro s ⟨k, hk, rfl⟩
  by_cases hkl : k < l.length
  · left
    refine ⟨((l.take (k + 1)).foldl g x0, ((k + 1 : Nat) : Int)), ?_, ⟨k + 1, by omega, rfl⟩, by simp; omega⟩
    rw [hs, if_pos (by omega), ix_nat (List.getElem?_eq_getElem hkl), Option.bind_some, w64_id (by omega), List.take_succ_eq_append_getElem hkl, List.foldl_append]
    rfl
  · right
    have : k = l.length := by omega
    subst this
    rw [hs, if_neg (by omega), List.take_length]
theorem fold_w64 (l : List UInt8) : l.foldl (fun x (c : UInt8) => w64 (x * 256 + (c.toNat : Int))) 0 = w64 (val l) := by
  refine snoc_ind (Q := fun l : List UInt8 => l.foldl (fun x (c : UInt8) => w64 (x * 256 + (c.toNat : Int))) 0 = w64 (val l)) (by simp [val, w64_id (x := 0) (by decide)]) (fun l b ih => ?_) l
  rw [List.foldl_append, List.foldl_cons, List.foldl_nil, ih, val_snoc]
  refine w64_congr ?_
  have h1 := w64_mod (val l)
  omega
end Go.Proofs.Ythmpfhjdodfchaa
