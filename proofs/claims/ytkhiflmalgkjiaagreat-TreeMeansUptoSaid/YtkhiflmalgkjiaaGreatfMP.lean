/- Layer 31: what the library's sort is of. Conditions: none. -/
import Derived.Test.YtkhiflmalgkjiaaGreatfLP
import Derived.Test.YtkhiflmalgkjiaaGreatfOT
import Derived.Sort.AssemblyPlain
import Derived.Sort.LotD4
import Derived.Sort.LotD5
set_option linter.unusedVariables false
set_option linter.unusedSimpArgs false
open Go Go.RowKit
namespace Go.Proofs.YtkhiflmalgkjiaaGreat
open Go.Sort
section
variable {α : Type} [Inhabited α]
theorem Hd {d : Array α} {i : Nat} (h : i < d.size) : ix d.toList (i : Int) = some d[i]! := A9 (by rw [Array.getElem?_toList,Array.getElem?_eq_getElem h,getElem!_pos d i h])
omit [Inhabited α] in
theorem Lm (d : Array α) (i : Nat) (x : α) : AU d.toList (i : Int) x = (d.setIfInBounds i x).toList := by unfold AU; simp
theorem KH (lt : α → α → Bool) (a : Nat) : ∀ (j : Nat) (d : Array α),(insInner lt a j d).size = d.size
  | 0,d => rfl
  | j + 1,d => by
    rw [insInner]
    split
    · rw [KH lt a j,size_swp]
    · rfl
theorem Z9 {β : Type} {g : Nat → Option β} (hm : ∀ n r,g n = some r → g (n + 1) = some r) {n : Nat} {r : β} (h : g n = some r) : GX g = some r := by
  have up : ∀ (d m : Nat) (q : β),g m = some q → g (m + d) = some q := fun d => by
    induction d with
    | zero => exact fun m q h => h
    | succ d ih => exact fun m q h => hm _ _ (ih m q h)
  refine Yw n h fun m q hq => ?_
  have h1 := up m n r h
  have h2 := up n m q hq
  rw [Nat.add_comm] at h2
  exact Option.some.inj (h2.symm.trans h1)
end
theorem dJ {j : Nat} (h0 : 0 < j) (h : j ≤ 1000000000) : w64 ((j : Int) - 1) = ((j - 1 : Nat) : Int) := by rw [Ah (by omega)]; omega
theorem fJ {j : Nat} (h : j ≤ 1000000000) : w64 ((j : Int) + 1) = ((j + 1 : Nat) : Int) := by rw [Ah (by omega)]; omega
section
variable {α : Type} [Inhabited α]
theorem Vy {S : Int → Option (Int ⊕ Int)} (p : α → Bool) (d : Array α) (j : Nat)
    (hS : ∀ i : Nat,i ≤ j → S (i : Int) = some (if p d[i]! = true then .inl ((i + 1 : Nat) : Int) else .inr (i : Int))) (hE : ∀ i : Nat,j < i → S (i : Int) = some (.inr (i : Int))) :
    ∀ (m i : Nat),j + 1 - i = m → Aj S (i : Int) = some ((scanUp p d j i : Nat) : Int) := by
  intro m
  induction m with
  | zero =>
    intro i hm
    rw [scanUp,if_neg (by simp; omega)]
    exact Ap (hE i (by omega))
  | succ m ih =>
    intro i hm
    rw [scanUp]
    by_cases c : p d[i]! = true
    · rw [if_pos (by simp [c]; omega),Bi (by rw [hS i (by omega),if_pos c])]
      exact ih (i + 1) (by omega)
    · rw [if_neg (by simp [c])]
      exact Ap (by rw [hS i (by omega),if_neg c])
theorem Nb {S : Int → Option (Int ⊕ Int)} (p : α → Bool) (d : Array α) (i : Nat) (hi : 0 < i)
    (hS : ∀ j : Nat,i ≤ j → j < d.size → S (j : Int) = some (if p d[j]! = true then .inl ((j - 1 : Nat) : Int) else .inr (j : Int))) (hE : ∀ j : Nat,j < i → S (j : Int) = some (.inr (j : Int))) :
    ∀ (j : Nat),j < d.size → Aj S (j : Int) = some ((scanDown p d i j : Nat) : Int)
  | 0,_ => Ap (hE 0 hi)
  | j + 1,hj => by
    rw [scanDown]
    by_cases c0 : i ≤ j + 1
    · by_cases c : p d[j + 1]! = true
      · rw [if_pos (by simp [c,c0]),Bi (by rw [hS (j + 1) c0 hj,if_pos c])]
        exact Nb p d i hi hS hE j (by omega)
      · rw [if_neg (by simp [c])]
        exact Ap (by rw [hS (j + 1) c0 hj,if_neg c])
    · rw [if_neg (by simp; omega)]
      exact Ap (hE (j + 1) (by omega))
theorem Wm {S : Int → Option (Int ⊕ Int)} (lt : α → α → Bool) (d : Array α) (b : Nat)
    (hS : ∀ i : Nat,0 < i → i < b → S (i : Int) = some (if (!lt d[i]! d[i - 1]!) = true then .inl ((i + 1 : Nat) : Int) else .inr (i : Int))) (hE : ∀ i : Nat,b ≤ i → S (i : Int) = some (.inr (i : Int))) :
    ∀ (m i : Nat),b - i = m → 0 < i → Aj S (i : Int) = some ((scanSorted lt d b i : Nat) : Int) ∧ i ≤ scanSorted lt d b i ∧ (i ≤ b → scanSorted lt d b i ≤ b) := by
  intro m
  induction m with
  | zero =>
    intro i hm h0
    rw [scanSorted,if_neg (by simp; omega)]
    exact ⟨Ap (hE i (by omega)),Nat.le_refl _,fun h => h⟩
  | succ m ih =>
    intro i hm h0
    rw [scanSorted]
    by_cases c : (!lt d[i]! d[i - 1]!) = true
    · rw [if_pos (by rw [zg]; exact ⟨decide_eq_true (by omega),c⟩),Bi (by rw [hS i h0 (by omega),if_pos c])]
      obtain ⟨h1,h2,h3⟩ := ih (i + 1) (by omega) (by omega)
      exact ⟨h1,by omega,fun h => h3 (by omega)⟩
    · rw [if_neg (fun hh => c (zg _ _ ▸ hh).2)]
      exact ⟨Ap (by rw [hS i h0 (by omega),if_neg c]),Nat.le_refl _,fun h => h⟩
end
theorem jT {x : Nat} (h : x < 18446744073709551616) : (BitVec.ofInt 64 (x : Int)).toNat = x := by
  rw [BitVec.toNat_ofInt]; omega
theorem cU {x : Nat} (h : x < 18446744073709551616) : IntKind.u64.wrap (x : Int) = (x : Int) := by
  unfold IntKind.wrap IntKind.bits IntKind.signed
  simp only [Bool.false_and,Bool.false_eq_true,if_false]
  have : (2 : Int) ^ 64 = 18446744073709551616 := by decide
  rw [this]; omega
theorem nO {x y : Nat} (hx : x < 18446744073709551616) (hy : y < 18446744073709551616) : x ^^^ y < 18446744073709551616 := Nat.xor_lt_two_pow (n := 64) (by simpa using hx) (by simpa using hy)
theorem gU {x y : Nat} (hx : x < 18446744073709551616) (hy : y < 18446744073709551616) : KV .u64 (x : Int) (y : Int) = ((x ^^^ y : Nat) : Int) := by
  unfold KV
  show IntKind.u64.wrap (((BitVec.ofInt 64 (x : Int) ^^^ BitVec.ofInt 64 (y : Int)).toNat : Nat) : Int) = _
  rw [BitVec.toNat_xor,jT hx,jT hy]
  exact cU (Nat.xor_lt_two_pow (n := 64) (by simpa using hx) (by simpa using hy))
theorem xW {x y : Nat} (hx : x < 18446744073709551616) (hy : y < 18446744073709551616) : U9 .u64 (x : Int) (y : Int) = ((x &&& y : Nat) : Int) := by
  unfold U9
  show IntKind.u64.wrap (((BitVec.ofInt 64 (x : Int) &&& BitVec.ofInt 64 (y : Int)).toNat : Nat) : Int) = _
  rw [BitVec.toNat_and,jT hx,jT hy]
  exact cU (Nat.lt_of_le_of_lt Nat.and_le_left hx)
theorem cB {x : Nat} (k m : Nat) (hk : k < 64) (hm : 2 ^ k = m) : JT .u64 (x : Int) (k : Int) = ((x * m % 18446744073709551616 : Nat) : Int) := by
  unfold JT
  have h1 : min ((k : Int)).toNat IntKind.u64.bits = k := by show min k 64 = k; omega
  rw [h1]
  subst hm
  have h2 : ((x : Int) * 2 ^ k) = ((x * 2 ^ k : Nat) : Int) := by simp
  rw [h2]
  unfold IntKind.wrap IntKind.bits IntKind.signed
  simp only [Bool.false_and,Bool.false_eq_true,if_false]
  have : (2 : Int) ^ 64 = 18446744073709551616 := by decide
  rw [this]; omega
theorem cQ {x : Nat} (k m : Nat) (hk : k < 64) (hm : 2 ^ k = m) : Mm .u64 (x : Int) (k : Int) = ((x / m : Nat) : Int) := by
  unfold Mm
  have h1 : min ((k : Int)).toNat IntKind.u64.bits = k := by show min k 64 = k; omega
  rw [h1]
  subst hm
  have h2 : ((2 : Int) ^ k) = ((2 ^ k : Nat) : Int) := by simp
  rw [h2,Int.fdiv_eq_ediv_of_nonneg _ (Int.natCast_nonneg _)]; rfl
abbrev Ol {α : Type} (a b : Option α) : Prop := ∀ r,a = some r → b = some r
theorem Ol.rfl' {α : Type} (a : Option α) : Ol a a := fun _ h => h
theorem Ol.bind' {α β : Type} {a b : Option α} {f g : α → Option β} (h : Ol a b) (hf : ∀ x,Ol (f x) (g x)) : Ol (a.bind f) (b.bind g) := fun r e => by
  obtain ⟨x,h1,h2⟩ := BO e
  rw [h x h1,za]; exact hf x r h2
theorem Ol.ite' {α : Type} {c : Prop} [Decidable c] {a a' b b' : Option α} (h1 : Ol a a') (h2 : Ol b b') : Ol (if c then a else b) (if c then a' else b') := fun r e => by
  by_cases h : c
  · rw [if_pos h] at e ⊢; exact h1 r e
  · rw [if_neg h] at e ⊢; exact h2 r e
theorem Ol.orR' {α β : Type} {a b : Option (α ⊕ β)} {f g : α → Option β} (h : Ol a b) (hf : ∀ x,Ol (f x) (g x)) : Ol (GN a f) (GN b g) :=
  Ol.bind' h fun x => by
    cases x with
    | inl t => exact hf t
    | inr e => exact Ol.rfl' _
theorem Ol.pi2 {α β γ : Type} {f g : α × β → Option γ} (h : ∀ a b,Ol (f (a,b)) (g (a,b))) : ∀ x,Ol (f x) (g x) := fun x => h x.1 x.2
theorem Ol.loop {σ ε : Type} {S T : σ → Option (σ ⊕ ε)} (h : ∀ s,Ol (S s) (T s)) (s : σ) : Ol (Aj S s) (Aj T s) := fun r e => by
  obtain ⟨n,hn⟩ := GA.1 e
  refine GA.2 ⟨n, ?_⟩
  clear e
  induction n generalizing s with
  | zero => exact hn
  | succ n ih =>
    unfold IV at hn ⊢
    cases hs : S s with
    | none => rw [hs] at hn; cases hn
    | some q =>
      rw [hs] at hn; rw [h s q hs]
      cases q with
      | inl s' => exact ih s' hn
      | inr _ => exact hn
end Go.Proofs.YtkhiflmalgkjiaaGreat
