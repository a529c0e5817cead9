/- Twins with fuel of lifted functions: what a twin answers, the function answers. Conditions: none. -/
import Derived.Test.YtjcaadbafjgefaaqLP
import Derived.Test.YtjcaadbafjgefaaqC1
namespace Go.Proofs.Ytjcaadbafjgefaa
open Go Go.RowKit
set_option linter.unusedVariables false
set_option linter.unusedSimpArgs false
set_option maxRecDepth 20000
set_option maxHeartbeats 1600000

abbrev Le {α : Type} (a b : Option α) : Prop := ∀ r, a = some r → b = some r
theorem Le.rfl' {α : Type} (a : Option α) : Le a a := fun _ h => h
theorem Le.bind' {α β : Type} {a b : Option α} {f g : α → Option β} (h : Le a b) (hf : ∀ x, Le (f x) (g x)) : Le (a.bind f) (b.bind g) := fun r e => by
  obtain ⟨x, h1, h2⟩ := bindE e
  rw [h x h1, Option.bind_some]; exact hf x r h2
theorem Le.ite' {α : Type} {c : Prop} [Decidable c] {a a' b b' : Option α} (h1 : Le a a') (h2 : Le b b') : Le (if c then a else b) (if c then a' else b') := fun r e => by
  by_cases h : c
  · rw [if_pos h] at e ⊢; exact h1 r e
  · rw [if_neg h] at e ⊢; exact h2 r e
theorem Le.orR' {α β : Type} {a b : Option (α ⊕ β)} {f g : α → Option β} (h : Le a b) (hf : ∀ x, Le (f x) (g x)) : Le (orR a f) (orR b g) :=
  Le.bind' h fun x => by
    cases x with
    | inl t => exact hf t
    | inr e => exact Le.rfl' _
def loopE {σ ε : Type} (n : Nat) (step : σ → Option (σ ⊕ ε)) (s : σ) : Option ε := loopN step n s
theorem loopN_twin {σ ε : Type} {S T : σ → Option (σ ⊕ ε)} (h : ∀ s, Le (S s) (T s)) : ∀ (n : Nat) (s : σ), Le (loopN S n s) (loopN T n s)
  | 0, s => Le.rfl' _
  | n + 1, s => fun r e => by
    unfold loopN at e ⊢
    cases hs : S s with
    | none => rw [hs] at e; cases e
    | some q =>
      rw [hs] at e; rw [h s q hs]
      cases q with
      | inl s' => exact loopN_twin h n s' r e
      | inr _ => exact e
theorem Le.loop' {σ ε : Type} {n : Nat} {S T : σ → Option (σ ⊕ ε)} {s : σ} (h : ∀ s, Le (S s) (T s)) : Le (loopE n S s) (loopW T s) := fun r e => loopW_iff.2 ⟨n, loopN_twin h n s r e⟩
theorem Le.pi2 {α β γ : Type} {f g : α × β → Option γ} (h : ∀ a b, Le (f (a, b)) (g (a, b))) : ∀ x, Le (f x) (g x) := fun x => h x.1 x.2
theorem Le.altS' {α β γ : Type} {y : α ⊕ β} {f f' : α → Option γ} {g g' : β → Option γ} (h : ∀ x, Le (f x) (f' x)) (k : ∀ x, Le (g x) (g' x)) : Le (altS y f g) (altS y f' g') := by
  cases y with
  | inl x => exact h x
  | inr x => exact k x
theorem limF_up {β : Type} {g : Nat → Option β} (hm : ∀ n r, g n = some r → g (n + 1) = some r) {n : Nat} {r : β} (h : g n = some r) : limF g = some r := by
  have up : ∀ (d m : Nat) (q : β), g m = some q → g (m + d) = some q := fun d => by
    induction d with
    | zero => exact fun m q h => h
    | succ d ih => exact fun m q h => hm _ _ (ih m q h)
  refine limF_is n h fun m q hq => ?_
  have h1 := up m n r h
  have h2 := up n m q hq
  rw [Nat.add_comm] at h2
  exact Option.some.inj (h2.symm.trans h1)
theorem Le.loopM {σ ε : Type} {S T : σ → Option (σ ⊕ ε)} {s : σ} (h : ∀ s, Le (S s) (T s)) : Le (loopW S s) (loopW T s) := fun r e => by
  obtain ⟨n, hn⟩ := loopW_iff.1 e
  exact loopW_iff.2 ⟨n, loopN_twin h n s r hn⟩
def topo_places_l1_e (nE : Nat) (p0 : Int × (List (Int × Int × Int × Int × Int × Int)) × (List (Int × Int))) : ((List (Int × Int)) × Int) → Option (((List (Int × Int)) × Int) ⊕ (List (Int × Int)))
  | (x2, x3) => (if x3 < (p0.2.1.length : Int) then (ix p0.2.1 x3).bind fun x4 => (app x2 ([(x4.1, x4.2.1), (x4.2.2.1, x4.2.2.2.1)] : List (Int × Int))).bind fun x5 => some (.inl (x5, w64 (x3 + 1))) else some (.inr x2))
theorem topo_places_l1_le (nE : Nat) (p0 : Int × (List (Int × Int × Int × Int × Int × Int)) × (List (Int × Int))) : ∀ s, Le (topo_places_l1_e nE p0 s) (topo_places_l1 p0 s) := by
  rintro ⟨x2, x3⟩
  unfold topo_places_l1_e topo_places_l1
  repeat' with_reducible (first | refine Le.orR' ?_ ?_ | refine Le.bind' ?_ ?_ | refine Le.ite' ?_ ?_ | refine Le.loop' ?_ | refine Le.altS' ?_ ?_ | exact Le.rfl' _ | (refine Le.pi2 ?_; intro _) | intro _)
def topo_places_l2_e (nE : Nat) (p0 : Int × (List (Int × Int × Int × Int × Int × Int)) × (List (Int × Int))) : ((List (Int × Int)) × Int) → Option (((List (Int × Int)) × Int) ⊕ (List (Int × Int)))
  | (x7, x8) => (if x8 < (p0.2.2.length : Int) then (ix p0.2.2 x8).bind fun x9 => (app x7 ([x9] : List (Int × Int))).bind fun x10 => some (.inl (x10, w64 (x8 + 1))) else some (.inr x7))
theorem topo_places_l2_le (nE : Nat) (p0 : Int × (List (Int × Int × Int × Int × Int × Int)) × (List (Int × Int))) : ∀ s, Le (topo_places_l2_e nE p0 s) (topo_places_l2 p0 s) := by
  rintro ⟨x7, x8⟩
  unfold topo_places_l2_e topo_places_l2
  repeat' with_reducible (first | refine Le.orR' ?_ ?_ | refine Le.bind' ?_ ?_ | refine Le.ite' ?_ ?_ | refine Le.loop' ?_ | refine Le.altS' ?_ ?_ | exact Le.rfl' _ | (refine Le.pi2 ?_; intro _) | intro _)
def topo_places_e (nE : Nat) (p0 : Int × (List (Int × Int × Int × Int × Int × Int)) × (List (Int × Int))) : Option (List (Int × Int)) := (loopE nE (topo_places_l1_e nE p0) ([], 0)).bind fun x1 => (loopE nE (topo_places_l2_e nE p0) (x1, 0)).bind fun x6 => some x6
theorem topo_places_le (nE : Nat) (p0 : Int × (List (Int × Int × Int × Int × Int × Int)) × (List (Int × Int))) : Le (topo_places_e nE p0) (topo_places p0) := by
  unfold topo_places_e topo_places
  repeat' with_reducible (first | refine Le.orR' ?_ ?_ | refine Le.bind' ?_ ?_ | refine Le.ite' ?_ ?_ | refine Le.loop' ?_ | refine Le.altS' ?_ ?_ | apply topo_places_l1_le | apply topo_places_l2_le | exact Le.rfl' _ | (refine Le.pi2 ?_; intro _) | intro _)
def slices_IndexFunc_api_Link_api_Link_l1_e (nE : Nat) (p0 : List (Int × Int × Int × Int × Int × Int)) : Int → Option (Int ⊕ (Unit ⊕ Int))
  | x1 => (if x1 < (p0.length : Int) then (ix p0 x1).bind fun x2 => (if (topo_wrongLink x2) = true then some (.inr (.inr x1)) else some (.inl (w64 (x1 + 1)))) else some (.inr (.inl ())))
theorem slices_IndexFunc_api_Link_api_Link_l1_le (nE : Nat) (p0 : List (Int × Int × Int × Int × Int × Int)) : ∀ s, Le (slices_IndexFunc_api_Link_api_Link_l1_e nE p0 s) (slices_IndexFunc_api_Link_api_Link_l1 p0 s) := by
  intro x1
  unfold slices_IndexFunc_api_Link_api_Link_l1_e slices_IndexFunc_api_Link_api_Link_l1
  repeat' with_reducible (first | refine Le.orR' ?_ ?_ | refine Le.bind' ?_ ?_ | refine Le.ite' ?_ ?_ | refine Le.loop' ?_ | refine Le.altS' ?_ ?_ | exact Le.rfl' _ | (refine Le.pi2 ?_; intro _) | intro _)
def slices_IndexFunc_api_Link_api_Link_e (nE : Nat) (p0 : List (Int × Int × Int × Int × Int × Int)) : Option Int := orR (loopE nE (slices_IndexFunc_api_Link_api_Link_l1_e nE p0) 0) fun _ => some (-1)
theorem slices_IndexFunc_api_Link_api_Link_le (nE : Nat) (p0 : List (Int × Int × Int × Int × Int × Int)) : Le (slices_IndexFunc_api_Link_api_Link_e nE p0) (slices_IndexFunc_api_Link_api_Link p0) := by
  unfold slices_IndexFunc_api_Link_api_Link_e slices_IndexFunc_api_Link_api_Link
  repeat' with_reducible (first | refine Le.orR' ?_ ?_ | refine Le.bind' ?_ ?_ | refine Le.ite' ?_ ?_ | refine Le.loop' ?_ | refine Le.altS' ?_ ?_ | apply slices_IndexFunc_api_Link_api_Link_l1_le | exact Le.rfl' _ | (refine Le.pi2 ?_; intro _) | intro _)
def slices_ContainsFunc_api_Link_api_Link_e (nE : Nat) (p0 : List (Int × Int × Int × Int × Int × Int)) : Option Bool := (slices_IndexFunc_api_Link_api_Link_e nE p0).bind fun x1 => some (decide (0 ≤ x1))
theorem slices_ContainsFunc_api_Link_api_Link_le (nE : Nat) (p0 : List (Int × Int × Int × Int × Int × Int)) : Le (slices_ContainsFunc_api_Link_api_Link_e nE p0) (slices_ContainsFunc_api_Link_api_Link p0) := by
  unfold slices_ContainsFunc_api_Link_api_Link_e slices_ContainsFunc_api_Link_api_Link
  repeat' with_reducible (first | refine Le.orR' ?_ ?_ | refine Le.bind' ?_ ?_ | refine Le.ite' ?_ ?_ | refine Le.loop' ?_ | refine Le.altS' ?_ ?_ | apply slices_IndexFunc_api_Link_api_Link_le | exact Le.rfl' _ | (refine Le.pi2 ?_; intro _) | intro _)
def topo_Right_l1_e (nE : Nat) (p0 : Int × (List (Int × Int × Int × Int × Int × Int)) × (List (Int × Int))) (x2 : (List (Int × Int))) : (Int × (List ((Int × Int) × Unit))) → Option ((Int × (List ((Int × Int) × Unit))) ⊕ ((List ((Int × Int) × Unit)) ⊕ Bool))
  | (x3, x4) => (if x3 < (x2.length : Int) then (ix x2 x3).bind fun x5 => (if (decide (x5.1 < 0) || (decide (p0.1 ≤ x5.1) || (decide (x5.2 < 0) || decide (8 ≤ x5.2)))) = true then some (.inr (.inr false)) else (if ((mget x4 x5).isSome) = true then some (.inr (.inr false)) else some (.inl (w64 (x3 + 1), mput x4 x5 ())))) else some (.inr (.inl x4)))
theorem topo_Right_l1_le (nE : Nat) (p0 : Int × (List (Int × Int × Int × Int × Int × Int)) × (List (Int × Int))) (x2 : (List (Int × Int))) : ∀ s, Le (topo_Right_l1_e nE p0 x2 s) (topo_Right_l1 p0 x2 s) := by
  rintro ⟨x3, x4⟩
  unfold topo_Right_l1_e topo_Right_l1
  repeat' with_reducible (first | refine Le.orR' ?_ ?_ | refine Le.bind' ?_ ?_ | refine Le.ite' ?_ ?_ | refine Le.loop' ?_ | refine Le.altS' ?_ ?_ | exact Le.rfl' _ | (refine Le.pi2 ?_; intro _) | intro _)
def topo_Right_e (nE : Nat) (p0 : Int × (List (Int × Int × Int × Int × Int × Int)) × (List (Int × Int))) : Option Bool := (if (decide (p0.1 < 1) || (decide (8 < p0.1) || (decide (24 < (p0.2.1.length : Int)) || decide (8 < (p0.2.2.length : Int))))) = true then some false else orR ((topo_places_e nE p0).bind fun x2 => loopE nE (topo_Right_l1_e nE p0 x2) (0, ([] : List ((Int × Int) × Unit)))) fun x1 => (slices_ContainsFunc_api_Link_api_Link_e nE p0.2.1).bind fun x6 => some (!x6))
theorem topo_Right_le (nE : Nat) (p0 : Int × (List (Int × Int × Int × Int × Int × Int)) × (List (Int × Int))) : Le (topo_Right_e nE p0) (topo_Right p0) := by
  unfold topo_Right_e topo_Right
  repeat' with_reducible (first | refine Le.orR' ?_ ?_ | refine Le.bind' ?_ ?_ | refine Le.ite' ?_ ?_ | refine Le.loop' ?_ | refine Le.altS' ?_ ?_ | apply topo_places_le | apply slices_ContainsFunc_api_Link_api_Link_le | apply topo_Right_l1_le | exact Le.rfl' _ | (refine Le.pi2 ?_; intro _) | intro _)
def slices_IndexFunc_int_int_l1_e (nE : Nat) (p0 : List Int) : Int → Option (Int ⊕ (Unit ⊕ Int))
  | x1 => (if x1 < (p0.length : Int) then (ix p0 x1).bind fun x2 => (if (route_wrongPort x2) = true then some (.inr (.inr x1)) else some (.inl (w64 (x1 + 1)))) else some (.inr (.inl ())))
theorem slices_IndexFunc_int_int_l1_le (nE : Nat) (p0 : List Int) : ∀ s, Le (slices_IndexFunc_int_int_l1_e nE p0 s) (slices_IndexFunc_int_int_l1 p0 s) := by
  intro x1
  unfold slices_IndexFunc_int_int_l1_e slices_IndexFunc_int_int_l1
  repeat' with_reducible (first | refine Le.orR' ?_ ?_ | refine Le.bind' ?_ ?_ | refine Le.ite' ?_ ?_ | refine Le.loop' ?_ | refine Le.altS' ?_ ?_ | exact Le.rfl' _ | (refine Le.pi2 ?_; intro _) | intro _)
def slices_IndexFunc_int_int_e (nE : Nat) (p0 : List Int) : Option Int := orR (loopE nE (slices_IndexFunc_int_int_l1_e nE p0) 0) fun _ => some (-1)
theorem slices_IndexFunc_int_int_le (nE : Nat) (p0 : List Int) : Le (slices_IndexFunc_int_int_e nE p0) (slices_IndexFunc_int_int p0) := by
  unfold slices_IndexFunc_int_int_e slices_IndexFunc_int_int
  repeat' with_reducible (first | refine Le.orR' ?_ ?_ | refine Le.bind' ?_ ?_ | refine Le.ite' ?_ ?_ | refine Le.loop' ?_ | refine Le.altS' ?_ ?_ | apply slices_IndexFunc_int_int_l1_le | exact Le.rfl' _ | (refine Le.pi2 ?_; intro _) | intro _)
def slices_ContainsFunc_int_int_e (nE : Nat) (p0 : List Int) : Option Bool := (slices_IndexFunc_int_int_e nE p0).bind fun x1 => some (decide (0 ≤ x1))
theorem slices_ContainsFunc_int_int_le (nE : Nat) (p0 : List Int) : Le (slices_ContainsFunc_int_int_e nE p0) (slices_ContainsFunc_int_int p0) := by
  unfold slices_ContainsFunc_int_int_e slices_ContainsFunc_int_int
  repeat' with_reducible (first | refine Le.orR' ?_ ?_ | refine Le.bind' ?_ ?_ | refine Le.ite' ?_ ?_ | refine Le.loop' ?_ | refine Le.altS' ?_ ?_ | apply slices_IndexFunc_int_int_le | exact Le.rfl' _ | (refine Le.pi2 ?_; intro _) | intro _)
def route_Right_l1_e (nE : Nat) (p0 : Int × (List (Int × Int × Int × Int × Int × Int)) × (List (Int × Int))) (p1 : List (List Int)) : Int → Option (Int ⊕ (Unit ⊕ Bool))
  | x3 => (if x3 < (p1.length : Int) then (ix p1 x3).bind fun x4 => (if (x4.length : Int) ≠ (p0.2.2.length : Int) then some true else (slices_ContainsFunc_int_int_e nE x4).bind fun x6 => some x6).bind fun x5 => (if x5 = true then some (.inr (.inr false)) else some (.inl (w64 (x3 + 1)))) else some (.inr (.inl ())))
theorem route_Right_l1_le (nE : Nat) (p0 : Int × (List (Int × Int × Int × Int × Int × Int)) × (List (Int × Int))) (p1 : List (List Int)) : ∀ s, Le (route_Right_l1_e nE p0 p1 s) (route_Right_l1 p0 p1 s) := by
  intro x3
  unfold route_Right_l1_e route_Right_l1
  repeat' with_reducible (first | refine Le.orR' ?_ ?_ | refine Le.bind' ?_ ?_ | refine Le.ite' ?_ ?_ | refine Le.loop' ?_ | refine Le.altS' ?_ ?_ | apply slices_ContainsFunc_int_int_le | exact Le.rfl' _ | (refine Le.pi2 ?_; intro _) | intro _)
def route_Right_e (nE : Nat) (p0 : Int × (List (Int × Int × Int × Int × Int × Int)) × (List (Int × Int))) (p1 : List (List Int)) : Option Bool := ((topo_Right_e nE p0).bind fun x2 => (if (!x2) = true then some true else some (decide ((p1.length : Int) ≠ p0.1)))).bind fun x1 => (if x1 = true then some false else orR (loopE nE (route_Right_l1_e nE p0 p1) 0) fun _ => some true)
theorem route_Right_le (nE : Nat) (p0 : Int × (List (Int × Int × Int × Int × Int × Int)) × (List (Int × Int))) (p1 : List (List Int)) : Le (route_Right_e nE p0 p1) (route_Right p0 p1) := by
  unfold route_Right_e route_Right
  repeat' with_reducible (first | refine Le.orR' ?_ ?_ | refine Le.bind' ?_ ?_ | refine Le.ite' ?_ ?_ | refine Le.loop' ?_ | refine Le.altS' ?_ ?_ | apply topo_Right_le | apply route_Right_l1_le | exact Le.rfl' _ | (refine Le.pi2 ?_; intro _) | intro _)
def slices_Index_api_Host_api_Host_l1_e (nE : Nat) (p0 : List (Int × Int)) (p1 : Int × Int) : Int → Option (Int ⊕ (Unit ⊕ Int))
  | x1 => (if x1 < (p0.length : Int) then (ix p0 x1).bind fun x2 => (if p1.1 = x2.1 ∧ p1.2 = x2.2 then some (.inr (.inr x1)) else some (.inl (w64 (x1 + 1)))) else some (.inr (.inl ())))
theorem slices_Index_api_Host_api_Host_l1_le (nE : Nat) (p0 : List (Int × Int)) (p1 : Int × Int) : ∀ s, Le (slices_Index_api_Host_api_Host_l1_e nE p0 p1 s) (slices_Index_api_Host_api_Host_l1 p0 p1 s) := by
  intro x1
  unfold slices_Index_api_Host_api_Host_l1_e slices_Index_api_Host_api_Host_l1
  repeat' with_reducible (first | refine Le.orR' ?_ ?_ | refine Le.bind' ?_ ?_ | refine Le.ite' ?_ ?_ | refine Le.loop' ?_ | refine Le.altS' ?_ ?_ | exact Le.rfl' _ | (refine Le.pi2 ?_; intro _) | intro _)
def slices_Index_api_Host_api_Host_e (nE : Nat) (p0 : List (Int × Int)) (p1 : Int × Int) : Option Int := orR (loopE nE (slices_Index_api_Host_api_Host_l1_e nE p0 p1) 0) fun _ => some (-1)
theorem slices_Index_api_Host_api_Host_le (nE : Nat) (p0 : List (Int × Int)) (p1 : Int × Int) : Le (slices_Index_api_Host_api_Host_e nE p0 p1) (slices_Index_api_Host_api_Host p0 p1) := by
  unfold slices_Index_api_Host_api_Host_e slices_Index_api_Host_api_Host
  repeat' with_reducible (first | refine Le.orR' ?_ ?_ | refine Le.bind' ?_ ?_ | refine Le.ite' ?_ ?_ | refine Le.loop' ?_ | refine Le.altS' ?_ ?_ | apply slices_Index_api_Host_api_Host_l1_le | exact Le.rfl' _ | (refine Le.pi2 ?_; intro _) | intro _)
def topo_HostAt_e (nE : Nat) (p0 : Int × (List (Int × Int × Int × Int × Int × Int)) × (List (Int × Int))) (p1 : Int) (p2 : Int) : Option Int := (slices_Index_api_Host_api_Host_e nE p0.2.2 (p1, p2)).bind fun x1 => some x1
theorem topo_HostAt_le (nE : Nat) (p0 : Int × (List (Int × Int × Int × Int × Int × Int)) × (List (Int × Int))) (p1 : Int) (p2 : Int) : Le (topo_HostAt_e nE p0 p1 p2) (topo_HostAt p0 p1 p2) := by
  unfold topo_HostAt_e topo_HostAt
  repeat' with_reducible (first | refine Le.orR' ?_ ?_ | refine Le.bind' ?_ ?_ | refine Le.ite' ?_ ?_ | refine Le.loop' ?_ | refine Le.altS' ?_ ?_ | apply slices_Index_api_Host_api_Host_le | exact Le.rfl' _ | (refine Le.pi2 ?_; intro _) | intro _)
def topo_Peer_l1_e (nE : Nat) (p0 : Int × (List (Int × Int × Int × Int × Int × Int)) × (List (Int × Int))) (p1 : Int) (p2 : Int) : Int → Option (Int ⊕ (Unit ⊕ (Int × Int × Int × Bool)))
  | x1 => (if x1 < (p0.2.1.length : Int) then (ix p0.2.1 x1).bind fun x2 => (if p1 = x2.1 ∧ p2 = x2.2.1 then some (.inr (.inr (x2.2.2.1, x2.2.2.2.1, x1, true))) else (if p1 = x2.2.2.1 ∧ p2 = x2.2.2.2.1 then some (.inr (.inr (x2.1, x2.2.1, x1, true))) else some (.inl (w64 (x1 + 1))))) else some (.inr (.inl ())))
theorem topo_Peer_l1_le (nE : Nat) (p0 : Int × (List (Int × Int × Int × Int × Int × Int)) × (List (Int × Int))) (p1 : Int) (p2 : Int) : ∀ s, Le (topo_Peer_l1_e nE p0 p1 p2 s) (topo_Peer_l1 p0 p1 p2 s) := by
  intro x1
  unfold topo_Peer_l1_e topo_Peer_l1
  repeat' with_reducible (first | refine Le.orR' ?_ ?_ | refine Le.bind' ?_ ?_ | refine Le.ite' ?_ ?_ | refine Le.loop' ?_ | refine Le.altS' ?_ ?_ | exact Le.rfl' _ | (refine Le.pi2 ?_; intro _) | intro _)
def topo_Peer_e (nE : Nat) (p0 : Int × (List (Int × Int × Int × Int × Int × Int)) × (List (Int × Int))) (p1 : Int) (p2 : Int) : Option (Int × Int × Int × Bool) := orR (loopE nE (topo_Peer_l1_e nE p0 p1 p2) 0) fun _ => some (0, 0, 0, false)
theorem topo_Peer_le (nE : Nat) (p0 : Int × (List (Int × Int × Int × Int × Int × Int)) × (List (Int × Int))) (p1 : Int) (p2 : Int) : Le (topo_Peer_e nE p0 p1 p2) (topo_Peer p0 p1 p2) := by
  unfold topo_Peer_e topo_Peer
  repeat' with_reducible (first | refine Le.orR' ?_ ?_ | refine Le.bind' ?_ ?_ | refine Le.ite' ?_ ?_ | refine Le.loop' ?_ | refine Le.altS' ?_ ?_ | apply topo_Peer_l1_le | exact Le.rfl' _ | (refine Le.pi2 ?_; intro _) | intro _)
def route_Next_e (nE : Nat) (p0 : Int × (List (Int × Int × Int × Int × Int × Int)) × (List (Int × Int))) (p1 : List (List Int)) (p2 : Int) (p3 : Int) : Option (Int × Bool) := (if p2 < 0 then some true else (if (p1.length : Int) ≤ p2 then some true else (if p3 < 0 then some true else (ix p1 p2).bind fun x2 => some (decide ((x2.length : Int) ≤ p3))))).bind fun x1 => (if x1 = true then some (0, false) else (ix p1 p2).bind fun x3 => (ix x3 p3).bind fun x4 => (topo_Peer_e nE p0 p2 x4).bind fun x5 => some (x5.1, x5.2.2.2))
theorem route_Next_le (nE : Nat) (p0 : Int × (List (Int × Int × Int × Int × Int × Int)) × (List (Int × Int))) (p1 : List (List Int)) (p2 : Int) (p3 : Int) : Le (route_Next_e nE p0 p1 p2 p3) (route_Next p0 p1 p2 p3) := by
  unfold route_Next_e route_Next
  repeat' with_reducible (first | refine Le.orR' ?_ ?_ | refine Le.bind' ?_ ?_ | refine Le.ite' ?_ ?_ | refine Le.loop' ?_ | refine Le.altS' ?_ ?_ | apply topo_Peer_le | exact Le.rfl' _ | (refine Le.pi2 ?_; intro _) | intro _)
def route_contains_int_l1_e (nE : Nat) (p0 : List Int) (p1 : Int) : Int → Option (Int ⊕ (Unit ⊕ Bool))
  | x1 => (if x1 < (p0.length : Int) then (ix p0 x1).bind fun x2 => (if p1 = x2 then some (.inr (.inr true)) else some (.inl (w64 (x1 + 1)))) else some (.inr (.inl ())))
theorem route_contains_int_l1_le (nE : Nat) (p0 : List Int) (p1 : Int) : ∀ s, Le (route_contains_int_l1_e nE p0 p1 s) (route_contains_int_l1 p0 p1 s) := by
  intro x1
  unfold route_contains_int_l1_e route_contains_int_l1
  repeat' with_reducible (first | refine Le.orR' ?_ ?_ | refine Le.bind' ?_ ?_ | refine Le.ite' ?_ ?_ | refine Le.loop' ?_ | refine Le.altS' ?_ ?_ | exact Le.rfl' _ | (refine Le.pi2 ?_; intro _) | intro _)
def route_contains_int_e (nE : Nat) (p0 : List Int) (p1 : Int) : Option Bool := orR (loopE nE (route_contains_int_l1_e nE p0 p1) 0) fun _ => some false
theorem route_contains_int_le (nE : Nat) (p0 : List Int) (p1 : Int) : Le (route_contains_int_e nE p0 p1) (route_contains_int p0 p1) := by
  unfold route_contains_int_e route_contains_int
  repeat' with_reducible (first | refine Le.orR' ?_ ?_ | refine Le.bind' ?_ ?_ | refine Le.ite' ?_ ?_ | refine Le.loop' ?_ | refine Le.altS' ?_ ?_ | apply route_contains_int_l1_le | exact Le.rfl' _ | (refine Le.pi2 ?_; intro _) | intro _)
def route_walk_l1_e (nE : Nat) (p0 : Int × (List (Int × Int × Int × Int × Int × Int)) × (List (Int × Int))) (p1 : List (List Int)) (p3 : Int) : (Int × List Int) → Option ((Int × List Int) ⊕ ((List Int) ⊕ (List Int × Int)))
  | (x2, x3) => (ix p1 x2).bind fun x4 => (ix x4 p3).bind fun x5 => (topo_HostAt_e nE p0 x2 x5).bind fun x6 => (if x6 ≠ p3 then (route_Next_e nE p0 p1 x2 p3).bind fun x7 => (if (!x7.2) = true then some (.inr (.inr (([] : List Int), 13))) else (route_contains_int_e nE x3 x7.1).bind fun x8 => (if x8 = true then some (.inr (.inr (([] : List Int), 12))) else (app x3 ([x7.1] : List Int)).bind fun x9 => some (.inl (x7.1, x9)))) else some (.inr (.inl x3)))
theorem route_walk_l1_le (nE : Nat) (p0 : Int × (List (Int × Int × Int × Int × Int × Int)) × (List (Int × Int))) (p1 : List (List Int)) (p3 : Int) : ∀ s, Le (route_walk_l1_e nE p0 p1 p3 s) (route_walk_l1 p0 p1 p3 s) := by
  rintro ⟨x2, x3⟩
  unfold route_walk_l1_e route_walk_l1
  repeat' with_reducible (first | refine Le.orR' ?_ ?_ | refine Le.bind' ?_ ?_ | refine Le.ite' ?_ ?_ | refine Le.loop' ?_ | refine Le.altS' ?_ ?_ | apply topo_HostAt_le | apply route_Next_le | apply route_contains_int_le | exact Le.rfl' _ | (refine Le.pi2 ?_; intro _) | intro _)
def route_walk_e (nE : Nat) (p0 : Int × (List (Int × Int × Int × Int × Int × Int)) × (List (Int × Int))) (p1 : List (List Int)) (p2 : Int) (p3 : Int) : Option (List Int × Int) := orR (loopE nE (route_walk_l1_e nE p0 p1 p3) (p2, ([p2] : List Int))) fun x1 => some (x1, 0)
theorem route_walk_le (nE : Nat) (p0 : Int × (List (Int × Int × Int × Int × Int × Int)) × (List (Int × Int))) (p1 : List (List Int)) (p2 : Int) (p3 : Int) : Le (route_walk_e nE p0 p1 p2 p3) (route_walk p0 p1 p2 p3) := by
  unfold route_walk_e route_walk
  repeat' with_reducible (first | refine Le.orR' ?_ ?_ | refine Le.bind' ?_ ?_ | refine Le.ite' ?_ ?_ | refine Le.loop' ?_ | refine Le.altS' ?_ ?_ | apply route_walk_l1_le | exact Le.rfl' _ | (refine Le.pi2 ?_; intro _) | intro _)
def route_Good_l2_e (nE : Nat) (p0 : Int × (List (Int × Int × Int × Int × Int × Int)) × (List (Int × Int))) (p1 : List (List Int)) (x2 : Int) (x3 : List Int) : Int → Option (Int ⊕ (Unit ⊕ (Int ⊕ (Unit ⊕ Bool))))
  | x4 => (if x4 < (x3.length : Int) then (route_walk_e nE p0 p1 x2 x4).bind fun x5 => (if x5.2 ≠ 0 then some (.inr (.inr (.inr (.inr false)))) else some (.inl (w64 (x4 + 1)))) else some (.inr (.inl ())))
theorem route_Good_l2_le (nE : Nat) (p0 : Int × (List (Int × Int × Int × Int × Int × Int)) × (List (Int × Int))) (p1 : List (List Int)) (x2 : Int) (x3 : List Int) : ∀ s, Le (route_Good_l2_e nE p0 p1 x2 x3 s) (route_Good_l2 p0 p1 x2 x3 s) := by
  intro x4
  unfold route_Good_l2_e route_Good_l2
  repeat' with_reducible (first | refine Le.orR' ?_ ?_ | refine Le.bind' ?_ ?_ | refine Le.ite' ?_ ?_ | refine Le.loop' ?_ | refine Le.altS' ?_ ?_ | apply route_walk_le | exact Le.rfl' _ | (refine Le.pi2 ?_; intro _) | intro _)
def route_Good_l1_e (nE : Nat) (p0 : Int × (List (Int × Int × Int × Int × Int × Int)) × (List (Int × Int))) (p1 : List (List Int)) : Int → Option (Int ⊕ (Unit ⊕ Bool))
  | x2 => (if x2 < (p1.length : Int) then orR ((ix p1 x2).bind fun x3 => loopE nE (route_Good_l2_e nE p0 p1 x2 x3) 0) fun _ => some (.inl (w64 (x2 + 1))) else some (.inr (.inl ())))
theorem route_Good_l1_le (nE : Nat) (p0 : Int × (List (Int × Int × Int × Int × Int × Int)) × (List (Int × Int))) (p1 : List (List Int)) : ∀ s, Le (route_Good_l1_e nE p0 p1 s) (route_Good_l1 p0 p1 s) := by
  intro x2
  unfold route_Good_l1_e route_Good_l1
  repeat' with_reducible (first | refine Le.orR' ?_ ?_ | refine Le.bind' ?_ ?_ | refine Le.ite' ?_ ?_ | refine Le.loop' ?_ | refine Le.altS' ?_ ?_ | apply route_Good_l2_le | exact Le.rfl' _ | (refine Le.pi2 ?_; intro _) | intro _)
def route_Good_e (nE : Nat) (p0 : Int × (List (Int × Int × Int × Int × Int × Int)) × (List (Int × Int))) (p1 : List (List Int)) : Option Bool := (route_Right_e nE p0 p1).bind fun x1 => (if (!x1) = true then some false else orR (loopE nE (route_Good_l1_e nE p0 p1) 0) fun _ => some true)
theorem route_Good_le (nE : Nat) (p0 : Int × (List (Int × Int × Int × Int × Int × Int)) × (List (Int × Int))) (p1 : List (List Int)) : Le (route_Good_e nE p0 p1) (route_Good p0 p1) := by
  unfold route_Good_e route_Good
  repeat' with_reducible (first | refine Le.orR' ?_ ?_ | refine Le.bind' ?_ ?_ | refine Le.ite' ?_ ?_ | refine Le.loop' ?_ | refine Le.altS' ?_ ?_ | apply route_Right_le | apply route_Good_l1_le | exact Le.rfl' _ | (refine Le.pi2 ?_; intro _) | intro _)
def route_Far_l1_e (nE : Nat) (p0 : Int × (List (Int × Int × Int × Int × Int × Int)) × (List (Int × Int))) (p1 : List (List Int)) (p2 : Int) : (List Int × Int) → Option ((List Int × Int) ⊕ (List Int))
  | (x4, x5) => (if x5 < (p1.length : Int) then (route_walk_e nE p0 p1 x5 p2).bind fun x6 => (app x4 ([w64 ((x6.1.length : Int) - 1)] : List Int)).bind fun x7 => some (.inl (x7, w64 (x5 + 1))) else some (.inr x4))
theorem route_Far_l1_le (nE : Nat) (p0 : Int × (List (Int × Int × Int × Int × Int × Int)) × (List (Int × Int))) (p1 : List (List Int)) (p2 : Int) : ∀ s, Le (route_Far_l1_e nE p0 p1 p2 s) (route_Far_l1 p0 p1 p2 s) := by
  rintro ⟨x4, x5⟩
  unfold route_Far_l1_e route_Far_l1
  repeat' with_reducible (first | refine Le.orR' ?_ ?_ | refine Le.bind' ?_ ?_ | refine Le.ite' ?_ ?_ | refine Le.loop' ?_ | refine Le.altS' ?_ ?_ | apply route_walk_le | exact Le.rfl' _ | (refine Le.pi2 ?_; intro _) | intro _)
def route_Far_e (nE : Nat) (p0 : Int × (List (Int × Int × Int × Int × Int × Int)) × (List (Int × Int))) (p1 : List (List Int)) (p2 : Int) : Option (List Int) := ((route_Right_e nE p0 p1).bind fun x2 => (if (!x2) = true then some true else (if p2 < 0 then some true else some (decide ((p0.2.2.length : Int) ≤ p2))))).bind fun x1 => (if x1 = true then some ([] : List Int) else (loopE nE (route_Far_l1_e nE p0 p1 p2) ([], 0)).bind fun x3 => some x3)
theorem route_Far_le (nE : Nat) (p0 : Int × (List (Int × Int × Int × Int × Int × Int)) × (List (Int × Int))) (p1 : List (List Int)) (p2 : Int) : Le (route_Far_e nE p0 p1 p2) (route_Far p0 p1 p2) := by
  unfold route_Far_e route_Far
  repeat' with_reducible (first | refine Le.orR' ?_ ?_ | refine Le.bind' ?_ ?_ | refine Le.ite' ?_ ?_ | refine Le.loop' ?_ | refine Le.altS' ?_ ?_ | apply route_Right_le | apply route_Far_l1_le | exact Le.rfl' _ | (refine Le.pi2 ?_; intro _) | intro _)
def math_bits_Len64_e (nE : Nat) (p0 : Int) : Option Int := (if 4294967296 ≤ p0 then some (shrI .u64 p0 32, 32) else some (p0, 0)).bind fun (x1, x2) => (if 65536 ≤ x1 then some (shrI .u64 x1 16, w64 (x2 + 16)) else some (x1, x2)).bind fun (x3, x4) => (if 256 ≤ x3 then some (shrI .u64 x3 8, w64 (x4 + 8)) else some (x3, x4)).bind fun (x5, x6) => (ix ([0, 1, 2, 2, 3, 3, 3, 3, 4, 4, 4, 4, 4, 4, 4, 4, 5, 5, 5, 5, 5, 5, 5, 5, 5, 5, 5, 5, 5, 5, 5, 5, 6, 6, 6, 6, 6, 6, 6, 6, 6, 6, 6, 6, 6, 6, 6, 6, 6, 6, 6, 6, 6, 6, 6, 6, 6, 6, 6, 6, 6, 6, 6, 6, 7, 7, 7, 7, 7, 7, 7, 7, 7, 7, 7, 7, 7, 7, 7, 7, 7, 7, 7, 7, 7, 7, 7, 7, 7, 7, 7, 7, 7, 7, 7, 7, 7, 7, 7, 7, 7, 7, 7, 7, 7, 7, 7, 7, 7, 7, 7, 7, 7, 7, 7, 7, 7, 7, 7, 7, 7, 7, 7, 7, 7, 7, 7, 7, 8, 8, 8, 8, 8, 8, 8, 8, 8, 8, 8, 8, 8, 8, 8, 8, 8, 8, 8, 8, 8, 8, 8, 8, 8, 8, 8, 8, 8, 8, 8, 8, 8, 8, 8, 8, 8, 8, 8, 8, 8, 8, 8, 8, 8, 8, 8, 8, 8, 8, 8, 8, 8, 8, 8, 8, 8, 8, 8, 8, 8, 8, 8, 8, 8, 8, 8, 8, 8, 8, 8, 8, 8, 8, 8, 8, 8, 8, 8, 8, 8, 8, 8, 8, 8, 8, 8, 8, 8, 8, 8, 8, 8, 8, 8, 8, 8, 8, 8, 8, 8, 8, 8, 8, 8, 8, 8, 8, 8, 8, 8, 8, 8, 8, 8, 8, 8, 8, 8, 8, 8, 8, 8, 8, 8, 8, 8, 8] : List UInt8) (IntKind.u8.wrap x5)).bind fun x7 => some (w64 (x6 + (w64 (x7.toNat : Int))))
theorem math_bits_Len64_le (nE : Nat) (p0 : Int) : Le (math_bits_Len64_e nE p0) (math_bits_Len64 p0) := by
  unfold math_bits_Len64_e math_bits_Len64
  repeat' with_reducible (first | refine Le.orR' ?_ ?_ | refine Le.bind' ?_ ?_ | refine Le.ite' ?_ ?_ | refine Le.loop' ?_ | refine Le.altS' ?_ ?_ | exact Le.rfl' _ | (refine Le.pi2 ?_; intro _) | intro _)
def math_bits_Len_e (nE : Nat) (p0 : Int) : Option Int := (math_bits_Len64_e nE p0).bind fun x1 => some x1
theorem math_bits_Len_le (nE : Nat) (p0 : Int) : Le (math_bits_Len_e nE p0) (math_bits_Len p0) := by
  unfold math_bits_Len_e math_bits_Len
  repeat' with_reducible (first | refine Le.orR' ?_ ?_ | refine Le.bind' ?_ ?_ | refine Le.ite' ?_ ?_ | refine Le.loop' ?_ | refine Le.altS' ?_ ?_ | apply math_bits_Len64_le | exact Le.rfl' _ | (refine Le.pi2 ?_; intro _) | intro _)
def cmp_Or_int_l1_e (nE : Nat) (p0 : List Int) : Int → Option (Int ⊕ (Unit ⊕ Int))
  | x1 => (if x1 < (p0.length : Int) then (ix p0 x1).bind fun x2 => (if x2 ≠ 0 then some (.inr (.inr x2)) else some (.inl (w64 (x1 + 1)))) else some (.inr (.inl ())))
theorem cmp_Or_int_l1_le (nE : Nat) (p0 : List Int) : ∀ s, Le (cmp_Or_int_l1_e nE p0 s) (cmp_Or_int_l1 p0 s) := by
  intro x1
  unfold cmp_Or_int_l1_e cmp_Or_int_l1
  repeat' with_reducible (first | refine Le.orR' ?_ ?_ | refine Le.bind' ?_ ?_ | refine Le.ite' ?_ ?_ | refine Le.loop' ?_ | refine Le.altS' ?_ ?_ | exact Le.rfl' _ | (refine Le.pi2 ?_; intro _) | intro _)
def cmp_Or_int_e (nE : Nat) (p0 : List Int) : Option Int := orR (loopE nE (cmp_Or_int_l1_e nE p0) 0) fun _ => some 0
theorem cmp_Or_int_le (nE : Nat) (p0 : List Int) : Le (cmp_Or_int_e nE p0) (cmp_Or_int p0) := by
  unfold cmp_Or_int_e cmp_Or_int
  repeat' with_reducible (first | refine Le.orR' ?_ ?_ | refine Le.bind' ?_ ?_ | refine Le.ite' ?_ ?_ | refine Le.loop' ?_ | refine Le.altS' ?_ ?_ | apply cmp_Or_int_l1_le | exact Le.rfl' _ | (refine Le.pi2 ?_; intro _) | intro _)
def level_Moves_1_e (nE : Nat) (p0 : Int × Int × Int × Int) (p1 : Int × Int × Int × Int) : Option Int := (cmp_Or_int_e nE ([(cmp_Compare_int p0.2.2.2 p1.2.2.2), (cmp_Compare_int p0.1 p1.1), (cmp_Compare_int p0.2.1 p1.2.1)] : List Int)).bind fun x1 => some x1
theorem level_Moves_1_le (nE : Nat) (p0 : Int × Int × Int × Int) (p1 : Int × Int × Int × Int) : Le (level_Moves_1_e nE p0 p1) (level_Moves_1 p0 p1) := by
  unfold level_Moves_1_e level_Moves_1
  repeat' with_reducible (first | refine Le.orR' ?_ ?_ | refine Le.bind' ?_ ?_ | refine Le.ite' ?_ ?_ | refine Le.loop' ?_ | refine Le.altS' ?_ ?_ | apply cmp_Or_int_le | exact Le.rfl' _ | (refine Le.pi2 ?_; intro _) | intro _)
def slices_insertionSortCmpFunc_level_Move_l2_e (nE : Nat) (p1 : Int) : ((List (Int × Int × Int × Int)) × Int) → Option (((List (Int × Int × Int × Int)) × Int) ⊕ (List (Int × Int × Int × Int)))
  | (x4, x5) => (if p1 < x5 then (ix x4 x5).bind fun x7 => (ix x4 (w64 (x5 - 1))).bind fun x8 => (level_Moves_1_e nE x7 x8).bind fun x9 => some (decide (x9 < 0)) else some false).bind fun x6 => (if x6 = true then (ix x4 (w64 (x5 - 1))).bind fun x10 => (ix x4 x5).bind fun x11 => (ix x4 x5).bind fun x12 => (ix (setAt x4 x5 x10) (w64 (x5 - 1))).bind fun x13 => some (.inl ((setAt (setAt x4 x5 x10) (w64 (x5 - 1)) x11), w64 (x5 - 1))) else some (.inr x4))
theorem slices_insertionSortCmpFunc_level_Move_l2_le (nE : Nat) (p1 : Int) : ∀ s, Le (slices_insertionSortCmpFunc_level_Move_l2_e nE p1 s) (slices_insertionSortCmpFunc_level_Move_l2 p1 s) := by
  rintro ⟨x4, x5⟩
  unfold slices_insertionSortCmpFunc_level_Move_l2_e slices_insertionSortCmpFunc_level_Move_l2
  repeat' with_reducible (first | refine Le.orR' ?_ ?_ | refine Le.bind' ?_ ?_ | refine Le.ite' ?_ ?_ | refine Le.loop' ?_ | refine Le.altS' ?_ ?_ | apply level_Moves_1_le | exact Le.rfl' _ | (refine Le.pi2 ?_; intro _) | intro _)
def slices_insertionSortCmpFunc_level_Move_l1_e (nE : Nat) (p1 : Int) (p2 : Int) : ((List (Int × Int × Int × Int)) × Int) → Option (((List (Int × Int × Int × Int)) × Int) ⊕ (List (Int × Int × Int × Int)))
  | (x1, x2) => (if x2 < p2 then (loopE nE (slices_insertionSortCmpFunc_level_Move_l2_e nE p1) (x1, x2)).bind fun x3 => some (.inl (x3, w64 (x2 + 1))) else some (.inr x1))
theorem slices_insertionSortCmpFunc_level_Move_l1_le (nE : Nat) (p1 : Int) (p2 : Int) : ∀ s, Le (slices_insertionSortCmpFunc_level_Move_l1_e nE p1 p2 s) (slices_insertionSortCmpFunc_level_Move_l1 p1 p2 s) := by
  rintro ⟨x1, x2⟩
  unfold slices_insertionSortCmpFunc_level_Move_l1_e slices_insertionSortCmpFunc_level_Move_l1
  repeat' with_reducible (first | refine Le.orR' ?_ ?_ | refine Le.bind' ?_ ?_ | refine Le.ite' ?_ ?_ | refine Le.loop' ?_ | refine Le.altS' ?_ ?_ | apply slices_insertionSortCmpFunc_level_Move_l2_le | exact Le.rfl' _ | (refine Le.pi2 ?_; intro _) | intro _)
def slices_insertionSortCmpFunc_level_Move_e (nE : Nat) (p0 : List (Int × Int × Int × Int)) (p1 : Int) (p2 : Int) : Option (List (Int × Int × Int × Int)) := loopE nE (slices_insertionSortCmpFunc_level_Move_l1_e nE p1 p2) (p0, w64 (p1 + 1))
theorem slices_insertionSortCmpFunc_level_Move_le (nE : Nat) (p0 : List (Int × Int × Int × Int)) (p1 : Int) (p2 : Int) : Le (slices_insertionSortCmpFunc_level_Move_e nE p0 p1 p2) (slices_insertionSortCmpFunc_level_Move p0 p1 p2) := by
  unfold slices_insertionSortCmpFunc_level_Move_e slices_insertionSortCmpFunc_level_Move
  repeat' with_reducible (first | refine Le.orR' ?_ ?_ | refine Le.bind' ?_ ?_ | refine Le.ite' ?_ ?_ | refine Le.loop' ?_ | refine Le.altS' ?_ ?_ | apply slices_insertionSortCmpFunc_level_Move_l1_le | exact Le.rfl' _ | (refine Le.pi2 ?_; intro _) | intro _)
def slices_heapSortCmpFunc_level_Move_e (nE : Nat) (p0 : List (Int × Int × Int × Int)) (p1 : Int) (p2 : Int) : Option (List (Int × Int × Int × Int)) := none
theorem slices_heapSortCmpFunc_level_Move_le (nE : Nat) (p0 : List (Int × Int × Int × Int)) (p1 : Int) (p2 : Int) : Le (slices_heapSortCmpFunc_level_Move_e nE p0 p1 p2) (slices_heapSortCmpFunc_level_Move p0 p1 p2) := fun _ h => nomatch h
def slices_choosePivotCmpFunc_level_Move_e (nE : Nat) (p0 : List (Int × Int × Int × Int)) (p1 : Int) (p2 : Int) : Option (Int × Int) := none
theorem slices_choosePivotCmpFunc_level_Move_le (nE : Nat) (p0 : List (Int × Int × Int × Int)) (p1 : Int) (p2 : Int) : Le (slices_choosePivotCmpFunc_level_Move_e nE p0 p1 p2) (slices_choosePivotCmpFunc_level_Move p0 p1 p2) := fun _ h => nomatch h
def slices_reverseRangeCmpFunc_level_Move_e (nE : Nat) (p0 : List (Int × Int × Int × Int)) (p1 : Int) (p2 : Int) : Option (List (Int × Int × Int × Int)) := none
theorem slices_reverseRangeCmpFunc_level_Move_le (nE : Nat) (p0 : List (Int × Int × Int × Int)) (p1 : Int) (p2 : Int) : Le (slices_reverseRangeCmpFunc_level_Move_e nE p0 p1 p2) (slices_reverseRangeCmpFunc_level_Move p0 p1 p2) := fun _ h => nomatch h
def slices_partialInsertionSortCmpFunc_level_Move_e (nE : Nat) (p0 : List (Int × Int × Int × Int)) (p1 : Int) (p2 : Int) : Option (Bool × (List (Int × Int × Int × Int))) := none
theorem slices_partialInsertionSortCmpFunc_level_Move_le (nE : Nat) (p0 : List (Int × Int × Int × Int)) (p1 : Int) (p2 : Int) : Le (slices_partialInsertionSortCmpFunc_level_Move_e nE p0 p1 p2) (slices_partialInsertionSortCmpFunc_level_Move p0 p1 p2) := fun _ h => nomatch h
def slices_partitionEqualCmpFunc_level_Move_e (nE : Nat) (p0 : List (Int × Int × Int × Int)) (p1 : Int) (p2 : Int) (p3 : Int) : Option (Int × (List (Int × Int × Int × Int))) := none
theorem slices_partitionEqualCmpFunc_level_Move_le (nE : Nat) (p0 : List (Int × Int × Int × Int)) (p1 : Int) (p2 : Int) (p3 : Int) : Le (slices_partitionEqualCmpFunc_level_Move_e nE p0 p1 p2 p3) (slices_partitionEqualCmpFunc_level_Move p0 p1 p2 p3) := fun _ h => nomatch h
def slices_partitionCmpFunc_level_Move_e (nE : Nat) (p0 : List (Int × Int × Int × Int)) (p1 : Int) (p2 : Int) (p3 : Int) : Option (Int × Bool × (List (Int × Int × Int × Int))) := none
theorem slices_partitionCmpFunc_level_Move_le (nE : Nat) (p0 : List (Int × Int × Int × Int)) (p1 : Int) (p2 : Int) (p3 : Int) : Le (slices_partitionCmpFunc_level_Move_e nE p0 p1 p2 p3) (slices_partitionCmpFunc_level_Move p0 p1 p2 p3) := fun _ h => nomatch h
def slices_breakPatternsCmpFunc_level_Move_e (nE : Nat) (p0 : List (Int × Int × Int × Int)) (p1 : Int) (p2 : Int) : Option (List (Int × Int × Int × Int)) := none
theorem slices_breakPatternsCmpFunc_level_Move_le (nE : Nat) (p0 : List (Int × Int × Int × Int)) (p1 : Int) (p2 : Int) : Le (slices_breakPatternsCmpFunc_level_Move_e nE p0 p1 p2) (slices_breakPatternsCmpFunc_level_Move p0 p1 p2) := fun _ h => nomatch h
def slices_pdqsortCmpFunc_level_Move_l1_e (nE : Nat) (fRec : (List (Int × Int × Int × Int)) → Int → Int → Int → Option (List (Int × Int × Int × Int))) : ((List (Int × Int × Int × Int)) × Int × Int × Int × Bool × Bool) → Option (((List (Int × Int × Int × Int)) × Int × Int × Int × Bool × Bool) ⊕ (List (Int × Int × Int × Int)))
  | (x1, x2, x3, x4, x5, x6) => (if (w64 (x3 - x2)) ≤ 12 then (slices_insertionSortCmpFunc_level_Move_e nE x1 x2 x3).bind fun x7 => some (.inr x7) else (if x4 = 0 then (slices_heapSortCmpFunc_level_Move_e nE x1 x2 x3).bind fun x8 => some (.inr x8) else (if (!x5) = true then (slices_breakPatternsCmpFunc_level_Move_e nE x1 x2 x3).bind fun x11 => some (x11, w64 (x4 - 1)) else some (x1, x4)).bind fun (x9, x10) => (slices_choosePivotCmpFunc_level_Move_e nE x9 x2 x3).bind fun x12 => (if x12.2 = 2 then (slices_reverseRangeCmpFunc_level_Move_e nE x9 x2 x3).bind fun x16 => some (x16, w64 ((w64 (x3 - 1)) - (w64 (x12.1 - x2))), 1) else some (x9, x12.1, x12.2)).bind fun (x13, x14, x15) => orR (if (x5 && (x6 && decide (x15 = 1))) = true then (slices_partialInsertionSortCmpFunc_level_Move_e nE x13 x2 x3).bind fun x18 => (if x18.1 = true then some (.inr (.inr x18.2)) else some (.inl x18.2)) else some (.inl x13)) fun x17 => (if 0 < x2 then (ix x17 (w64 (x2 - 1))).bind fun x20 => (ix x17 x14).bind fun x21 => (level_Moves_1_e nE x20 x21).bind fun x22 => some (!(decide (x22 < 0))) else some false).bind fun x19 => (if x19 = true then (slices_partitionEqualCmpFunc_level_Move_e nE x17 x2 x3 x14).bind fun x23 => some (.inl (x23.2, x23.1, x3, x10, (x5 && (x6 || true)), (bif x5 then x6 else x6))) else (slices_partitionCmpFunc_level_Move_e nE x17 x2 x3 x14).bind fun x24 => (if (w64 (x24.1 - x2)) < (w64 (x3 - x24.1)) then (fRec x24.2.2 x2 x24.1 x10).bind fun x25 => some (.inl (x25, w64 (x24.1 + 1), x3, x10, decide ((w64 (Int.tdiv (w64 (x3 - x2)) 8)) ≤ (w64 (x24.1 - x2))), x24.2.1)) else (fRec x24.2.2 (w64 (x24.1 + 1)) x3 x10).bind fun x26 => some (.inl (x26, x2, x24.1, x10, decide ((w64 (Int.tdiv (w64 (x3 - x2)) 8)) ≤ (w64 (x3 - x24.1))), x24.2.1))))))
theorem slices_pdqsortCmpFunc_level_Move_l1_le (nE : Nat) {fRec fRec' : (List (Int × Int × Int × Int)) → Int → Int → Int → Option (List (Int × Int × Int × Int))} (hR : ∀ a0 a1 a2 a3, Le (fRec a0 a1 a2 a3) (fRec' a0 a1 a2 a3)) : ∀ s, Le (slices_pdqsortCmpFunc_level_Move_l1_e nE fRec s) (slices_pdqsortCmpFunc_level_Move_l1 fRec' s) := by
  rintro ⟨x1, x2, x3, x4, x5, x6⟩
  unfold slices_pdqsortCmpFunc_level_Move_l1_e slices_pdqsortCmpFunc_level_Move_l1
  repeat' with_reducible (first | refine Le.orR' ?_ ?_ | refine Le.bind' ?_ ?_ | refine Le.ite' ?_ ?_ | refine Le.loop' ?_ | refine Le.altS' ?_ ?_ | exact hR _ _ _ _ | apply level_Moves_1_le | apply slices_insertionSortCmpFunc_level_Move_le | apply slices_heapSortCmpFunc_level_Move_le | apply slices_choosePivotCmpFunc_level_Move_le | apply slices_reverseRangeCmpFunc_level_Move_le | apply slices_partialInsertionSortCmpFunc_level_Move_le | apply slices_partitionEqualCmpFunc_level_Move_le | apply slices_partitionCmpFunc_level_Move_le | apply slices_breakPatternsCmpFunc_level_Move_le | exact Le.rfl' _ | (refine Le.pi2 ?_; intro _) | intro _)
theorem slices_pdqsortCmpFunc_level_Move_l1_mo {fRec fRec' : (List (Int × Int × Int × Int)) → Int → Int → Int → Option (List (Int × Int × Int × Int))} (hR : ∀ a0 a1 a2 a3, Le (fRec a0 a1 a2 a3) (fRec' a0 a1 a2 a3)) : ∀ s, Le (slices_pdqsortCmpFunc_level_Move_l1 fRec s) (slices_pdqsortCmpFunc_level_Move_l1 fRec' s) := by
  rintro ⟨x1, x2, x3, x4, x5, x6⟩
  show Le (slices_pdqsortCmpFunc_level_Move_l1 fRec (x1, x2, x3, x4, x5, x6)) (slices_pdqsortCmpFunc_level_Move_l1 fRec' (x1, x2, x3, x4, x5, x6))
  unfold slices_pdqsortCmpFunc_level_Move_l1
  repeat' with_reducible (first | refine Le.orR' ?_ ?_ | refine Le.bind' ?_ ?_ | refine Le.ite' ?_ ?_ | refine Le.loopM ?_ | refine Le.altS' ?_ ?_ | exact hR _ _ _ _ | exact Le.rfl' _ | (refine Le.pi2 ?_; intro _) | intro _)
def slices_pdqsortCmpFunc_level_Move_st_e (nE : Nat) (fRec : (List (Int × Int × Int × Int)) → Int → Int → Int → Option (List (Int × Int × Int × Int))) (p0 : List (Int × Int × Int × Int)) (p1 : Int) (p2 : Int) (p3 : Int) : Option (List (Int × Int × Int × Int)) := loopE nE (slices_pdqsortCmpFunc_level_Move_l1_e nE fRec) (p0, p1, p2, p3, true, true)
theorem slices_pdqsortCmpFunc_level_Move_st_le (nE : Nat) {fRec fRec' : (List (Int × Int × Int × Int)) → Int → Int → Int → Option (List (Int × Int × Int × Int))} (hR : ∀ a0 a1 a2 a3, Le (fRec a0 a1 a2 a3) (fRec' a0 a1 a2 a3)) (p0 : List (Int × Int × Int × Int)) (p1 : Int) (p2 : Int) (p3 : Int) : Le (slices_pdqsortCmpFunc_level_Move_st_e nE fRec p0 p1 p2 p3) (slices_pdqsortCmpFunc_level_Move_st fRec' p0 p1 p2 p3) := by
  unfold slices_pdqsortCmpFunc_level_Move_st_e slices_pdqsortCmpFunc_level_Move_st
  repeat' with_reducible (first | refine Le.orR' ?_ ?_ | refine Le.bind' ?_ ?_ | refine Le.ite' ?_ ?_ | refine Le.loop' ?_ | refine Le.altS' ?_ ?_ | exact hR _ _ _ _ | apply slices_pdqsortCmpFunc_level_Move_l1_le nE hR | exact Le.rfl' _ | (refine Le.pi2 ?_; intro _) | intro _)
theorem slices_pdqsortCmpFunc_level_Move_st_mo {fRec fRec' : (List (Int × Int × Int × Int)) → Int → Int → Int → Option (List (Int × Int × Int × Int))} (hR : ∀ a0 a1 a2 a3, Le (fRec a0 a1 a2 a3) (fRec' a0 a1 a2 a3)) (p0 : List (Int × Int × Int × Int)) (p1 : Int) (p2 : Int) (p3 : Int) : Le (slices_pdqsortCmpFunc_level_Move_st fRec p0 p1 p2 p3) (slices_pdqsortCmpFunc_level_Move_st fRec' p0 p1 p2 p3) := by
  unfold slices_pdqsortCmpFunc_level_Move_st
  repeat' with_reducible (first | refine Le.orR' ?_ ?_ | refine Le.bind' ?_ ?_ | refine Le.ite' ?_ ?_ | refine Le.loopM ?_ | refine Le.altS' ?_ ?_ | exact hR _ _ _ _ | apply slices_pdqsortCmpFunc_level_Move_l1_mo hR | exact Le.rfl' _ | (refine Le.pi2 ?_; intro _) | intro _)
def slices_pdqsortCmpFunc_level_Move_n_e (nE : Nat) : Nat → (List (Int × Int × Int × Int)) → Int → Int → Int → Option (List (Int × Int × Int × Int))
  | 0 => fun _ _ _ _ => none
  | n + 1 => slices_pdqsortCmpFunc_level_Move_st_e nE (slices_pdqsortCmpFunc_level_Move_n_e nE n)
theorem slices_pdqsortCmpFunc_level_Move_n_le (nE : Nat) : ∀ (m : Nat) a0 a1 a2 a3, Le (slices_pdqsortCmpFunc_level_Move_n_e nE m a0 a1 a2 a3) (slices_pdqsortCmpFunc_level_Move_n m a0 a1 a2 a3)
  | 0, a0, a1, a2, a3 => fun _ h => nomatch h
  | m + 1, a0, a1, a2, a3 => slices_pdqsortCmpFunc_level_Move_st_le nE (slices_pdqsortCmpFunc_level_Move_n_le nE m) a0 a1 a2 a3
theorem slices_pdqsortCmpFunc_level_Move_n_mo : ∀ (m : Nat) a0 a1 a2 a3, Le (slices_pdqsortCmpFunc_level_Move_n m a0 a1 a2 a3) (slices_pdqsortCmpFunc_level_Move_n (m + 1) a0 a1 a2 a3)
  | 0, a0, a1, a2, a3 => fun _ h => nomatch h
  | m + 1, a0, a1, a2, a3 => slices_pdqsortCmpFunc_level_Move_st_mo (slices_pdqsortCmpFunc_level_Move_n_mo m) a0 a1 a2 a3
def slices_pdqsortCmpFunc_level_Move_e (nE : Nat) (p0 : List (Int × Int × Int × Int)) (p1 : Int) (p2 : Int) (p3 : Int) : Option (List (Int × Int × Int × Int)) := slices_pdqsortCmpFunc_level_Move_n_e nE nE p0 p1 p2 p3
theorem slices_pdqsortCmpFunc_level_Move_le (nE : Nat) (p0 : List (Int × Int × Int × Int)) (p1 : Int) (p2 : Int) (p3 : Int) : Le (slices_pdqsortCmpFunc_level_Move_e nE p0 p1 p2 p3) (slices_pdqsortCmpFunc_level_Move p0 p1 p2 p3) := fun r e => limF_up (g := fun n => slices_pdqsortCmpFunc_level_Move_n n p0 p1 p2 p3) (fun n r h => slices_pdqsortCmpFunc_level_Move_n_mo n p0 p1 p2 p3 r h) (n := nE) (slices_pdqsortCmpFunc_level_Move_n_le nE nE p0 p1 p2 p3 r e)
def slices_SortFunc_level_Move_level_Move_e (nE : Nat) (p0 : List (Int × Int × Int × Int)) : Option (List (Int × Int × Int × Int)) := (math_bits_Len_e nE (IntKind.u64.wrap (p0.length : Int))).bind fun x1 => (slices_pdqsortCmpFunc_level_Move_e nE p0 0 (p0.length : Int) x1).bind fun x2 => some x2
theorem slices_SortFunc_level_Move_level_Move_le (nE : Nat) (p0 : List (Int × Int × Int × Int)) : Le (slices_SortFunc_level_Move_level_Move_e nE p0) (slices_SortFunc_level_Move_level_Move p0) := by
  unfold slices_SortFunc_level_Move_level_Move_e slices_SortFunc_level_Move_level_Move
  repeat' with_reducible (first | refine Le.orR' ?_ ?_ | refine Le.bind' ?_ ?_ | refine Le.ite' ?_ ?_ | refine Le.loop' ?_ | refine Le.altS' ?_ ?_ | apply math_bits_Len_le | apply slices_pdqsortCmpFunc_level_Move_le | exact Le.rfl' _ | (refine Le.pi2 ?_; intro _) | intro _)
def level_Moves_l2_e (nE : Nat) (p1 : List (List Int)) (p2 : List (List Int)) (x6 : Int) (x8 : List Int) : ((List (Int × Int × Int × Int)) × Int) → Option (((List (Int × Int × Int × Int)) × Int) ⊕ (List (Int × Int × Int × Int)))
  | (x9, x10) => (if x10 < (x8.length : Int) then ((ix x8 x10).bind fun x12 => (ix p2 x10).bind fun x13 => (ix x13 x6).bind fun x14 => (ix p1 x10).bind fun x15 => (ix x15 x6).bind fun x16 => (if x14 ≠ x16 then (app x9 ([(x10, x6, x14, x12)] : List (Int × Int × Int × Int))).bind fun x17 => some x17 else some x9)).bind fun x11 => some (.inl (x11, w64 (x10 + 1))) else some (.inr x9))
theorem level_Moves_l2_le (nE : Nat) (p1 : List (List Int)) (p2 : List (List Int)) (x6 : Int) (x8 : List Int) : ∀ s, Le (level_Moves_l2_e nE p1 p2 x6 x8 s) (level_Moves_l2 p1 p2 x6 x8 s) := by
  rintro ⟨x9, x10⟩
  unfold level_Moves_l2_e level_Moves_l2
  repeat' with_reducible (first | refine Le.orR' ?_ ?_ | refine Le.bind' ?_ ?_ | refine Le.ite' ?_ ?_ | refine Le.loop' ?_ | refine Le.altS' ?_ ?_ | exact Le.rfl' _ | (refine Le.pi2 ?_; intro _) | intro _)
def level_Moves_l1_e (nE : Nat) (p0 : Int × (List (Int × Int × Int × Int × Int × Int)) × (List (Int × Int))) (p1 : List (List Int)) (p2 : List (List Int)) : ((List (Int × Int × Int × Int)) × Int) → Option (((List (Int × Int × Int × Int)) × Int) ⊕ (List (Int × Int × Int × Int)))
  | (x5, x6) => (if x6 < (p0.2.2.length : Int) then ((route_Far_e nE p0 p2 x6).bind fun x8 => loopE nE (level_Moves_l2_e nE p1 p2 x6 x8) (x5, 0)).bind fun x7 => some (.inl (x7, w64 (x6 + 1))) else some (.inr x5))
theorem level_Moves_l1_le (nE : Nat) (p0 : Int × (List (Int × Int × Int × Int × Int × Int)) × (List (Int × Int))) (p1 : List (List Int)) (p2 : List (List Int)) : ∀ s, Le (level_Moves_l1_e nE p0 p1 p2 s) (level_Moves_l1 p0 p1 p2 s) := by
  rintro ⟨x5, x6⟩
  unfold level_Moves_l1_e level_Moves_l1
  repeat' with_reducible (first | refine Le.orR' ?_ ?_ | refine Le.bind' ?_ ?_ | refine Le.ite' ?_ ?_ | refine Le.loop' ?_ | refine Le.altS' ?_ ?_ | apply route_Far_le | apply level_Moves_l2_le | exact Le.rfl' _ | (refine Le.pi2 ?_; intro _) | intro _)
def level_Moves_e (nE : Nat) (p0 : Int × (List (Int × Int × Int × Int × Int × Int)) × (List (Int × Int))) (p1 : List (List Int)) (p2 : List (List Int)) : Option ((List (Int × Int × Int × Int)) × Int) := ((route_Good_e nE p0 p1).bind fun x2 => (if (!x2) = true then some true else (route_Good_e nE p0 p2).bind fun x3 => some (!x3))).bind fun x1 => (if x1 = true then some (([] : List (Int × Int × Int × Int)), 2) else (loopE nE (level_Moves_l1_e nE p0 p1 p2) ([], 0)).bind fun x4 => (slices_SortFunc_level_Move_level_Move_e nE x4).bind fun x18 => some (x18, 0))
theorem level_Moves_le (nE : Nat) (p0 : Int × (List (Int × Int × Int × Int × Int × Int)) × (List (Int × Int))) (p1 : List (List Int)) (p2 : List (List Int)) : Le (level_Moves_e nE p0 p1 p2) (level_Moves p0 p1 p2) := by
  unfold level_Moves_e level_Moves
  repeat' with_reducible (first | refine Le.orR' ?_ ?_ | refine Le.bind' ?_ ?_ | refine Le.ite' ?_ ?_ | refine Le.loop' ?_ | refine Le.altS' ?_ ?_ | apply route_Good_le | apply slices_SortFunc_level_Move_level_Move_le | apply level_Moves_l1_le | exact Le.rfl' _ | (refine Le.pi2 ?_; intro _) | intro _)
def slices_insertionSortOrdered_int_l2_e (nE : Nat) (p1 : Int) : (List Int × Int) → Option ((List Int × Int) ⊕ (List Int))
  | (x4, x5) => (if p1 < x5 then (ix x4 x5).bind fun x7 => (ix x4 (w64 (x5 - 1))).bind fun x8 => some (cmp_Less_int x7 x8) else some false).bind fun x6 => (if x6 = true then (ix x4 (w64 (x5 - 1))).bind fun x9 => (ix x4 x5).bind fun x10 => (ix x4 x5).bind fun x11 => (ix (setAt x4 x5 x9) (w64 (x5 - 1))).bind fun x12 => some (.inl ((setAt (setAt x4 x5 x9) (w64 (x5 - 1)) x10), w64 (x5 - 1))) else some (.inr x4))
theorem slices_insertionSortOrdered_int_l2_le (nE : Nat) (p1 : Int) : ∀ s, Le (slices_insertionSortOrdered_int_l2_e nE p1 s) (slices_insertionSortOrdered_int_l2 p1 s) := by
  rintro ⟨x4, x5⟩
  unfold slices_insertionSortOrdered_int_l2_e slices_insertionSortOrdered_int_l2
  repeat' with_reducible (first | refine Le.orR' ?_ ?_ | refine Le.bind' ?_ ?_ | refine Le.ite' ?_ ?_ | refine Le.loop' ?_ | refine Le.altS' ?_ ?_ | exact Le.rfl' _ | (refine Le.pi2 ?_; intro _) | intro _)
def slices_insertionSortOrdered_int_l1_e (nE : Nat) (p1 : Int) (p2 : Int) : (List Int × Int) → Option ((List Int × Int) ⊕ (List Int))
  | (x1, x2) => (if x2 < p2 then (loopE nE (slices_insertionSortOrdered_int_l2_e nE p1) (x1, x2)).bind fun x3 => some (.inl (x3, w64 (x2 + 1))) else some (.inr x1))
theorem slices_insertionSortOrdered_int_l1_le (nE : Nat) (p1 : Int) (p2 : Int) : ∀ s, Le (slices_insertionSortOrdered_int_l1_e nE p1 p2 s) (slices_insertionSortOrdered_int_l1 p1 p2 s) := by
  rintro ⟨x1, x2⟩
  unfold slices_insertionSortOrdered_int_l1_e slices_insertionSortOrdered_int_l1
  repeat' with_reducible (first | refine Le.orR' ?_ ?_ | refine Le.bind' ?_ ?_ | refine Le.ite' ?_ ?_ | refine Le.loop' ?_ | refine Le.altS' ?_ ?_ | apply slices_insertionSortOrdered_int_l2_le | exact Le.rfl' _ | (refine Le.pi2 ?_; intro _) | intro _)
def slices_insertionSortOrdered_int_e (nE : Nat) (p0 : List Int) (p1 : Int) (p2 : Int) : Option (List Int) := loopE nE (slices_insertionSortOrdered_int_l1_e nE p1 p2) (p0, w64 (p1 + 1))
theorem slices_insertionSortOrdered_int_le (nE : Nat) (p0 : List Int) (p1 : Int) (p2 : Int) : Le (slices_insertionSortOrdered_int_e nE p0 p1 p2) (slices_insertionSortOrdered_int p0 p1 p2) := by
  unfold slices_insertionSortOrdered_int_e slices_insertionSortOrdered_int
  repeat' with_reducible (first | refine Le.orR' ?_ ?_ | refine Le.bind' ?_ ?_ | refine Le.ite' ?_ ?_ | refine Le.loop' ?_ | refine Le.altS' ?_ ?_ | apply slices_insertionSortOrdered_int_l1_le | exact Le.rfl' _ | (refine Le.pi2 ?_; intro _) | intro _)
def slices_choosePivotOrdered_int_e (nE : Nat) (p0 : List Int) (p1 : Int) (p2 : Int) : Option (Int × Int) := none
theorem slices_choosePivotOrdered_int_le (nE : Nat) (p0 : List Int) (p1 : Int) (p2 : Int) : Le (slices_choosePivotOrdered_int_e nE p0 p1 p2) (slices_choosePivotOrdered_int p0 p1 p2) := fun _ h => nomatch h
def slices_partialInsertionSortOrdered_int_e (nE : Nat) (p0 : List Int) (p1 : Int) (p2 : Int) : Option (Bool × List Int) := none
theorem slices_partialInsertionSortOrdered_int_le (nE : Nat) (p0 : List Int) (p1 : Int) (p2 : Int) : Le (slices_partialInsertionSortOrdered_int_e nE p0 p1 p2) (slices_partialInsertionSortOrdered_int p0 p1 p2) := fun _ h => nomatch h
def slices_pdqsortOrdered_int_l1_e (nE : Nat) (p0 : List Int) (p1 : Int) (p2 : Int) (p3 : Int) : Unit → Option (Unit ⊕ (List Int))
  | _ => (if (w64 (p2 - p1)) ≤ 12 then (slices_insertionSortOrdered_int_e nE p0 p1 p2).bind fun x1 => some (.inr x1) else (if p3 = 0 then none else (slices_choosePivotOrdered_int_e nE p0 p1 p2).bind fun x2 => (if x2.2 = 2 then none else orR (if x2.2 = 1 then (slices_partialInsertionSortOrdered_int_e nE p0 p1 p2).bind fun x4 => (if x4.1 = true then some (.inr (.inr x4.2)) else some (.inl x4.2)) else some (.inl p0)) fun x3 => (if 0 < p1 then (ix x3 (w64 (p1 - 1))).bind fun x6 => (ix x3 x2.1).bind fun x7 => some (!(cmp_Less_int x6 x7)) else some false).bind fun x5 => none)))
theorem slices_pdqsortOrdered_int_l1_le (nE : Nat) (p0 : List Int) (p1 : Int) (p2 : Int) (p3 : Int) : ∀ s, Le (slices_pdqsortOrdered_int_l1_e nE p0 p1 p2 p3 s) (slices_pdqsortOrdered_int_l1 p0 p1 p2 p3 s) := by
  intro s
  unfold slices_pdqsortOrdered_int_l1_e slices_pdqsortOrdered_int_l1
  repeat' with_reducible (first | refine Le.orR' ?_ ?_ | refine Le.bind' ?_ ?_ | refine Le.ite' ?_ ?_ | refine Le.loop' ?_ | refine Le.altS' ?_ ?_ | apply slices_insertionSortOrdered_int_le | apply slices_choosePivotOrdered_int_le | apply slices_partialInsertionSortOrdered_int_le | exact Le.rfl' _ | (refine Le.pi2 ?_; intro _) | intro _)
def slices_pdqsortOrdered_int_e (nE : Nat) (p0 : List Int) (p1 : Int) (p2 : Int) (p3 : Int) : Option (List Int) := loopE nE (slices_pdqsortOrdered_int_l1_e nE p0 p1 p2 p3) ()
theorem slices_pdqsortOrdered_int_le (nE : Nat) (p0 : List Int) (p1 : Int) (p2 : Int) (p3 : Int) : Le (slices_pdqsortOrdered_int_e nE p0 p1 p2 p3) (slices_pdqsortOrdered_int p0 p1 p2 p3) := by
  unfold slices_pdqsortOrdered_int_e slices_pdqsortOrdered_int
  repeat' with_reducible (first | refine Le.orR' ?_ ?_ | refine Le.bind' ?_ ?_ | refine Le.ite' ?_ ?_ | refine Le.loop' ?_ | refine Le.altS' ?_ ?_ | apply slices_pdqsortOrdered_int_l1_le | exact Le.rfl' _ | (refine Le.pi2 ?_; intro _) | intro _)
def slices_Sort_int_int_e (nE : Nat) (p0 : List Int) : Option (List Int) := (math_bits_Len_e nE (IntKind.u64.wrap (p0.length : Int))).bind fun x1 => (slices_pdqsortOrdered_int_e nE p0 0 (p0.length : Int) x1).bind fun x2 => some x2
theorem slices_Sort_int_int_le (nE : Nat) (p0 : List Int) : Le (slices_Sort_int_int_e nE p0) (slices_Sort_int_int p0) := by
  unfold slices_Sort_int_int_e slices_Sort_int_int
  repeat' with_reducible (first | refine Le.orR' ?_ ?_ | refine Le.bind' ?_ ?_ | refine Le.ite' ?_ ?_ | refine Le.loop' ?_ | refine Le.altS' ?_ ?_ | apply math_bits_Len_le | apply slices_pdqsortOrdered_int_le | exact Le.rfl' _ | (refine Le.pi2 ?_; intro _) | intro _)
def slices_Compact_int_int_l2_e (nE : Nat) (p0 : List Int) (x1 : Int) : (List Int × Int × Int) → Option ((List Int × Int × Int) ⊕ (List Int × Int))
  | (x7, x8, x9) => (subl x7 x1 (p0.length : Int)).bind fun x10 => (if x9 < (x10.length : Int) then ((ix x10 x9).bind fun x13 => (ix x10 (w64 (x9 - 1))).bind fun x14 => (if x13 ≠ x14 then (ix x10 x9).bind fun x15 => (ix x7 x8).bind fun x16 => some ((setAt x7 x8 x15), w64 (x8 + 1)) else some (x7, x8))).bind fun (x11, x12) => some (.inl (x11, x12, w64 (x9 + 1))) else some (.inr (x7, x8)))
theorem slices_Compact_int_int_l2_le (nE : Nat) (p0 : List Int) (x1 : Int) : ∀ s, Le (slices_Compact_int_int_l2_e nE p0 x1 s) (slices_Compact_int_int_l2 p0 x1 s) := by
  rintro ⟨x7, x8, x9⟩
  unfold slices_Compact_int_int_l2_e slices_Compact_int_int_l2
  repeat' with_reducible (first | refine Le.orR' ?_ ?_ | refine Le.bind' ?_ ?_ | refine Le.ite' ?_ ?_ | refine Le.loop' ?_ | refine Le.altS' ?_ ?_ | exact Le.rfl' _ | (refine Le.pi2 ?_; intro _) | intro _)
def slices_Compact_int_int_l1_e (nE : Nat) (p0 : List Int) : Int → Option (Int ⊕ (Unit ⊕ (List Int)))
  | x1 => (if x1 < (p0.length : Int) then orR ((ix p0 x1).bind fun x2 => (ix p0 (w64 (x1 - 1))).bind fun x3 => (if x2 = x3 then (subl p0 x1 (p0.length : Int)).bind fun x4 => (loopE nE (slices_Compact_int_int_l2_e nE p0 x1) (p0, x1, 1)).bind fun (x5, x6) => (subl x5 x6 (x5.length : Int)).bind fun x17 => (spl x5 x6 (List.replicate (x17.length) (0 : Int))).bind fun x18 => (subl x18 0 x6).bind fun x19 => some (.inr (.inr (.inr x19))) else some (.inl ()))) fun _ => some (.inl (w64 (x1 + 1))) else some (.inr (.inl ())))
theorem slices_Compact_int_int_l1_le (nE : Nat) (p0 : List Int) : ∀ s, Le (slices_Compact_int_int_l1_e nE p0 s) (slices_Compact_int_int_l1 p0 s) := by
  intro x1
  unfold slices_Compact_int_int_l1_e slices_Compact_int_int_l1
  repeat' with_reducible (first | refine Le.orR' ?_ ?_ | refine Le.bind' ?_ ?_ | refine Le.ite' ?_ ?_ | refine Le.loop' ?_ | refine Le.altS' ?_ ?_ | apply slices_Compact_int_int_l2_le | exact Le.rfl' _ | (refine Le.pi2 ?_; intro _) | intro _)
def slices_Compact_int_int_e (nE : Nat) (p0 : List Int) : Option (List Int) := (if (p0.length : Int) < 2 then some p0 else orR (loopE nE (slices_Compact_int_int_l1_e nE p0) 1) fun _ => some p0)
theorem slices_Compact_int_int_le (nE : Nat) (p0 : List Int) : Le (slices_Compact_int_int_e nE p0) (slices_Compact_int_int p0) := by
  unfold slices_Compact_int_int_e slices_Compact_int_int
  repeat' with_reducible (first | refine Le.orR' ?_ ?_ | refine Le.bind' ?_ ?_ | refine Le.ite' ?_ ?_ | refine Le.loop' ?_ | refine Le.altS' ?_ ?_ | apply slices_Compact_int_int_l1_le | exact Le.rfl' _ | (refine Le.pi2 ?_; intro _) | intro _)
def level_ascending_e (nE : Nat) (p0 : List Int) : Option (List Int) := (slices_Sort_int_int_e nE p0).bind fun x1 => (slices_Compact_int_int_e nE x1).bind fun x2 => some x2
theorem level_ascending_le (nE : Nat) (p0 : List Int) : Le (level_ascending_e nE p0) (level_ascending p0) := by
  unfold level_ascending_e level_ascending
  repeat' with_reducible (first | refine Le.orR' ?_ ?_ | refine Le.bind' ?_ ?_ | refine Le.ite' ?_ ?_ | refine Le.loop' ?_ | refine Le.altS' ?_ ?_ | apply slices_Sort_int_int_le | apply slices_Compact_int_int_le | exact Le.rfl' _ | (refine Le.pi2 ?_; intro _) | intro _)
def level_Rounds_l1_e (nE : Nat) (p0 : List (Int × Int × Int × Int)) : (List Int × Int) → Option ((List Int × Int) ⊕ (List Int))
  | (x2, x3) => (if x3 < (p0.length : Int) then (ix p0 x3).bind fun x4 => (app x2 ([x4.2.2.2] : List Int)).bind fun x5 => some (.inl (x5, w64 (x3 + 1))) else some (.inr x2))
theorem level_Rounds_l1_le (nE : Nat) (p0 : List (Int × Int × Int × Int)) : ∀ s, Le (level_Rounds_l1_e nE p0 s) (level_Rounds_l1 p0 s) := by
  rintro ⟨x2, x3⟩
  unfold level_Rounds_l1_e level_Rounds_l1
  repeat' with_reducible (first | refine Le.orR' ?_ ?_ | refine Le.bind' ?_ ?_ | refine Le.ite' ?_ ?_ | refine Le.loop' ?_ | refine Le.altS' ?_ ?_ | exact Le.rfl' _ | (refine Le.pi2 ?_; intro _) | intro _)
def level_Rounds_e (nE : Nat) (p0 : List (Int × Int × Int × Int)) : Option (List Int) := (loopE nE (level_Rounds_l1_e nE p0) ([], 0)).bind fun x1 => (level_ascending_e nE x1).bind fun x6 => some x6
theorem level_Rounds_le (nE : Nat) (p0 : List (Int × Int × Int × Int)) : Le (level_Rounds_e nE p0) (level_Rounds p0) := by
  unfold level_Rounds_e level_Rounds
  repeat' with_reducible (first | refine Le.orR' ?_ ?_ | refine Le.bind' ?_ ?_ | refine Le.ite' ?_ ?_ | refine Le.loop' ?_ | refine Le.altS' ?_ ?_ | apply level_ascending_le | apply level_Rounds_l1_le | exact Le.rfl' _ | (refine Le.pi2 ?_; intro _) | intro _)
def topo_Slowest_l1_e (nE : Nat) (p0 : Int × (List (Int × Int × Int × Int × Int × Int)) × (List (Int × Int))) : (Int × Int) → Option ((Int × Int) ⊕ Int)
  | (x2, x3) => (if x3 < (p0.2.1.length : Int) then (ix p0.2.1 x3).bind fun x4 => some (.inl (max x2 x4.2.2.2.2.2, w64 (x3 + 1))) else some (.inr x2))
theorem topo_Slowest_l1_le (nE : Nat) (p0 : Int × (List (Int × Int × Int × Int × Int × Int)) × (List (Int × Int))) : ∀ s, Le (topo_Slowest_l1_e nE p0 s) (topo_Slowest_l1 p0 s) := by
  rintro ⟨x2, x3⟩
  unfold topo_Slowest_l1_e topo_Slowest_l1
  repeat' with_reducible (first | refine Le.orR' ?_ ?_ | refine Le.bind' ?_ ?_ | refine Le.ite' ?_ ?_ | refine Le.loop' ?_ | refine Le.altS' ?_ ?_ | exact Le.rfl' _ | (refine Le.pi2 ?_; intro _) | intro _)
def topo_Slowest_e (nE : Nat) (p0 : Int × (List (Int × Int × Int × Int × Int × Int)) × (List (Int × Int))) : Option Int := (loopE nE (topo_Slowest_l1_e nE p0) (0, 0)).bind fun x1 => some x1
theorem topo_Slowest_le (nE : Nat) (p0 : Int × (List (Int × Int × Int × Int × Int × Int)) × (List (Int × Int))) : Le (topo_Slowest_e nE p0) (topo_Slowest p0) := by
  unfold topo_Slowest_e topo_Slowest
  repeat' with_reducible (first | refine Le.orR' ?_ ?_ | refine Le.bind' ?_ ?_ | refine Le.ite' ?_ ?_ | refine Le.loop' ?_ | refine Le.altS' ?_ ?_ | apply topo_Slowest_l1_le | exact Le.rfl' _ | (refine Le.pi2 ?_; intro _) | intro _)
def plan_Life_e (nE : Nat) (p0 : Int × (List (Int × Int × Int × Int × Int × Int)) × (List (Int × Int))) : Option Int := (topo_Slowest_e nE p0).bind fun x1 => some (w64 (p0.1 * x1))
theorem plan_Life_le (nE : Nat) (p0 : Int × (List (Int × Int × Int × Int × Int × Int)) × (List (Int × Int))) : Le (plan_Life_e nE p0) (plan_Life p0) := by
  unfold plan_Life_e plan_Life
  repeat' with_reducible (first | refine Le.orR' ?_ ?_ | refine Le.bind' ?_ ?_ | refine Le.ite' ?_ ?_ | refine Le.loop' ?_ | refine Le.altS' ?_ ?_ | apply topo_Slowest_le | exact Le.rfl' _ | (refine Le.pi2 ?_; intro _) | intro _)
def plan_Gap_e (nE : Nat) (p0 : Int × (List (Int × Int × Int × Int × Int × Int)) × (List (Int × Int))) (p1 : Int) : Option Int := (plan_Life_e nE p0).bind fun x1 => some (w64 ((w64 ((w64 (2 * p1)) + x1)) + 1))
theorem plan_Gap_le (nE : Nat) (p0 : Int × (List (Int × Int × Int × Int × Int × Int)) × (List (Int × Int))) (p1 : Int) : Le (plan_Gap_e nE p0 p1) (plan_Gap p0 p1) := by
  unfold plan_Gap_e plan_Gap
  repeat' with_reducible (first | refine Le.orR' ?_ ?_ | refine Le.bind' ?_ ?_ | refine Le.ite' ?_ ?_ | refine Le.loop' ?_ | refine Le.altS' ?_ ?_ | apply plan_Life_le | exact Le.rfl' _ | (refine Le.pi2 ?_; intro _) | intro _)
def diff_Right_l1_e (nE : Nat) (p0 : Int) (p1 : List (Int × Int × Int)) : Int → Option (Int ⊕ (Unit ⊕ Bool))
  | x1 => (if x1 < (p1.length : Int) then (ix p1 x1).bind fun x2 => (if (decide (x2.1 < 0) || (decide (p0 ≤ x2.1) || (decide (x2.2.1 < 0) || (decide (p0 ≤ x2.2.1) || (decide (x2.2.2 < (-1073741824)) || decide (1073741824 < x2.2.2)))))) = true then some (.inr (.inr false)) else some (.inl (w64 (x1 + 1)))) else some (.inr (.inl ())))
theorem diff_Right_l1_le (nE : Nat) (p0 : Int) (p1 : List (Int × Int × Int)) : ∀ s, Le (diff_Right_l1_e nE p0 p1 s) (diff_Right_l1 p0 p1 s) := by
  intro x1
  unfold diff_Right_l1_e diff_Right_l1
  repeat' with_reducible (first | refine Le.orR' ?_ ?_ | refine Le.bind' ?_ ?_ | refine Le.ite' ?_ ?_ | refine Le.loop' ?_ | refine Le.altS' ?_ ?_ | exact Le.rfl' _ | (refine Le.pi2 ?_; intro _) | intro _)
def diff_Right_e (nE : Nat) (p0 : Int) (p1 : List (Int × Int × Int)) : Option Bool := (if (decide (p0 < 0) || (decide (64 < p0) || decide (256 < (p1.length : Int)))) = true then some false else orR (loopE nE (diff_Right_l1_e nE p0 p1) 0) fun _ => some true)
theorem diff_Right_le (nE : Nat) (p0 : Int) (p1 : List (Int × Int × Int)) : Le (diff_Right_e nE p0 p1) (diff_Right p0 p1) := by
  unfold diff_Right_e diff_Right
  repeat' with_reducible (first | refine Le.orR' ?_ ?_ | refine Le.bind' ?_ ?_ | refine Le.ite' ?_ ?_ | refine Le.loop' ?_ | refine Le.altS' ?_ ?_ | apply diff_Right_l1_le | exact Le.rfl' _ | (refine Le.pi2 ?_; intro _) | intro _)
def diff_solve_l2_e (nE : Nat) (p0 : Int) (p1 : List (Int × Int × Int)) (x6 : Int) : (Bool × Int × List Int × List Int) → Option ((Bool × Int × List Int × List Int) ⊕ ((Bool × List Int × List Int) ⊕ ((List Int × List Int) ⊕ ((Int × List Int × List Int) ⊕ (List Int × List Int × Int)))))
  | (x14, x15, x16, x17) => (if x15 < (p1.length : Int) then orR ((ix p1 x15).bind fun x21 => (ix x16 x21.1).bind fun x22 => (ix x16 x21.2.1).bind fun x23 => (if (w64 (x22 + x21.2.2)) ≤ x23 then some (.inl (x14, x16, x17)) else (ix x16 x21.2.1).bind fun x24 => (ix x17 x21.2.1).bind fun x25 => (if x6 = p0 then some (.inr (.inr (.inr (.inr (.inr ((setAt x16 x21.2.1 (w64 (x22 + x21.2.2))), (setAt x17 x21.2.1 x15), x21.2.1)))))) else some (.inl (true, (setAt x16 x21.2.1 (w64 (x22 + x21.2.2))), (setAt x17 x21.2.1 x15)))))) fun (x18, x19, x20) => some (.inl (x18, w64 (x15 + 1), x19, x20)) else some (.inr (.inl (x14, x16, x17))))
theorem diff_solve_l2_le (nE : Nat) (p0 : Int) (p1 : List (Int × Int × Int)) (x6 : Int) : ∀ s, Le (diff_solve_l2_e nE p0 p1 x6 s) (diff_solve_l2 p0 p1 x6 s) := by
  rintro ⟨x14, x15, x16, x17⟩
  unfold diff_solve_l2_e diff_solve_l2
  repeat' with_reducible (first | refine Le.orR' ?_ ?_ | refine Le.bind' ?_ ?_ | refine Le.ite' ?_ ?_ | refine Le.loop' ?_ | refine Le.altS' ?_ ?_ | exact Le.rfl' _ | (refine Le.pi2 ?_; intro _) | intro _)
def diff_solve_l1_e (nE : Nat) (p0 : Int) (p1 : List (Int × Int × Int)) : (Int × List Int × List Int) → Option ((Int × List Int × List Int) ⊕ (List Int × List Int × Int))
  | (x6, x7, x8) => orR (orR (loopE nE (diff_solve_l2_e nE p0 p1 x6) (false, 0, x7, x8)) fun (x11, x12, x13) => (if (!x11) = true then some (.inr (.inr (x12, x13, (-1)))) else some (.inl (x12, x13)))) fun (x9, x10) => some (.inl (w64 (x6 + 1), x9, x10))
theorem diff_solve_l1_le (nE : Nat) (p0 : Int) (p1 : List (Int × Int × Int)) : ∀ s, Le (diff_solve_l1_e nE p0 p1 s) (diff_solve_l1 p0 p1 s) := by
  rintro ⟨x6, x7, x8⟩
  unfold diff_solve_l1_e diff_solve_l1
  repeat' with_reducible (first | refine Le.orR' ?_ ?_ | refine Le.bind' ?_ ?_ | refine Le.ite' ?_ ?_ | refine Le.loop' ?_ | refine Le.altS' ?_ ?_ | apply diff_solve_l2_le | exact Le.rfl' _ | (refine Le.pi2 ?_; intro _) | intro _)
def diff_solve_e (nE : Nat) (p0 : Int) (p1 : List (Int × Int × Int)) : Option (List Int × List Int × Int) := (mk p0 (0 : Int)).bind fun x1 => (mk p0 (0 : Int)).bind fun x2 => (loopE nE (diff_solve_l1_e nE p0 p1) (1, x1, x2)).bind fun (x3, x4, x5) => some (x3, x4, x5)
theorem diff_solve_le (nE : Nat) (p0 : Int) (p1 : List (Int × Int × Int)) : Le (diff_solve_e nE p0 p1) (diff_solve p0 p1) := by
  unfold diff_solve_e diff_solve
  repeat' with_reducible (first | refine Le.orR' ?_ ?_ | refine Le.bind' ?_ ?_ | refine Le.ite' ?_ ?_ | refine Le.loop' ?_ | refine Le.altS' ?_ ?_ | apply diff_solve_l1_le | exact Le.rfl' _ | (refine Le.pi2 ?_; intro _) | intro _)
def diff_Earliest_e (nE : Nat) (p0 : Int) (p1 : List (Int × Int × Int)) : Option (List Int × Bool) := (diff_Right_e nE p0 p1).bind fun x1 => (if (!x1) = true then some (([] : List Int), false) else (diff_solve_e nE p0 p1).bind fun x2 => (if 0 ≤ x2.2.2 then some (([] : List Int), false) else some (x2.1, true)))
theorem diff_Earliest_le (nE : Nat) (p0 : Int) (p1 : List (Int × Int × Int)) : Le (diff_Earliest_e nE p0 p1) (diff_Earliest p0 p1) := by
  unfold diff_Earliest_e diff_Earliest
  repeat' with_reducible (first | refine Le.orR' ?_ ?_ | refine Le.bind' ?_ ?_ | refine Le.ite' ?_ ?_ | refine Le.loop' ?_ | refine Le.altS' ?_ ?_ | apply diff_Right_le | apply diff_solve_le | exact Le.rfl' _ | (refine Le.pi2 ?_; intro _) | intro _)
def plan_switches_l1_e (nE : Nat) (p0 : List (Int × Int × Int × Int)) (p1 : Int) : (List Int × Int) → Option ((List Int × Int) ⊕ (List Int))
  | (x2, x3) => (if x3 < (p0.length : Int) then ((ix p0 x3).bind fun x5 => (if x5.2.2.2 = p1 then (app x2 ([x5.1] : List Int)).bind fun x6 => some x6 else some x2)).bind fun x4 => some (.inl (x4, w64 (x3 + 1))) else some (.inr x2))
theorem plan_switches_l1_le (nE : Nat) (p0 : List (Int × Int × Int × Int)) (p1 : Int) : ∀ s, Le (plan_switches_l1_e nE p0 p1 s) (plan_switches_l1 p0 p1 s) := by
  rintro ⟨x2, x3⟩
  unfold plan_switches_l1_e plan_switches_l1
  repeat' with_reducible (first | refine Le.orR' ?_ ?_ | refine Le.bind' ?_ ?_ | refine Le.ite' ?_ ?_ | refine Le.loop' ?_ | refine Le.altS' ?_ ?_ | exact Le.rfl' _ | (refine Le.pi2 ?_; intro _) | intro _)
def plan_switches_e (nE : Nat) (p0 : List (Int × Int × Int × Int)) (p1 : Int) : Option (List Int) := (loopE nE (plan_switches_l1_e nE p0 p1) ([], 0)).bind fun x1 => (slices_Sort_int_int_e nE x1).bind fun x7 => (slices_Compact_int_int_e nE x7).bind fun x8 => some x8
theorem plan_switches_le (nE : Nat) (p0 : List (Int × Int × Int × Int)) (p1 : Int) : Le (plan_switches_e nE p0 p1) (plan_switches p0 p1) := by
  unfold plan_switches_e plan_switches
  repeat' with_reducible (first | refine Le.orR' ?_ ?_ | refine Le.bind' ?_ ?_ | refine Le.ite' ?_ ?_ | refine Le.loop' ?_ | refine Le.altS' ?_ ?_ | apply slices_Sort_int_int_le | apply slices_Compact_int_int_le | apply plan_switches_l1_le | exact Le.rfl' _ | (refine Le.pi2 ?_; intro _) | intro _)
def plan_rounds_l1_e (nE : Nat) (p2 : Int) (x1 : List Int) : ((List (Int × Int × Int)) × Int) → Option (((List (Int × Int × Int)) × Int) ⊕ (List (Int × Int × Int)))
  | (x3, x4) => (if x4 < (w64 ((x1.length : Int) - 1)) then (app x3 ([(x4, w64 (x4 + 1), p2)] : List (Int × Int × Int))).bind fun x5 => some (.inl (x5, w64 (x4 + 1))) else some (.inr x3))
theorem plan_rounds_l1_le (nE : Nat) (p2 : Int) (x1 : List Int) : ∀ s, Le (plan_rounds_l1_e nE p2 x1 s) (plan_rounds_l1 p2 x1 s) := by
  rintro ⟨x3, x4⟩
  unfold plan_rounds_l1_e plan_rounds_l1
  repeat' with_reducible (first | refine Le.orR' ?_ ?_ | refine Le.bind' ?_ ?_ | refine Le.ite' ?_ ?_ | refine Le.loop' ?_ | refine Le.altS' ?_ ?_ | exact Le.rfl' _ | (refine Le.pi2 ?_; intro _) | intro _)
def plan_rounds_l2_e (nE : Nat) (p0 : List (Int × Int × Int × Int)) (p1 : Int) (x1 : List Int) (x6 : List Int × Bool) : ((List (Int × Int × List Int)) × Int) → Option (((List (Int × Int × List Int)) × Int) ⊕ (List (Int × Int × List Int)))
  | (x8, x9) => (if x9 < (x6.1.length : Int) then (ix x6.1 x9).bind fun x10 => (ix x1 x9).bind fun x11 => (ix x1 x9).bind fun x12 => (plan_switches_e nE p0 x12).bind fun x13 => (app x8 ([(x11, w64 (p1 + x10), x13)] : List (Int × Int × List Int))).bind fun x14 => some (.inl (x14, w64 (x9 + 1))) else some (.inr x8))
theorem plan_rounds_l2_le (nE : Nat) (p0 : List (Int × Int × Int × Int)) (p1 : Int) (x1 : List Int) (x6 : List Int × Bool) : ∀ s, Le (plan_rounds_l2_e nE p0 p1 x1 x6 s) (plan_rounds_l2 p0 p1 x1 x6 s) := by
  rintro ⟨x8, x9⟩
  unfold plan_rounds_l2_e plan_rounds_l2
  repeat' with_reducible (first | refine Le.orR' ?_ ?_ | refine Le.bind' ?_ ?_ | refine Le.ite' ?_ ?_ | refine Le.loop' ?_ | refine Le.altS' ?_ ?_ | apply plan_switches_le | exact Le.rfl' _ | (refine Le.pi2 ?_; intro _) | intro _)
def plan_rounds_e (nE : Nat) (p0 : List (Int × Int × Int × Int)) (p1 : Int) (p2 : Int) : Option (List (Int × Int × List Int)) := (level_Rounds_e nE p0).bind fun x1 => (loopE nE (plan_rounds_l1_e nE p2 x1) ([], 0)).bind fun x2 => (diff_Earliest_e nE (x1.length : Int) x2).bind fun x6 => (loopE nE (plan_rounds_l2_e nE p0 p1 x1 x6) ([], 0)).bind fun x7 => some x7
theorem plan_rounds_le (nE : Nat) (p0 : List (Int × Int × Int × Int)) (p1 : Int) (p2 : Int) : Le (plan_rounds_e nE p0 p1 p2) (plan_rounds p0 p1 p2) := by
  unfold plan_rounds_e plan_rounds
  repeat' with_reducible (first | refine Le.orR' ?_ ?_ | refine Le.bind' ?_ ?_ | refine Le.ite' ?_ ?_ | refine Le.loop' ?_ | refine Le.altS' ?_ ?_ | apply level_Rounds_le | apply diff_Earliest_le | apply plan_rounds_l1_le | apply plan_rounds_l2_le | exact Le.rfl' _ | (refine Le.pi2 ?_; intro _) | intro _)
def plan_Make_e (nE : Nat) (p0 : Int × (List (Int × Int × Int × Int × Int × Int)) × (List (Int × Int))) (p1 : List (List Int)) (p2 : List (List Int)) (p3 : Int) (p4 : Int) (p5 : Int) : Option (((List (Int × Int × Int × Int)) × (List (Int × Int × List Int)) × Int × Int × Int × Int) × Int) := (if (decide (p3 < 0) || (decide (1099511627776 < p3) || (decide (p4 < 0) || (decide (1048576 < p4) || (decide (p5 < 0) || decide (1048576 < p5)))))) = true then some ((([] : List (Int × Int × Int × Int)), ([] : List (Int × Int × List Int)), 0, 0, 0, 0), 2) else (level_Moves_e nE p0 p1 p2).bind fun x1 => (if x1.2 ≠ 0 then some ((([] : List (Int × Int × Int × Int)), ([] : List (Int × Int × List Int)), 0, 0, 0, 0), x1.2) else (if (x1.1.length : Int) = 0 then some ((([] : List (Int × Int × Int × Int)), ([] : List (Int × Int × List Int)), 0, 0, 0, 0), 7) else (plan_Life_e nE p0).bind fun x2 => (plan_Gap_e nE p0 p4).bind fun x3 => (plan_rounds_e nE x1.1 (w64 ((w64 ((w64 ((w64 (p3 + p5)) + p4)) + x2)) + 1)) x3).bind fun x4 => (ix x4 (w64 ((x4.length : Int) - 1))).bind fun x5 => (if 1099511627776 < (w64 (x5.2.1 + p4)) then some ((([] : List (Int × Int × Int × Int)), ([] : List (Int × Int × List Int)), 0, 0, 0, 0), 11) else some ((x1.1, x4, p4, x2, w64 ((w64 ((w64 ((w64 ((w64 ((w64 (p3 + p5)) + p4)) + x2)) + 1)) - p4)) - x2), w64 (x5.2.1 + p4)), 0)))))
theorem plan_Make_le (nE : Nat) (p0 : Int × (List (Int × Int × Int × Int × Int × Int)) × (List (Int × Int))) (p1 : List (List Int)) (p2 : List (List Int)) (p3 : Int) (p4 : Int) (p5 : Int) : Le (plan_Make_e nE p0 p1 p2 p3 p4 p5) (plan_Make p0 p1 p2 p3 p4 p5) := by
  unfold plan_Make_e plan_Make
  repeat' with_reducible (first | refine Le.orR' ?_ ?_ | refine Le.bind' ?_ ?_ | refine Le.ite' ?_ ?_ | refine Le.loop' ?_ | refine Le.altS' ?_ ?_ | apply level_Moves_le | apply plan_Life_le | apply plan_Gap_le | apply plan_rounds_le | exact Le.rfl' _ | (refine Le.pi2 ?_; intro _) | intro _)
def packet_Bits_e (nE : Nat) (p0 : Int) : Option Int := (if p0 = 0 then some true else (if p0 = 1 then some true else some (decide (p0 = 3)))).bind fun x1 => (if x1 = true then some 8 else (if p0 = 2 then some 4 else some 0))
theorem packet_Bits_le (nE : Nat) (p0 : Int) : Le (packet_Bits_e nE p0) (packet_Bits p0) := by
  unfold packet_Bits_e packet_Bits
  repeat' with_reducible (first | refine Le.orR' ?_ ?_ | refine Le.bind' ?_ ?_ | refine Le.ite' ?_ ?_ | refine Le.loop' ?_ | refine Le.altS' ?_ ?_ | exact Le.rfl' _ | (refine Le.pi2 ?_; intro _) | intro _)
def packet_Top_e (nE : Nat) (p0 : Int) : Option Int := (packet_Bits_e nE p0).bind fun x1 => (shN (shlI .i64 1 x1) x1).bind fun x2 => some (w64 (x2 - 1))
theorem packet_Top_le (nE : Nat) (p0 : Int) : Le (packet_Top_e nE p0) (packet_Top p0) := by
  unfold packet_Top_e packet_Top
  repeat' with_reducible (first | refine Le.orR' ?_ ?_ | refine Le.bind' ?_ ?_ | refine Le.ite' ?_ ?_ | refine Le.loop' ?_ | refine Le.altS' ?_ ?_ | apply packet_Bits_le | exact Le.rfl' _ | (refine Le.pi2 ?_; intro _) | intro _)
def match_Of_e (nE : Nat) (p0 : Int) (p1 : Int) : Option (Int × (Int × Int × Int × Int) × (Int × Int × Int × Int)) := (if p0 < 0 then some true else (if 4 ≤ p0 then some true else (if p1 < 0 then some true else (packet_Top_e nE p0).bind fun x2 => some (decide (x2 < p1))))).bind fun x1 => (if x1 = true then some match_Any else (ix ([match_Any.2.1.1, match_Any.2.1.2.1, match_Any.2.1.2.2.1, match_Any.2.1.2.2.2] : List Int) p0).bind fun x3 => (packet_Top_e nE p0).bind fun x4 => (ix ([match_Any.2.2.1, match_Any.2.2.2.1, match_Any.2.2.2.2.1, match_Any.2.2.2.2.2] : List Int) p0).bind fun x5 => some (match_Any.1, ((if p0 = 0 then p1 else match_Any.2.1.1), (if p0 = 1 then p1 else match_Any.2.1.2.1), (if p0 = 2 then p1 else match_Any.2.1.2.2.1), (if p0 = 3 then p1 else match_Any.2.1.2.2.2)), ((if p0 = 0 then x4 else match_Any.2.2.1), (if p0 = 1 then x4 else match_Any.2.2.2.1), (if p0 = 2 then x4 else match_Any.2.2.2.2.1), (if p0 = 3 then x4 else match_Any.2.2.2.2.2))))
theorem match_Of_le (nE : Nat) (p0 : Int) (p1 : Int) : Le (match_Of_e nE p0 p1) (match_Of p0 p1) := by
  unfold match_Of_e match_Of
  repeat' with_reducible (first | refine Le.orR' ?_ ?_ | refine Le.bind' ?_ ?_ | refine Le.ite' ?_ ?_ | refine Le.loop' ?_ | refine Le.altS' ?_ ?_ | apply packet_Top_le | exact Le.rfl' _ | (refine Le.pi2 ?_; intro _) | intro _)
def rule_Plain_e (nE : Nat) (p0 : Int) (p1 : Int) (p2 : Int) (p3 : Int) : Option (Int × (Int × (Int × Int × Int × Int) × (Int × Int × Int × Int)) × (List (Int × Int × Int))) := (match_Of_e nE p0 p1).bind fun x1 => some (p2, x1, ([(2, 0, p3)] : List (Int × Int × Int)))
theorem rule_Plain_le (nE : Nat) (p0 : Int) (p1 : Int) (p2 : Int) (p3 : Int) : Le (rule_Plain_e nE p0 p1 p2 p3) (rule_Plain p0 p1 p2 p3) := by
  unfold rule_Plain_e rule_Plain
  repeat' with_reducible (first | refine Le.orR' ?_ ?_ | refine Le.bind' ?_ ?_ | refine Le.ite' ?_ ?_ | refine Le.loop' ?_ | refine Le.altS' ?_ ?_ | apply match_Of_le | exact Le.rfl' _ | (refine Le.pi2 ?_; intro _) | intro _)
def level_Mods_l1_e (nE : Nat) (p0 : List (Int × Int × Int × Int)) (p1 : Int) (p2 : Int) : ((List (Int × (Int × (Int × (Int × Int × Int × Int) × (Int × Int × Int × Int)) × (List (Int × Int × Int))) × Bool)) × Int) → Option (((List (Int × (Int × (Int × (Int × Int × Int × Int) × (Int × Int × Int × Int)) × (List (Int × Int × Int))) × Bool)) × Int) ⊕ (List (Int × (Int × (Int × (Int × Int × Int × Int) × (Int × Int × Int × Int)) × (List (Int × Int × Int))) × Bool)))
  | (x2, x3) => (if x3 < (p0.length : Int) then ((ix p0 x3).bind fun x5 => (if (decide (x5.2.2.2 = p1) && decide (x5.1 = p2)) = true then (rule_Plain_e nE 1 x5.2.1 10 x5.2.2.1).bind fun x6 => (app x2 ([(3, x6, false)] : List (Int × (Int × (Int × (Int × Int × Int × Int) × (Int × Int × Int × Int)) × (List (Int × Int × Int))) × Bool))).bind fun x7 => some x7 else some x2)).bind fun x4 => some (.inl (x4, w64 (x3 + 1))) else some (.inr x2))
theorem level_Mods_l1_le (nE : Nat) (p0 : List (Int × Int × Int × Int)) (p1 : Int) (p2 : Int) : ∀ s, Le (level_Mods_l1_e nE p0 p1 p2 s) (level_Mods_l1 p0 p1 p2 s) := by
  rintro ⟨x2, x3⟩
  unfold level_Mods_l1_e level_Mods_l1
  repeat' with_reducible (first | refine Le.orR' ?_ ?_ | refine Le.bind' ?_ ?_ | refine Le.ite' ?_ ?_ | refine Le.loop' ?_ | refine Le.altS' ?_ ?_ | apply rule_Plain_le | exact Le.rfl' _ | (refine Le.pi2 ?_; intro _) | intro _)
def level_Mods_e (nE : Nat) (p0 : List (Int × Int × Int × Int)) (p1 : Int) (p2 : Int) : Option (List (Int × (Int × (Int × (Int × Int × Int × Int) × (Int × Int × Int × Int)) × (List (Int × Int × Int))) × Bool)) := (loopE nE (level_Mods_l1_e nE p0 p1 p2) ([], 0)).bind fun x1 => some x1
theorem level_Mods_le (nE : Nat) (p0 : List (Int × Int × Int × Int)) (p1 : Int) (p2 : Int) : Le (level_Mods_e nE p0 p1 p2) (level_Mods p0 p1 p2) := by
  unfold level_Mods_e level_Mods
  repeat' with_reducible (first | refine Le.orR' ?_ ?_ | refine Le.bind' ?_ ?_ | refine Le.ite' ?_ ?_ | refine Le.loop' ?_ | refine Le.altS' ?_ ?_ | apply level_Mods_l1_le | exact Le.rfl' _ | (refine Le.pi2 ?_; intro _) | intro _)
def plan_Parts_l1_e (nE : Nat) (p0 : (List (Int × Int × Int × Int)) × (List (Int × Int × List Int)) × Int × Int × Int × Int) (x1 : Int × Int × List Int) : ((List (Int × (List (Int × (Int × (Int × (Int × Int × Int × Int) × (Int × Int × Int × Int)) × (List (Int × Int × Int))) × Bool)))) × Int) → Option (((List (Int × (List (Int × (Int × (Int × (Int × Int × Int × Int) × (Int × Int × Int × Int)) × (List (Int × Int × Int))) × Bool)))) × Int) ⊕ (List (Int × (List (Int × (Int × (Int × (Int × Int × Int × Int) × (Int × Int × Int × Int)) × (List (Int × Int × Int))) × Bool)))))
  | (x3, x4) => (if x4 < (x1.2.2.length : Int) then (ix x1.2.2 x4).bind fun x5 => (level_Mods_e nE p0.1 x1.1 x5).bind fun x6 => (app x3 ([(x5, x6)] : List (Int × (List (Int × (Int × (Int × (Int × Int × Int × Int) × (Int × Int × Int × Int)) × (List (Int × Int × Int))) × Bool))))).bind fun x7 => some (.inl (x7, w64 (x4 + 1))) else some (.inr x3))
theorem plan_Parts_l1_le (nE : Nat) (p0 : (List (Int × Int × Int × Int)) × (List (Int × Int × List Int)) × Int × Int × Int × Int) (x1 : Int × Int × List Int) : ∀ s, Le (plan_Parts_l1_e nE p0 x1 s) (plan_Parts_l1 p0 x1 s) := by
  rintro ⟨x3, x4⟩
  unfold plan_Parts_l1_e plan_Parts_l1
  repeat' with_reducible (first | refine Le.orR' ?_ ?_ | refine Le.bind' ?_ ?_ | refine Le.ite' ?_ ?_ | refine Le.loop' ?_ | refine Le.altS' ?_ ?_ | apply level_Mods_le | exact Le.rfl' _ | (refine Le.pi2 ?_; intro _) | intro _)
def plan_Parts_e (nE : Nat) (p0 : (List (Int × Int × Int × Int)) × (List (Int × Int × List Int)) × Int × Int × Int × Int) (p1 : Int) : Option (List (Int × (List (Int × (Int × (Int × (Int × Int × Int × Int) × (Int × Int × Int × Int)) × (List (Int × Int × Int))) × Bool)))) := (if (decide (p1 < 0) || decide ((p0.2.1.length : Int) ≤ p1)) = true then some ([] : List (Int × (List (Int × (Int × (Int × (Int × Int × Int × Int) × (Int × Int × Int × Int)) × (List (Int × Int × Int))) × Bool)))) else (ix p0.2.1 p1).bind fun x1 => (loopE nE (plan_Parts_l1_e nE p0 x1) ([], 0)).bind fun x2 => some x2)
theorem plan_Parts_le (nE : Nat) (p0 : (List (Int × Int × Int × Int)) × (List (Int × Int × List Int)) × Int × Int × Int × Int) (p1 : Int) : Le (plan_Parts_e nE p0 p1) (plan_Parts p0 p1) := by
  unfold plan_Parts_e plan_Parts
  repeat' with_reducible (first | refine Le.orR' ?_ ?_ | refine Le.bind' ?_ ?_ | refine Le.ite' ?_ ?_ | refine Le.loop' ?_ | refine Le.altS' ?_ ?_ | apply plan_Parts_l1_le | exact Le.rfl' _ | (refine Le.pi2 ?_; intro _) | intro _)
def L24_awake_e (nE : Nat)  : Option Bool := (plan_Make_e nE (3, ([(0, 0, 1, 0, 1, 1), (1, 1, 2, 0, 1, 2), (0, 1, 2, 1, 1, 1)] : List (Int × Int × Int × Int × Int × Int)), ([(2, 7)] : List (Int × Int))) ([([0] : List Int), ([1] : List Int), ([7] : List Int)] : List (List Int)) ([([1] : List Int), ([1] : List Int), ([7] : List Int)] : List (List Int)) 100 4 10).bind fun x1 => ((plan_Gap_e nE (3, ([(0, 0, 1, 0, 1, 1), (1, 1, 2, 0, 1, 2), (0, 1, 2, 1, 1, 1)] : List (Int × Int × Int × Int × Int × Int)), ([(2, 7)] : List (Int × Int))) 4).bind fun x3 => (if x3 = 15 then (if x1.2 = 0 then (if (x1.1.2.1.length : Int) = 1 then (ix x1.1.2.1 0).bind fun x4 => (if x4.2.1 = 121 then (if x1.1.2.2.2.2.1 = 111 then (if x1.1.2.2.2.2.2 = 125 then (if (plan_Guarded x1.1 125) = true then (plan_Parts_e nE x1.1 0).bind fun x5 => some (decide ((x5.length : Int) = 1)) else some false) else some false) else some false) else some false) else some false) else some false) else some false)).bind fun x2 => some x2
theorem L24_awake_le (nE : Nat)  : Le (L24_awake_e nE ) (L24_awake ) := by
  unfold L24_awake_e L24_awake
  repeat' with_reducible (first | refine Le.orR' ?_ ?_ | refine Le.bind' ?_ ?_ | refine Le.ite' ?_ ?_ | refine Le.loop' ?_ | refine Le.altS' ?_ ?_ | apply plan_Gap_le | apply plan_Make_le | apply plan_Parts_le | exact Le.rfl' _ | (refine Le.pi2 ?_; intro _) | intro _)
theorem awake24 : L24_awake = some true := L24_awake_le 60 _ (by kernel_rfl)
end Go.Proofs.Ytjcaadbafjgefaa
