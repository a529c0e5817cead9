/- Twins with fuel of lifted functions: what a twin answers, the function answers. Conditions: none. -/
import Derived.Test.YtleakbjojbiomaaLP
import Derived.Test.YtleakbjojbiomaaT4
namespace Go.Proofs.Ytleakbjojbiomaa
open Go Go.RowKit
set_option linter.unusedVariables false
set_option linter.unusedSimpArgs false
set_option maxRecDepth 20000
set_option maxHeartbeats 1600000

abbrev Le {α : Type} (a b : Option α) : Prop := ∀ r, a = some r → b = some r
theorem Le.rfl' {α : Type} (a : Option α) : Le a a := fun _ h => h
theorem Le.bind' {α β : Type} {a b : Option α} {f g : α → Option β} (h : Le a b) (hf : ∀ x, Le (f x) (g x)) : Le (a.bind f) (b.bind g) := fun r e => by
  obtain ⟨x, h1, h2⟩ := bindE e
  rw [h x h1, Option.bind_some]; exact hf x r h2
theorem Le.ite' {α : Type} {c : Prop} [Decidable c] {a a' b b' : Option α} (h1 : Le a a') (h2 : Le b b') : Le (if c then a else b) (if c then a' else b') := fun r e => by
  by_cases h : c
  · rw [if_pos h] at e ⊢; exact h1 r e
  · rw [if_neg h] at e ⊢; exact h2 r e
theorem Le.orR' {α β : Type} {a b : Option (α ⊕ β)} {f g : α → Option β} (h : Le a b) (hf : ∀ x, Le (f x) (g x)) : Le (orR a f) (orR b g) :=
  Le.bind' h fun x => by
    cases x with
    | inl t => exact hf t
    | inr e => exact Le.rfl' _
def loopE {σ ε : Type} (n : Nat) (step : σ → Option (σ ⊕ ε)) (s : σ) : Option ε := loopN step n s
theorem loopN_twin {σ ε : Type} {S T : σ → Option (σ ⊕ ε)} (h : ∀ s, Le (S s) (T s)) : ∀ (n : Nat) (s : σ), Le (loopN S n s) (loopN T n s)
  | 0, s => Le.rfl' _
  | n + 1, s => fun r e => by
    unfold loopN at e ⊢
    cases hs : S s with
    | none => rw [hs] at e; cases e
    | some q =>
      rw [hs] at e; rw [h s q hs]
      cases q with
      | inl s' => exact loopN_twin h n s' r e
      | inr _ => exact e
theorem Le.loop' {σ ε : Type} {n : Nat} {S T : σ → Option (σ ⊕ ε)} {s : σ} (h : ∀ s, Le (S s) (T s)) : Le (loopE n S s) (loopW T s) := fun r e => loopW_iff.2 ⟨n, loopN_twin h n s r e⟩
theorem Le.pi2 {α β γ : Type} {f g : α × β → Option γ} (h : ∀ a b, Le (f (a, b)) (g (a, b))) : ∀ x, Le (f x) (g x) := fun x => h x.1 x.2
theorem Le.altS' {α β γ : Type} {y : α ⊕ β} {f f' : α → Option γ} {g g' : β → Option γ} (h : ∀ x, Le (f x) (f' x)) (k : ∀ x, Le (g x) (g' x)) : Le (altS y f g) (altS y f' g') := by
  cases y with
  | inl x => exact h x
  | inr x => exact k x

def topo_places_l1_e (nE : Nat) (p0 : Int × (List (Int × Int × Int × Int × Int × Int)) × (List (Int × Int))) : ((List (Int × Int)) × Int) → Option (((List (Int × Int)) × Int) ⊕ (List (Int × Int)))
  | (x2, x3) => (if x3 < (p0.2.1.length : Int) then (ix p0.2.1 x3).bind fun x4 => (app x2 ([(x4.1, x4.2.1), (x4.2.2.1, x4.2.2.2.1)] : List (Int × Int))).bind fun x5 => some (.inl (x5, w64 (x3 + 1))) else some (.inr x2))
theorem topo_places_l1_le (nE : Nat) (p0 : Int × (List (Int × Int × Int × Int × Int × Int)) × (List (Int × Int))) : ∀ s, Le (topo_places_l1_e nE p0 s) (topo_places_l1 p0 s) := by
  rintro ⟨x2, x3⟩
  unfold topo_places_l1_e topo_places_l1
  repeat' with_reducible (first | refine Le.orR' ?_ ?_ | refine Le.bind' ?_ ?_ | refine Le.ite' ?_ ?_ | refine Le.loop' ?_ | refine Le.altS' ?_ ?_ | exact Le.rfl' _ | (refine Le.pi2 ?_; intro _) | intro _)
def topo_places_l2_e (nE : Nat) (p0 : Int × (List (Int × Int × Int × Int × Int × Int)) × (List (Int × Int))) : ((List (Int × Int)) × Int) → Option (((List (Int × Int)) × Int) ⊕ (List (Int × Int)))
  | (x7, x8) => (if x8 < (p0.2.2.length : Int) then (ix p0.2.2 x8).bind fun x9 => (app x7 ([x9] : List (Int × Int))).bind fun x10 => some (.inl (x10, w64 (x8 + 1))) else some (.inr x7))
theorem topo_places_l2_le (nE : Nat) (p0 : Int × (List (Int × Int × Int × Int × Int × Int)) × (List (Int × Int))) : ∀ s, Le (topo_places_l2_e nE p0 s) (topo_places_l2 p0 s) := by
  rintro ⟨x7, x8⟩
  unfold topo_places_l2_e topo_places_l2
  repeat' with_reducible (first | refine Le.orR' ?_ ?_ | refine Le.bind' ?_ ?_ | refine Le.ite' ?_ ?_ | refine Le.loop' ?_ | refine Le.altS' ?_ ?_ | exact Le.rfl' _ | (refine Le.pi2 ?_; intro _) | intro _)
def topo_places_e (nE : Nat) (p0 : Int × (List (Int × Int × Int × Int × Int × Int)) × (List (Int × Int))) : Option (List (Int × Int)) := (loopE nE (topo_places_l1_e nE p0) ([], 0)).bind fun x1 => (loopE nE (topo_places_l2_e nE p0) (x1, 0)).bind fun x6 => some x6
theorem topo_places_le (nE : Nat) (p0 : Int × (List (Int × Int × Int × Int × Int × Int)) × (List (Int × Int))) : Le (topo_places_e nE p0) (topo_places p0) := by
  unfold topo_places_e topo_places
  repeat' with_reducible (first | refine Le.orR' ?_ ?_ | refine Le.bind' ?_ ?_ | refine Le.ite' ?_ ?_ | refine Le.loop' ?_ | refine Le.altS' ?_ ?_ | apply topo_places_l1_le | apply topo_places_l2_le | exact Le.rfl' _ | (refine Le.pi2 ?_; intro _) | intro _)
def slices_IndexFunc_api_Link_api_Link_l1_e (nE : Nat) (p0 : List (Int × Int × Int × Int × Int × Int)) : Int → Option (Int ⊕ (Unit ⊕ Int))
  | x1 => (if x1 < (p0.length : Int) then (ix p0 x1).bind fun x2 => (if (topo_wrongLink x2) = true then some (.inr (.inr x1)) else some (.inl (w64 (x1 + 1)))) else some (.inr (.inl ())))
theorem slices_IndexFunc_api_Link_api_Link_l1_le (nE : Nat) (p0 : List (Int × Int × Int × Int × Int × Int)) : ∀ s, Le (slices_IndexFunc_api_Link_api_Link_l1_e nE p0 s) (slices_IndexFunc_api_Link_api_Link_l1 p0 s) := by
  intro x1
  unfold slices_IndexFunc_api_Link_api_Link_l1_e slices_IndexFunc_api_Link_api_Link_l1
  repeat' with_reducible (first | refine Le.orR' ?_ ?_ | refine Le.bind' ?_ ?_ | refine Le.ite' ?_ ?_ | refine Le.loop' ?_ | refine Le.altS' ?_ ?_ | exact Le.rfl' _ | (refine Le.pi2 ?_; intro _) | intro _)
def slices_IndexFunc_api_Link_api_Link_e (nE : Nat) (p0 : List (Int × Int × Int × Int × Int × Int)) : Option Int := orR (loopE nE (slices_IndexFunc_api_Link_api_Link_l1_e nE p0) 0) fun _ => some (-1)
theorem slices_IndexFunc_api_Link_api_Link_le (nE : Nat) (p0 : List (Int × Int × Int × Int × Int × Int)) : Le (slices_IndexFunc_api_Link_api_Link_e nE p0) (slices_IndexFunc_api_Link_api_Link p0) := by
  unfold slices_IndexFunc_api_Link_api_Link_e slices_IndexFunc_api_Link_api_Link
  repeat' with_reducible (first | refine Le.orR' ?_ ?_ | refine Le.bind' ?_ ?_ | refine Le.ite' ?_ ?_ | refine Le.loop' ?_ | refine Le.altS' ?_ ?_ | apply slices_IndexFunc_api_Link_api_Link_l1_le | exact Le.rfl' _ | (refine Le.pi2 ?_; intro _) | intro _)
def slices_ContainsFunc_api_Link_api_Link_e (nE : Nat) (p0 : List (Int × Int × Int × Int × Int × Int)) : Option Bool := (slices_IndexFunc_api_Link_api_Link_e nE p0).bind fun x1 => some (decide (0 ≤ x1))
theorem slices_ContainsFunc_api_Link_api_Link_le (nE : Nat) (p0 : List (Int × Int × Int × Int × Int × Int)) : Le (slices_ContainsFunc_api_Link_api_Link_e nE p0) (slices_ContainsFunc_api_Link_api_Link p0) := by
  unfold slices_ContainsFunc_api_Link_api_Link_e slices_ContainsFunc_api_Link_api_Link
  repeat' with_reducible (first | refine Le.orR' ?_ ?_ | refine Le.bind' ?_ ?_ | refine Le.ite' ?_ ?_ | refine Le.loop' ?_ | refine Le.altS' ?_ ?_ | apply slices_IndexFunc_api_Link_api_Link_le | exact Le.rfl' _ | (refine Le.pi2 ?_; intro _) | intro _)
def topo_Right_l1_e (nE : Nat) (p0 : Int × (List (Int × Int × Int × Int × Int × Int)) × (List (Int × Int))) (x2 : (List (Int × Int))) : (Int × (List ((Int × Int) × Unit))) → Option ((Int × (List ((Int × Int) × Unit))) ⊕ ((List ((Int × Int) × Unit)) ⊕ Bool))
  | (x3, x4) => (if x3 < (x2.length : Int) then (ix x2 x3).bind fun x5 => (if (decide (x5.1 < 0) || (decide (p0.1 ≤ x5.1) || (decide (x5.2 < 0) || decide (8 ≤ x5.2)))) = true then some (.inr (.inr false)) else (if ((mget x4 x5).isSome) = true then some (.inr (.inr false)) else some (.inl (w64 (x3 + 1), mput x4 x5 ())))) else some (.inr (.inl x4)))
theorem topo_Right_l1_le (nE : Nat) (p0 : Int × (List (Int × Int × Int × Int × Int × Int)) × (List (Int × Int))) (x2 : (List (Int × Int))) : ∀ s, Le (topo_Right_l1_e nE p0 x2 s) (topo_Right_l1 p0 x2 s) := by
  rintro ⟨x3, x4⟩
  unfold topo_Right_l1_e topo_Right_l1
  repeat' with_reducible (first | refine Le.orR' ?_ ?_ | refine Le.bind' ?_ ?_ | refine Le.ite' ?_ ?_ | refine Le.loop' ?_ | refine Le.altS' ?_ ?_ | exact Le.rfl' _ | (refine Le.pi2 ?_; intro _) | intro _)
def topo_Right_e (nE : Nat) (p0 : Int × (List (Int × Int × Int × Int × Int × Int)) × (List (Int × Int))) : Option Bool := (if (decide (p0.1 < 1) || (decide (8 < p0.1) || (decide (24 < (p0.2.1.length : Int)) || decide (8 < (p0.2.2.length : Int))))) = true then some false else orR ((topo_places_e nE p0).bind fun x2 => loopE nE (topo_Right_l1_e nE p0 x2) (0, ([] : List ((Int × Int) × Unit)))) fun x1 => (slices_ContainsFunc_api_Link_api_Link_e nE p0.2.1).bind fun x6 => some (!x6))
theorem topo_Right_le (nE : Nat) (p0 : Int × (List (Int × Int × Int × Int × Int × Int)) × (List (Int × Int))) : Le (topo_Right_e nE p0) (topo_Right p0) := by
  unfold topo_Right_e topo_Right
  repeat' with_reducible (first | refine Le.orR' ?_ ?_ | refine Le.bind' ?_ ?_ | refine Le.ite' ?_ ?_ | refine Le.loop' ?_ | refine Le.altS' ?_ ?_ | apply topo_places_le | apply slices_ContainsFunc_api_Link_api_Link_le | apply topo_Right_l1_le | exact Le.rfl' _ | (refine Le.pi2 ?_; intro _) | intro _)
def slices_IndexFunc_int_int_l1_e (nE : Nat) (p0 : List Int) : Int → Option (Int ⊕ (Unit ⊕ Int))
  | x1 => (if x1 < (p0.length : Int) then (ix p0 x1).bind fun x2 => (if (route_wrongPort x2) = true then some (.inr (.inr x1)) else some (.inl (w64 (x1 + 1)))) else some (.inr (.inl ())))
theorem slices_IndexFunc_int_int_l1_le (nE : Nat) (p0 : List Int) : ∀ s, Le (slices_IndexFunc_int_int_l1_e nE p0 s) (slices_IndexFunc_int_int_l1 p0 s) := by
  intro x1
  unfold slices_IndexFunc_int_int_l1_e slices_IndexFunc_int_int_l1
  repeat' with_reducible (first | refine Le.orR' ?_ ?_ | refine Le.bind' ?_ ?_ | refine Le.ite' ?_ ?_ | refine Le.loop' ?_ | refine Le.altS' ?_ ?_ | exact Le.rfl' _ | (refine Le.pi2 ?_; intro _) | intro _)
def slices_IndexFunc_int_int_e (nE : Nat) (p0 : List Int) : Option Int := orR (loopE nE (slices_IndexFunc_int_int_l1_e nE p0) 0) fun _ => some (-1)
theorem slices_IndexFunc_int_int_le (nE : Nat) (p0 : List Int) : Le (slices_IndexFunc_int_int_e nE p0) (slices_IndexFunc_int_int p0) := by
  unfold slices_IndexFunc_int_int_e slices_IndexFunc_int_int
  repeat' with_reducible (first | refine Le.orR' ?_ ?_ | refine Le.bind' ?_ ?_ | refine Le.ite' ?_ ?_ | refine Le.loop' ?_ | refine Le.altS' ?_ ?_ | apply slices_IndexFunc_int_int_l1_le | exact Le.rfl' _ | (refine Le.pi2 ?_; intro _) | intro _)
def slices_ContainsFunc_int_int_e (nE : Nat) (p0 : List Int) : Option Bool := (slices_IndexFunc_int_int_e nE p0).bind fun x1 => some (decide (0 ≤ x1))
theorem slices_ContainsFunc_int_int_le (nE : Nat) (p0 : List Int) : Le (slices_ContainsFunc_int_int_e nE p0) (slices_ContainsFunc_int_int p0) := by
  unfold slices_ContainsFunc_int_int_e slices_ContainsFunc_int_int
  repeat' with_reducible (first | refine Le.orR' ?_ ?_ | refine Le.bind' ?_ ?_ | refine Le.ite' ?_ ?_ | refine Le.loop' ?_ | refine Le.altS' ?_ ?_ | apply slices_IndexFunc_int_int_le | exact Le.rfl' _ | (refine Le.pi2 ?_; intro _) | intro _)
def route_Right_l1_e (nE : Nat) (p0 : Int × (List (Int × Int × Int × Int × Int × Int)) × (List (Int × Int))) (p1 : List (List Int)) : Int → Option (Int ⊕ (Unit ⊕ Bool))
  | x3 => (if x3 < (p1.length : Int) then (ix p1 x3).bind fun x4 => (if (x4.length : Int) ≠ (p0.2.2.length : Int) then some true else (slices_ContainsFunc_int_int_e nE x4).bind fun x6 => some x6).bind fun x5 => (if x5 = true then some (.inr (.inr false)) else some (.inl (w64 (x3 + 1)))) else some (.inr (.inl ())))
theorem route_Right_l1_le (nE : Nat) (p0 : Int × (List (Int × Int × Int × Int × Int × Int)) × (List (Int × Int))) (p1 : List (List Int)) : ∀ s, Le (route_Right_l1_e nE p0 p1 s) (route_Right_l1 p0 p1 s) := by
  intro x3
  unfold route_Right_l1_e route_Right_l1
  repeat' with_reducible (first | refine Le.orR' ?_ ?_ | refine Le.bind' ?_ ?_ | refine Le.ite' ?_ ?_ | refine Le.loop' ?_ | refine Le.altS' ?_ ?_ | apply slices_ContainsFunc_int_int_le | exact Le.rfl' _ | (refine Le.pi2 ?_; intro _) | intro _)
def route_Right_e (nE : Nat) (p0 : Int × (List (Int × Int × Int × Int × Int × Int)) × (List (Int × Int))) (p1 : List (List Int)) : Option Bool := ((topo_Right_e nE p0).bind fun x2 => (if (!x2) = true then some true else some (decide ((p1.length : Int) ≠ p0.1)))).bind fun x1 => (if x1 = true then some false else orR (loopE nE (route_Right_l1_e nE p0 p1) 0) fun _ => some true)
theorem route_Right_le (nE : Nat) (p0 : Int × (List (Int × Int × Int × Int × Int × Int)) × (List (Int × Int))) (p1 : List (List Int)) : Le (route_Right_e nE p0 p1) (route_Right p0 p1) := by
  unfold route_Right_e route_Right
  repeat' with_reducible (first | refine Le.orR' ?_ ?_ | refine Le.bind' ?_ ?_ | refine Le.ite' ?_ ?_ | refine Le.loop' ?_ | refine Le.altS' ?_ ?_ | apply topo_Right_le | apply route_Right_l1_le | exact Le.rfl' _ | (refine Le.pi2 ?_; intro _) | intro _)
def slices_Index_api_Host_api_Host_l1_e (nE : Nat) (p0 : List (Int × Int)) (p1 : Int × Int) : Int → Option (Int ⊕ (Unit ⊕ Int))
  | x1 => (if x1 < (p0.length : Int) then (ix p0 x1).bind fun x2 => (if p1.1 = x2.1 ∧ p1.2 = x2.2 then some (.inr (.inr x1)) else some (.inl (w64 (x1 + 1)))) else some (.inr (.inl ())))
theorem slices_Index_api_Host_api_Host_l1_le (nE : Nat) (p0 : List (Int × Int)) (p1 : Int × Int) : ∀ s, Le (slices_Index_api_Host_api_Host_l1_e nE p0 p1 s) (slices_Index_api_Host_api_Host_l1 p0 p1 s) := by
  intro x1
  unfold slices_Index_api_Host_api_Host_l1_e slices_Index_api_Host_api_Host_l1
  repeat' with_reducible (first | refine Le.orR' ?_ ?_ | refine Le.bind' ?_ ?_ | refine Le.ite' ?_ ?_ | refine Le.loop' ?_ | refine Le.altS' ?_ ?_ | exact Le.rfl' _ | (refine Le.pi2 ?_; intro _) | intro _)
def slices_Index_api_Host_api_Host_e (nE : Nat) (p0 : List (Int × Int)) (p1 : Int × Int) : Option Int := orR (loopE nE (slices_Index_api_Host_api_Host_l1_e nE p0 p1) 0) fun _ => some (-1)
theorem slices_Index_api_Host_api_Host_le (nE : Nat) (p0 : List (Int × Int)) (p1 : Int × Int) : Le (slices_Index_api_Host_api_Host_e nE p0 p1) (slices_Index_api_Host_api_Host p0 p1) := by
  unfold slices_Index_api_Host_api_Host_e slices_Index_api_Host_api_Host
  repeat' with_reducible (first | refine Le.orR' ?_ ?_ | refine Le.bind' ?_ ?_ | refine Le.ite' ?_ ?_ | refine Le.loop' ?_ | refine Le.altS' ?_ ?_ | apply slices_Index_api_Host_api_Host_l1_le | exact Le.rfl' _ | (refine Le.pi2 ?_; intro _) | intro _)
def topo_HostAt_e (nE : Nat) (p0 : Int × (List (Int × Int × Int × Int × Int × Int)) × (List (Int × Int))) (p1 : Int) (p2 : Int) : Option Int := (slices_Index_api_Host_api_Host_e nE p0.2.2 (p1, p2)).bind fun x1 => some x1
theorem topo_HostAt_le (nE : Nat) (p0 : Int × (List (Int × Int × Int × Int × Int × Int)) × (List (Int × Int))) (p1 : Int) (p2 : Int) : Le (topo_HostAt_e nE p0 p1 p2) (topo_HostAt p0 p1 p2) := by
  unfold topo_HostAt_e topo_HostAt
  repeat' with_reducible (first | refine Le.orR' ?_ ?_ | refine Le.bind' ?_ ?_ | refine Le.ite' ?_ ?_ | refine Le.loop' ?_ | refine Le.altS' ?_ ?_ | apply slices_Index_api_Host_api_Host_le | exact Le.rfl' _ | (refine Le.pi2 ?_; intro _) | intro _)
def topo_Peer_l1_e (nE : Nat) (p0 : Int × (List (Int × Int × Int × Int × Int × Int)) × (List (Int × Int))) (p1 : Int) (p2 : Int) : Int → Option (Int ⊕ (Unit ⊕ (Int × Int × Int × Bool)))
  | x1 => (if x1 < (p0.2.1.length : Int) then (ix p0.2.1 x1).bind fun x2 => (if p1 = x2.1 ∧ p2 = x2.2.1 then some (.inr (.inr (x2.2.2.1, x2.2.2.2.1, x1, true))) else (if p1 = x2.2.2.1 ∧ p2 = x2.2.2.2.1 then some (.inr (.inr (x2.1, x2.2.1, x1, true))) else some (.inl (w64 (x1 + 1))))) else some (.inr (.inl ())))
theorem topo_Peer_l1_le (nE : Nat) (p0 : Int × (List (Int × Int × Int × Int × Int × Int)) × (List (Int × Int))) (p1 : Int) (p2 : Int) : ∀ s, Le (topo_Peer_l1_e nE p0 p1 p2 s) (topo_Peer_l1 p0 p1 p2 s) := by
  intro x1
  unfold topo_Peer_l1_e topo_Peer_l1
  repeat' with_reducible (first | refine Le.orR' ?_ ?_ | refine Le.bind' ?_ ?_ | refine Le.ite' ?_ ?_ | refine Le.loop' ?_ | refine Le.altS' ?_ ?_ | exact Le.rfl' _ | (refine Le.pi2 ?_; intro _) | intro _)
def topo_Peer_e (nE : Nat) (p0 : Int × (List (Int × Int × Int × Int × Int × Int)) × (List (Int × Int))) (p1 : Int) (p2 : Int) : Option (Int × Int × Int × Bool) := orR (loopE nE (topo_Peer_l1_e nE p0 p1 p2) 0) fun _ => some (0, 0, 0, false)
theorem topo_Peer_le (nE : Nat) (p0 : Int × (List (Int × Int × Int × Int × Int × Int)) × (List (Int × Int))) (p1 : Int) (p2 : Int) : Le (topo_Peer_e nE p0 p1 p2) (topo_Peer p0 p1 p2) := by
  unfold topo_Peer_e topo_Peer
  repeat' with_reducible (first | refine Le.orR' ?_ ?_ | refine Le.bind' ?_ ?_ | refine Le.ite' ?_ ?_ | refine Le.loop' ?_ | refine Le.altS' ?_ ?_ | apply topo_Peer_l1_le | exact Le.rfl' _ | (refine Le.pi2 ?_; intro _) | intro _)
def route_Next_e (nE : Nat) (p0 : Int × (List (Int × Int × Int × Int × Int × Int)) × (List (Int × Int))) (p1 : List (List Int)) (p2 : Int) (p3 : Int) : Option (Int × Bool) := (if p2 < 0 then some true else (if (p1.length : Int) ≤ p2 then some true else (if p3 < 0 then some true else (ix p1 p2).bind fun x2 => some (decide ((x2.length : Int) ≤ p3))))).bind fun x1 => (if x1 = true then some (0, false) else (ix p1 p2).bind fun x3 => (ix x3 p3).bind fun x4 => (topo_Peer_e nE p0 p2 x4).bind fun x5 => some (x5.1, x5.2.2.2))
theorem route_Next_le (nE : Nat) (p0 : Int × (List (Int × Int × Int × Int × Int × Int)) × (List (Int × Int))) (p1 : List (List Int)) (p2 : Int) (p3 : Int) : Le (route_Next_e nE p0 p1 p2 p3) (route_Next p0 p1 p2 p3) := by
  unfold route_Next_e route_Next
  repeat' with_reducible (first | refine Le.orR' ?_ ?_ | refine Le.bind' ?_ ?_ | refine Le.ite' ?_ ?_ | refine Le.loop' ?_ | refine Le.altS' ?_ ?_ | apply topo_Peer_le | exact Le.rfl' _ | (refine Le.pi2 ?_; intro _) | intro _)
def route_contains_int_l1_e (nE : Nat) (p0 : List Int) (p1 : Int) : Int → Option (Int ⊕ (Unit ⊕ Bool))
  | x1 => (if x1 < (p0.length : Int) then (ix p0 x1).bind fun x2 => (if p1 = x2 then some (.inr (.inr true)) else some (.inl (w64 (x1 + 1)))) else some (.inr (.inl ())))
theorem route_contains_int_l1_le (nE : Nat) (p0 : List Int) (p1 : Int) : ∀ s, Le (route_contains_int_l1_e nE p0 p1 s) (route_contains_int_l1 p0 p1 s) := by
  intro x1
  unfold route_contains_int_l1_e route_contains_int_l1
  repeat' with_reducible (first | refine Le.orR' ?_ ?_ | refine Le.bind' ?_ ?_ | refine Le.ite' ?_ ?_ | refine Le.loop' ?_ | refine Le.altS' ?_ ?_ | exact Le.rfl' _ | (refine Le.pi2 ?_; intro _) | intro _)
def route_contains_int_e (nE : Nat) (p0 : List Int) (p1 : Int) : Option Bool := orR (loopE nE (route_contains_int_l1_e nE p0 p1) 0) fun _ => some false
theorem route_contains_int_le (nE : Nat) (p0 : List Int) (p1 : Int) : Le (route_contains_int_e nE p0 p1) (route_contains_int p0 p1) := by
  unfold route_contains_int_e route_contains_int
  repeat' with_reducible (first | refine Le.orR' ?_ ?_ | refine Le.bind' ?_ ?_ | refine Le.ite' ?_ ?_ | refine Le.loop' ?_ | refine Le.altS' ?_ ?_ | apply route_contains_int_l1_le | exact Le.rfl' _ | (refine Le.pi2 ?_; intro _) | intro _)
def route_walk_l1_e (nE : Nat) (p0 : Int × (List (Int × Int × Int × Int × Int × Int)) × (List (Int × Int))) (p1 : List (List Int)) (p3 : Int) : (Int × List Int) → Option ((Int × List Int) ⊕ ((List Int) ⊕ (List Int × Int)))
  | (x2, x3) => (ix p1 x2).bind fun x4 => (ix x4 p3).bind fun x5 => (topo_HostAt_e nE p0 x2 x5).bind fun x6 => (if x6 ≠ p3 then (route_Next_e nE p0 p1 x2 p3).bind fun x7 => (if (!x7.2) = true then some (.inr (.inr (([] : List Int), 13))) else (route_contains_int_e nE x3 x7.1).bind fun x8 => (if x8 = true then some (.inr (.inr (([] : List Int), 12))) else (app x3 ([x7.1] : List Int)).bind fun x9 => some (.inl (x7.1, x9)))) else some (.inr (.inl x3)))
theorem route_walk_l1_le (nE : Nat) (p0 : Int × (List (Int × Int × Int × Int × Int × Int)) × (List (Int × Int))) (p1 : List (List Int)) (p3 : Int) : ∀ s, Le (route_walk_l1_e nE p0 p1 p3 s) (route_walk_l1 p0 p1 p3 s) := by
  rintro ⟨x2, x3⟩
  unfold route_walk_l1_e route_walk_l1
  repeat' with_reducible (first | refine Le.orR' ?_ ?_ | refine Le.bind' ?_ ?_ | refine Le.ite' ?_ ?_ | refine Le.loop' ?_ | refine Le.altS' ?_ ?_ | apply topo_HostAt_le | apply route_Next_le | apply route_contains_int_le | exact Le.rfl' _ | (refine Le.pi2 ?_; intro _) | intro _)
def route_walk_e (nE : Nat) (p0 : Int × (List (Int × Int × Int × Int × Int × Int)) × (List (Int × Int))) (p1 : List (List Int)) (p2 : Int) (p3 : Int) : Option (List Int × Int) := orR (loopE nE (route_walk_l1_e nE p0 p1 p3) (p2, ([p2] : List Int))) fun x1 => some (x1, 0)
theorem route_walk_le (nE : Nat) (p0 : Int × (List (Int × Int × Int × Int × Int × Int)) × (List (Int × Int))) (p1 : List (List Int)) (p2 : Int) (p3 : Int) : Le (route_walk_e nE p0 p1 p2 p3) (route_walk p0 p1 p2 p3) := by
  unfold route_walk_e route_walk
  repeat' with_reducible (first | refine Le.orR' ?_ ?_ | refine Le.bind' ?_ ?_ | refine Le.ite' ?_ ?_ | refine Le.loop' ?_ | refine Le.altS' ?_ ?_ | apply route_walk_l1_le | exact Le.rfl' _ | (refine Le.pi2 ?_; intro _) | intro _)
def route_Walk_e (nE : Nat) (p0 : Int × (List (Int × Int × Int × Int × Int × Int)) × (List (Int × Int))) (p1 : List (List Int)) (p2 : Int) (p3 : Int) : Option (List Int × Int) := ((route_Right_e nE p0 p1).bind fun x2 => (if (!x2) = true then some true else (if p2 < 0 then some true else (if p0.1 ≤ p2 then some true else (if p3 < 0 then some true else some (decide ((p0.2.2.length : Int) ≤ p3))))))).bind fun x1 => (if x1 = true then some (([] : List Int), 2) else (route_walk_e nE p0 p1 p2 p3).bind fun x3 => some (x3.1, x3.2))
theorem route_Walk_le (nE : Nat) (p0 : Int × (List (Int × Int × Int × Int × Int × Int)) × (List (Int × Int))) (p1 : List (List Int)) (p2 : Int) (p3 : Int) : Le (route_Walk_e nE p0 p1 p2 p3) (route_Walk p0 p1 p2 p3) := by
  unfold route_Walk_e route_Walk
  repeat' with_reducible (first | refine Le.orR' ?_ ?_ | refine Le.bind' ?_ ?_ | refine Le.ite' ?_ ?_ | refine Le.loop' ?_ | refine Le.altS' ?_ ?_ | apply route_Right_le | apply route_walk_le | exact Le.rfl' _ | (refine Le.pi2 ?_; intro _) | intro _)
def r13_Same_l1_e (nE : Nat) (p0 : List Int) (p1 : List Int) : Int → Option (Int ⊕ (Unit ⊕ Bool))
  | x1 => (if x1 < (p0.length : Int) then (ix p0 x1).bind fun x2 => (ix p1 x1).bind fun x3 => (if x2 ≠ x3 then some (.inr (.inr false)) else some (.inl (w64 (x1 + 1)))) else some (.inr (.inl ())))
theorem r13_Same_l1_le (nE : Nat) (p0 : List Int) (p1 : List Int) : ∀ s, Le (r13_Same_l1_e nE p0 p1 s) (r13_Same_l1 p0 p1 s) := by
  intro x1
  unfold r13_Same_l1_e r13_Same_l1
  repeat' with_reducible (first | refine Le.orR' ?_ ?_ | refine Le.bind' ?_ ?_ | refine Le.ite' ?_ ?_ | refine Le.loop' ?_ | refine Le.altS' ?_ ?_ | exact Le.rfl' _ | (refine Le.pi2 ?_; intro _) | intro _)
def r13_Same_e (nE : Nat) (p0 : List Int) (p1 : List Int) : Option Bool := (if (p0.length : Int) ≠ (p1.length : Int) then some false else orR (loopE nE (r13_Same_l1_e nE p0 p1) 0) fun _ => some true)
theorem r13_Same_le (nE : Nat) (p0 : List Int) (p1 : List Int) : Le (r13_Same_e nE p0 p1) (r13_Same p0 p1) := by
  unfold r13_Same_e r13_Same
  repeat' with_reducible (first | refine Le.orR' ?_ ?_ | refine Le.bind' ?_ ?_ | refine Le.ite' ?_ ?_ | refine Le.loop' ?_ | refine Le.altS' ?_ ?_ | apply r13_Same_l1_le | exact Le.rfl' _ | (refine Le.pi2 ?_; intro _) | intro _)
def route_Good_l2_e (nE : Nat) (p0 : Int × (List (Int × Int × Int × Int × Int × Int)) × (List (Int × Int))) (p1 : List (List Int)) (x2 : Int) (x3 : List Int) : Int → Option (Int ⊕ (Unit ⊕ (Int ⊕ (Unit ⊕ Bool))))
  | x4 => (if x4 < (x3.length : Int) then (route_walk_e nE p0 p1 x2 x4).bind fun x5 => (if x5.2 ≠ 0 then some (.inr (.inr (.inr (.inr false)))) else some (.inl (w64 (x4 + 1)))) else some (.inr (.inl ())))
theorem route_Good_l2_le (nE : Nat) (p0 : Int × (List (Int × Int × Int × Int × Int × Int)) × (List (Int × Int))) (p1 : List (List Int)) (x2 : Int) (x3 : List Int) : ∀ s, Le (route_Good_l2_e nE p0 p1 x2 x3 s) (route_Good_l2 p0 p1 x2 x3 s) := by
  intro x4
  unfold route_Good_l2_e route_Good_l2
  repeat' with_reducible (first | refine Le.orR' ?_ ?_ | refine Le.bind' ?_ ?_ | refine Le.ite' ?_ ?_ | refine Le.loop' ?_ | refine Le.altS' ?_ ?_ | apply route_walk_le | exact Le.rfl' _ | (refine Le.pi2 ?_; intro _) | intro _)
def route_Good_l1_e (nE : Nat) (p0 : Int × (List (Int × Int × Int × Int × Int × Int)) × (List (Int × Int))) (p1 : List (List Int)) : Int → Option (Int ⊕ (Unit ⊕ Bool))
  | x2 => (if x2 < (p1.length : Int) then orR ((ix p1 x2).bind fun x3 => loopE nE (route_Good_l2_e nE p0 p1 x2 x3) 0) fun _ => some (.inl (w64 (x2 + 1))) else some (.inr (.inl ())))
theorem route_Good_l1_le (nE : Nat) (p0 : Int × (List (Int × Int × Int × Int × Int × Int)) × (List (Int × Int))) (p1 : List (List Int)) : ∀ s, Le (route_Good_l1_e nE p0 p1 s) (route_Good_l1 p0 p1 s) := by
  intro x2
  unfold route_Good_l1_e route_Good_l1
  repeat' with_reducible (first | refine Le.orR' ?_ ?_ | refine Le.bind' ?_ ?_ | refine Le.ite' ?_ ?_ | refine Le.loop' ?_ | refine Le.altS' ?_ ?_ | apply route_Good_l2_le | exact Le.rfl' _ | (refine Le.pi2 ?_; intro _) | intro _)
def route_Good_e (nE : Nat) (p0 : Int × (List (Int × Int × Int × Int × Int × Int)) × (List (Int × Int))) (p1 : List (List Int)) : Option Bool := (route_Right_e nE p0 p1).bind fun x1 => (if (!x1) = true then some false else orR (loopE nE (route_Good_l1_e nE p0 p1) 0) fun _ => some true)
theorem route_Good_le (nE : Nat) (p0 : Int × (List (Int × Int × Int × Int × Int × Int)) × (List (Int × Int))) (p1 : List (List Int)) : Le (route_Good_e nE p0 p1) (route_Good p0 p1) := by
  unfold route_Good_e route_Good
  repeat' with_reducible (first | refine Le.orR' ?_ ?_ | refine Le.bind' ?_ ?_ | refine Le.ite' ?_ ?_ | refine Le.loop' ?_ | refine Le.altS' ?_ ?_ | apply route_Right_le | apply route_Good_l1_le | exact Le.rfl' _ | (refine Le.pi2 ?_; intro _) | intro _)
def L21_awake_e (nE : Nat)  : Option Bool := (route_Walk_e nE (2, ([(0, 0, 1, 0, 1, 1)] : List (Int × Int × Int × Int × Int × Int)), ([(1, 5)] : List (Int × Int))) ([([0] : List Int), ([5] : List Int)] : List (List Int)) 0 0).bind fun x1 => (route_Walk_e nE (2, ([(0, 0, 1, 0, 1, 1)] : List (Int × Int × Int × Int × Int × Int)), ([(1, 5)] : List (Int × Int))) ([([0] : List Int), ([0] : List Int)] : List (List Int)) 0 0).bind fun x2 => (if x1.2 = 0 then (r13_Same_e nE x1.1 ([0, 1] : List Int)).bind fun x4 => (if x4 = true then (if x2.2 = 12 then (route_Good_e nE (2, ([(0, 0, 1, 0, 1, 1)] : List (Int × Int × Int × Int × Int × Int)), ([(1, 5)] : List (Int × Int))) ([([0] : List Int), ([5] : List Int)] : List (List Int))).bind fun x5 => (if x5 = true then (route_Good_e nE (2, ([(0, 0, 1, 0, 1, 1)] : List (Int × Int × Int × Int × Int × Int)), ([(1, 5)] : List (Int × Int))) ([([5] : List Int), ([5] : List Int)] : List (List Int))).bind fun x6 => some (!x6) else some false) else some false) else some false) else some false).bind fun x3 => some x3
theorem L21_awake_le (nE : Nat)  : Le (L21_awake_e nE ) (L21_awake ) := by
  unfold L21_awake_e L21_awake
  repeat' with_reducible (first | refine Le.orR' ?_ ?_ | refine Le.bind' ?_ ?_ | refine Le.ite' ?_ ?_ | refine Le.loop' ?_ | refine Le.altS' ?_ ?_ | apply route_Walk_le | apply r13_Same_le | apply route_Good_le | exact Le.rfl' _ | (refine Le.pi2 ?_; intro _) | intro _)
def packet_Bits_e (nE : Nat) (p0 : Int) : Option Int := (if p0 = 0 then some true else (if p0 = 1 then some true else some (decide (p0 = 3)))).bind fun x1 => (if x1 = true then some 8 else (if p0 = 2 then some 4 else some 0))
theorem packet_Bits_le (nE : Nat) (p0 : Int) : Le (packet_Bits_e nE p0) (packet_Bits p0) := by
  unfold packet_Bits_e packet_Bits
  repeat' with_reducible (first | refine Le.orR' ?_ ?_ | refine Le.bind' ?_ ?_ | refine Le.ite' ?_ ?_ | refine Le.loop' ?_ | refine Le.altS' ?_ ?_ | exact Le.rfl' _ | (refine Le.pi2 ?_; intro _) | intro _)
def packet_Top_e (nE : Nat) (p0 : Int) : Option Int := (packet_Bits_e nE p0).bind fun x1 => (shN (shlI .i64 1 x1) x1).bind fun x2 => some (w64 (x2 - 1))
theorem packet_Top_le (nE : Nat) (p0 : Int) : Le (packet_Top_e nE p0) (packet_Top p0) := by
  unfold packet_Top_e packet_Top
  repeat' with_reducible (first | refine Le.orR' ?_ ?_ | refine Le.bind' ?_ ?_ | refine Le.ite' ?_ ?_ | refine Le.loop' ?_ | refine Le.altS' ?_ ?_ | apply packet_Bits_le | exact Le.rfl' _ | (refine Le.pi2 ?_; intro _) | intro _)
def match_Of_e (nE : Nat) (p0 : Int) (p1 : Int) : Option (Int × (Int × Int × Int × Int) × (Int × Int × Int × Int)) := (if p0 < 0 then some true else (if 4 ≤ p0 then some true else (if p1 < 0 then some true else (packet_Top_e nE p0).bind fun x2 => some (decide (x2 < p1))))).bind fun x1 => (if x1 = true then some match_Any else (ix ([match_Any.2.1.1, match_Any.2.1.2.1, match_Any.2.1.2.2.1, match_Any.2.1.2.2.2] : List Int) p0).bind fun x3 => (packet_Top_e nE p0).bind fun x4 => (ix ([match_Any.2.2.1, match_Any.2.2.2.1, match_Any.2.2.2.2.1, match_Any.2.2.2.2.2] : List Int) p0).bind fun x5 => some (match_Any.1, ((if p0 = 0 then p1 else match_Any.2.1.1), (if p0 = 1 then p1 else match_Any.2.1.2.1), (if p0 = 2 then p1 else match_Any.2.1.2.2.1), (if p0 = 3 then p1 else match_Any.2.1.2.2.2)), ((if p0 = 0 then x4 else match_Any.2.2.1), (if p0 = 1 then x4 else match_Any.2.2.2.1), (if p0 = 2 then x4 else match_Any.2.2.2.2.1), (if p0 = 3 then x4 else match_Any.2.2.2.2.2))))
theorem match_Of_le (nE : Nat) (p0 : Int) (p1 : Int) : Le (match_Of_e nE p0 p1) (match_Of p0 p1) := by
  unfold match_Of_e match_Of
  repeat' with_reducible (first | refine Le.orR' ?_ ?_ | refine Le.bind' ?_ ?_ | refine Le.ite' ?_ ?_ | refine Le.loop' ?_ | refine Le.altS' ?_ ?_ | apply packet_Top_le | exact Le.rfl' _ | (refine Le.pi2 ?_; intro _) | intro _)
def rule_Plain_e (nE : Nat) (p0 : Int) (p1 : Int) (p2 : Int) (p3 : Int) : Option (Int × (Int × (Int × Int × Int × Int) × (Int × Int × Int × Int)) × (List (Int × Int × Int))) := (match_Of_e nE p0 p1).bind fun x1 => some (p2, x1, ([(2, 0, p3)] : List (Int × Int × Int)))
theorem rule_Plain_le (nE : Nat) (p0 : Int) (p1 : Int) (p2 : Int) (p3 : Int) : Le (rule_Plain_e nE p0 p1 p2 p3) (rule_Plain p0 p1 p2 p3) := by
  unfold rule_Plain_e rule_Plain
  repeat' with_reducible (first | refine Le.orR' ?_ ?_ | refine Le.bind' ?_ ?_ | refine Le.ite' ?_ ?_ | refine Le.loop' ?_ | refine Le.altS' ?_ ?_ | apply match_Of_le | exact Le.rfl' _ | (refine Le.pi2 ?_; intro _) | intro _)
def packet_fits_e (nE : Nat) (p0 : Int) (p1 : Int) : Option Bool := (if 0 ≤ p1 then (packet_Top_e nE p0).bind fun x2 => some (decide (p1 ≤ x2)) else some false).bind fun x1 => some x1
theorem packet_fits_le (nE : Nat) (p0 : Int) (p1 : Int) : Le (packet_fits_e nE p0 p1) (packet_fits p0 p1) := by
  unfold packet_fits_e packet_fits
  repeat' with_reducible (first | refine Le.orR' ?_ ?_ | refine Le.bind' ?_ ?_ | refine Le.ite' ?_ ?_ | refine Le.loop' ?_ | refine Le.altS' ?_ ?_ | apply packet_Top_le | exact Le.rfl' _ | (refine Le.pi2 ?_; intro _) | intro _)
def packet_With_e (nE : Nat) (p0 : Int × Int × Int × Int) (p1 : Int) (p2 : Int) : Option (Int × Int × Int × Int) := ((if (packet_known p1) = true then (packet_fits_e nE p1 p2).bind fun x6 => some x6 else some false).bind fun x5 => (if x5 = true then (ix ([p0.1, p0.2.1, p0.2.2.1, p0.2.2.2] : List Int) p1).bind fun x7 => some ((if p1 = 0 then p2 else p0.1), (if p1 = 1 then p2 else p0.2.1), (if p1 = 2 then p2 else p0.2.2.1), (if p1 = 3 then p2 else p0.2.2.2)) else some (p0.1, p0.2.1, p0.2.2.1, p0.2.2.2))).bind fun (x1, x2, x3, x4) => some (x1, x2, x3, x4)
theorem packet_With_le (nE : Nat) (p0 : Int × Int × Int × Int) (p1 : Int) (p2 : Int) : Le (packet_With_e nE p0 p1 p2) (packet_With p0 p1 p2) := by
  unfold packet_With_e packet_With
  repeat' with_reducible (first | refine Le.orR' ?_ ?_ | refine Le.bind' ?_ ?_ | refine Le.ite' ?_ ?_ | refine Le.loop' ?_ | refine Le.altS' ?_ ?_ | apply packet_fits_le | exact Le.rfl' _ | (refine Le.pi2 ?_; intro _) | intro _)
def act_Run_l1_e (nE : Nat) (p0 : List (Int × Int × Int)) (p1 : Int × Int × Int × Int) : ((List (Int × (Int × Int × Int × Int))) × Int × Int × Int × Int × Int) → Option (((List (Int × (Int × Int × Int × Int))) × Int × Int × Int × Int × Int) ⊕ ((List (Int × (Int × Int × Int × Int))) × Int × Int × Int × Int))
  | (x6, x7, x8, x9, x10, x11) => (if x7 < (p0.length : Int) then ((ix p0 x7).bind fun x17 => (if x17.1 = 1 then (packet_With_e nE (x8, x9, x10, x11) x17.2.1 x17.2.2).bind fun x18 => some (x6, x18.1, x18.2.1, x18.2.2.1, x18.2.2.2) else (if x17.1 = 2 then (app x6 ([(x17.2.2, (x8, x9, x10, x11))] : List (Int × (Int × Int × Int × Int)))).bind fun x19 => some (x19, x8, x9, x10, x11) else (if x17.1 = 3 then some (x6, p1.1, p1.2.1, p1.2.2.1, p1.2.2.2) else some (x6, x8, x9, x10, x11))))).bind fun (x12, x13, x14, x15, x16) => some (.inl (x12, w64 (x7 + 1), x13, x14, x15, x16)) else some (.inr (x6, x8, x9, x10, x11)))
theorem act_Run_l1_le (nE : Nat) (p0 : List (Int × Int × Int)) (p1 : Int × Int × Int × Int) : ∀ s, Le (act_Run_l1_e nE p0 p1 s) (act_Run_l1 p0 p1 s) := by
  rintro ⟨x6, x7, x8, x9, x10, x11⟩
  unfold act_Run_l1_e act_Run_l1
  repeat' with_reducible (first | refine Le.orR' ?_ ?_ | refine Le.bind' ?_ ?_ | refine Le.ite' ?_ ?_ | refine Le.loop' ?_ | refine Le.altS' ?_ ?_ | apply packet_With_le | exact Le.rfl' _ | (refine Le.pi2 ?_; intro _) | intro _)
def act_Run_e (nE : Nat) (p0 : List (Int × Int × Int)) (p1 : Int × Int × Int × Int) : Option (List (Int × (Int × Int × Int × Int))) := (loopE nE (act_Run_l1_e nE p0 p1) ([], 0, p1.1, p1.2.1, p1.2.2.1, p1.2.2.2)).bind fun (x1, x2, x3, x4, x5) => some x1
theorem act_Run_le (nE : Nat) (p0 : List (Int × Int × Int)) (p1 : Int × Int × Int × Int) : Le (act_Run_e nE p0 p1) (act_Run p0 p1) := by
  unfold act_Run_e act_Run
  repeat' with_reducible (first | refine Le.orR' ?_ ?_ | refine Le.bind' ?_ ?_ | refine Le.ite' ?_ ?_ | refine Le.loop' ?_ | refine Le.altS' ?_ ?_ | apply act_Run_l1_le | exact Le.rfl' _ | (refine Le.pi2 ?_; intro _) | intro _)
def match_Right_l1_e (nE : Nat) (p0 : Int × (Int × Int × Int × Int) × (Int × Int × Int × Int)) : Int → Option (Int ⊕ (Unit ⊕ Bool))
  | x1 => (if x1 < 4 then (ix ([p0.2.2.1, p0.2.2.2.1, p0.2.2.2.2.1, p0.2.2.2.2.2] : List Int) x1).bind fun x2 => (if x2 < 0 then some true else (packet_Top_e nE x1).bind fun x4 => (if x4 < x2 then some true else (ix ([p0.2.1.1, p0.2.1.2.1, p0.2.1.2.2.1, p0.2.1.2.2.2] : List Int) x1).bind fun x5 => (if x5 < 0 then some true else (ix ([p0.2.1.1, p0.2.1.2.1, p0.2.1.2.2.1, p0.2.1.2.2.2] : List Int) x1).bind fun x6 => some (decide ((andNotI .i64 x6 x2) ≠ 0))))).bind fun x3 => (if x3 = true then some (.inr (.inr false)) else some (.inl (w64 (x1 + 1)))) else some (.inr (.inl ())))
theorem match_Right_l1_le (nE : Nat) (p0 : Int × (Int × Int × Int × Int) × (Int × Int × Int × Int)) : ∀ s, Le (match_Right_l1_e nE p0 s) (match_Right_l1 p0 s) := by
  intro x1
  unfold match_Right_l1_e match_Right_l1
  repeat' with_reducible (first | refine Le.orR' ?_ ?_ | refine Le.bind' ?_ ?_ | refine Le.ite' ?_ ?_ | refine Le.loop' ?_ | refine Le.altS' ?_ ?_ | apply packet_Top_le | exact Le.rfl' _ | (refine Le.pi2 ?_; intro _) | intro _)
def match_Right_e (nE : Nat) (p0 : Int × (Int × Int × Int × Int) × (Int × Int × Int × Int)) : Option Bool := (if (decide (p0.1 ≠ (-1)) && (decide (p0.1 < 0) || decide (8 ≤ p0.1))) = true then some false else orR (loopE nE (match_Right_l1_e nE p0) 0) fun _ => some true)
theorem match_Right_le (nE : Nat) (p0 : Int × (Int × Int × Int × Int) × (Int × Int × Int × Int)) : Le (match_Right_e nE p0) (match_Right p0) := by
  unfold match_Right_e match_Right
  repeat' with_reducible (first | refine Le.orR' ?_ ?_ | refine Le.bind' ?_ ?_ | refine Le.ite' ?_ ?_ | refine Le.loop' ?_ | refine Le.altS' ?_ ?_ | apply match_Right_l1_le | exact Le.rfl' _ | (refine Le.pi2 ?_; intro _) | intro _)
def act_right_e (nE : Nat) (p0 : Int × Int × Int) (p1 : Int) : Option Bool := (if p0.1 = 1 then (if 0 ≤ p0.2.1 then (if p0.2.1 < 4 then (if 0 ≤ p0.2.2 then (packet_Top_e nE p0.2.1).bind fun x2 => some (decide (p0.2.2 ≤ x2)) else some false) else some false) else some false).bind fun x1 => some x1 else (if p0.1 = 2 then some (decide (p0.2.1 = 0) && (decide (0 ≤ p0.2.2) && decide (p0.2.2 < p1))) else (if p0.1 = 3 then some (decide (p0.2.1 = 0) && decide (p0.2.2 = 0)) else some false)))
theorem act_right_le (nE : Nat) (p0 : Int × Int × Int) (p1 : Int) : Le (act_right_e nE p0 p1) (act_right p0 p1) := by
  unfold act_right_e act_right
  repeat' with_reducible (first | refine Le.orR' ?_ ?_ | refine Le.bind' ?_ ?_ | refine Le.ite' ?_ ?_ | refine Le.loop' ?_ | refine Le.altS' ?_ ?_ | apply packet_Top_le | exact Le.rfl' _ | (refine Le.pi2 ?_; intro _) | intro _)
def act_Right_l1_e (nE : Nat) (p0 : List (Int × Int × Int)) (p1 : Int) : Int → Option (Int ⊕ (Unit ⊕ Bool))
  | x1 => (if x1 < (p0.length : Int) then (ix p0 x1).bind fun x2 => (act_right_e nE x2 p1).bind fun x3 => (if (!x3) = true then some (.inr (.inr false)) else some (.inl (w64 (x1 + 1)))) else some (.inr (.inl ())))
theorem act_Right_l1_le (nE : Nat) (p0 : List (Int × Int × Int)) (p1 : Int) : ∀ s, Le (act_Right_l1_e nE p0 p1 s) (act_Right_l1 p0 p1 s) := by
  intro x1
  unfold act_Right_l1_e act_Right_l1
  repeat' with_reducible (first | refine Le.orR' ?_ ?_ | refine Le.bind' ?_ ?_ | refine Le.ite' ?_ ?_ | refine Le.loop' ?_ | refine Le.altS' ?_ ?_ | apply act_right_le | exact Le.rfl' _ | (refine Le.pi2 ?_; intro _) | intro _)
def act_Right_e (nE : Nat) (p0 : List (Int × Int × Int)) (p1 : Int) : Option Bool := (if 16 < (p0.length : Int) then some false else orR (loopE nE (act_Right_l1_e nE p0 p1) 0) fun _ => some true)
theorem act_Right_le (nE : Nat) (p0 : List (Int × Int × Int)) (p1 : Int) : Le (act_Right_e nE p0 p1) (act_Right p0 p1) := by
  unfold act_Right_e act_Right
  repeat' with_reducible (first | refine Le.orR' ?_ ?_ | refine Le.bind' ?_ ?_ | refine Le.ite' ?_ ?_ | refine Le.loop' ?_ | refine Le.altS' ?_ ?_ | apply act_Right_l1_le | exact Le.rfl' _ | (refine Le.pi2 ?_; intro _) | intro _)
def rule_Right_e (nE : Nat) (p0 : Int × (Int × (Int × Int × Int × Int) × (Int × Int × Int × Int)) × (List (Int × Int × Int))) (p1 : Int) : Option Bool := (if 0 ≤ p0.1 then (if p0.1 < 65536 then (match_Right_e nE p0.2.1).bind fun x2 => (if x2 = true then (act_Right_e nE p0.2.2 p1).bind fun x3 => some x3 else some false) else some false) else some false).bind fun x1 => some x1
theorem rule_Right_le (nE : Nat) (p0 : Int × (Int × (Int × Int × Int × Int) × (Int × Int × Int × Int)) × (List (Int × Int × Int))) (p1 : Int) : Le (rule_Right_e nE p0 p1) (rule_Right p0 p1) := by
  unfold rule_Right_e rule_Right
  repeat' with_reducible (first | refine Le.orR' ?_ ?_ | refine Le.bind' ?_ ?_ | refine Le.ite' ?_ ?_ | refine Le.loop' ?_ | refine Le.altS' ?_ ?_ | apply match_Right_le | apply act_Right_le | exact Le.rfl' _ | (refine Le.pi2 ?_; intro _) | intro _)
theorem awake21 : L21_awake = some true := L21_awake_le 60 _ (by kernel_rfl)
end Go.Proofs.Ytleakbjojbiomaa
