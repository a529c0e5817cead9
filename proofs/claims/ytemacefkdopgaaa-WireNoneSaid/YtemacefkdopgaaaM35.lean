/- Layer 35: nil wires, the example. Conditions: none. -/
import Derived.Test.YtemacefkdopgaaaLP
import Derived.Test.YtemacefkdopgaaaA1
namespace Go.Proofs.Ytemacefkdopgaaa
set_option linter.unusedVariables false
set_option linter.unusedSimpArgs false
open Go Go.RowKit
abbrev Tp := Int × List (Int × Int × Int × Int × Int × Int) × List (Int × Int)
abbrev Wy := Int × Int × Int × (Int × Int × Int × Int) × Int × Int
/-! ### The chapter's example -/
abbrev t1 : Tp := (2, [(0, 0, 1, 3, 2, 5)], [])
abbrev wy : Wy := (7, 1, 3, (1, 0, 0, 0), 12, 15)
theorem t1_peer : topo_Peer t1 0 0 = some (1, 3, 0, true) := by
  unfold topo_Peer
  rw [loopW_iff.2 (⟨2, by kernel_rfl⟩ : ∃ n, loopN (topo_Peer_l1 t1 0 0) n 0 = some (.inr (1, 3, 0, true)))]; rfl
theorem t1_places : topo_places t1 = some [(0, 0), (1, 3)] := by
  unfold topo_places
  rw [loopW_iff.2 (⟨3, by kernel_rfl⟩ : ∃ n, loopN (topo_places_l1 t1) n ([], 0) = some [(0, 0), (1, 3)]), Option.bind_some, loopW_iff.2 (⟨3, by kernel_rfl⟩ : ∃ n, loopN (topo_places_l2 t1) n ([(0, 0), (1, 3)], 0) = some [(0, 0), (1, 3)])]; rfl
theorem t1_right : topo_Right t1 = some true := by
  unfold topo_Right
  rw [if_neg (by decide), t1_places, Option.bind_some, loopW_iff.2 (⟨5, by kernel_rfl⟩ : ∃ n, loopN (topo_Right_l1 t1 [(0, 0), (1, 3)]) n (0, []) = some (.inl [((0, 0), ()), ((1, 3), ())]))]
  show (slices_ContainsFunc_api_Link_api_Link t1.2.1).bind _ = _
  unfold slices_ContainsFunc_api_Link_api_Link slices_IndexFunc_api_Link_api_Link
  rw [loopW_iff.2 (⟨3, by kernel_rfl⟩ : ∃ n, loopN (slices_IndexFunc_api_Link_api_Link_l1 t1.2.1) n 0 = some (.inl ()))]; rfl
theorem new1 : wire_New t1 = some (.inl (t1, [])) := by
  unfold wire_New
  rw [t1_right, Option.bind_some, if_neg (by decide)]; rfl
theorem put1 : wire_Wires_Put_2 (t1, []) 10 0 0 7 (1, 0, 0, 0) = some (0, (t1, [wy])) := by
  unfold wire_Wires_Put_2
  rw [show topo_Peer (t1, ([] : List Wy)).1 0 0 = _ from t1_peer, Option.bind_some]
  kernel_rfl
theorem take1 : wire_Wires_Take_2 (t1, [wy]) 11 0 = some ((0, 0, 0, (0, 0, 0, 0), 0, 0), 15, (t1, [wy])) := by kernel_rfl
theorem take2 : wire_Wires_Take_2 (t1, [wy]) 12 0 = some (wy, 0, (t1, [])) := by kernel_rfl
theorem next1 : wire_Wires_Next_2 (t1, [wy]) = some 15 := by
  unfold wire_Wires_Next_2 slices_MinFunc_wire_Way_wire_Way
  rw [if_neg (by decide), if_neg (by decide)]
  show ((loopW (slices_MinFunc_wire_Way_wire_Way_l1 [wy]) (1, 7, 1, 3, 1, 0, 0, 0, 12, 15)).bind _).bind _ = _
  rw [loopW_iff.2 (⟨2, by kernel_rfl⟩ : ∃ n, loopN (slices_MinFunc_wire_Way_wire_Way_l1 [wy]) n (1, 7, 1, 3, 1, 0, 0, 0, 12, 15) = some (7, 1, 3, 1, 0, 0, 0, 12, 15))]; rfl
theorem next2 : wire_Wires_Next_2 (t1, []) = some (-1) := by
  unfold wire_Wires_Next_2
  rw [if_pos (by decide)]
theorem awake35 : L35_awake = some true := by
  unfold L35_awake
  show (wire_New t1).bind _ = _
  rw [new1, Option.bind_some]
  show (wire_Wires_Put_2 (t1, []) 10 0 0 7 (1, 0, 0, 0)).bind _ = _
  rw [put1, Option.bind_some]
  show (wire_Wires_Take_2 (t1, [wy]) 11 0).bind _ = _
  rw [take1, Option.bind_some]
  show (wire_Wires_Next_2 (t1, [wy])).bind _ = _
  rw [next1, Option.bind_some]
  show (wire_Wires_Take_2 (t1, [wy]) 12 0).bind _ = _
  rw [take2, Option.bind_some]
  rw [if_pos rfl, if_pos rfl, if_pos rfl, if_pos rfl, if_pos rfl, if_pos rfl, if_pos rfl, if_pos (show wire_Wires_Len_2 (t1, ([] : List Wy)) = 0 from rfl)]
  show ((wire_Wires_Next_2 (t1, [])).bind _).bind _ = _
  rw [next2]; rfl
theorem WireNone_true (p0 : Int) {A : Prop} (_ : A) (p1 : Int) {B : Prop} (_ : B) (p2 : Int × Int × Int × Int) {C : Prop} (_ : C) : L35_WireNone p0 p1 p2 = some true := by
  unfold L35_WireNone
  rw [if_pos (by decide), awake35]; rfl
end Go.Proofs.Ytemacefkdopgaaa
