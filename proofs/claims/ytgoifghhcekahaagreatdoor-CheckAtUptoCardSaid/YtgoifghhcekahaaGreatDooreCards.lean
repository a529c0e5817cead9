/-
  DERIVED. GIVEN WITH THE SEED: THE CARDS: each row of YtgoifghhcekahaaGreatDoorRows.lean that lists a variable, with what it lists TIED to the program's text (the seventh form; the later family's looks); each row that meets fmt, with fmt's text TOLD by the authors' own Lean function (tested against real Go, not proved from fmt's source: count such statements apart). THE CARD IS WHAT COUNTS. Prove the row's statement (the work); the ties are given (YtgoifghhcekahaaGreatDoorTie.lean); close each card by the builder's one call (the guide's Derived/Test/ToyasCard.lean, 'card_holds'). Laid BY PROGRAM, IN A SANDBOX (cutbox-door.mjs). By AI agents, Wed Nov 11 2026. No macro, syntax, notation, axiom, sorry.
-/
import Derived.Test.YtgoifghhcekahaaGreatDoorRows
import GoSem.ClaimSeven
namespace Go.Proofs.YtgoifghhcekahaaGreatDoor
namespace Rows
def O3 : Claim7 := { stood := { row := checkAtUptoRow, standIns := [], harness := (true, "4a3ec4cc721ee9b2aabb89a8a8b7159443d01c6062d92f77d3b94039e124425f"), looks := false }, kinds := [], alts := [], laidByText := true, laidKinds := [.data, .data, .data], laidTests := true, laidLooks := .later }
def CheckAtUptoCardSaid : Prop := Claim7.holds Tryz.pinned (.plain (OpenSpec.upto checkAtSpec)) O3
end Rows
end Go.Proofs.YtgoifghhcekahaaGreatDoor
