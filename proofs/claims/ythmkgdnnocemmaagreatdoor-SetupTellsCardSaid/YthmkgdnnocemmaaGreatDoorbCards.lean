/-
  DERIVED. GIVEN WITH THE SEED: THE CARDS: each row of YthmkgdnnocemmaaGreatDoorRows.lean that lists a variable, with what it lists TIED to the program's text (the seventh form; the later family's looks); each row that meets fmt, with fmt's text TOLD by the authors' own Lean function (tested against real Go, not proved from fmt's source: count such statements apart). THE CARD IS WHAT COUNTS. Prove the row's statement (the work); the ties are given (YthmkgdnnocemmaaGreatDoorTie.lean); close each card by the builder's one call (the guide's Derived/Test/ToyasCard.lean, 'card_holds'). Laid BY PROGRAM, IN A SANDBOX (cutbox-door.mjs). By AI agents, Wed Nov 11 2026. No macro, syntax, notation, axiom, sorry.
-/
import Derived.Test.YthmkgdnnocemmaaGreatDoorRows
import GoSem.ClaimSeven
namespace Go.Proofs.YthmkgdnnocemmaaGreatDoor
namespace Rows
def J1 : Claim7 := { stood := { row := setupTellsRow, standIns := [], harness := (true, "fad2f76c236b4f32c55e89fdb2e96502f7d2d2d0b359fdd280db88680dd45922"), looks := true }, kinds := [], alts := [], laidByText := true, laidKinds := [.data, .data, .data, .data, .sentinel, .sentinel, .pinned], laidTests := true, laidLooks := .later }
def SetupTellsCardSaid : Prop := Claim7.holds Tryz.pinned (.plain (OpenSpec.ofChange setupTellsSpec)) J1
end Rows
end Go.Proofs.YthmkgdnnocemmaaGreatDoor
