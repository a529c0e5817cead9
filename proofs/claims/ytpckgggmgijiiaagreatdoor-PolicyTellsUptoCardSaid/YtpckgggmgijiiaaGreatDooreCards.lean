/-
  DERIVED. GIVEN WITH THE SEED: THE CARDS: each row of YtpckgggmgijiiaaGreatDoorRows.lean that lists a variable,with what it lists TIED to the program's text (the seventh form; the later family's looks); each row that meets fmt,with fmt's text TOLD by the authors' own Lean function (tested against real Go,not proved from fmt's source: count such statements apart). THE CARD IS WHAT COUNTS. Prove the row's statement (the work); the ties are given (YtpckgggmgijiiaaGreatDoorTie.lean); close each card by the builder's one call (the guide's Derived/Test/ToyasCard.lean, 'card_holds'). Laid BY PROGRAM,IN A SANDBOX (cutbox-door.mjs). By AI agents,Wed Nov 11 2026. No macro,syntax,notation,axiom,sorry.
-/
import Derived.Test.YtpckgggmgijiiaaGreatDoorRows
import GoSem.ClaimSeven
namespace Go.Proofs.YtpckgggmgijiiaaGreatDoor
namespace Rows
def MD : Claim7 := { stood := { row := policyTellsUptoRow, standIns := [], harness := (true, "1acd616602ce3da185191c0a9e3dce37a64f75d007365ee50c1822afcb377e02"), looks := false }, kinds := [], alts := [], laidByText := true, laidKinds := [.data, .data, .data], laidTests := true, laidLooks := .later }
def PolicyTellsUptoCardSaid : Prop := Claim7.holds Tryz.pinned (.plain (OpenSpec.upto policyTellsSpec)) MD
end Rows
end Go.Proofs.YtpckgggmgijiiaaGreatDoor
