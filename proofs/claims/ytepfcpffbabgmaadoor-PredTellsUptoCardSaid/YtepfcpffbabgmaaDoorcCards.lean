/-
  DERIVED. GIVEN WITH THE SEED: THE CARDS: each row of YtepfcpffbabgmaaDoorRows.lean that lists a variable, with what it lists TIED to the program's text (the seventh form; the later family's looks); each row that meets fmt, with fmt's text TOLD by the authors' own Lean function (tested against real Go, not proved from fmt's source: count such statements apart). THE CARD IS WHAT COUNTS. Prove the row's statement (the work); the ties are given (YtepfcpffbabgmaaDoorTie.lean); close each card by the builder's one call (the guide's Derived/Test/ToyasCard.lean, 'card_holds'). Laid BY PROGRAM, IN A SANDBOX (cutbox-door.mjs). By AI agents, Wed Nov 11 2026. No macro, syntax, notation, axiom, sorry.
-/
import Derived.Test.YtepfcpffbabgmaaDoorRows
import GoSem.ClaimSeven
namespace Go.Proofs.YtepfcpffbabgmaaDoor
namespace Rows
def IP : Claim7 := { stood := { row := predTellsUptoRow, standIns := [], harness := (true, "6e3485a9708eefa45bfa0ac235efdbf6dc38496fc2a5870b157b32e01883fe35"), looks := false }, kinds := [], alts := [], laidByText := true, laidKinds := [.data, .data, .data], laidTests := true, laidLooks := .later }
def PredTellsUptoCardSaid : Prop := Claim7.holds Tryd.pinned (.plain (OpenSpec.upto predTellsSpec)) IP
end Rows
end Go.Proofs.YtepfcpffbabgmaaDoor
