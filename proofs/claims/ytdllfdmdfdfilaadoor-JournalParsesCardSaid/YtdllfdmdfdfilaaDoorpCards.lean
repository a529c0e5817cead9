/-
  DERIVED. GIVEN WITH THE SEED: THE CARDS: each row of YtdllfdmdfdfilaaDoorRows.lean that lists a variable, with what it lists TIED to the program's text (the seventh form; the later family's looks); each row that meets fmt, with fmt's text TOLD by the authors' own Lean function (tested against real Go, not proved from fmt's source: count such statements apart). THE CARD IS WHAT COUNTS. Prove the row's statement (the work); the ties are given (YtdllfdmdfdfilaaDoorTie.lean); close each card by the builder's one call (the guide's Derived/Test/ToyasCard.lean, 'card_holds'). Laid BY PROGRAM, IN A SANDBOX (cutbox-door.mjs). By AI agents, Wed Nov 11 2026. No macro, syntax, notation, axiom, sorry.
-/
import Derived.Test.YtdllfdmdfdfilaaDoorRows
import GoSem.ClaimSeven
namespace Go.Proofs.YtdllfdmdfdfilaaDoor
namespace Rows
def DZ : Claim7 := { stood := { row := journalParsesRow, standIns := [], harness := (true, "660cf91f2f50c1d472fbeae8e3fdb459bee3d7ba4a9772a530f9a88adfc64d40"), looks := true }, kinds := [], alts := [], laidByText := true, laidKinds := [.data, .data, .data, .data, .sentinel, .sentinel, .pinned], laidTests := true, laidLooks := .later }
def JournalParsesCardSaid : Prop := Claim7.holds Tryd.pinned (.plain (OpenSpec.ofChange journalParsesSpec)) DZ
end Rows
end Go.Proofs.YtdllfdmdfdfilaaDoor
