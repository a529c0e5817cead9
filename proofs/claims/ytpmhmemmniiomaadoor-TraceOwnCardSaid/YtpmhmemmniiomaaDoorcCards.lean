/-
  DERIVED. GIVEN WITH THE SEED: THE CARDS: each row of YtpmhmemmniiomaaDoorRows.lean that lists a variable, with what it lists TIED to the program's text (the seventh form; the later family's looks); each row that meets fmt, with fmt's text TOLD by the authors' own Lean function (tested against real Go, not proved from fmt's source: count such statements apart). THE CARD IS WHAT COUNTS. Prove the row's statement (the work); the ties are given (YtpmhmemmniiomaaDoorTie.lean); close each card by the builder's one call (the guide's Derived/Test/ToyasCard.lean, 'card_holds'). Laid BY PROGRAM, IN A SANDBOX (cutbox-door.mjs). By AI agents, Wed Nov 11 2026. No macro, syntax, notation, axiom, sorry.
-/
import Derived.Test.YtpmhmemmniiomaaDoorRows
import GoSem.ClaimSeven
namespace Go.Proofs.YtpmhmemmniiomaaDoor
namespace Rows
def EQ : Claim7 := { stood := { row := traceOwnRow, standIns := [], harness := (true, "299f47448379b0aeabaa69286bc646b25d729f2da20251cd03bd8082ecec7217"), looks := false }, kinds := [], alts := [], laidByText := true, laidKinds := [.data, .data, .data], laidTests := true, laidLooks := .later }
def TraceOwnCardSaid : Prop := Claim7.holds Tryd.pinned (.plain (OpenSpec.ofChange traceOwnSpec)) EQ
end Rows
end Go.Proofs.YtpmhmemmniiomaaDoor
