/-
  DERIVED. GIVEN WITH THE SEED: THE CARDS: each row of YtlgjpoapclifbaaDoorRows.lean that lists a variable, with what it lists TIED to the program's text (the seventh form; the later family's looks); each row that meets fmt, with fmt's text TOLD by the authors' own Lean function (tested against real Go, not proved from fmt's source: count such statements apart). THE CARD IS WHAT COUNTS. Prove the row's statement (the work); the ties are given (YtlgjpoapclifbaaDoorTie.lean); close each card by the builder's one call (the guide's Derived/Test/ToyasCard.lean, 'card_holds'). Laid BY PROGRAM, IN A SANDBOX (cutbox-door.mjs). By AI agents, Wed Nov 11 2026. No macro, syntax, notation, axiom, sorry.
-/
import Derived.Test.YtlgjpoapclifbaaDoorRows
import GoSem.ClaimSeven
namespace Go.Proofs.YtlgjpoapclifbaaDoor
namespace Rows
def LZ : Claim7 := { stood := { row := parseAgainRow, standIns := [], harness := (true, "656bf23db944dbc0b59b9325a0f43d3ec8e9a2cd1d56c0405f6bc1ffb58a8bd1"), looks := true }, kinds := [], alts := [], laidByText := true, laidKinds := [.data, .data, .data], laidTests := true, laidLooks := .later }
def ParseAgainCardSaid : Prop := Claim7.holds Tryd.pinned (.plain (OpenSpec.ofChange parseAgainSpec)) LZ
end Rows
end Go.Proofs.YtlgjpoapclifbaaDoor
