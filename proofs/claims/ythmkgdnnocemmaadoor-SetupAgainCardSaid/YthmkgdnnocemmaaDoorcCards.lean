/-
  DERIVED. GIVEN WITH THE SEED: THE CARDS: each row of YthmkgdnnocemmaaDoorRows.lean that lists a variable, with what it lists TIED to the program's text (the seventh form; the later family's looks); each row that meets fmt, with fmt's text TOLD by the authors' own Lean function (tested against real Go, not proved from fmt's source: count such statements apart). THE CARD IS WHAT COUNTS. Prove the row's statement (the work); the ties are given (YthmkgdnnocemmaaDoorTie.lean); close each card by the builder's one call (the guide's Derived/Test/ToyasCard.lean, 'card_holds'). Laid BY PROGRAM, IN A SANDBOX (cutbox-door.mjs). By AI agents, Wed Nov 11 2026. No macro, syntax, notation, axiom, sorry.
-/
import Derived.Test.YthmkgdnnocemmaaDoorRows
import GoSem.ClaimSeven
namespace Go.Proofs.YthmkgdnnocemmaaDoor
namespace Rows
def Hk : Claim7 := { stood := { row := setupAgainRow, standIns := [], harness := (true, "c5b5cb05d51142a2fdc198104a400dea975f3c36e7f0d7cf0ac1c6f790b11387"), looks := true }, kinds := [], alts := [], laidByText := true, laidKinds := [.data, .data, .data, .data, .sentinel, .sentinel, .pinned], laidTests := true, laidLooks := .later }
def SetupAgainCardSaid : Prop := Claim7.holds Tryd.pinned (.plain (OpenSpec.ofChange setupAgainSpec)) Hk
end Rows
end Go.Proofs.YthmkgdnnocemmaaDoor
