/-
  DERIVED. GIVEN WITH THE SEED: THE CARDS: each row of YtefiglmpdajonaaDoorRows.lean that lists a variable, with what it lists TIED to the program's text (the seventh form; the later family's looks); each row that meets fmt, with fmt's text TOLD by the authors' own Lean function (tested against real Go, not proved from fmt's source: count such statements apart). THE CARD IS WHAT COUNTS. Prove the row's statement (the work); the ties are given (YtefiglmpdajonaaDoorTie.lean); close each card by the builder's one call (the guide's Derived/Test/ToyasCard.lean, 'card_holds'). Laid BY PROGRAM, IN A SANDBOX (cutbox-door.mjs). By AI agents, Wed Nov 11 2026. No macro, syntax, notation, axiom, sorry.
-/
import Derived.Test.YtefiglmpdajonaaDoorRows
import GoSem.ClaimSeven
namespace Go.Proofs.YtefiglmpdajonaaDoor
namespace Rows

/-- THE TIED CARD OF 'turnoutlaw09.ActTells'. -/
def actTellsCard : Claim7 := { stood := { row := actTellsRow, standIns := [], harness := (true, "ade43c8290990c5a0fc495199999793ae008096836c8556b1f76031c0c07cf44"), looks := false }, kinds := [], alts := [], laidByText := true, laidKinds := [.data, .data, .data], laidTests := true, laidLooks := .later }
def ActTellsCardSaid : Prop := Claim7.holds Tryd.pinned (.plain (OpenSpec.ofChange actTellsSpec)) actTellsCard

/-- THE TIED CARD OF 'turnoutlaw09.ActFolds'. -/
def actFoldsCard : Claim7 := { stood := { row := actFoldsRow, standIns := [], harness := (true, "ade43c8290990c5a0fc495199999793ae008096836c8556b1f76031c0c07cf44"), looks := false }, kinds := [], alts := [], laidByText := true, laidKinds := [.data, .data, .data], laidTests := true, laidLooks := .later }
def ActFoldsCardSaid : Prop := Claim7.holds Tryd.pinned (.plain (OpenSpec.ofChange actFoldsSpec)) actFoldsCard

/-- THE TIED CARD OF 'turnoutlaw09.ActJoins'. -/
def actJoinsCard : Claim7 := { stood := { row := actJoinsRow, standIns := [], harness := (true, "ade43c8290990c5a0fc495199999793ae008096836c8556b1f76031c0c07cf44"), looks := false }, kinds := [], alts := [], laidByText := true, laidKinds := [.data, .data, .data], laidTests := true, laidLooks := .later }
def ActJoinsCardSaid : Prop := Claim7.holds Tryd.pinned (.plain (OpenSpec.ofChange actJoinsSpec)) actJoinsCard

/-- THE TIED CARD OF 'turnoutlaw09.ActReads'. -/
def actReadsCard : Claim7 := { stood := { row := actReadsRow, standIns := [], harness := (true, "ade43c8290990c5a0fc495199999793ae008096836c8556b1f76031c0c07cf44"), looks := false }, kinds := [], alts := [], laidByText := true, laidKinds := [.data, .data, .data], laidTests := true, laidLooks := .later }
def ActReadsCardSaid : Prop := Claim7.holds Tryd.pinned (.plain (OpenSpec.ofChange actReadsSpec)) actReadsCard

/-- THE SECOND FORM's CARD OF 'turnoutlaw09.ActTells'. -/
def actTellsUptoCard : Claim7 := { stood := { row := actTellsUptoRow, standIns := [], harness := (true, "ade43c8290990c5a0fc495199999793ae008096836c8556b1f76031c0c07cf44"), looks := false }, kinds := [], alts := [], laidByText := true, laidKinds := [.data, .data, .data], laidTests := true, laidLooks := .later }
def ActTellsUptoCardSaid : Prop := Claim7.holds Tryd.pinned (.plain (OpenSpec.upto actTellsSpec)) actTellsUptoCard

/-- THE SECOND FORM's CARD OF 'turnoutlaw09.ActFolds'. -/
def actFoldsUptoCard : Claim7 := { stood := { row := actFoldsUptoRow, standIns := [], harness := (true, "ade43c8290990c5a0fc495199999793ae008096836c8556b1f76031c0c07cf44"), looks := false }, kinds := [], alts := [], laidByText := true, laidKinds := [.data, .data, .data], laidTests := true, laidLooks := .later }
def ActFoldsUptoCardSaid : Prop := Claim7.holds Tryd.pinned (.plain (OpenSpec.upto actFoldsSpec)) actFoldsUptoCard

/-- THE SECOND FORM's CARD OF 'turnoutlaw09.ActJoins'. -/
def actJoinsUptoCard : Claim7 := { stood := { row := actJoinsUptoRow, standIns := [], harness := (true, "ade43c8290990c5a0fc495199999793ae008096836c8556b1f76031c0c07cf44"), looks := false }, kinds := [], alts := [], laidByText := true, laidKinds := [.data, .data, .data], laidTests := true, laidLooks := .later }
def ActJoinsUptoCardSaid : Prop := Claim7.holds Tryd.pinned (.plain (OpenSpec.upto actJoinsSpec)) actJoinsUptoCard

/-- THE SECOND FORM's CARD OF 'turnoutlaw09.ActReads'. -/
def actReadsUptoCard : Claim7 := { stood := { row := actReadsUptoRow, standIns := [], harness := (true, "ade43c8290990c5a0fc495199999793ae008096836c8556b1f76031c0c07cf44"), looks := false }, kinds := [], alts := [], laidByText := true, laidKinds := [.data, .data, .data], laidTests := true, laidLooks := .later }
def ActReadsUptoCardSaid : Prop := Claim7.holds Tryd.pinned (.plain (OpenSpec.upto actReadsSpec)) actReadsUptoCard
end Rows
end Go.Proofs.YtefiglmpdajonaaDoor
