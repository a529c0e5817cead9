/-
  No cell of these rows narrows 'for every input' (looked for: loops, veiled, ifaces, maps, wideKeys, modest, calm, conditions, laid).
  DERIVED. THE GIVEN ROWS OF THIS SEAT. 5 by the template 'for every input the law returns true; each argument reads behind the call as it read before'; 0 by the template 'total and deterministic' (their statements: YtjocggcgjdimeaaTotals.lean).
  GIVEN WITH THE SEED: the statements are not yours to turn. If you find one false, say at which input.
  Laid BY PROGRAM, IN A SANDBOX (cutbox-rows.mjs): the forced cells as the released guide's own fill.sh prints them over the translation 9c12c8060500a08a… (all of the seat's roots in one cut). By AI agents, Wed Nov 11 2026. No macro, syntax, notation, axiom, sorry.
-/
import Derived.Test.YtjocggcgjdimeaaChecked
import GoSem.Claim
import GoSem.ClaimJoined
import GoSem.ClaimMapViews
import Derived.JoinedTies
import Derived.KernelRfl
namespace Go.Proofs.Ytjocggcgjdimeaa
/- THE CELL 'sum', in the pinned program and in every row, IS THE sha256 OF THE DUMP (.gsa) THAT YtjocggcgjdimeaaProg.lean LOADS. Nothing in Lean hashes anything: it is a label: what it is worth is what the hold of that sum in a sandbox is worth. -/
noncomputable def Try.pinned : Pinned := { name := "ytjocggcgjdimeaa", sum := "9c12c8060500a08afe6741ed34b40e23fb688c594026d14e7f2a40428db0fff7", checked := Try.checked }
namespace Rows
def none {H : Type} : Left H := { results := [], args := [] }

/-- 'turnoutlaw01.TickTells': WHATEVER THE INPUT: true; the input reads as it did. -/
def tickTellsSpec : ChangeSpec := { name := "tickTells", fn := fun _ => fun
  | [d1, d2, d3] => { results := [.lit (.bool true)], args := [d1, d2, d3] }
  | _ => none }
def tickTellsRow : OpenClaim := { program := "ytjocggcgjdimeaa", sum := "9c12c8060500a08afe6741ed34b40e23fb688c594026d14e7f2a40428db0fff7", func := "turnout/turnoutlaw01.TickTells", spec := "tickTells", unfollowed := true, recurses := true, apart := false }
def TickTellsSaid : Prop := tickTellsRow.holds Try.pinned (OpenSpec.ofChange tickTellsSpec)

/-- ITS FALSE NEIGHBOUR: 'it returns false'. Refute it at one input. -/
def tickTellsWrong : ChangeSpec := { name := "tickTells", fn := fun _ => fun
  | [d1, d2, d3] => { results := [.lit (.bool false)], args := [d1, d2, d3] }
  | _ => none }
def TickTellsWrongFalsely : Prop := tickTellsRow.holds Try.pinned (OpenSpec.ofChange tickTellsWrong)

/-- 'turnoutlaw01.TickBack': WHATEVER THE INPUT: true; the input reads as it did. -/
def tickBackSpec : ChangeSpec := { name := "tickBack", fn := fun _ => fun
  | [d1, d2] => { results := [.lit (.bool true)], args := [d1, d2] }
  | _ => none }
def tickBackRow : OpenClaim := { program := "ytjocggcgjdimeaa", sum := "9c12c8060500a08afe6741ed34b40e23fb688c594026d14e7f2a40428db0fff7", func := "turnout/turnoutlaw01.TickBack", spec := "tickBack", unfollowed := true, recurses := true, apart := false }
def TickBackSaid : Prop := tickBackRow.holds Try.pinned (OpenSpec.ofChange tickBackSpec)

/-- ITS FALSE NEIGHBOUR: 'it returns false'. Refute it at one input. -/
def tickBackWrong : ChangeSpec := { name := "tickBack", fn := fun _ => fun
  | [d1, d2] => { results := [.lit (.bool false)], args := [d1, d2] }
  | _ => none }
def TickBackWrongFalsely : Prop := tickBackRow.holds Try.pinned (OpenSpec.ofChange tickBackWrong)

/-- 'turnoutlaw01.TickRatio': WHATEVER THE INPUT: true; the input reads as it did. -/
def tickRatioSpec : ChangeSpec := { name := "tickRatio", fn := fun _ => fun
  | [d1, d2, d3] => { results := [.lit (.bool true)], args := [d1, d2, d3] }
  | _ => none }
def tickRatioRow : OpenClaim := { program := "ytjocggcgjdimeaa", sum := "9c12c8060500a08afe6741ed34b40e23fb688c594026d14e7f2a40428db0fff7", func := "turnout/turnoutlaw01.TickRatio", spec := "tickRatio", unfollowed := true, recurses := true, apart := false }
def TickRatioSaid : Prop := tickRatioRow.holds Try.pinned (OpenSpec.ofChange tickRatioSpec)

/-- ITS FALSE NEIGHBOUR: 'it returns false'. Refute it at one input. -/
def tickRatioWrong : ChangeSpec := { name := "tickRatio", fn := fun _ => fun
  | [d1, d2, d3] => { results := [.lit (.bool false)], args := [d1, d2, d3] }
  | _ => none }
def TickRatioWrongFalsely : Prop := tickRatioRow.holds Try.pinned (OpenSpec.ofChange tickRatioWrong)

/-- 'turnoutlaw01.TickEvals': WHATEVER THE INPUT: true; the input reads as it did. -/
def tickEvalsSpec : ChangeSpec := { name := "tickEvals", fn := fun _ => fun
  | [d] => { results := [.lit (.bool true)], args := [d] }
  | _ => none }
def tickEvalsRow : OpenClaim := { program := "ytjocggcgjdimeaa", sum := "9c12c8060500a08afe6741ed34b40e23fb688c594026d14e7f2a40428db0fff7", func := "turnout/turnoutlaw01.TickEvals", spec := "tickEvals", unfollowed := true, recurses := true, apart := false }
def TickEvalsSaid : Prop := tickEvalsRow.holds Try.pinned (OpenSpec.ofChange tickEvalsSpec)

/-- ITS FALSE NEIGHBOUR: 'it returns false'. Refute it at one input. -/
def tickEvalsWrong : ChangeSpec := { name := "tickEvals", fn := fun _ => fun
  | [d] => { results := [.lit (.bool false)], args := [d] }
  | _ => none }
def TickEvalsWrongFalsely : Prop := tickEvalsRow.holds Try.pinned (OpenSpec.ofChange tickEvalsWrong)

/-- 'turnoutlaw01.TickJoins': WHATEVER THE INPUT: true; the input reads as it did. -/
def tickJoinsSpec : ChangeSpec := { name := "tickJoins", fn := fun _ => fun
  | [d1, d2] => { results := [.lit (.bool true)], args := [d1, d2] }
  | _ => none }
def tickJoinsRow : OpenClaim := { program := "ytjocggcgjdimeaa", sum := "9c12c8060500a08afe6741ed34b40e23fb688c594026d14e7f2a40428db0fff7", func := "turnout/turnoutlaw01.TickJoins", spec := "tickJoins", unfollowed := true, recurses := true, apart := false }
def TickJoinsSaid : Prop := tickJoinsRow.holds Try.pinned (OpenSpec.ofChange tickJoinsSpec)

/-- ITS FALSE NEIGHBOUR: 'it returns false'. Refute it at one input. -/
def tickJoinsWrong : ChangeSpec := { name := "tickJoins", fn := fun _ => fun
  | [d1, d2] => { results := [.lit (.bool false)], args := [d1, d2] }
  | _ => none }
def TickJoinsWrongFalsely : Prop := tickJoinsRow.holds Try.pinned (OpenSpec.ofChange tickJoinsWrong)

/- THE SECOND FORM. 'bulk': how many values and letters a reading holds, each counted each time it is reached (what is shared counts as often as it is met; a slice's spare places count too). A statement '..UptoSaid' is the law's where the arguments, and the package variables that the reading takes, are together of bulk at most 1048576: NARROWER than '..Said'. Prove '..Said' where nothing that the law and all that it calls make is longer than what came in: it says more and counts as full. Else prove '..UptoSaid'. A law counts once. -/
mutual
def uptoBulk {H : Type} : DataW H → Nat
  | .lit (.string bytes) => bytes.length + 1
  | .lit _ => 1
  | .nil => 1
  | .ptr d => uptoBulk d + 1
  | .slice elems spare => uptoBulkAll elems + uptoBulkAll spare + 1
  | .agg parts => uptoBulkAll parts + 1
  | .iface _ d => uptoBulk d + 1
  | .map entries => uptoBulkEntries entries + 1
  | .held _ => 1
def uptoBulkAll {H : Type} : List (DataW H) → Nat
  | [] => 0
  | d :: r => uptoBulk d + uptoBulkAll r
def uptoBulkEntries {H : Type} : List (Lit × DataW H) → Nat
  | [] => 0
  | x :: r => uptoBulkEntry x + uptoBulkEntries r
def uptoBulkEntry {H : Type} : Lit × DataW H → Nat
  | (.string bytes, d) => bytes.length + uptoBulk d + 1
  | (_, d) => uptoBulk d + 1
 end
def uptoSmall : (H : Type) → List (DataW H) → Bool := fun _ ds => decide (uptoBulkAll ds ≤ 1048576)
def OpenSpec.upto (s : _root_.Go.ChangeSpec) : _root_.Go.OpenSpec := { _root_.Go.OpenSpec.ofChange s with cond := some uptoSmall }

/-- 'turnoutlaw01.TickTells', WHERE WHAT IT READS IS OF BULK AT MOST 1048576: true; the input reads as it did. -/
def tickTellsUptoRow : OpenClaim := { program := "ytjocggcgjdimeaa", sum := "9c12c8060500a08afe6741ed34b40e23fb688c594026d14e7f2a40428db0fff7", func := "turnout/turnoutlaw01.TickTells", spec := "tickTells", unfollowed := true, recurses := true, apart := false, narrowed := true }
def TickTellsUptoSaid : Prop := tickTellsUptoRow.holds Try.pinned (OpenSpec.upto tickTellsSpec)

/-- 'turnoutlaw01.TickBack', WHERE WHAT IT READS IS OF BULK AT MOST 1048576: true; the input reads as it did. -/
def tickBackUptoRow : OpenClaim := { program := "ytjocggcgjdimeaa", sum := "9c12c8060500a08afe6741ed34b40e23fb688c594026d14e7f2a40428db0fff7", func := "turnout/turnoutlaw01.TickBack", spec := "tickBack", unfollowed := true, recurses := true, apart := false, narrowed := true }
def TickBackUptoSaid : Prop := tickBackUptoRow.holds Try.pinned (OpenSpec.upto tickBackSpec)

/-- 'turnoutlaw01.TickRatio', WHERE WHAT IT READS IS OF BULK AT MOST 1048576: true; the input reads as it did. -/
def tickRatioUptoRow : OpenClaim := { program := "ytjocggcgjdimeaa", sum := "9c12c8060500a08afe6741ed34b40e23fb688c594026d14e7f2a40428db0fff7", func := "turnout/turnoutlaw01.TickRatio", spec := "tickRatio", unfollowed := true, recurses := true, apart := false, narrowed := true }
def TickRatioUptoSaid : Prop := tickRatioUptoRow.holds Try.pinned (OpenSpec.upto tickRatioSpec)

/-- 'turnoutlaw01.TickEvals', WHERE WHAT IT READS IS OF BULK AT MOST 1048576: true; the input reads as it did. -/
def tickEvalsUptoRow : OpenClaim := { program := "ytjocggcgjdimeaa", sum := "9c12c8060500a08afe6741ed34b40e23fb688c594026d14e7f2a40428db0fff7", func := "turnout/turnoutlaw01.TickEvals", spec := "tickEvals", unfollowed := true, recurses := true, apart := false, narrowed := true }
def TickEvalsUptoSaid : Prop := tickEvalsUptoRow.holds Try.pinned (OpenSpec.upto tickEvalsSpec)

/-- 'turnoutlaw01.TickJoins', WHERE WHAT IT READS IS OF BULK AT MOST 1048576: true; the input reads as it did. -/
def tickJoinsUptoRow : OpenClaim := { program := "ytjocggcgjdimeaa", sum := "9c12c8060500a08afe6741ed34b40e23fb688c594026d14e7f2a40428db0fff7", func := "turnout/turnoutlaw01.TickJoins", spec := "tickJoins", unfollowed := true, recurses := true, apart := false, narrowed := true }
def TickJoinsUptoSaid : Prop := tickJoinsUptoRow.holds Try.pinned (OpenSpec.upto tickJoinsSpec)

end Rows
end Go.Proofs.Ytjocggcgjdimeaa
