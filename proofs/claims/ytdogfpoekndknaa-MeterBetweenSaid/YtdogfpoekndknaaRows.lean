/-
  No cell of these rows narrows 'for every input' (looked for: loops, veiled, ifaces, maps, wideKeys, modest, calm, conditions, laid).
  DERIVED. THE GIVEN ROWS OF THIS SEAT. 4 by the template 'for every input the law returns true; each argument reads behind the call as it read before'; 0 by the template 'total and deterministic' (their statements: YtdogfpoekndknaaTotals.lean).
  GIVEN WITH THE SEED: the statements are not yours to turn. If you find one false, say at which input.
  Laid BY PROGRAM, IN A SANDBOX (cutbox-rows.mjs): the forced cells as the released guide's own fill.sh prints them over the translation e6852fff9c28787b… (all of the seat's roots in one cut). By AI agents, Wed Nov 11 2026. No macro, syntax, notation, axiom, sorry.
-/
import Derived.Test.YtdogfpoekndknaaChecked
import GoSem.Claim
import GoSem.ClaimJoined
import GoSem.ClaimMapViews
import Derived.JoinedTies
import Derived.KernelRfl
namespace Go.Proofs.Ytdogfpoekndknaa
/- THE CELL 'sum', in the pinned program and in every row, IS THE sha256 OF THE DUMP (.gsa) THAT YtdogfpoekndknaaProg.lean LOADS. Nothing in Lean hashes anything: it is a label: what it is worth is what the hold of that sum in a sandbox is worth. -/
noncomputable def Try.pinned : Pinned := { name := "ytdogfpoekndknaa", sum := "e6852fff9c28787b5a85212f290151ef48a82561eac98fee17b5399797cc852e", checked := Try.checked }
namespace Rows
def none {H : Type} : Left H := { results := [], args := [] }

/-- 'turnoutlaw43.MeterTells': WHATEVER THE INPUT: true; the input reads as it did. -/
def meterTellsSpec : ChangeSpec := { name := "meterTells", fn := fun _ => fun
  | [d1, d2, d3, d4, d5] => { results := [.lit (.bool true)], args := [d1, d2, d3, d4, d5] }
  | _ => none }
def meterTellsRow : OpenClaim := { program := "ytdogfpoekndknaa", sum := "e6852fff9c28787b5a85212f290151ef48a82561eac98fee17b5399797cc852e", func := "turnout/turnoutlaw43.MeterTells", spec := "meterTells", inPlace := ["math.Float64frombits", "math.Float64bits"], apart := false }
def MeterTellsSaid : Prop := meterTellsRow.holds Try.pinned (OpenSpec.ofChange meterTellsSpec)

/-- ITS FALSE NEIGHBOUR: 'it returns false'. Refute it at one input. -/
def meterTellsWrong : ChangeSpec := { name := "meterTells", fn := fun _ => fun
  | [d1, d2, d3, d4, d5] => { results := [.lit (.bool false)], args := [d1, d2, d3, d4, d5] }
  | _ => none }
def MeterTellsWrongFalsely : Prop := meterTellsRow.holds Try.pinned (OpenSpec.ofChange meterTellsWrong)

/-- 'turnoutlaw43.MeterSorts': WHATEVER THE INPUT: true; the input reads as it did. -/
def meterSortsSpec : ChangeSpec := { name := "meterSorts", fn := fun _ => fun
  | [d1, d2] => { results := [.lit (.bool true)], args := [d1, d2] }
  | _ => none }
def meterSortsRow : OpenClaim := { program := "ytdogfpoekndknaa", sum := "e6852fff9c28787b5a85212f290151ef48a82561eac98fee17b5399797cc852e", func := "turnout/turnoutlaw43.MeterSorts", spec := "meterSorts", inPlace := ["math.Float64frombits", "math.Float64bits"], unfollowed := true, recurses := true, apart := false }
def MeterSortsSaid : Prop := meterSortsRow.holds Try.pinned (OpenSpec.ofChange meterSortsSpec)

/-- ITS FALSE NEIGHBOUR: 'it returns false'. Refute it at one input. -/
def meterSortsWrong : ChangeSpec := { name := "meterSorts", fn := fun _ => fun
  | [d1, d2] => { results := [.lit (.bool false)], args := [d1, d2] }
  | _ => none }
def MeterSortsWrongFalsely : Prop := meterSortsRow.holds Try.pinned (OpenSpec.ofChange meterSortsWrong)

/-- 'turnoutlaw43.MeterPlays': WHATEVER THE INPUT: true; the input reads as it did. -/
def meterPlaysSpec : ChangeSpec := { name := "meterPlays", fn := fun _ => fun
  | [d1, d2] => { results := [.lit (.bool true)], args := [d1, d2] }
  | _ => none }
def meterPlaysRow : OpenClaim := { program := "ytdogfpoekndknaa", sum := "e6852fff9c28787b5a85212f290151ef48a82561eac98fee17b5399797cc852e", func := "turnout/turnoutlaw43.MeterPlays", spec := "meterPlays", inPlace := ["math.Float64frombits", "math.Float64bits"], apart := false }
def MeterPlaysSaid : Prop := meterPlaysRow.holds Try.pinned (OpenSpec.ofChange meterPlaysSpec)

/-- ITS FALSE NEIGHBOUR: 'it returns false'. Refute it at one input. -/
def meterPlaysWrong : ChangeSpec := { name := "meterPlays", fn := fun _ => fun
  | [d1, d2] => { results := [.lit (.bool false)], args := [d1, d2] }
  | _ => none }
def MeterPlaysWrongFalsely : Prop := meterPlaysRow.holds Try.pinned (OpenSpec.ofChange meterPlaysWrong)

/-- 'turnoutlaw43.MeterBetween': WHATEVER THE INPUT: true; the input reads as it did. -/
def meterBetweenSpec : ChangeSpec := { name := "meterBetween", fn := fun _ => fun
  | [d1, d2, d3] => { results := [.lit (.bool true)], args := [d1, d2, d3] }
  | _ => none }
def meterBetweenRow : OpenClaim := { program := "ytdogfpoekndknaa", sum := "e6852fff9c28787b5a85212f290151ef48a82561eac98fee17b5399797cc852e", func := "turnout/turnoutlaw43.MeterBetween", spec := "meterBetween", inPlace := ["math.Float64frombits", "math.Float64bits"], apart := false }
def MeterBetweenSaid : Prop := meterBetweenRow.holds Try.pinned (OpenSpec.ofChange meterBetweenSpec)

/-- ITS FALSE NEIGHBOUR: 'it returns false'. Refute it at one input. -/
def meterBetweenWrong : ChangeSpec := { name := "meterBetween", fn := fun _ => fun
  | [d1, d2, d3] => { results := [.lit (.bool false)], args := [d1, d2, d3] }
  | _ => none }
def MeterBetweenWrongFalsely : Prop := meterBetweenRow.holds Try.pinned (OpenSpec.ofChange meterBetweenWrong)

/- THE SECOND FORM. 'bulk': how many values and letters a reading holds, each counted each time it is reached (what is shared counts as often as it is met; a slice's spare places count too). A statement '..UptoSaid' is the law's where the arguments, and the package variables that the reading takes, are together of bulk at most 1048576: NARROWER than '..Said'. Prove '..Said' where nothing that the law and all that it calls make is longer than what came in: it says more and counts as full. Else prove '..UptoSaid'. A law counts once. -/
mutual
def uptoBulk {H : Type} : DataW H → Nat
  | .lit (.string bytes) => bytes.length + 1
  | .lit _ => 1
  | .nil => 1
  | .ptr d => uptoBulk d + 1
  | .slice elems spare => uptoBulkAll elems + uptoBulkAll spare + 1
  | .agg parts => uptoBulkAll parts + 1
  | .iface _ d => uptoBulk d + 1
  | .map entries => uptoBulkEntries entries + 1
  | .held _ => 1
def uptoBulkAll {H : Type} : List (DataW H) → Nat
  | [] => 0
  | d :: r => uptoBulk d + uptoBulkAll r
def uptoBulkEntries {H : Type} : List (Lit × DataW H) → Nat
  | [] => 0
  | x :: r => uptoBulkEntry x + uptoBulkEntries r
def uptoBulkEntry {H : Type} : Lit × DataW H → Nat
  | (.string bytes, d) => bytes.length + uptoBulk d + 1
  | (_, d) => uptoBulk d + 1
 end
def uptoSmall : (H : Type) → List (DataW H) → Bool := fun _ ds => decide (uptoBulkAll ds ≤ 1048576)
def OpenSpec.upto (s : _root_.Go.ChangeSpec) : _root_.Go.OpenSpec := { _root_.Go.OpenSpec.ofChange s with cond := some uptoSmall }

/-- 'turnoutlaw43.MeterTells', WHERE WHAT IT READS IS OF BULK AT MOST 1048576: true; the input reads as it did. -/
def meterTellsUptoRow : OpenClaim := { program := "ytdogfpoekndknaa", sum := "e6852fff9c28787b5a85212f290151ef48a82561eac98fee17b5399797cc852e", func := "turnout/turnoutlaw43.MeterTells", spec := "meterTells", inPlace := ["math.Float64frombits", "math.Float64bits"], apart := false, narrowed := true }
def MeterTellsUptoSaid : Prop := meterTellsUptoRow.holds Try.pinned (OpenSpec.upto meterTellsSpec)

/-- 'turnoutlaw43.MeterSorts', WHERE WHAT IT READS IS OF BULK AT MOST 1048576: true; the input reads as it did. -/
def meterSortsUptoRow : OpenClaim := { program := "ytdogfpoekndknaa", sum := "e6852fff9c28787b5a85212f290151ef48a82561eac98fee17b5399797cc852e", func := "turnout/turnoutlaw43.MeterSorts", spec := "meterSorts", inPlace := ["math.Float64frombits", "math.Float64bits"], unfollowed := true, recurses := true, apart := false, narrowed := true }
def MeterSortsUptoSaid : Prop := meterSortsUptoRow.holds Try.pinned (OpenSpec.upto meterSortsSpec)

/-- 'turnoutlaw43.MeterPlays', WHERE WHAT IT READS IS OF BULK AT MOST 1048576: true; the input reads as it did. -/
def meterPlaysUptoRow : OpenClaim := { program := "ytdogfpoekndknaa", sum := "e6852fff9c28787b5a85212f290151ef48a82561eac98fee17b5399797cc852e", func := "turnout/turnoutlaw43.MeterPlays", spec := "meterPlays", inPlace := ["math.Float64frombits", "math.Float64bits"], apart := false, narrowed := true }
def MeterPlaysUptoSaid : Prop := meterPlaysUptoRow.holds Try.pinned (OpenSpec.upto meterPlaysSpec)

/-- 'turnoutlaw43.MeterBetween', WHERE WHAT IT READS IS OF BULK AT MOST 1048576: true; the input reads as it did. -/
def meterBetweenUptoRow : OpenClaim := { program := "ytdogfpoekndknaa", sum := "e6852fff9c28787b5a85212f290151ef48a82561eac98fee17b5399797cc852e", func := "turnout/turnoutlaw43.MeterBetween", spec := "meterBetween", inPlace := ["math.Float64frombits", "math.Float64bits"], apart := false, narrowed := true }
def MeterBetweenUptoSaid : Prop := meterBetweenUptoRow.holds Try.pinned (OpenSpec.upto meterBetweenSpec)

end Rows
end Go.Proofs.Ytdogfpoekndknaa
