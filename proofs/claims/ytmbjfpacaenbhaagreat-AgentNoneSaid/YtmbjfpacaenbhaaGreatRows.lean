/-
  No cell of these rows narrows 'for every input' (looked for: loops, veiled, ifaces, maps, wideKeys, modest, calm, conditions, laid).
  DERIVED. THE GIVEN ROWS OF THIS SEAT. 5 by the template 'for every input the law returns true; each argument reads behind the call as it read before'; 0 by the template 'total and deterministic' (their statements: YtmbjfpacaenbhaaGreatTotals.lean).
  GIVEN WITH THE SEED: the statements are not yours to turn. If you find one false, say at which input.
  Laid BY PROGRAM, IN A SANDBOX (cutbox-rows.mjs): the forced cells as the released guide's own fill.sh prints them over the translation 2ae8acc852e1d568… (all of the seat's roots in one cut). By AI agents, Wed Nov 11 2026. No macro, syntax, notation, axiom, sorry.
-/
import Derived.Test.YtmbjfpacaenbhaaGreatChecked
import GoSem.Claim
import GoSem.ClaimJoined
import GoSem.ClaimMapViews
import Derived.JoinedTies
import Derived.KernelRfl
namespace Go.Proofs.YtmbjfpacaenbhaaGreat
/- THE CELL 'sum', in the pinned program and in every row, IS THE sha256 OF THE DUMP (.gsa) THAT YtmbjfpacaenbhaaGreatProg.lean LOADS. Nothing in Lean hashes anything: it is a label: what it is worth is what the hold of that sum in a sandbox is worth. -/
noncomputable def Tryz.pinned : Pinned := { name := "ytmbjfpacaenbhaagreat", sum := "2ae8acc852e1d5680f95fbb5eded5fadf662a3d31526146fda9ae5b8a13086bb", checked := Tryz.checked }
namespace Rows
def none {H : Type} : Left H := { results := [], args := [] }

/-- 'turnoutlaw33.AgentWhole': WHATEVER THE INPUT: true; the input reads as it did. -/
def agentWholeSpec : ChangeSpec := { name := "agentWhole", fn := fun _ => fun
  | [d1, d2, d3, d4] => { results := [.lit (.bool true)], args := [d1, d2, d3, d4] }
  | _ => none }
def agentWholeRow : OpenClaim := { program := "ytmbjfpacaenbhaagreat", sum := "2ae8acc852e1d5680f95fbb5eded5fadf662a3d31526146fda9ae5b8a13086bb", func := "turnout/turnoutlaw33.AgentWhole", spec := "agentWhole", inPlace := ["slices.overlaps[turnout/api.Rule]"], unfollowed := true, recurses := true, plainKeys := false, apart := false }
def AgentWholeSaid : Prop := agentWholeRow.holds Tryz.pinned (OpenSpec.ofChange agentWholeSpec)

/-- ITS FALSE NEIGHBOUR: 'it returns false'. Refute it at one input. -/
def agentWholeWrong : ChangeSpec := { name := "agentWhole", fn := fun _ => fun
  | [d1, d2, d3, d4] => { results := [.lit (.bool false)], args := [d1, d2, d3, d4] }
  | _ => none }
def AgentWholeWrongFalsely : Prop := agentWholeRow.holds Tryz.pinned (OpenSpec.ofChange agentWholeWrong)

/-- 'turnoutlaw33.AgentTimes': WHATEVER THE INPUT: true; the input reads as it did. -/
def agentTimesSpec : ChangeSpec := { name := "agentTimes", fn := fun _ => fun
  | [d1, d2, d3, d4] => { results := [.lit (.bool true)], args := [d1, d2, d3, d4] }
  | _ => none }
def agentTimesRow : OpenClaim := { program := "ytmbjfpacaenbhaagreat", sum := "2ae8acc852e1d5680f95fbb5eded5fadf662a3d31526146fda9ae5b8a13086bb", func := "turnout/turnoutlaw33.AgentTimes", spec := "agentTimes", inPlace := ["slices.overlaps[turnout/api.Rule]"], unfollowed := true, recurses := true, plainKeys := false, apart := false }
def AgentTimesSaid : Prop := agentTimesRow.holds Tryz.pinned (OpenSpec.ofChange agentTimesSpec)

/-- ITS FALSE NEIGHBOUR: 'it returns false'. Refute it at one input. -/
def agentTimesWrong : ChangeSpec := { name := "agentTimes", fn := fun _ => fun
  | [d1, d2, d3, d4] => { results := [.lit (.bool false)], args := [d1, d2, d3, d4] }
  | _ => none }
def AgentTimesWrongFalsely : Prop := agentTimesRow.holds Tryz.pinned (OpenSpec.ofChange agentTimesWrong)

/-- 'turnoutlaw33.AgentBack': WHATEVER THE INPUT: true; the input reads as it did. -/
def agentBackSpec : ChangeSpec := { name := "agentBack", fn := fun _ => fun
  | [d1, d2, d3, d4, d5, d6] => { results := [.lit (.bool true)], args := [d1, d2, d3, d4, d5, d6] }
  | _ => none }
def agentBackRow : OpenClaim := { program := "ytmbjfpacaenbhaagreat", sum := "2ae8acc852e1d5680f95fbb5eded5fadf662a3d31526146fda9ae5b8a13086bb", func := "turnout/turnoutlaw33.AgentBack", spec := "agentBack", inPlace := ["slices.overlaps[turnout/api.Rule]"], unfollowed := true, recurses := true, plainKeys := false, apart := false }
def AgentBackSaid : Prop := agentBackRow.holds Tryz.pinned (OpenSpec.ofChange agentBackSpec)

/-- ITS FALSE NEIGHBOUR: 'it returns false'. Refute it at one input. -/
def agentBackWrong : ChangeSpec := { name := "agentBack", fn := fun _ => fun
  | [d1, d2, d3, d4, d5, d6] => { results := [.lit (.bool false)], args := [d1, d2, d3, d4, d5, d6] }
  | _ => none }
def AgentBackWrongFalsely : Prop := agentBackRow.holds Tryz.pinned (OpenSpec.ofChange agentBackWrong)

/-- 'turnoutlaw33.AgentNone': WHATEVER THE INPUT: true; the input reads as it did. -/
def agentNoneSpec : ChangeSpec := { name := "agentNone", fn := fun _ => fun
  | [d1, d2, d3] => { results := [.lit (.bool true)], args := [d1, d2, d3] }
  | _ => none }
def agentNoneRow : OpenClaim := { program := "ytmbjfpacaenbhaagreat", sum := "2ae8acc852e1d5680f95fbb5eded5fadf662a3d31526146fda9ae5b8a13086bb", func := "turnout/turnoutlaw33.AgentNone", spec := "agentNone", inPlace := ["slices.overlaps[turnout/api.Rule]"], unfollowed := true, recurses := true, plainKeys := false, apart := false }
def AgentNoneSaid : Prop := agentNoneRow.holds Tryz.pinned (OpenSpec.ofChange agentNoneSpec)

/-- ITS FALSE NEIGHBOUR: 'it returns false'. Refute it at one input. -/
def agentNoneWrong : ChangeSpec := { name := "agentNone", fn := fun _ => fun
  | [d1, d2, d3] => { results := [.lit (.bool false)], args := [d1, d2, d3] }
  | _ => none }
def AgentNoneWrongFalsely : Prop := agentNoneRow.holds Tryz.pinned (OpenSpec.ofChange agentNoneWrong)

/-- 'turnoutlaw33.AgentAgain': WHATEVER THE INPUT: true; the input reads as it did. -/
def agentAgainSpec : ChangeSpec := { name := "agentAgain", fn := fun _ => fun
  | [d1, d2, d3, d4, d5, d6] => { results := [.lit (.bool true)], args := [d1, d2, d3, d4, d5, d6] }
  | _ => none }
def agentAgainRow : OpenClaim := { program := "ytmbjfpacaenbhaagreat", sum := "2ae8acc852e1d5680f95fbb5eded5fadf662a3d31526146fda9ae5b8a13086bb", func := "turnout/turnoutlaw33.AgentAgain", spec := "agentAgain", inPlace := ["slices.overlaps[turnout/api.Rule]"], unfollowed := true, recurses := true, plainKeys := false, apart := false }
def AgentAgainSaid : Prop := agentAgainRow.holds Tryz.pinned (OpenSpec.ofChange agentAgainSpec)

/-- ITS FALSE NEIGHBOUR: 'it returns false'. Refute it at one input. -/
def agentAgainWrong : ChangeSpec := { name := "agentAgain", fn := fun _ => fun
  | [d1, d2, d3, d4, d5, d6] => { results := [.lit (.bool false)], args := [d1, d2, d3, d4, d5, d6] }
  | _ => none }
def AgentAgainWrongFalsely : Prop := agentAgainRow.holds Tryz.pinned (OpenSpec.ofChange agentAgainWrong)

/- THE SECOND FORM. 'bulk': how many values and letters a reading holds, each counted each time it is reached (what is shared counts as often as it is met; a slice's spare places count too). A statement '..UptoSaid' is the law's where the arguments, and the package variables that the reading takes, are together of bulk at most 1048576: NARROWER than '..Said'. Prove '..Said' where nothing that the law and all that it calls make is longer than what came in: it says more and counts as full. Else prove '..UptoSaid'. A law counts once. -/
mutual
def uptoBulk {H : Type} : DataW H → Nat
  | .lit (.string bytes) => bytes.length + 1
  | .lit _ => 1
  | .nil => 1
  | .ptr d => uptoBulk d + 1
  | .slice elems spare => uptoBulkAll elems + uptoBulkAll spare + 1
  | .agg parts => uptoBulkAll parts + 1
  | .iface _ d => uptoBulk d + 1
  | .map entries => uptoBulkEntries entries + 1
  | .held _ => 1
def uptoBulkAll {H : Type} : List (DataW H) → Nat
  | [] => 0
  | d :: r => uptoBulk d + uptoBulkAll r
def uptoBulkEntries {H : Type} : List (Lit × DataW H) → Nat
  | [] => 0
  | x :: r => uptoBulkEntry x + uptoBulkEntries r
def uptoBulkEntry {H : Type} : Lit × DataW H → Nat
  | (.string bytes, d) => bytes.length + uptoBulk d + 1
  | (_, d) => uptoBulk d + 1
 end
def uptoSmall : (H : Type) → List (DataW H) → Bool := fun _ ds => decide (uptoBulkAll ds ≤ 1048576)
def OpenSpec.upto (s : _root_.Go.ChangeSpec) : _root_.Go.OpenSpec := { _root_.Go.OpenSpec.ofChange s with cond := some uptoSmall }

/-- 'turnoutlaw33.AgentWhole', WHERE WHAT IT READS IS OF BULK AT MOST 1048576: true; the input reads as it did. -/
def agentWholeUptoRow : OpenClaim := { program := "ytmbjfpacaenbhaagreat", sum := "2ae8acc852e1d5680f95fbb5eded5fadf662a3d31526146fda9ae5b8a13086bb", func := "turnout/turnoutlaw33.AgentWhole", spec := "agentWhole", inPlace := ["slices.overlaps[turnout/api.Rule]"], unfollowed := true, recurses := true, plainKeys := false, apart := false, narrowed := true }
def AgentWholeUptoSaid : Prop := agentWholeUptoRow.holds Tryz.pinned (OpenSpec.upto agentWholeSpec)

/-- 'turnoutlaw33.AgentTimes', WHERE WHAT IT READS IS OF BULK AT MOST 1048576: true; the input reads as it did. -/
def agentTimesUptoRow : OpenClaim := { program := "ytmbjfpacaenbhaagreat", sum := "2ae8acc852e1d5680f95fbb5eded5fadf662a3d31526146fda9ae5b8a13086bb", func := "turnout/turnoutlaw33.AgentTimes", spec := "agentTimes", inPlace := ["slices.overlaps[turnout/api.Rule]"], unfollowed := true, recurses := true, plainKeys := false, apart := false, narrowed := true }
def AgentTimesUptoSaid : Prop := agentTimesUptoRow.holds Tryz.pinned (OpenSpec.upto agentTimesSpec)

/-- 'turnoutlaw33.AgentBack', WHERE WHAT IT READS IS OF BULK AT MOST 1048576: true; the input reads as it did. -/
def agentBackUptoRow : OpenClaim := { program := "ytmbjfpacaenbhaagreat", sum := "2ae8acc852e1d5680f95fbb5eded5fadf662a3d31526146fda9ae5b8a13086bb", func := "turnout/turnoutlaw33.AgentBack", spec := "agentBack", inPlace := ["slices.overlaps[turnout/api.Rule]"], unfollowed := true, recurses := true, plainKeys := false, apart := false, narrowed := true }
def AgentBackUptoSaid : Prop := agentBackUptoRow.holds Tryz.pinned (OpenSpec.upto agentBackSpec)

/-- 'turnoutlaw33.AgentNone', WHERE WHAT IT READS IS OF BULK AT MOST 1048576: true; the input reads as it did. -/
def agentNoneUptoRow : OpenClaim := { program := "ytmbjfpacaenbhaagreat", sum := "2ae8acc852e1d5680f95fbb5eded5fadf662a3d31526146fda9ae5b8a13086bb", func := "turnout/turnoutlaw33.AgentNone", spec := "agentNone", inPlace := ["slices.overlaps[turnout/api.Rule]"], unfollowed := true, recurses := true, plainKeys := false, apart := false, narrowed := true }
def AgentNoneUptoSaid : Prop := agentNoneUptoRow.holds Tryz.pinned (OpenSpec.upto agentNoneSpec)

/-- 'turnoutlaw33.AgentAgain', WHERE WHAT IT READS IS OF BULK AT MOST 1048576: true; the input reads as it did. -/
def agentAgainUptoRow : OpenClaim := { program := "ytmbjfpacaenbhaagreat", sum := "2ae8acc852e1d5680f95fbb5eded5fadf662a3d31526146fda9ae5b8a13086bb", func := "turnout/turnoutlaw33.AgentAgain", spec := "agentAgain", inPlace := ["slices.overlaps[turnout/api.Rule]"], unfollowed := true, recurses := true, plainKeys := false, apart := false, narrowed := true }
def AgentAgainUptoSaid : Prop := agentAgainUptoRow.holds Tryz.pinned (OpenSpec.upto agentAgainSpec)

end Rows
end Go.Proofs.YtmbjfpacaenbhaaGreat
