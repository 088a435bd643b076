/-
  No cell of these rows narrows 'for every input' (looked for: loops, veiled, ifaces, maps, wideKeys, modest, calm, conditions, laid).
  DERIVED. THE GIVEN ROWS OF THIS SEAT. 5 by the template 'for every input the law returns true; each argument reads behind the call as it read before'; 0 by the template 'total and deterministic' (their statements: YtgiieepfhohmhabGreatTotals.lean).
  GIVEN WITH THE SEED: the statements are not yours to turn. If you find one false, say at which input.
  Laid BY PROGRAM, IN A SANDBOX (cutbox-rows.mjs): the forced cells as the released guide's own fill.sh prints them over the translation 8d183304b5f01ea4… (all of the seat's roots in one cut). By AI agents, Wed Nov 11 2026. No macro, syntax, notation, axiom, sorry.
-/
import Derived.Test.YtgiieepfhohmhabGreatChecked
import GoSem.Claim
import GoSem.ClaimJoined
import GoSem.ClaimMapViews
import Derived.JoinedTies
import Derived.KernelRfl
namespace Go.Proofs.YtgiieepfhohmhabGreat
/- THE CELL 'sum', in the pinned program and in every row, IS THE sha256 OF THE DUMP (.gsa) THAT YtgiieepfhohmhabGreatProg.lean LOADS. Nothing in Lean hashes anything: it is a label: what it is worth is what the hold of that sum in a sandbox is worth. -/
noncomputable def Tryz.pinned : Pinned := { name := "ytgiieepfhohmhabgreat", sum := "8d183304b5f01ea4caa4db4939309a4acd876ca0e6b2cf600352dafda332748b", checked := Tryz.checked }
namespace Rows
def none {H : Type} : Left H := { results := [], args := [] }

/-- 'ferrymanlaw.SnapReads': WHATEVER THE INPUT: true; the input reads as it did. -/
def snapReadsSpec : ChangeSpec := { name := "snapReads", fn := fun _ => fun
  | [d1, d2, d3] => { results := [.lit (.bool true)], args := [d1, d2, d3] }
  | _ => none }
def snapReadsRow : OpenClaim := { program := "ytgiieepfhohmhabgreat", sum := "8d183304b5f01ea4caa4db4939309a4acd876ca0e6b2cf600352dafda332748b", func := "ferryman/ferrymanlaw.SnapReads", spec := "snapReads", inPlace := ["internal/abi.NoEscape"], unfollowed := true, recurses := true, plainKeys := false, apart := false }
def SnapReadsSaid : Prop := snapReadsRow.holds Tryz.pinned (OpenSpec.ofChange snapReadsSpec)

/-- ITS FALSE NEIGHBOUR: 'it returns false'. Refute it at one input. -/
def snapReadsWrong : ChangeSpec := { name := "snapReads", fn := fun _ => fun
  | [d1, d2, d3] => { results := [.lit (.bool false)], args := [d1, d2, d3] }
  | _ => none }
def SnapReadsWrongFalsely : Prop := snapReadsRow.holds Tryz.pinned (OpenSpec.ofChange snapReadsWrong)

/-- 'ferrymantop.TopSnap': WHATEVER THE INPUT: true; the input reads as it did. -/
def topSnapSpec : ChangeSpec := { name := "topSnap", fn := fun _ => fun
  | [d1, d2, d3] => { results := [.lit (.bool true)], args := [d1, d2, d3] }
  | _ => none }
def topSnapRow : OpenClaim := { program := "ytgiieepfhohmhabgreat", sum := "8d183304b5f01ea4caa4db4939309a4acd876ca0e6b2cf600352dafda332748b", func := "ferryman/ferrymantop.TopSnap", spec := "topSnap", inPlace := ["internal/abi.NoEscape"], unfollowed := true, recurses := true, plainKeys := false, apart := false }
def TopSnapSaid : Prop := topSnapRow.holds Tryz.pinned (OpenSpec.ofChange topSnapSpec)

/-- ITS FALSE NEIGHBOUR: 'it returns false'. Refute it at one input. -/
def topSnapWrong : ChangeSpec := { name := "topSnap", fn := fun _ => fun
  | [d1, d2, d3] => { results := [.lit (.bool false)], args := [d1, d2, d3] }
  | _ => none }
def TopSnapWrongFalsely : Prop := topSnapRow.holds Tryz.pinned (OpenSpec.ofChange topSnapWrong)

/-- 'ferrymanlaw.FerrySays': WHATEVER THE INPUT: true; the input reads as it did. -/
def ferrySaysSpec : ChangeSpec := { name := "ferrySays", fn := fun _ => fun
  | [d1, d2, d3] => { results := [.lit (.bool true)], args := [d1, d2, d3] }
  | _ => none }
def ferrySaysRow : OpenClaim := { program := "ytgiieepfhohmhabgreat", sum := "8d183304b5f01ea4caa4db4939309a4acd876ca0e6b2cf600352dafda332748b", func := "ferryman/ferrymanlaw.FerrySays", spec := "ferrySays", unfollowed := true, recurses := true, plainKeys := false, apart := false }
def FerrySaysSaid : Prop := ferrySaysRow.holds Tryz.pinned (OpenSpec.ofChange ferrySaysSpec)

/-- ITS FALSE NEIGHBOUR: 'it returns false'. Refute it at one input. -/
def ferrySaysWrong : ChangeSpec := { name := "ferrySays", fn := fun _ => fun
  | [d1, d2, d3] => { results := [.lit (.bool false)], args := [d1, d2, d3] }
  | _ => none }
def FerrySaysWrongFalsely : Prop := ferrySaysRow.holds Tryz.pinned (OpenSpec.ofChange ferrySaysWrong)

/-- 'ferrymantop.TopFerry': WHATEVER THE INPUT: true; the input reads as it did. -/
def topFerrySpec : ChangeSpec := { name := "topFerry", fn := fun _ => fun
  | [d1, d2] => { results := [.lit (.bool true)], args := [d1, d2] }
  | _ => none }
def topFerryRow : OpenClaim := { program := "ytgiieepfhohmhabgreat", sum := "8d183304b5f01ea4caa4db4939309a4acd876ca0e6b2cf600352dafda332748b", func := "ferryman/ferrymantop.TopFerry", spec := "topFerry", unfollowed := true, recurses := true, plainKeys := false, apart := false }
def TopFerrySaid : Prop := topFerryRow.holds Tryz.pinned (OpenSpec.ofChange topFerrySpec)

/-- ITS FALSE NEIGHBOUR: 'it returns false'. Refute it at one input. -/
def topFerryWrong : ChangeSpec := { name := "topFerry", fn := fun _ => fun
  | [d1, d2] => { results := [.lit (.bool false)], args := [d1, d2] }
  | _ => none }
def TopFerryWrongFalsely : Prop := topFerryRow.holds Tryz.pinned (OpenSpec.ofChange topFerryWrong)

/-- 'ferrymantop.TopMidway': WHATEVER THE INPUT: true; the input reads as it did. -/
def topMidwaySpec : ChangeSpec := { name := "topMidway", fn := fun _ => fun
  | [d1, d2, d3] => { results := [.lit (.bool true)], args := [d1, d2, d3] }
  | _ => none }
def topMidwayRow : OpenClaim := { program := "ytgiieepfhohmhabgreat", sum := "8d183304b5f01ea4caa4db4939309a4acd876ca0e6b2cf600352dafda332748b", func := "ferryman/ferrymantop.TopMidway", spec := "topMidway", unfollowed := true, recurses := true, plainKeys := false, apart := false }
def TopMidwaySaid : Prop := topMidwayRow.holds Tryz.pinned (OpenSpec.ofChange topMidwaySpec)

/-- ITS FALSE NEIGHBOUR: 'it returns false'. Refute it at one input. -/
def topMidwayWrong : ChangeSpec := { name := "topMidway", fn := fun _ => fun
  | [d1, d2, d3] => { results := [.lit (.bool false)], args := [d1, d2, d3] }
  | _ => none }
def TopMidwayWrongFalsely : Prop := topMidwayRow.holds Tryz.pinned (OpenSpec.ofChange topMidwayWrong)

/- THE SECOND FORM. 'bulk': how many values and letters a reading holds, each counted each time it is reached (what is shared counts as often as it is met; a slice's spare places count too). A statement '..UptoSaid' is the law's where the arguments, and the package variables that the reading takes, are together of bulk at most 1048576: NARROWER than '..Said'. Prove '..Said' where nothing that the law and all that it calls make is longer than what came in: it says more and counts as full. Else prove '..UptoSaid'. A law counts once. -/
mutual
def uptoBulk {H : Type} : DataW H → Nat
  | .lit (.string bytes) => bytes.length + 1
  | .lit _ => 1
  | .nil => 1
  | .ptr d => uptoBulk d + 1
  | .slice elems spare => uptoBulkAll elems + uptoBulkAll spare + 1
  | .agg parts => uptoBulkAll parts + 1
  | .iface _ d => uptoBulk d + 1
  | .map entries => uptoBulkEntries entries + 1
  | .held _ => 1
def uptoBulkAll {H : Type} : List (DataW H) → Nat
  | [] => 0
  | d :: r => uptoBulk d + uptoBulkAll r
def uptoBulkEntries {H : Type} : List (Lit × DataW H) → Nat
  | [] => 0
  | x :: r => uptoBulkEntry x + uptoBulkEntries r
def uptoBulkEntry {H : Type} : Lit × DataW H → Nat
  | (.string bytes, d) => bytes.length + uptoBulk d + 1
  | (_, d) => uptoBulk d + 1
 end
def uptoSmall : (H : Type) → List (DataW H) → Bool := fun _ ds => decide (uptoBulkAll ds ≤ 1048576)
def OpenSpec.upto (s : _root_.Go.ChangeSpec) : _root_.Go.OpenSpec := { _root_.Go.OpenSpec.ofChange s with cond := some uptoSmall }

/-- 'ferrymanlaw.SnapReads', WHERE WHAT IT READS IS OF BULK AT MOST 1048576: true; the input reads as it did. -/
def snapReadsUptoRow : OpenClaim := { program := "ytgiieepfhohmhabgreat", sum := "8d183304b5f01ea4caa4db4939309a4acd876ca0e6b2cf600352dafda332748b", func := "ferryman/ferrymanlaw.SnapReads", spec := "snapReads", inPlace := ["internal/abi.NoEscape"], unfollowed := true, recurses := true, plainKeys := false, apart := false, narrowed := true }
def SnapReadsUptoSaid : Prop := snapReadsUptoRow.holds Tryz.pinned (OpenSpec.upto snapReadsSpec)

/-- 'ferrymantop.TopSnap', WHERE WHAT IT READS IS OF BULK AT MOST 1048576: true; the input reads as it did. -/
def topSnapUptoRow : OpenClaim := { program := "ytgiieepfhohmhabgreat", sum := "8d183304b5f01ea4caa4db4939309a4acd876ca0e6b2cf600352dafda332748b", func := "ferryman/ferrymantop.TopSnap", spec := "topSnap", inPlace := ["internal/abi.NoEscape"], unfollowed := true, recurses := true, plainKeys := false, apart := false, narrowed := true }
def TopSnapUptoSaid : Prop := topSnapUptoRow.holds Tryz.pinned (OpenSpec.upto topSnapSpec)

/-- 'ferrymanlaw.FerrySays', WHERE WHAT IT READS IS OF BULK AT MOST 1048576: true; the input reads as it did. -/
def ferrySaysUptoRow : OpenClaim := { program := "ytgiieepfhohmhabgreat", sum := "8d183304b5f01ea4caa4db4939309a4acd876ca0e6b2cf600352dafda332748b", func := "ferryman/ferrymanlaw.FerrySays", spec := "ferrySays", unfollowed := true, recurses := true, plainKeys := false, apart := false, narrowed := true }
def FerrySaysUptoSaid : Prop := ferrySaysUptoRow.holds Tryz.pinned (OpenSpec.upto ferrySaysSpec)

/-- 'ferrymantop.TopFerry', WHERE WHAT IT READS IS OF BULK AT MOST 1048576: true; the input reads as it did. -/
def topFerryUptoRow : OpenClaim := { program := "ytgiieepfhohmhabgreat", sum := "8d183304b5f01ea4caa4db4939309a4acd876ca0e6b2cf600352dafda332748b", func := "ferryman/ferrymantop.TopFerry", spec := "topFerry", unfollowed := true, recurses := true, plainKeys := false, apart := false, narrowed := true }
def TopFerryUptoSaid : Prop := topFerryUptoRow.holds Tryz.pinned (OpenSpec.upto topFerrySpec)

/-- 'ferrymantop.TopMidway', WHERE WHAT IT READS IS OF BULK AT MOST 1048576: true; the input reads as it did. -/
def topMidwayUptoRow : OpenClaim := { program := "ytgiieepfhohmhabgreat", sum := "8d183304b5f01ea4caa4db4939309a4acd876ca0e6b2cf600352dafda332748b", func := "ferryman/ferrymantop.TopMidway", spec := "topMidway", unfollowed := true, recurses := true, plainKeys := false, apart := false, narrowed := true }
def TopMidwayUptoSaid : Prop := topMidwayUptoRow.holds Tryz.pinned (OpenSpec.upto topMidwaySpec)

end Rows
end Go.Proofs.YtgiieepfhohmhabGreat
