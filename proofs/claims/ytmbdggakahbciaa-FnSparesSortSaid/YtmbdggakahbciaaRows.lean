/-
  No cell of these rows narrows 'for every input' (looked for: loops, veiled, ifaces, maps, wideKeys, modest, calm, conditions, laid).
  DERIVED. THE GIVEN ROWS OF THIS SEAT. 8 by the template 'for every input the law returns true; each argument reads behind the call as it read before'; 0 by the template 'total and deterministic' (their statements: YtmbdggakahbciaaTotals.lean).
  GIVEN WITH THE SEED: the statements are not yours to turn. If you find one false, say at which input.
  Laid BY PROGRAM, IN A SANDBOX (cutbox-rows.mjs): the forced cells as the released guide's own fill.sh prints them over the translation 5f256d7e620abbea… (all of the seat's roots in one cut). By AI agents, Wed Nov 11 2026. No macro, syntax, notation, axiom, sorry.
-/
import Derived.Test.YtmbdggakahbciaaChecked
import GoSem.Claim
import GoSem.ClaimJoined
import GoSem.ClaimMapViews
import Derived.JoinedTies
import Derived.KernelRfl
namespace Go.Proofs.Ytmbdggakahbciaa
/- THE CELL 'sum', in the pinned program and in every row, IS THE sha256 OF THE DUMP (.gsa) THAT YtmbdggakahbciaaProg.lean LOADS. Nothing in Lean hashes anything: it is a label: what it is worth is what the hold of that sum in a sandbox is worth. -/
noncomputable def Try.pinned : Pinned := { name := "ytmbdggakahbciaa", sum := "5f256d7e620abbeac4034f94618243e49fc4635e4e4bfc7029a4342a69aac4e3", checked := Try.checked }
namespace Rows
def none {H : Type} : Left H := { results := [], args := [] }

/-- 'laws.FnSparesMiles': WHATEVER THE INPUT: true; the input reads as it did. -/
def fnSparesMilesSpec : ChangeSpec := { name := "fnSparesMiles", fn := fun _ => fun
  | [d] => { results := [.lit (.bool true)], args := [d] }
  | _ => none }
def fnSparesMilesRow : OpenClaim := { program := "ytmbdggakahbciaa", sum := "5f256d7e620abbeac4034f94618243e49fc4635e4e4bfc7029a4342a69aac4e3", func := "loop.example/cableship/laws.FnSparesMiles", spec := "fnSparesMiles", unfollowed := true, recurses := true, apart := false }
def FnSparesMilesSaid : Prop := fnSparesMilesRow.holds Try.pinned (OpenSpec.ofChange fnSparesMilesSpec)

/-- ITS FALSE NEIGHBOUR: 'it returns false'. Refute it at one input. -/
def fnSparesMilesWrong : ChangeSpec := { name := "fnSparesMiles", fn := fun _ => fun
  | [d] => { results := [.lit (.bool false)], args := [d] }
  | _ => none }
def FnSparesMilesWrongFalsely : Prop := fnSparesMilesRow.holds Try.pinned (OpenSpec.ofChange fnSparesMilesWrong)

/-- 'laws.FnTake': WHATEVER THE INPUT: true; the input reads as it did. -/
def fnTakeSpec : ChangeSpec := { name := "fnTake", fn := fun _ => fun
  | [d] => { results := [.lit (.bool true)], args := [d] }
  | _ => none }
def fnTakeRow : OpenClaim := { program := "ytmbdggakahbciaa", sum := "5f256d7e620abbeac4034f94618243e49fc4635e4e4bfc7029a4342a69aac4e3", func := "loop.example/cableship/laws.FnTake", spec := "fnTake", apart := false }
def FnTakeSaid : Prop := fnTakeRow.holds Try.pinned (OpenSpec.ofChange fnTakeSpec)

/-- ITS FALSE NEIGHBOUR: 'it returns false'. Refute it at one input. -/
def fnTakeWrong : ChangeSpec := { name := "fnTake", fn := fun _ => fun
  | [d] => { results := [.lit (.bool false)], args := [d] }
  | _ => none }
def FnTakeWrongFalsely : Prop := fnTakeRow.holds Try.pinned (OpenSpec.ofChange fnTakeWrong)

/-- 'laws.FnServe': WHATEVER THE INPUT: true; the input reads as it did. -/
def fnServeSpec : ChangeSpec := { name := "fnServe", fn := fun _ => fun
  | [d1, d2] => { results := [.lit (.bool true)], args := [d1, d2] }
  | _ => none }
def fnServeRow : OpenClaim := { program := "ytmbdggakahbciaa", sum := "5f256d7e620abbeac4034f94618243e49fc4635e4e4bfc7029a4342a69aac4e3", func := "loop.example/cableship/laws.FnServe", spec := "fnServe", unfollowed := true, recurses := true, apart := false }
def FnServeSaid : Prop := fnServeRow.holds Try.pinned (OpenSpec.ofChange fnServeSpec)

/-- ITS FALSE NEIGHBOUR: 'it returns false'. Refute it at one input. -/
def fnServeWrong : ChangeSpec := { name := "fnServe", fn := fun _ => fun
  | [d1, d2] => { results := [.lit (.bool false)], args := [d1, d2] }
  | _ => none }
def FnServeWrongFalsely : Prop := fnServeRow.holds Try.pinned (OpenSpec.ofChange fnServeWrong)

/-- 'laws.FnServeCan': WHATEVER THE INPUT: true; the input reads as it did. -/
def fnServeCanSpec : ChangeSpec := { name := "fnServeCan", fn := fun _ => fun
  | [d1, d2] => { results := [.lit (.bool true)], args := [d1, d2] }
  | _ => none }
def fnServeCanRow : OpenClaim := { program := "ytmbdggakahbciaa", sum := "5f256d7e620abbeac4034f94618243e49fc4635e4e4bfc7029a4342a69aac4e3", func := "loop.example/cableship/laws.FnServeCan", spec := "fnServeCan", unfollowed := true, recurses := true, apart := false }
def FnServeCanSaid : Prop := fnServeCanRow.holds Try.pinned (OpenSpec.ofChange fnServeCanSpec)

/-- ITS FALSE NEIGHBOUR: 'it returns false'. Refute it at one input. -/
def fnServeCanWrong : ChangeSpec := { name := "fnServeCan", fn := fun _ => fun
  | [d1, d2] => { results := [.lit (.bool false)], args := [d1, d2] }
  | _ => none }
def FnServeCanWrongFalsely : Prop := fnServeCanRow.holds Try.pinned (OpenSpec.ofChange fnServeCanWrong)

/-- 'laws.FnServeBest': WHATEVER THE INPUT: true; the input reads as it did. -/
def fnServeBestSpec : ChangeSpec := { name := "fnServeBest", fn := fun _ => fun
  | [d] => { results := [.lit (.bool true)], args := [d] }
  | _ => none }
def fnServeBestRow : OpenClaim := { program := "ytmbdggakahbciaa", sum := "5f256d7e620abbeac4034f94618243e49fc4635e4e4bfc7029a4342a69aac4e3", func := "loop.example/cableship/laws.FnServeBest", spec := "fnServeBest", unfollowed := true, recurses := true, apart := false }
def FnServeBestSaid : Prop := fnServeBestRow.holds Try.pinned (OpenSpec.ofChange fnServeBestSpec)

/-- ITS FALSE NEIGHBOUR: 'it returns false'. Refute it at one input. -/
def fnServeBestWrong : ChangeSpec := { name := "fnServeBest", fn := fun _ => fun
  | [d] => { results := [.lit (.bool false)], args := [d] }
  | _ => none }
def FnServeBestWrongFalsely : Prop := fnServeBestRow.holds Try.pinned (OpenSpec.ofChange fnServeBestWrong)

/-- 'laws.FnJoint': WHATEVER THE INPUT: true; the input reads as it did. -/
def fnJointSpec : ChangeSpec := { name := "fnJoint", fn := fun _ => fun
  | [d] => { results := [.lit (.bool true)], args := [d] }
  | _ => none }
def fnJointRow : OpenClaim := { program := "ytmbdggakahbciaa", sum := "5f256d7e620abbeac4034f94618243e49fc4635e4e4bfc7029a4342a69aac4e3", func := "loop.example/cableship/laws.FnJoint", spec := "fnJoint", unfollowed := true, recurses := true, apart := false }
def FnJointSaid : Prop := fnJointRow.holds Try.pinned (OpenSpec.ofChange fnJointSpec)

/-- ITS FALSE NEIGHBOUR: 'it returns false'. Refute it at one input. -/
def fnJointWrong : ChangeSpec := { name := "fnJoint", fn := fun _ => fun
  | [d] => { results := [.lit (.bool false)], args := [d] }
  | _ => none }
def FnJointWrongFalsely : Prop := fnJointRow.holds Try.pinned (OpenSpec.ofChange fnJointWrong)

/-- 'laws.FnJointLongest': WHATEVER THE INPUT: true; the input reads as it did. -/
def fnJointLongestSpec : ChangeSpec := { name := "fnJointLongest", fn := fun _ => fun
  | [d] => { results := [.lit (.bool true)], args := [d] }
  | _ => none }
def fnJointLongestRow : OpenClaim := { program := "ytmbdggakahbciaa", sum := "5f256d7e620abbeac4034f94618243e49fc4635e4e4bfc7029a4342a69aac4e3", func := "loop.example/cableship/laws.FnJointLongest", spec := "fnJointLongest", unfollowed := true, recurses := true, apart := false }
def FnJointLongestSaid : Prop := fnJointLongestRow.holds Try.pinned (OpenSpec.ofChange fnJointLongestSpec)

/-- ITS FALSE NEIGHBOUR: 'it returns false'. Refute it at one input. -/
def fnJointLongestWrong : ChangeSpec := { name := "fnJointLongest", fn := fun _ => fun
  | [d] => { results := [.lit (.bool false)], args := [d] }
  | _ => none }
def FnJointLongestWrongFalsely : Prop := fnJointLongestRow.holds Try.pinned (OpenSpec.ofChange fnJointLongestWrong)

/-- 'laws.FnSparesSort': WHATEVER THE INPUT: true; the input reads as it did. -/
def fnSparesSortSpec : ChangeSpec := { name := "fnSparesSort", fn := fun _ => fun
  | [d1, d2] => { results := [.lit (.bool true)], args := [d1, d2] }
  | _ => none }
def fnSparesSortRow : OpenClaim := { program := "ytmbdggakahbciaa", sum := "5f256d7e620abbeac4034f94618243e49fc4635e4e4bfc7029a4342a69aac4e3", func := "loop.example/cableship/laws.FnSparesSort", spec := "fnSparesSort", unfollowed := true, recurses := true, apart := false }
def FnSparesSortSaid : Prop := fnSparesSortRow.holds Try.pinned (OpenSpec.ofChange fnSparesSortSpec)

/-- ITS FALSE NEIGHBOUR: 'it returns false'. Refute it at one input. -/
def fnSparesSortWrong : ChangeSpec := { name := "fnSparesSort", fn := fun _ => fun
  | [d1, d2] => { results := [.lit (.bool false)], args := [d1, d2] }
  | _ => none }
def FnSparesSortWrongFalsely : Prop := fnSparesSortRow.holds Try.pinned (OpenSpec.ofChange fnSparesSortWrong)

/- THE SECOND FORM. 'bulk': how many values and letters a reading holds, each counted each time it is reached (what is shared counts as often as it is met; a slice's spare places count too). A statement '..UptoSaid' is the law's where the arguments, and the package variables that the reading takes, are together of bulk at most 1048576: NARROWER than '..Said'. Prove '..Said' where nothing that the law and all that it calls make is longer than what came in: it says more and counts as full. Else prove '..UptoSaid'. A law counts once. -/
mutual
def uptoBulk {H : Type} : DataW H → Nat
  | .lit (.string bytes) => bytes.length + 1
  | .lit _ => 1
  | .nil => 1
  | .ptr d => uptoBulk d + 1
  | .slice elems spare => uptoBulkAll elems + uptoBulkAll spare + 1
  | .agg parts => uptoBulkAll parts + 1
  | .iface _ d => uptoBulk d + 1
  | .map entries => uptoBulkEntries entries + 1
  | .held _ => 1
def uptoBulkAll {H : Type} : List (DataW H) → Nat
  | [] => 0
  | d :: r => uptoBulk d + uptoBulkAll r
def uptoBulkEntries {H : Type} : List (Lit × DataW H) → Nat
  | [] => 0
  | x :: r => uptoBulkEntry x + uptoBulkEntries r
def uptoBulkEntry {H : Type} : Lit × DataW H → Nat
  | (.string bytes, d) => bytes.length + uptoBulk d + 1
  | (_, d) => uptoBulk d + 1
 end
def uptoSmall : (H : Type) → List (DataW H) → Bool := fun _ ds => decide (uptoBulkAll ds ≤ 1048576)
def OpenSpec.upto (s : _root_.Go.ChangeSpec) : _root_.Go.OpenSpec := { _root_.Go.OpenSpec.ofChange s with cond := some uptoSmall }

/-- 'laws.FnSparesMiles', WHERE WHAT IT READS IS OF BULK AT MOST 1048576: true; the input reads as it did. -/
def fnSparesMilesUptoRow : OpenClaim := { program := "ytmbdggakahbciaa", sum := "5f256d7e620abbeac4034f94618243e49fc4635e4e4bfc7029a4342a69aac4e3", func := "loop.example/cableship/laws.FnSparesMiles", spec := "fnSparesMiles", unfollowed := true, recurses := true, apart := false, narrowed := true }
def FnSparesMilesUptoSaid : Prop := fnSparesMilesUptoRow.holds Try.pinned (OpenSpec.upto fnSparesMilesSpec)

/-- 'laws.FnTake', WHERE WHAT IT READS IS OF BULK AT MOST 1048576: true; the input reads as it did. -/
def fnTakeUptoRow : OpenClaim := { program := "ytmbdggakahbciaa", sum := "5f256d7e620abbeac4034f94618243e49fc4635e4e4bfc7029a4342a69aac4e3", func := "loop.example/cableship/laws.FnTake", spec := "fnTake", apart := false, narrowed := true }
def FnTakeUptoSaid : Prop := fnTakeUptoRow.holds Try.pinned (OpenSpec.upto fnTakeSpec)

/-- 'laws.FnServe', WHERE WHAT IT READS IS OF BULK AT MOST 1048576: true; the input reads as it did. -/
def fnServeUptoRow : OpenClaim := { program := "ytmbdggakahbciaa", sum := "5f256d7e620abbeac4034f94618243e49fc4635e4e4bfc7029a4342a69aac4e3", func := "loop.example/cableship/laws.FnServe", spec := "fnServe", unfollowed := true, recurses := true, apart := false, narrowed := true }
def FnServeUptoSaid : Prop := fnServeUptoRow.holds Try.pinned (OpenSpec.upto fnServeSpec)

/-- 'laws.FnServeCan', WHERE WHAT IT READS IS OF BULK AT MOST 1048576: true; the input reads as it did. -/
def fnServeCanUptoRow : OpenClaim := { program := "ytmbdggakahbciaa", sum := "5f256d7e620abbeac4034f94618243e49fc4635e4e4bfc7029a4342a69aac4e3", func := "loop.example/cableship/laws.FnServeCan", spec := "fnServeCan", unfollowed := true, recurses := true, apart := false, narrowed := true }
def FnServeCanUptoSaid : Prop := fnServeCanUptoRow.holds Try.pinned (OpenSpec.upto fnServeCanSpec)

/-- 'laws.FnServeBest', WHERE WHAT IT READS IS OF BULK AT MOST 1048576: true; the input reads as it did. -/
def fnServeBestUptoRow : OpenClaim := { program := "ytmbdggakahbciaa", sum := "5f256d7e620abbeac4034f94618243e49fc4635e4e4bfc7029a4342a69aac4e3", func := "loop.example/cableship/laws.FnServeBest", spec := "fnServeBest", unfollowed := true, recurses := true, apart := false, narrowed := true }
def FnServeBestUptoSaid : Prop := fnServeBestUptoRow.holds Try.pinned (OpenSpec.upto fnServeBestSpec)

/-- 'laws.FnJoint', WHERE WHAT IT READS IS OF BULK AT MOST 1048576: true; the input reads as it did. -/
def fnJointUptoRow : OpenClaim := { program := "ytmbdggakahbciaa", sum := "5f256d7e620abbeac4034f94618243e49fc4635e4e4bfc7029a4342a69aac4e3", func := "loop.example/cableship/laws.FnJoint", spec := "fnJoint", unfollowed := true, recurses := true, apart := false, narrowed := true }
def FnJointUptoSaid : Prop := fnJointUptoRow.holds Try.pinned (OpenSpec.upto fnJointSpec)

/-- 'laws.FnJointLongest', WHERE WHAT IT READS IS OF BULK AT MOST 1048576: true; the input reads as it did. -/
def fnJointLongestUptoRow : OpenClaim := { program := "ytmbdggakahbciaa", sum := "5f256d7e620abbeac4034f94618243e49fc4635e4e4bfc7029a4342a69aac4e3", func := "loop.example/cableship/laws.FnJointLongest", spec := "fnJointLongest", unfollowed := true, recurses := true, apart := false, narrowed := true }
def FnJointLongestUptoSaid : Prop := fnJointLongestUptoRow.holds Try.pinned (OpenSpec.upto fnJointLongestSpec)

/-- 'laws.FnSparesSort', WHERE WHAT IT READS IS OF BULK AT MOST 1048576: true; the input reads as it did. -/
def fnSparesSortUptoRow : OpenClaim := { program := "ytmbdggakahbciaa", sum := "5f256d7e620abbeac4034f94618243e49fc4635e4e4bfc7029a4342a69aac4e3", func := "loop.example/cableship/laws.FnSparesSort", spec := "fnSparesSort", unfollowed := true, recurses := true, apart := false, narrowed := true }
def FnSparesSortUptoSaid : Prop := fnSparesSortUptoRow.holds Try.pinned (OpenSpec.upto fnSparesSortSpec)

end Rows
end Go.Proofs.Ytmbdggakahbciaa
