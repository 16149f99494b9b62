/-
  No cell of these rows narrows 'for every input' (looked for: loops, veiled, ifaces, maps, wideKeys, modest, calm, conditions, laid).
  DERIVED. THE GIVEN ROWS OF THIS SEAT. 4 by the template 'for every input the law returns true; each argument reads behind the call as it read before'; 0 by the template 'total and deterministic' (their statements: YtiajfpmlcchodaaTotals.lean).
  GIVEN WITH THE SEED: the statements are not yours to turn. If you find one false, say at which input.
  Laid BY PROGRAM, IN A SANDBOX (cutbox-rows.mjs): the forced cells as the released guide's own fill.sh prints them over the translation 1de4c31009c534c6… (all of the seat's roots in one cut). By AI agents, Wed Nov 11 2026. No macro, syntax, notation, axiom, sorry.
-/
import Derived.Test.YtiajfpmlcchodaaChecked
import GoSem.Claim
import GoSem.ClaimJoined
import GoSem.ClaimMapViews
import Derived.JoinedTies
import Derived.KernelRfl
namespace Go.Proofs.Ytiajfpmlcchodaa
/- THE CELL 'sum', in the pinned program and in every row, IS THE sha256 OF THE DUMP (.gsa) THAT YtiajfpmlcchodaaProg.lean LOADS. Nothing in Lean hashes anything: it is a label: what it is worth is what the hold of that sum in a sandbox is worth. -/
noncomputable def Try.pinned : Pinned := { name := "ytiajfpmlcchodaa", sum := "1de4c31009c534c61534d0c5b4f9d1bfb3c4be02ed63c20ffc063686af473f70", checked := Try.checked }
namespace Rows
def none {H : Type} : Left H := { results := [], args := [] }

/-- 'laws.FnMostTraffic': WHATEVER THE INPUT: true; the input reads as it did. -/
def fnMostTrafficSpec : ChangeSpec := { name := "fnMostTraffic", fn := fun _ => fun
  | [d] => { results := [.lit (.bool true)], args := [d] }
  | _ => none }
def fnMostTrafficRow : OpenClaim := { program := "ytiajfpmlcchodaa", sum := "1de4c31009c534c61534d0c5b4f9d1bfb3c4be02ed63c20ffc063686af473f70", func := "loop.example/cableship/laws.FnMostTraffic", spec := "fnMostTraffic", unfollowed := true, recurses := true, apart := false }
def FnMostTrafficSaid : Prop := fnMostTrafficRow.holds Try.pinned (OpenSpec.ofChange fnMostTrafficSpec)

/-- ITS FALSE NEIGHBOUR: 'it returns false'. Refute it at one input. -/
def fnMostTrafficWrong : ChangeSpec := { name := "fnMostTraffic", fn := fun _ => fun
  | [d] => { results := [.lit (.bool false)], args := [d] }
  | _ => none }
def FnMostTrafficWrongFalsely : Prop := fnMostTrafficRow.holds Try.pinned (OpenSpec.ofChange fnMostTrafficWrong)

/-- 'laws.FnWithout': WHATEVER THE INPUT: true; the input reads as it did. -/
def fnWithoutSpec : ChangeSpec := { name := "fnWithout", fn := fun _ => fun
  | [d1, d2] => { results := [.lit (.bool true)], args := [d1, d2] }
  | _ => none }
def fnWithoutRow : OpenClaim := { program := "ytiajfpmlcchodaa", sum := "1de4c31009c534c61534d0c5b4f9d1bfb3c4be02ed63c20ffc063686af473f70", func := "loop.example/cableship/laws.FnWithout", spec := "fnWithout", unfollowed := true, recurses := true, apart := false }
def FnWithoutSaid : Prop := fnWithoutRow.holds Try.pinned (OpenSpec.ofChange fnWithoutSpec)

/-- ITS FALSE NEIGHBOUR: 'it returns false'. Refute it at one input. -/
def fnWithoutWrong : ChangeSpec := { name := "fnWithout", fn := fun _ => fun
  | [d1, d2] => { results := [.lit (.bool false)], args := [d1, d2] }
  | _ => none }
def FnWithoutWrongFalsely : Prop := fnWithoutRow.holds Try.pinned (OpenSpec.ofChange fnWithoutWrong)

/-- 'laws.FnWeakest': WHATEVER THE INPUT: true; the input reads as it did. -/
def fnWeakestSpec : ChangeSpec := { name := "fnWeakest", fn := fun _ => fun
  | [d] => { results := [.lit (.bool true)], args := [d] }
  | _ => none }
def fnWeakestRow : OpenClaim := { program := "ytiajfpmlcchodaa", sum := "1de4c31009c534c61534d0c5b4f9d1bfb3c4be02ed63c20ffc063686af473f70", func := "loop.example/cableship/laws.FnWeakest", spec := "fnWeakest", unfollowed := true, recurses := true, apart := false }
def FnWeakestSaid : Prop := fnWeakestRow.holds Try.pinned (OpenSpec.ofChange fnWeakestSpec)

/-- ITS FALSE NEIGHBOUR: 'it returns false'. Refute it at one input. -/
def fnWeakestWrong : ChangeSpec := { name := "fnWeakest", fn := fun _ => fun
  | [d] => { results := [.lit (.bool false)], args := [d] }
  | _ => none }
def FnWeakestWrongFalsely : Prop := fnWeakestRow.holds Try.pinned (OpenSpec.ofChange fnWeakestWrong)

/-- 'laws.FnNeededLines': WHATEVER THE INPUT: true; the input reads as it did. -/
def fnNeededLinesSpec : ChangeSpec := { name := "fnNeededLines", fn := fun _ => fun
  | [d] => { results := [.lit (.bool true)], args := [d] }
  | _ => none }
def fnNeededLinesRow : OpenClaim := { program := "ytiajfpmlcchodaa", sum := "1de4c31009c534c61534d0c5b4f9d1bfb3c4be02ed63c20ffc063686af473f70", func := "loop.example/cableship/laws.FnNeededLines", spec := "fnNeededLines", unfollowed := true, recurses := true, apart := false }
def FnNeededLinesSaid : Prop := fnNeededLinesRow.holds Try.pinned (OpenSpec.ofChange fnNeededLinesSpec)

/-- ITS FALSE NEIGHBOUR: 'it returns false'. Refute it at one input. -/
def fnNeededLinesWrong : ChangeSpec := { name := "fnNeededLines", fn := fun _ => fun
  | [d] => { results := [.lit (.bool false)], args := [d] }
  | _ => none }
def FnNeededLinesWrongFalsely : Prop := fnNeededLinesRow.holds Try.pinned (OpenSpec.ofChange fnNeededLinesWrong)

/- THE SECOND FORM. 'bulk': how many values and letters a reading holds, each counted each time it is reached (what is shared counts as often as it is met; a slice's spare places count too). A statement '..UptoSaid' is the law's where the arguments, and the package variables that the reading takes, are together of bulk at most 1048576: NARROWER than '..Said'. Prove '..Said' where nothing that the law and all that it calls make is longer than what came in: it says more and counts as full. Else prove '..UptoSaid'. A law counts once. -/
mutual
def uptoBulk {H : Type} : DataW H → Nat
  | .lit (.string bytes) => bytes.length + 1
  | .lit _ => 1
  | .nil => 1
  | .ptr d => uptoBulk d + 1
  | .slice elems spare => uptoBulkAll elems + uptoBulkAll spare + 1
  | .agg parts => uptoBulkAll parts + 1
  | .iface _ d => uptoBulk d + 1
  | .map entries => uptoBulkEntries entries + 1
  | .held _ => 1
def uptoBulkAll {H : Type} : List (DataW H) → Nat
  | [] => 0
  | d :: r => uptoBulk d + uptoBulkAll r
def uptoBulkEntries {H : Type} : List (Lit × DataW H) → Nat
  | [] => 0
  | x :: r => uptoBulkEntry x + uptoBulkEntries r
def uptoBulkEntry {H : Type} : Lit × DataW H → Nat
  | (.string bytes, d) => bytes.length + uptoBulk d + 1
  | (_, d) => uptoBulk d + 1
 end
def uptoSmall : (H : Type) → List (DataW H) → Bool := fun _ ds => decide (uptoBulkAll ds ≤ 1048576)
def OpenSpec.upto (s : _root_.Go.ChangeSpec) : _root_.Go.OpenSpec := { _root_.Go.OpenSpec.ofChange s with cond := some uptoSmall }

/-- 'laws.FnMostTraffic', WHERE WHAT IT READS IS OF BULK AT MOST 1048576: true; the input reads as it did. -/
def fnMostTrafficUptoRow : OpenClaim := { program := "ytiajfpmlcchodaa", sum := "1de4c31009c534c61534d0c5b4f9d1bfb3c4be02ed63c20ffc063686af473f70", func := "loop.example/cableship/laws.FnMostTraffic", spec := "fnMostTraffic", unfollowed := true, recurses := true, apart := false, narrowed := true }
def FnMostTrafficUptoSaid : Prop := fnMostTrafficUptoRow.holds Try.pinned (OpenSpec.upto fnMostTrafficSpec)

/-- 'laws.FnWithout', WHERE WHAT IT READS IS OF BULK AT MOST 1048576: true; the input reads as it did. -/
def fnWithoutUptoRow : OpenClaim := { program := "ytiajfpmlcchodaa", sum := "1de4c31009c534c61534d0c5b4f9d1bfb3c4be02ed63c20ffc063686af473f70", func := "loop.example/cableship/laws.FnWithout", spec := "fnWithout", unfollowed := true, recurses := true, apart := false, narrowed := true }
def FnWithoutUptoSaid : Prop := fnWithoutUptoRow.holds Try.pinned (OpenSpec.upto fnWithoutSpec)

/-- 'laws.FnWeakest', WHERE WHAT IT READS IS OF BULK AT MOST 1048576: true; the input reads as it did. -/
def fnWeakestUptoRow : OpenClaim := { program := "ytiajfpmlcchodaa", sum := "1de4c31009c534c61534d0c5b4f9d1bfb3c4be02ed63c20ffc063686af473f70", func := "loop.example/cableship/laws.FnWeakest", spec := "fnWeakest", unfollowed := true, recurses := true, apart := false, narrowed := true }
def FnWeakestUptoSaid : Prop := fnWeakestUptoRow.holds Try.pinned (OpenSpec.upto fnWeakestSpec)

/-- 'laws.FnNeededLines', WHERE WHAT IT READS IS OF BULK AT MOST 1048576: true; the input reads as it did. -/
def fnNeededLinesUptoRow : OpenClaim := { program := "ytiajfpmlcchodaa", sum := "1de4c31009c534c61534d0c5b4f9d1bfb3c4be02ed63c20ffc063686af473f70", func := "loop.example/cableship/laws.FnNeededLines", spec := "fnNeededLines", unfollowed := true, recurses := true, apart := false, narrowed := true }
def FnNeededLinesUptoSaid : Prop := fnNeededLinesUptoRow.holds Try.pinned (OpenSpec.upto fnNeededLinesSpec)

end Rows
end Go.Proofs.Ytiajfpmlcchodaa
