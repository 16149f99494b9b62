/-
  No cell of these rows narrows 'for every input' (looked for: loops, veiled, ifaces, maps, wideKeys, modest, calm, conditions, laid).
  DERIVED. THE GIVEN ROWS OF THIS SEAT. 4 by the template 'for every input the law returns true; each argument reads behind the call as it read before'; 0 by the template 'total and deterministic' (their statements: YtnekjhpocfdpnaaTotals.lean).
  GIVEN WITH THE SEED: the statements are not yours to turn. If you find one false, say at which input.
  Laid BY PROGRAM, IN A SANDBOX (cutbox-rows.mjs): the forced cells as the released guide's own fill.sh prints them over the translation 22d3f4f11532a623… (all of the seat's roots in one cut). By AI agents, Wed Nov 11 2026. No macro, syntax, notation, axiom, sorry.
-/
import Derived.Test.YtnekjhpocfdpnaaChecked
import GoSem.Claim
import GoSem.ClaimJoined
import GoSem.ClaimMapViews
import Derived.JoinedTies
import Derived.KernelRfl
namespace Go.Proofs.Ytnekjhpocfdpnaa
/- THE CELL 'sum', in the pinned program and in every row, IS THE sha256 OF THE DUMP (.gsa) THAT YtnekjhpocfdpnaaProg.lean LOADS. Nothing in Lean hashes anything: it is a label: what it is worth is what the hold of that sum in a sandbox is worth. -/
noncomputable def Try.pinned : Pinned := { name := "ytnekjhpocfdpnaa", sum := "22d3f4f11532a6231db66cca21db4b2c53b23fddf57acb00cfe891b8c5b4877b", checked := Try.checked }
namespace Rows
def none {H : Type} : Left H := { results := [], args := [] }

/-- 'laws.FnLoad': WHATEVER THE INPUT: true; the input reads as it did. -/
def fnLoadSpec : ChangeSpec := { name := "fnLoad", fn := fun _ => fun
  | [d] => { results := [.lit (.bool true)], args := [d] }
  | _ => none }
def fnLoadRow : OpenClaim := { program := "ytnekjhpocfdpnaa", sum := "22d3f4f11532a6231db66cca21db4b2c53b23fddf57acb00cfe891b8c5b4877b", func := "loop.example/cableship/laws.FnLoad", spec := "fnLoad", apart := false }
def FnLoadSaid : Prop := fnLoadRow.holds Try.pinned (OpenSpec.ofChange fnLoadSpec)

/-- ITS FALSE NEIGHBOUR: 'it returns false'. Refute it at one input. -/
def fnLoadWrong : ChangeSpec := { name := "fnLoad", fn := fun _ => fun
  | [d] => { results := [.lit (.bool false)], args := [d] }
  | _ => none }
def FnLoadWrongFalsely : Prop := fnLoadRow.holds Try.pinned (OpenSpec.ofChange fnLoadWrong)

/-- 'laws.FnLoadTraffic': WHATEVER THE INPUT: true; the input reads as it did. -/
def fnLoadTrafficSpec : ChangeSpec := { name := "fnLoadTraffic", fn := fun _ => fun
  | [d1, d2] => { results := [.lit (.bool true)], args := [d1, d2] }
  | _ => none }
def fnLoadTrafficRow : OpenClaim := { program := "ytnekjhpocfdpnaa", sum := "22d3f4f11532a6231db66cca21db4b2c53b23fddf57acb00cfe891b8c5b4877b", func := "loop.example/cableship/laws.FnLoadTraffic", spec := "fnLoadTraffic", unfollowed := true, recurses := true, apart := false }
def FnLoadTrafficSaid : Prop := fnLoadTrafficRow.holds Try.pinned (OpenSpec.ofChange fnLoadTrafficSpec)

/-- ITS FALSE NEIGHBOUR: 'it returns false'. Refute it at one input. -/
def fnLoadTrafficWrong : ChangeSpec := { name := "fnLoadTraffic", fn := fun _ => fun
  | [d1, d2] => { results := [.lit (.bool false)], args := [d1, d2] }
  | _ => none }
def FnLoadTrafficWrongFalsely : Prop := fnLoadTrafficRow.holds Try.pinned (OpenSpec.ofChange fnLoadTrafficWrong)

/-- 'laws.FnTrafficLoad': WHATEVER THE INPUT: true; the input reads as it did. -/
def fnTrafficLoadSpec : ChangeSpec := { name := "fnTrafficLoad", fn := fun _ => fun
  | [d] => { results := [.lit (.bool true)], args := [d] }
  | _ => none }
def fnTrafficLoadRow : OpenClaim := { program := "ytnekjhpocfdpnaa", sum := "22d3f4f11532a6231db66cca21db4b2c53b23fddf57acb00cfe891b8c5b4877b", func := "loop.example/cableship/laws.FnTrafficLoad", spec := "fnTrafficLoad", unfollowed := true, recurses := true, apart := false }
def FnTrafficLoadSaid : Prop := fnTrafficLoadRow.holds Try.pinned (OpenSpec.ofChange fnTrafficLoadSpec)

/-- ITS FALSE NEIGHBOUR: 'it returns false'. Refute it at one input. -/
def fnTrafficLoadWrong : ChangeSpec := { name := "fnTrafficLoad", fn := fun _ => fun
  | [d] => { results := [.lit (.bool false)], args := [d] }
  | _ => none }
def FnTrafficLoadWrongFalsely : Prop := fnTrafficLoadRow.holds Try.pinned (OpenSpec.ofChange fnTrafficLoadWrong)

/-- 'laws.FnLoadAdd': WHATEVER THE INPUT: true; the input reads as it did. -/
def fnLoadAddSpec : ChangeSpec := { name := "fnLoadAdd", fn := fun _ => fun
  | [d] => { results := [.lit (.bool true)], args := [d] }
  | _ => none }
def fnLoadAddRow : OpenClaim := { program := "ytnekjhpocfdpnaa", sum := "22d3f4f11532a6231db66cca21db4b2c53b23fddf57acb00cfe891b8c5b4877b", func := "loop.example/cableship/laws.FnLoadAdd", spec := "fnLoadAdd", unfollowed := true, recurses := true, apart := false }
def FnLoadAddSaid : Prop := fnLoadAddRow.holds Try.pinned (OpenSpec.ofChange fnLoadAddSpec)

/-- ITS FALSE NEIGHBOUR: 'it returns false'. Refute it at one input. -/
def fnLoadAddWrong : ChangeSpec := { name := "fnLoadAdd", fn := fun _ => fun
  | [d] => { results := [.lit (.bool false)], args := [d] }
  | _ => none }
def FnLoadAddWrongFalsely : Prop := fnLoadAddRow.holds Try.pinned (OpenSpec.ofChange fnLoadAddWrong)

/- THE SECOND FORM. 'bulk': how many values and letters a reading holds, each counted each time it is reached (what is shared counts as often as it is met; a slice's spare places count too). A statement '..UptoSaid' is the law's where the arguments, and the package variables that the reading takes, are together of bulk at most 1048576: NARROWER than '..Said'. Prove '..Said' where nothing that the law and all that it calls make is longer than what came in: it says more and counts as full. Else prove '..UptoSaid'. A law counts once. -/
mutual
def uptoBulk {H : Type} : DataW H → Nat
  | .lit (.string bytes) => bytes.length + 1
  | .lit _ => 1
  | .nil => 1
  | .ptr d => uptoBulk d + 1
  | .slice elems spare => uptoBulkAll elems + uptoBulkAll spare + 1
  | .agg parts => uptoBulkAll parts + 1
  | .iface _ d => uptoBulk d + 1
  | .map entries => uptoBulkEntries entries + 1
  | .held _ => 1
def uptoBulkAll {H : Type} : List (DataW H) → Nat
  | [] => 0
  | d :: r => uptoBulk d + uptoBulkAll r
def uptoBulkEntries {H : Type} : List (Lit × DataW H) → Nat
  | [] => 0
  | x :: r => uptoBulkEntry x + uptoBulkEntries r
def uptoBulkEntry {H : Type} : Lit × DataW H → Nat
  | (.string bytes, d) => bytes.length + uptoBulk d + 1
  | (_, d) => uptoBulk d + 1
 end
def uptoSmall : (H : Type) → List (DataW H) → Bool := fun _ ds => decide (uptoBulkAll ds ≤ 1048576)
def OpenSpec.upto (s : _root_.Go.ChangeSpec) : _root_.Go.OpenSpec := { _root_.Go.OpenSpec.ofChange s with cond := some uptoSmall }

/-- 'laws.FnLoad', WHERE WHAT IT READS IS OF BULK AT MOST 1048576: true; the input reads as it did. -/
def fnLoadUptoRow : OpenClaim := { program := "ytnekjhpocfdpnaa", sum := "22d3f4f11532a6231db66cca21db4b2c53b23fddf57acb00cfe891b8c5b4877b", func := "loop.example/cableship/laws.FnLoad", spec := "fnLoad", apart := false, narrowed := true }
def FnLoadUptoSaid : Prop := fnLoadUptoRow.holds Try.pinned (OpenSpec.upto fnLoadSpec)

/-- 'laws.FnLoadTraffic', WHERE WHAT IT READS IS OF BULK AT MOST 1048576: true; the input reads as it did. -/
def fnLoadTrafficUptoRow : OpenClaim := { program := "ytnekjhpocfdpnaa", sum := "22d3f4f11532a6231db66cca21db4b2c53b23fddf57acb00cfe891b8c5b4877b", func := "loop.example/cableship/laws.FnLoadTraffic", spec := "fnLoadTraffic", unfollowed := true, recurses := true, apart := false, narrowed := true }
def FnLoadTrafficUptoSaid : Prop := fnLoadTrafficUptoRow.holds Try.pinned (OpenSpec.upto fnLoadTrafficSpec)

/-- 'laws.FnTrafficLoad', WHERE WHAT IT READS IS OF BULK AT MOST 1048576: true; the input reads as it did. -/
def fnTrafficLoadUptoRow : OpenClaim := { program := "ytnekjhpocfdpnaa", sum := "22d3f4f11532a6231db66cca21db4b2c53b23fddf57acb00cfe891b8c5b4877b", func := "loop.example/cableship/laws.FnTrafficLoad", spec := "fnTrafficLoad", unfollowed := true, recurses := true, apart := false, narrowed := true }
def FnTrafficLoadUptoSaid : Prop := fnTrafficLoadUptoRow.holds Try.pinned (OpenSpec.upto fnTrafficLoadSpec)

/-- 'laws.FnLoadAdd', WHERE WHAT IT READS IS OF BULK AT MOST 1048576: true; the input reads as it did. -/
def fnLoadAddUptoRow : OpenClaim := { program := "ytnekjhpocfdpnaa", sum := "22d3f4f11532a6231db66cca21db4b2c53b23fddf57acb00cfe891b8c5b4877b", func := "loop.example/cableship/laws.FnLoadAdd", spec := "fnLoadAdd", unfollowed := true, recurses := true, apart := false, narrowed := true }
def FnLoadAddUptoSaid : Prop := fnLoadAddUptoRow.holds Try.pinned (OpenSpec.upto fnLoadAddSpec)

end Rows
end Go.Proofs.Ytnekjhpocfdpnaa
