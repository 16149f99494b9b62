/-
  No cell of these rows narrows 'for every input' (looked for: loops, veiled, ifaces, maps, wideKeys, modest, calm, conditions, laid).
  DERIVED. THE GIVEN ROWS OF THIS SEAT. 8 by the template 'for every input the law returns true; each argument reads behind the call as it read before'; 0 by the template 'total and deterministic' (their statements: YtpkcfdbgndpkeabTotals.lean).
  GIVEN WITH THE SEED: the statements are not yours to turn. If you find one false, say at which input.
  Laid BY PROGRAM, IN A SANDBOX (cutbox-rows.mjs): the forced cells as the released guide's own fill.sh prints them over the translation e637b1adca5b85f7… (all of the seat's roots in one cut). By AI agents, Wed Nov 11 2026. No macro, syntax, notation, axiom, sorry.
-/
import Derived.Test.YtpkcfdbgndpkeabChecked
import GoSem.Claim
import GoSem.ClaimJoined
import GoSem.ClaimMapViews
import Derived.JoinedTies
import Derived.KernelRfl
namespace Go.Proofs.Ytpkcfdbgndpkeab
/- THE CELL 'sum', in the pinned program and in every row, IS THE sha256 OF THE DUMP (.gsa) THAT YtpkcfdbgndpkeabProg.lean LOADS. Nothing in Lean hashes anything: it is a label: what it is worth is what the hold of that sum in a sandbox is worth. -/
noncomputable def Try.pinned : Pinned := { name := "ytpkcfdbgndpkeab", sum := "e637b1adca5b85f727ea1e44e7acd4f5358995c7e90b994af4cb2fe068d4b8fc", checked := Try.checked }
namespace Rows
def none {H : Type} : Left H := { results := [], args := [] }

/-- 'laws.FnExactFloorDeepest': WHATEVER THE INPUT: true; the input reads as it did. -/
def fnExactFloorDeepestSpec : ChangeSpec := { name := "fnExactFloorDeepest", fn := fun _ => fun
  | [d] => { results := [.lit (.bool true)], args := [d] }
  | _ => none }
def fnExactFloorDeepestRow : OpenClaim := { program := "ytpkcfdbgndpkeab", sum := "e637b1adca5b85f727ea1e44e7acd4f5358995c7e90b994af4cb2fe068d4b8fc", func := "loop.example/cableship/laws.FnExactFloorDeepest", spec := "fnExactFloorDeepest", apart := false }
def FnExactFloorDeepestSaid : Prop := fnExactFloorDeepestRow.holds Try.pinned (OpenSpec.ofChange fnExactFloorDeepestSpec)

/-- ITS FALSE NEIGHBOUR: 'it returns false'. Refute it at one input. -/
def fnExactFloorDeepestWrong : ChangeSpec := { name := "fnExactFloorDeepest", fn := fun _ => fun
  | [d] => { results := [.lit (.bool false)], args := [d] }
  | _ => none }
def FnExactFloorDeepestWrongFalsely : Prop := fnExactFloorDeepestRow.holds Try.pinned (OpenSpec.ofChange fnExactFloorDeepestWrong)

/-- 'laws.FnExactFloorSteepest': WHATEVER THE INPUT: true; the input reads as it did. -/
def fnExactFloorSteepestSpec : ChangeSpec := { name := "fnExactFloorSteepest", fn := fun _ => fun
  | [d] => { results := [.lit (.bool true)], args := [d] }
  | _ => none }
def fnExactFloorSteepestRow : OpenClaim := { program := "ytpkcfdbgndpkeab", sum := "e637b1adca5b85f727ea1e44e7acd4f5358995c7e90b994af4cb2fe068d4b8fc", func := "loop.example/cableship/laws.FnExactFloorSteepest", spec := "fnExactFloorSteepest", unfollowed := true, recurses := true, apart := false }
def FnExactFloorSteepestSaid : Prop := fnExactFloorSteepestRow.holds Try.pinned (OpenSpec.ofChange fnExactFloorSteepestSpec)

/-- ITS FALSE NEIGHBOUR: 'it returns false'. Refute it at one input. -/
def fnExactFloorSteepestWrong : ChangeSpec := { name := "fnExactFloorSteepest", fn := fun _ => fun
  | [d] => { results := [.lit (.bool false)], args := [d] }
  | _ => none }
def FnExactFloorSteepestWrongFalsely : Prop := fnExactFloorSteepestRow.holds Try.pinned (OpenSpec.ofChange fnExactFloorSteepestWrong)

/-- 'laws.FnExactPayValid': WHATEVER THE INPUT: true; the input reads as it did. -/
def fnExactPayValidSpec : ChangeSpec := { name := "fnExactPayValid", fn := fun _ => fun
  | [d1, d2] => { results := [.lit (.bool true)], args := [d1, d2] }
  | _ => none }
def fnExactPayValidRow : OpenClaim := { program := "ytpkcfdbgndpkeab", sum := "e637b1adca5b85f727ea1e44e7acd4f5358995c7e90b994af4cb2fe068d4b8fc", func := "loop.example/cableship/laws.FnExactPayValid", spec := "fnExactPayValid", apart := false }
def FnExactPayValidSaid : Prop := fnExactPayValidRow.holds Try.pinned (OpenSpec.ofChange fnExactPayValidSpec)

/-- ITS FALSE NEIGHBOUR: 'it returns false'. Refute it at one input. -/
def fnExactPayValidWrong : ChangeSpec := { name := "fnExactPayValid", fn := fun _ => fun
  | [d1, d2] => { results := [.lit (.bool false)], args := [d1, d2] }
  | _ => none }
def FnExactPayValidWrongFalsely : Prop := fnExactPayValidRow.holds Try.pinned (OpenSpec.ofChange fnExactPayValidWrong)

/-- 'laws.FnExactPayHangs': WHATEVER THE INPUT: true; the input reads as it did. -/
def fnExactPayHangsSpec : ChangeSpec := { name := "fnExactPayHangs", fn := fun _ => fun
  | [d1, d2] => { results := [.lit (.bool true)], args := [d1, d2] }
  | _ => none }
def fnExactPayHangsRow : OpenClaim := { program := "ytpkcfdbgndpkeab", sum := "e637b1adca5b85f727ea1e44e7acd4f5358995c7e90b994af4cb2fe068d4b8fc", func := "loop.example/cableship/laws.FnExactPayHangs", spec := "fnExactPayHangs", unfollowed := true, recurses := true, apart := false }
def FnExactPayHangsSaid : Prop := fnExactPayHangsRow.holds Try.pinned (OpenSpec.ofChange fnExactPayHangsSpec)

/-- ITS FALSE NEIGHBOUR: 'it returns false'. Refute it at one input. -/
def fnExactPayHangsWrong : ChangeSpec := { name := "fnExactPayHangs", fn := fun _ => fun
  | [d1, d2] => { results := [.lit (.bool false)], args := [d1, d2] }
  | _ => none }
def FnExactPayHangsWrongFalsely : Prop := fnExactPayHangsRow.holds Try.pinned (OpenSpec.ofChange fnExactPayHangsWrong)

/-- 'laws.FnExactPaySlack': WHATEVER THE INPUT: true; the input reads as it did. -/
def fnExactPaySlackSpec : ChangeSpec := { name := "fnExactPaySlack", fn := fun _ => fun
  | [d1, d2] => { results := [.lit (.bool true)], args := [d1, d2] }
  | _ => none }
def fnExactPaySlackRow : OpenClaim := { program := "ytpkcfdbgndpkeab", sum := "e637b1adca5b85f727ea1e44e7acd4f5358995c7e90b994af4cb2fe068d4b8fc", func := "loop.example/cableship/laws.FnExactPaySlack", spec := "fnExactPaySlack", unfollowed := true, recurses := true, apart := false }
def FnExactPaySlackSaid : Prop := fnExactPaySlackRow.holds Try.pinned (OpenSpec.ofChange fnExactPaySlackSpec)

/-- ITS FALSE NEIGHBOUR: 'it returns false'. Refute it at one input. -/
def fnExactPaySlackWrong : ChangeSpec := { name := "fnExactPaySlack", fn := fun _ => fun
  | [d1, d2] => { results := [.lit (.bool false)], args := [d1, d2] }
  | _ => none }
def FnExactPaySlackWrongFalsely : Prop := fnExactPaySlackRow.holds Try.pinned (OpenSpec.ofChange fnExactPaySlackWrong)

/-- 'laws.FnExactPayLevel': WHATEVER THE INPUT: true; the input reads as it did. -/
def fnExactPayLevelSpec : ChangeSpec := { name := "fnExactPayLevel", fn := fun _ => fun
  | [d] => { results := [.lit (.bool true)], args := [d] }
  | _ => none }
def fnExactPayLevelRow : OpenClaim := { program := "ytpkcfdbgndpkeab", sum := "e637b1adca5b85f727ea1e44e7acd4f5358995c7e90b994af4cb2fe068d4b8fc", func := "loop.example/cableship/laws.FnExactPayLevel", spec := "fnExactPayLevel", unfollowed := true, recurses := true, apart := false }
def FnExactPayLevelSaid : Prop := fnExactPayLevelRow.holds Try.pinned (OpenSpec.ofChange fnExactPayLevelSpec)

/-- ITS FALSE NEIGHBOUR: 'it returns false'. Refute it at one input. -/
def fnExactPayLevelWrong : ChangeSpec := { name := "fnExactPayLevel", fn := fun _ => fun
  | [d] => { results := [.lit (.bool false)], args := [d] }
  | _ => none }
def FnExactPayLevelWrongFalsely : Prop := fnExactPayLevelRow.holds Try.pinned (OpenSpec.ofChange fnExactPayLevelWrong)

/-- 'laws.FnExactPayCarry': WHATEVER THE INPUT: true; the input reads as it did. -/
def fnExactPayCarrySpec : ChangeSpec := { name := "fnExactPayCarry", fn := fun _ => fun
  | [d1, d2] => { results := [.lit (.bool true)], args := [d1, d2] }
  | _ => none }
def fnExactPayCarryRow : OpenClaim := { program := "ytpkcfdbgndpkeab", sum := "e637b1adca5b85f727ea1e44e7acd4f5358995c7e90b994af4cb2fe068d4b8fc", func := "loop.example/cableship/laws.FnExactPayCarry", spec := "fnExactPayCarry", unfollowed := true, recurses := true, apart := false }
def FnExactPayCarrySaid : Prop := fnExactPayCarryRow.holds Try.pinned (OpenSpec.ofChange fnExactPayCarrySpec)

/-- ITS FALSE NEIGHBOUR: 'it returns false'. Refute it at one input. -/
def fnExactPayCarryWrong : ChangeSpec := { name := "fnExactPayCarry", fn := fun _ => fun
  | [d1, d2] => { results := [.lit (.bool false)], args := [d1, d2] }
  | _ => none }
def FnExactPayCarryWrongFalsely : Prop := fnExactPayCarryRow.holds Try.pinned (OpenSpec.ofChange fnExactPayCarryWrong)

/-- 'laws.FnExactPayReach': WHATEVER THE INPUT: true; the input reads as it did. -/
def fnExactPayReachSpec : ChangeSpec := { name := "fnExactPayReach", fn := fun _ => fun
  | [d1, d2] => { results := [.lit (.bool true)], args := [d1, d2] }
  | _ => none }
def fnExactPayReachRow : OpenClaim := { program := "ytpkcfdbgndpkeab", sum := "e637b1adca5b85f727ea1e44e7acd4f5358995c7e90b994af4cb2fe068d4b8fc", func := "loop.example/cableship/laws.FnExactPayReach", spec := "fnExactPayReach", unfollowed := true, recurses := true, apart := false }
def FnExactPayReachSaid : Prop := fnExactPayReachRow.holds Try.pinned (OpenSpec.ofChange fnExactPayReachSpec)

/-- ITS FALSE NEIGHBOUR: 'it returns false'. Refute it at one input. -/
def fnExactPayReachWrong : ChangeSpec := { name := "fnExactPayReach", fn := fun _ => fun
  | [d1, d2] => { results := [.lit (.bool false)], args := [d1, d2] }
  | _ => none }
def FnExactPayReachWrongFalsely : Prop := fnExactPayReachRow.holds Try.pinned (OpenSpec.ofChange fnExactPayReachWrong)

/- THE SECOND FORM. 'bulk': how many values and letters a reading holds, each counted each time it is reached (what is shared counts as often as it is met; a slice's spare places count too). A statement '..UptoSaid' is the law's where the arguments, and the package variables that the reading takes, are together of bulk at most 1048576: NARROWER than '..Said'. Prove '..Said' where nothing that the law and all that it calls make is longer than what came in: it says more and counts as full. Else prove '..UptoSaid'. A law counts once. -/
mutual
def uptoBulk {H : Type} : DataW H → Nat
  | .lit (.string bytes) => bytes.length + 1
  | .lit _ => 1
  | .nil => 1
  | .ptr d => uptoBulk d + 1
  | .slice elems spare => uptoBulkAll elems + uptoBulkAll spare + 1
  | .agg parts => uptoBulkAll parts + 1
  | .iface _ d => uptoBulk d + 1
  | .map entries => uptoBulkEntries entries + 1
  | .held _ => 1
def uptoBulkAll {H : Type} : List (DataW H) → Nat
  | [] => 0
  | d :: r => uptoBulk d + uptoBulkAll r
def uptoBulkEntries {H : Type} : List (Lit × DataW H) → Nat
  | [] => 0
  | x :: r => uptoBulkEntry x + uptoBulkEntries r
def uptoBulkEntry {H : Type} : Lit × DataW H → Nat
  | (.string bytes, d) => bytes.length + uptoBulk d + 1
  | (_, d) => uptoBulk d + 1
 end
def uptoSmall : (H : Type) → List (DataW H) → Bool := fun _ ds => decide (uptoBulkAll ds ≤ 1048576)
def OpenSpec.upto (s : _root_.Go.ChangeSpec) : _root_.Go.OpenSpec := { _root_.Go.OpenSpec.ofChange s with cond := some uptoSmall }

/-- 'laws.FnExactFloorDeepest', WHERE WHAT IT READS IS OF BULK AT MOST 1048576: true; the input reads as it did. -/
def fnExactFloorDeepestUptoRow : OpenClaim := { program := "ytpkcfdbgndpkeab", sum := "e637b1adca5b85f727ea1e44e7acd4f5358995c7e90b994af4cb2fe068d4b8fc", func := "loop.example/cableship/laws.FnExactFloorDeepest", spec := "fnExactFloorDeepest", apart := false, narrowed := true }
def FnExactFloorDeepestUptoSaid : Prop := fnExactFloorDeepestUptoRow.holds Try.pinned (OpenSpec.upto fnExactFloorDeepestSpec)

/-- 'laws.FnExactFloorSteepest', WHERE WHAT IT READS IS OF BULK AT MOST 1048576: true; the input reads as it did. -/
def fnExactFloorSteepestUptoRow : OpenClaim := { program := "ytpkcfdbgndpkeab", sum := "e637b1adca5b85f727ea1e44e7acd4f5358995c7e90b994af4cb2fe068d4b8fc", func := "loop.example/cableship/laws.FnExactFloorSteepest", spec := "fnExactFloorSteepest", unfollowed := true, recurses := true, apart := false, narrowed := true }
def FnExactFloorSteepestUptoSaid : Prop := fnExactFloorSteepestUptoRow.holds Try.pinned (OpenSpec.upto fnExactFloorSteepestSpec)

/-- 'laws.FnExactPayValid', WHERE WHAT IT READS IS OF BULK AT MOST 1048576: true; the input reads as it did. -/
def fnExactPayValidUptoRow : OpenClaim := { program := "ytpkcfdbgndpkeab", sum := "e637b1adca5b85f727ea1e44e7acd4f5358995c7e90b994af4cb2fe068d4b8fc", func := "loop.example/cableship/laws.FnExactPayValid", spec := "fnExactPayValid", apart := false, narrowed := true }
def FnExactPayValidUptoSaid : Prop := fnExactPayValidUptoRow.holds Try.pinned (OpenSpec.upto fnExactPayValidSpec)

/-- 'laws.FnExactPayHangs', WHERE WHAT IT READS IS OF BULK AT MOST 1048576: true; the input reads as it did. -/
def fnExactPayHangsUptoRow : OpenClaim := { program := "ytpkcfdbgndpkeab", sum := "e637b1adca5b85f727ea1e44e7acd4f5358995c7e90b994af4cb2fe068d4b8fc", func := "loop.example/cableship/laws.FnExactPayHangs", spec := "fnExactPayHangs", unfollowed := true, recurses := true, apart := false, narrowed := true }
def FnExactPayHangsUptoSaid : Prop := fnExactPayHangsUptoRow.holds Try.pinned (OpenSpec.upto fnExactPayHangsSpec)

/-- 'laws.FnExactPaySlack', WHERE WHAT IT READS IS OF BULK AT MOST 1048576: true; the input reads as it did. -/
def fnExactPaySlackUptoRow : OpenClaim := { program := "ytpkcfdbgndpkeab", sum := "e637b1adca5b85f727ea1e44e7acd4f5358995c7e90b994af4cb2fe068d4b8fc", func := "loop.example/cableship/laws.FnExactPaySlack", spec := "fnExactPaySlack", unfollowed := true, recurses := true, apart := false, narrowed := true }
def FnExactPaySlackUptoSaid : Prop := fnExactPaySlackUptoRow.holds Try.pinned (OpenSpec.upto fnExactPaySlackSpec)

/-- 'laws.FnExactPayLevel', WHERE WHAT IT READS IS OF BULK AT MOST 1048576: true; the input reads as it did. -/
def fnExactPayLevelUptoRow : OpenClaim := { program := "ytpkcfdbgndpkeab", sum := "e637b1adca5b85f727ea1e44e7acd4f5358995c7e90b994af4cb2fe068d4b8fc", func := "loop.example/cableship/laws.FnExactPayLevel", spec := "fnExactPayLevel", unfollowed := true, recurses := true, apart := false, narrowed := true }
def FnExactPayLevelUptoSaid : Prop := fnExactPayLevelUptoRow.holds Try.pinned (OpenSpec.upto fnExactPayLevelSpec)

/-- 'laws.FnExactPayCarry', WHERE WHAT IT READS IS OF BULK AT MOST 1048576: true; the input reads as it did. -/
def fnExactPayCarryUptoRow : OpenClaim := { program := "ytpkcfdbgndpkeab", sum := "e637b1adca5b85f727ea1e44e7acd4f5358995c7e90b994af4cb2fe068d4b8fc", func := "loop.example/cableship/laws.FnExactPayCarry", spec := "fnExactPayCarry", unfollowed := true, recurses := true, apart := false, narrowed := true }
def FnExactPayCarryUptoSaid : Prop := fnExactPayCarryUptoRow.holds Try.pinned (OpenSpec.upto fnExactPayCarrySpec)

/-- 'laws.FnExactPayReach', WHERE WHAT IT READS IS OF BULK AT MOST 1048576: true; the input reads as it did. -/
def fnExactPayReachUptoRow : OpenClaim := { program := "ytpkcfdbgndpkeab", sum := "e637b1adca5b85f727ea1e44e7acd4f5358995c7e90b994af4cb2fe068d4b8fc", func := "loop.example/cableship/laws.FnExactPayReach", spec := "fnExactPayReach", unfollowed := true, recurses := true, apart := false, narrowed := true }
def FnExactPayReachUptoSaid : Prop := fnExactPayReachUptoRow.holds Try.pinned (OpenSpec.upto fnExactPayReachSpec)

end Rows
end Go.Proofs.Ytpkcfdbgndpkeab
