/-
  No cell of these rows narrows 'for every input' (looked for: loops, veiled, ifaces, maps, wideKeys, modest, calm, conditions, laid).
  DERIVED. THE GIVEN ROWS OF THIS SEAT. 12 by the template 'for every input the law returns true; each argument reads behind the call as it read before'; 0 by the template 'total and deterministic' (their statements: YtpkcfdbgndpkeaaTotals.lean).
  GIVEN WITH THE SEED: the statements are not yours to turn. If you find one false, say at which input.
  Laid BY PROGRAM, IN A SANDBOX (cutbox-rows.mjs): the forced cells as the released guide's own fill.sh prints them over the translation db84ea33c0e95918… (all of the seat's roots in one cut). By AI agents, Wed Nov 11 2026. No macro, syntax, notation, axiom, sorry.
-/
import Derived.Test.YtpkcfdbgndpkeaaChecked
import GoSem.Claim
import GoSem.ClaimJoined
import GoSem.ClaimMapViews
import Derived.JoinedTies
import Derived.KernelRfl
namespace Go.Proofs.Ytpkcfdbgndpkeaa
/- THE CELL 'sum', in the pinned program and in every row, IS THE sha256 OF THE DUMP (.gsa) THAT YtpkcfdbgndpkeaaProg.lean LOADS. Nothing in Lean hashes anything: it is a label: what it is worth is what the hold of that sum in a sandbox is worth. -/
noncomputable def Try.pinned : Pinned := { name := "ytpkcfdbgndpkeaa", sum := "db84ea33c0e95918ef91484761a563574ad7670472463b47bf68f0bb91edea38", checked := Try.checked }
namespace Rows
def none {H : Type} : Left H := { results := [], args := [] }

/-- 'laws.FnNeeds': WHATEVER THE INPUT: true; the input reads as it did. -/
def fnNeedsSpec : ChangeSpec := { name := "fnNeeds", fn := fun _ => fun
  | [d] => { results := [.lit (.bool true)], args := [d] }
  | _ => none }
def fnNeedsRow : OpenClaim := { program := "ytpkcfdbgndpkeaa", sum := "db84ea33c0e95918ef91484761a563574ad7670472463b47bf68f0bb91edea38", func := "loop.example/cableship/laws.FnNeeds", spec := "fnNeeds", unfollowed := true, recurses := true, apart := false }
def FnNeedsSaid : Prop := fnNeedsRow.holds Try.pinned (OpenSpec.ofChange fnNeedsSpec)

/-- ITS FALSE NEIGHBOUR: 'it returns false'. Refute it at one input. -/
def fnNeedsWrong : ChangeSpec := { name := "fnNeeds", fn := fun _ => fun
  | [d] => { results := [.lit (.bool false)], args := [d] }
  | _ => none }
def FnNeedsWrongFalsely : Prop := fnNeedsRow.holds Try.pinned (OpenSpec.ofChange fnNeedsWrong)

/-- 'laws.FnLength': WHATEVER THE INPUT: true; the input reads as it did. -/
def fnLengthSpec : ChangeSpec := { name := "fnLength", fn := fun _ => fun
  | [d1, d2] => { results := [.lit (.bool true)], args := [d1, d2] }
  | _ => none }
def fnLengthRow : OpenClaim := { program := "ytpkcfdbgndpkeaa", sum := "db84ea33c0e95918ef91484761a563574ad7670472463b47bf68f0bb91edea38", func := "loop.example/cableship/laws.FnLength", spec := "fnLength", unfollowed := true, recurses := true, apart := false }
def FnLengthSaid : Prop := fnLengthRow.holds Try.pinned (OpenSpec.ofChange fnLengthSpec)

/-- ITS FALSE NEIGHBOUR: 'it returns false'. Refute it at one input. -/
def fnLengthWrong : ChangeSpec := { name := "fnLength", fn := fun _ => fun
  | [d1, d2] => { results := [.lit (.bool false)], args := [d1, d2] }
  | _ => none }
def FnLengthWrongFalsely : Prop := fnLengthRow.holds Try.pinned (OpenSpec.ofChange fnLengthWrong)

/-- 'laws.FnDeepest': WHATEVER THE INPUT: true; the input reads as it did. -/
def fnDeepestSpec : ChangeSpec := { name := "fnDeepest", fn := fun _ => fun
  | [d] => { results := [.lit (.bool true)], args := [d] }
  | _ => none }
def fnDeepestRow : OpenClaim := { program := "ytpkcfdbgndpkeaa", sum := "db84ea33c0e95918ef91484761a563574ad7670472463b47bf68f0bb91edea38", func := "loop.example/cableship/laws.FnDeepest", spec := "fnDeepest", unfollowed := true, recurses := true, apart := false }
def FnDeepestSaid : Prop := fnDeepestRow.holds Try.pinned (OpenSpec.ofChange fnDeepestSpec)

/-- ITS FALSE NEIGHBOUR: 'it returns false'. Refute it at one input. -/
def fnDeepestWrong : ChangeSpec := { name := "fnDeepest", fn := fun _ => fun
  | [d] => { results := [.lit (.bool false)], args := [d] }
  | _ => none }
def FnDeepestWrongFalsely : Prop := fnDeepestRow.holds Try.pinned (OpenSpec.ofChange fnDeepestWrong)

/-- 'laws.FnSteepest': WHATEVER THE INPUT: true; the input reads as it did. -/
def fnSteepestSpec : ChangeSpec := { name := "fnSteepest", fn := fun _ => fun
  | [d] => { results := [.lit (.bool true)], args := [d] }
  | _ => none }
def fnSteepestRow : OpenClaim := { program := "ytpkcfdbgndpkeaa", sum := "db84ea33c0e95918ef91484761a563574ad7670472463b47bf68f0bb91edea38", func := "loop.example/cableship/laws.FnSteepest", spec := "fnSteepest", unfollowed := true, recurses := true, apart := false }
def FnSteepestSaid : Prop := fnSteepestRow.holds Try.pinned (OpenSpec.ofChange fnSteepestSpec)

/-- ITS FALSE NEIGHBOUR: 'it returns false'. Refute it at one input. -/
def fnSteepestWrong : ChangeSpec := { name := "fnSteepest", fn := fun _ => fun
  | [d] => { results := [.lit (.bool false)], args := [d] }
  | _ => none }
def FnSteepestWrongFalsely : Prop := fnSteepestRow.holds Try.pinned (OpenSpec.ofChange fnSteepestWrong)

/-- 'laws.FnHangs': WHATEVER THE INPUT: true; the input reads as it did. -/
def fnHangsSpec : ChangeSpec := { name := "fnHangs", fn := fun _ => fun
  | [d] => { results := [.lit (.bool true)], args := [d] }
  | _ => none }
def fnHangsRow : OpenClaim := { program := "ytpkcfdbgndpkeaa", sum := "db84ea33c0e95918ef91484761a563574ad7670472463b47bf68f0bb91edea38", func := "loop.example/cableship/laws.FnHangs", spec := "fnHangs", unfollowed := true, recurses := true, apart := false }
def FnHangsSaid : Prop := fnHangsRow.holds Try.pinned (OpenSpec.ofChange fnHangsSpec)

/-- ITS FALSE NEIGHBOUR: 'it returns false'. Refute it at one input. -/
def fnHangsWrong : ChangeSpec := { name := "fnHangs", fn := fun _ => fun
  | [d] => { results := [.lit (.bool false)], args := [d] }
  | _ => none }
def FnHangsWrongFalsely : Prop := fnHangsRow.holds Try.pinned (OpenSpec.ofChange fnHangsWrong)

/-- 'laws.FnReach': WHATEVER THE INPUT: true; the input reads as it did. -/
def fnReachSpec : ChangeSpec := { name := "fnReach", fn := fun _ => fun
  | [d] => { results := [.lit (.bool true)], args := [d] }
  | _ => none }
def fnReachRow : OpenClaim := { program := "ytpkcfdbgndpkeaa", sum := "db84ea33c0e95918ef91484761a563574ad7670472463b47bf68f0bb91edea38", func := "loop.example/cableship/laws.FnReach", spec := "fnReach", unfollowed := true, recurses := true, apart := false }
def FnReachSaid : Prop := fnReachRow.holds Try.pinned (OpenSpec.ofChange fnReachSpec)

/-- ITS FALSE NEIGHBOUR: 'it returns false'. Refute it at one input. -/
def fnReachWrong : ChangeSpec := { name := "fnReach", fn := fun _ => fun
  | [d] => { results := [.lit (.bool false)], args := [d] }
  | _ => none }
def FnReachWrongFalsely : Prop := fnReachRow.holds Try.pinned (OpenSpec.ofChange fnReachWrong)

/-- 'laws.FnExactFloorValid': WHATEVER THE INPUT: true; the input reads as it did. -/
def fnExactFloorValidSpec : ChangeSpec := { name := "fnExactFloorValid", fn := fun _ => fun
  | [d] => { results := [.lit (.bool true)], args := [d] }
  | _ => none }
def fnExactFloorValidRow : OpenClaim := { program := "ytpkcfdbgndpkeaa", sum := "db84ea33c0e95918ef91484761a563574ad7670472463b47bf68f0bb91edea38", func := "loop.example/cableship/laws.FnExactFloorValid", spec := "fnExactFloorValid", apart := false }
def FnExactFloorValidSaid : Prop := fnExactFloorValidRow.holds Try.pinned (OpenSpec.ofChange fnExactFloorValidSpec)

/-- ITS FALSE NEIGHBOUR: 'it returns false'. Refute it at one input. -/
def fnExactFloorValidWrong : ChangeSpec := { name := "fnExactFloorValid", fn := fun _ => fun
  | [d] => { results := [.lit (.bool false)], args := [d] }
  | _ => none }
def FnExactFloorValidWrongFalsely : Prop := fnExactFloorValidRow.holds Try.pinned (OpenSpec.ofChange fnExactFloorValidWrong)

/-- 'laws.FnExactFloorNeeds': WHATEVER THE INPUT: true; the input reads as it did. -/
def fnExactFloorNeedsSpec : ChangeSpec := { name := "fnExactFloorNeeds", fn := fun _ => fun
  | [d] => { results := [.lit (.bool true)], args := [d] }
  | _ => none }
def fnExactFloorNeedsRow : OpenClaim := { program := "ytpkcfdbgndpkeaa", sum := "db84ea33c0e95918ef91484761a563574ad7670472463b47bf68f0bb91edea38", func := "loop.example/cableship/laws.FnExactFloorNeeds", spec := "fnExactFloorNeeds", unfollowed := true, recurses := true, apart := false }
def FnExactFloorNeedsSaid : Prop := fnExactFloorNeedsRow.holds Try.pinned (OpenSpec.ofChange fnExactFloorNeedsSpec)

/-- ITS FALSE NEIGHBOUR: 'it returns false'. Refute it at one input. -/
def fnExactFloorNeedsWrong : ChangeSpec := { name := "fnExactFloorNeeds", fn := fun _ => fun
  | [d] => { results := [.lit (.bool false)], args := [d] }
  | _ => none }
def FnExactFloorNeedsWrongFalsely : Prop := fnExactFloorNeedsRow.holds Try.pinned (OpenSpec.ofChange fnExactFloorNeedsWrong)

/-- 'laws.FnExactFloorLength': WHATEVER THE INPUT: true; the input reads as it did. -/
def fnExactFloorLengthSpec : ChangeSpec := { name := "fnExactFloorLength", fn := fun _ => fun
  | [d1, d2, d3] => { results := [.lit (.bool true)], args := [d1, d2, d3] }
  | _ => none }
def fnExactFloorLengthRow : OpenClaim := { program := "ytpkcfdbgndpkeaa", sum := "db84ea33c0e95918ef91484761a563574ad7670472463b47bf68f0bb91edea38", func := "loop.example/cableship/laws.FnExactFloorLength", spec := "fnExactFloorLength", unfollowed := true, recurses := true, apart := false }
def FnExactFloorLengthSaid : Prop := fnExactFloorLengthRow.holds Try.pinned (OpenSpec.ofChange fnExactFloorLengthSpec)

/-- ITS FALSE NEIGHBOUR: 'it returns false'. Refute it at one input. -/
def fnExactFloorLengthWrong : ChangeSpec := { name := "fnExactFloorLength", fn := fun _ => fun
  | [d1, d2, d3] => { results := [.lit (.bool false)], args := [d1, d2, d3] }
  | _ => none }
def FnExactFloorLengthWrongFalsely : Prop := fnExactFloorLengthRow.holds Try.pinned (OpenSpec.ofChange fnExactFloorLengthWrong)

/-- 'laws.FnExactFloorPart': WHATEVER THE INPUT: true; the input reads as it did. -/
def fnExactFloorPartSpec : ChangeSpec := { name := "fnExactFloorPart", fn := fun _ => fun
  | [d1, d2, d3] => { results := [.lit (.bool true)], args := [d1, d2, d3] }
  | _ => none }
def fnExactFloorPartRow : OpenClaim := { program := "ytpkcfdbgndpkeaa", sum := "db84ea33c0e95918ef91484761a563574ad7670472463b47bf68f0bb91edea38", func := "loop.example/cableship/laws.FnExactFloorPart", spec := "fnExactFloorPart", apart := false }
def FnExactFloorPartSaid : Prop := fnExactFloorPartRow.holds Try.pinned (OpenSpec.ofChange fnExactFloorPartSpec)

/-- ITS FALSE NEIGHBOUR: 'it returns false'. Refute it at one input. -/
def fnExactFloorPartWrong : ChangeSpec := { name := "fnExactFloorPart", fn := fun _ => fun
  | [d1, d2, d3] => { results := [.lit (.bool false)], args := [d1, d2, d3] }
  | _ => none }
def FnExactFloorPartWrongFalsely : Prop := fnExactFloorPartRow.holds Try.pinned (OpenSpec.ofChange fnExactFloorPartWrong)

/-- 'laws.FnExactFloorJoin': WHATEVER THE INPUT: true; the input reads as it did. -/
def fnExactFloorJoinSpec : ChangeSpec := { name := "fnExactFloorJoin", fn := fun _ => fun
  | [d1, d2] => { results := [.lit (.bool true)], args := [d1, d2] }
  | _ => none }
def fnExactFloorJoinRow : OpenClaim := { program := "ytpkcfdbgndpkeaa", sum := "db84ea33c0e95918ef91484761a563574ad7670472463b47bf68f0bb91edea38", func := "loop.example/cableship/laws.FnExactFloorJoin", spec := "fnExactFloorJoin", apart := false }
def FnExactFloorJoinSaid : Prop := fnExactFloorJoinRow.holds Try.pinned (OpenSpec.ofChange fnExactFloorJoinSpec)

/-- ITS FALSE NEIGHBOUR: 'it returns false'. Refute it at one input. -/
def fnExactFloorJoinWrong : ChangeSpec := { name := "fnExactFloorJoin", fn := fun _ => fun
  | [d1, d2] => { results := [.lit (.bool false)], args := [d1, d2] }
  | _ => none }
def FnExactFloorJoinWrongFalsely : Prop := fnExactFloorJoinRow.holds Try.pinned (OpenSpec.ofChange fnExactFloorJoinWrong)

/-- 'laws.FnExactFloorBack': WHATEVER THE INPUT: true; the input reads as it did. -/
def fnExactFloorBackSpec : ChangeSpec := { name := "fnExactFloorBack", fn := fun _ => fun
  | [d] => { results := [.lit (.bool true)], args := [d] }
  | _ => none }
def fnExactFloorBackRow : OpenClaim := { program := "ytpkcfdbgndpkeaa", sum := "db84ea33c0e95918ef91484761a563574ad7670472463b47bf68f0bb91edea38", func := "loop.example/cableship/laws.FnExactFloorBack", spec := "fnExactFloorBack", apart := false }
def FnExactFloorBackSaid : Prop := fnExactFloorBackRow.holds Try.pinned (OpenSpec.ofChange fnExactFloorBackSpec)

/-- ITS FALSE NEIGHBOUR: 'it returns false'. Refute it at one input. -/
def fnExactFloorBackWrong : ChangeSpec := { name := "fnExactFloorBack", fn := fun _ => fun
  | [d] => { results := [.lit (.bool false)], args := [d] }
  | _ => none }
def FnExactFloorBackWrongFalsely : Prop := fnExactFloorBackRow.holds Try.pinned (OpenSpec.ofChange fnExactFloorBackWrong)

/- THE SECOND FORM. 'bulk': how many values and letters a reading holds, each counted each time it is reached (what is shared counts as often as it is met; a slice's spare places count too). A statement '..UptoSaid' is the law's where the arguments, and the package variables that the reading takes, are together of bulk at most 1048576: NARROWER than '..Said'. Prove '..Said' where nothing that the law and all that it calls make is longer than what came in: it says more and counts as full. Else prove '..UptoSaid'. A law counts once. -/
mutual
def uptoBulk {H : Type} : DataW H → Nat
  | .lit (.string bytes) => bytes.length + 1
  | .lit _ => 1
  | .nil => 1
  | .ptr d => uptoBulk d + 1
  | .slice elems spare => uptoBulkAll elems + uptoBulkAll spare + 1
  | .agg parts => uptoBulkAll parts + 1
  | .iface _ d => uptoBulk d + 1
  | .map entries => uptoBulkEntries entries + 1
  | .held _ => 1
def uptoBulkAll {H : Type} : List (DataW H) → Nat
  | [] => 0
  | d :: r => uptoBulk d + uptoBulkAll r
def uptoBulkEntries {H : Type} : List (Lit × DataW H) → Nat
  | [] => 0
  | x :: r => uptoBulkEntry x + uptoBulkEntries r
def uptoBulkEntry {H : Type} : Lit × DataW H → Nat
  | (.string bytes, d) => bytes.length + uptoBulk d + 1
  | (_, d) => uptoBulk d + 1
 end
def uptoSmall : (H : Type) → List (DataW H) → Bool := fun _ ds => decide (uptoBulkAll ds ≤ 1048576)
def OpenSpec.upto (s : _root_.Go.ChangeSpec) : _root_.Go.OpenSpec := { _root_.Go.OpenSpec.ofChange s with cond := some uptoSmall }

/-- 'laws.FnNeeds', WHERE WHAT IT READS IS OF BULK AT MOST 1048576: true; the input reads as it did. -/
def fnNeedsUptoRow : OpenClaim := { program := "ytpkcfdbgndpkeaa", sum := "db84ea33c0e95918ef91484761a563574ad7670472463b47bf68f0bb91edea38", func := "loop.example/cableship/laws.FnNeeds", spec := "fnNeeds", unfollowed := true, recurses := true, apart := false, narrowed := true }
def FnNeedsUptoSaid : Prop := fnNeedsUptoRow.holds Try.pinned (OpenSpec.upto fnNeedsSpec)

/-- 'laws.FnLength', WHERE WHAT IT READS IS OF BULK AT MOST 1048576: true; the input reads as it did. -/
def fnLengthUptoRow : OpenClaim := { program := "ytpkcfdbgndpkeaa", sum := "db84ea33c0e95918ef91484761a563574ad7670472463b47bf68f0bb91edea38", func := "loop.example/cableship/laws.FnLength", spec := "fnLength", unfollowed := true, recurses := true, apart := false, narrowed := true }
def FnLengthUptoSaid : Prop := fnLengthUptoRow.holds Try.pinned (OpenSpec.upto fnLengthSpec)

/-- 'laws.FnDeepest', WHERE WHAT IT READS IS OF BULK AT MOST 1048576: true; the input reads as it did. -/
def fnDeepestUptoRow : OpenClaim := { program := "ytpkcfdbgndpkeaa", sum := "db84ea33c0e95918ef91484761a563574ad7670472463b47bf68f0bb91edea38", func := "loop.example/cableship/laws.FnDeepest", spec := "fnDeepest", unfollowed := true, recurses := true, apart := false, narrowed := true }
def FnDeepestUptoSaid : Prop := fnDeepestUptoRow.holds Try.pinned (OpenSpec.upto fnDeepestSpec)

/-- 'laws.FnSteepest', WHERE WHAT IT READS IS OF BULK AT MOST 1048576: true; the input reads as it did. -/
def fnSteepestUptoRow : OpenClaim := { program := "ytpkcfdbgndpkeaa", sum := "db84ea33c0e95918ef91484761a563574ad7670472463b47bf68f0bb91edea38", func := "loop.example/cableship/laws.FnSteepest", spec := "fnSteepest", unfollowed := true, recurses := true, apart := false, narrowed := true }
def FnSteepestUptoSaid : Prop := fnSteepestUptoRow.holds Try.pinned (OpenSpec.upto fnSteepestSpec)

/-- 'laws.FnHangs', WHERE WHAT IT READS IS OF BULK AT MOST 1048576: true; the input reads as it did. -/
def fnHangsUptoRow : OpenClaim := { program := "ytpkcfdbgndpkeaa", sum := "db84ea33c0e95918ef91484761a563574ad7670472463b47bf68f0bb91edea38", func := "loop.example/cableship/laws.FnHangs", spec := "fnHangs", unfollowed := true, recurses := true, apart := false, narrowed := true }
def FnHangsUptoSaid : Prop := fnHangsUptoRow.holds Try.pinned (OpenSpec.upto fnHangsSpec)

/-- 'laws.FnReach', WHERE WHAT IT READS IS OF BULK AT MOST 1048576: true; the input reads as it did. -/
def fnReachUptoRow : OpenClaim := { program := "ytpkcfdbgndpkeaa", sum := "db84ea33c0e95918ef91484761a563574ad7670472463b47bf68f0bb91edea38", func := "loop.example/cableship/laws.FnReach", spec := "fnReach", unfollowed := true, recurses := true, apart := false, narrowed := true }
def FnReachUptoSaid : Prop := fnReachUptoRow.holds Try.pinned (OpenSpec.upto fnReachSpec)

/-- 'laws.FnExactFloorValid', WHERE WHAT IT READS IS OF BULK AT MOST 1048576: true; the input reads as it did. -/
def fnExactFloorValidUptoRow : OpenClaim := { program := "ytpkcfdbgndpkeaa", sum := "db84ea33c0e95918ef91484761a563574ad7670472463b47bf68f0bb91edea38", func := "loop.example/cableship/laws.FnExactFloorValid", spec := "fnExactFloorValid", apart := false, narrowed := true }
def FnExactFloorValidUptoSaid : Prop := fnExactFloorValidUptoRow.holds Try.pinned (OpenSpec.upto fnExactFloorValidSpec)

/-- 'laws.FnExactFloorNeeds', WHERE WHAT IT READS IS OF BULK AT MOST 1048576: true; the input reads as it did. -/
def fnExactFloorNeedsUptoRow : OpenClaim := { program := "ytpkcfdbgndpkeaa", sum := "db84ea33c0e95918ef91484761a563574ad7670472463b47bf68f0bb91edea38", func := "loop.example/cableship/laws.FnExactFloorNeeds", spec := "fnExactFloorNeeds", unfollowed := true, recurses := true, apart := false, narrowed := true }
def FnExactFloorNeedsUptoSaid : Prop := fnExactFloorNeedsUptoRow.holds Try.pinned (OpenSpec.upto fnExactFloorNeedsSpec)

/-- 'laws.FnExactFloorLength', WHERE WHAT IT READS IS OF BULK AT MOST 1048576: true; the input reads as it did. -/
def fnExactFloorLengthUptoRow : OpenClaim := { program := "ytpkcfdbgndpkeaa", sum := "db84ea33c0e95918ef91484761a563574ad7670472463b47bf68f0bb91edea38", func := "loop.example/cableship/laws.FnExactFloorLength", spec := "fnExactFloorLength", unfollowed := true, recurses := true, apart := false, narrowed := true }
def FnExactFloorLengthUptoSaid : Prop := fnExactFloorLengthUptoRow.holds Try.pinned (OpenSpec.upto fnExactFloorLengthSpec)

/-- 'laws.FnExactFloorPart', WHERE WHAT IT READS IS OF BULK AT MOST 1048576: true; the input reads as it did. -/
def fnExactFloorPartUptoRow : OpenClaim := { program := "ytpkcfdbgndpkeaa", sum := "db84ea33c0e95918ef91484761a563574ad7670472463b47bf68f0bb91edea38", func := "loop.example/cableship/laws.FnExactFloorPart", spec := "fnExactFloorPart", apart := false, narrowed := true }
def FnExactFloorPartUptoSaid : Prop := fnExactFloorPartUptoRow.holds Try.pinned (OpenSpec.upto fnExactFloorPartSpec)

/-- 'laws.FnExactFloorJoin', WHERE WHAT IT READS IS OF BULK AT MOST 1048576: true; the input reads as it did. -/
def fnExactFloorJoinUptoRow : OpenClaim := { program := "ytpkcfdbgndpkeaa", sum := "db84ea33c0e95918ef91484761a563574ad7670472463b47bf68f0bb91edea38", func := "loop.example/cableship/laws.FnExactFloorJoin", spec := "fnExactFloorJoin", apart := false, narrowed := true }
def FnExactFloorJoinUptoSaid : Prop := fnExactFloorJoinUptoRow.holds Try.pinned (OpenSpec.upto fnExactFloorJoinSpec)

/-- 'laws.FnExactFloorBack', WHERE WHAT IT READS IS OF BULK AT MOST 1048576: true; the input reads as it did. -/
def fnExactFloorBackUptoRow : OpenClaim := { program := "ytpkcfdbgndpkeaa", sum := "db84ea33c0e95918ef91484761a563574ad7670472463b47bf68f0bb91edea38", func := "loop.example/cableship/laws.FnExactFloorBack", spec := "fnExactFloorBack", apart := false, narrowed := true }
def FnExactFloorBackUptoSaid : Prop := fnExactFloorBackUptoRow.holds Try.pinned (OpenSpec.upto fnExactFloorBackSpec)

end Rows
end Go.Proofs.Ytpkcfdbgndpkeaa
