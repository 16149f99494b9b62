/-
  No cell of these rows narrows 'for every input' (looked for: loops, veiled, ifaces, maps, wideKeys, modest, calm, conditions, laid).
  DERIVED. THE GIVEN ROWS OF THIS SEAT. 16 by the template 'for every input the law returns true; each argument reads behind the call as it read before'; 0 by the template 'total and deterministic' (their statements: YtndpdoiomoefpaaTotals.lean).
  GIVEN WITH THE SEED: the statements are not yours to turn. If you find one false, say at which input.
  Laid BY PROGRAM, IN A SANDBOX (cutbox-rows.mjs): the forced cells as the released guide's own fill.sh prints them over the translation 693eee841bbec22f… (all of the seat's roots in one cut). By AI agents, Wed Nov 11 2026. No macro, syntax, notation, axiom, sorry.
-/
import Derived.Test.YtndpdoiomoefpaaChecked
import GoSem.Claim
import GoSem.ClaimJoined
import GoSem.ClaimMapViews
import Derived.JoinedTies
import Derived.KernelRfl
namespace Go.Proofs.Ytndpdoiomoefpaa
/- THE CELL 'sum', in the pinned program and in every row, IS THE sha256 OF THE DUMP (.gsa) THAT YtndpdoiomoefpaaProg.lean LOADS. Nothing in Lean hashes anything: it is a label: what it is worth is what the hold of that sum in a sandbox is worth. -/
noncomputable def Try.pinned : Pinned := { name := "ytndpdoiomoefpaa", sum := "693eee841bbec22f9df0cbd302444997506570fab9ab41f82679f7b463f7f382", checked := Try.checked }
namespace Rows
def none {H : Type} : Left H := { results := [], args := [] }

/-- 'laws.FnPart': WHATEVER THE INPUT: true; the input reads as it did. -/
def fnPartSpec : ChangeSpec := { name := "fnPart", fn := fun _ => fun
  | [d1, d2] => { results := [.lit (.bool true)], args := [d1, d2] }
  | _ => none }
def fnPartRow : OpenClaim := { program := "ytndpdoiomoefpaa", sum := "693eee841bbec22f9df0cbd302444997506570fab9ab41f82679f7b463f7f382", func := "loop.example/cableship/laws.FnPart", spec := "fnPart", unfollowed := true, recurses := true, apart := false }
def FnPartSaid : Prop := fnPartRow.holds Try.pinned (OpenSpec.ofChange fnPartSpec)

/-- ITS FALSE NEIGHBOUR: 'it returns false'. Refute it at one input. -/
def fnPartWrong : ChangeSpec := { name := "fnPart", fn := fun _ => fun
  | [d1, d2] => { results := [.lit (.bool false)], args := [d1, d2] }
  | _ => none }
def FnPartWrongFalsely : Prop := fnPartRow.holds Try.pinned (OpenSpec.ofChange fnPartWrong)

/-- 'laws.FnJoin': WHATEVER THE INPUT: true; the input reads as it did. -/
def fnJoinSpec : ChangeSpec := { name := "fnJoin", fn := fun _ => fun
  | [d] => { results := [.lit (.bool true)], args := [d] }
  | _ => none }
def fnJoinRow : OpenClaim := { program := "ytndpdoiomoefpaa", sum := "693eee841bbec22f9df0cbd302444997506570fab9ab41f82679f7b463f7f382", func := "loop.example/cableship/laws.FnJoin", spec := "fnJoin", unfollowed := true, recurses := true, apart := false }
def FnJoinSaid : Prop := fnJoinRow.holds Try.pinned (OpenSpec.ofChange fnJoinSpec)

/-- ITS FALSE NEIGHBOUR: 'it returns false'. Refute it at one input. -/
def fnJoinWrong : ChangeSpec := { name := "fnJoin", fn := fun _ => fun
  | [d] => { results := [.lit (.bool false)], args := [d] }
  | _ => none }
def FnJoinWrongFalsely : Prop := fnJoinRow.holds Try.pinned (OpenSpec.ofChange fnJoinWrong)

/-- 'laws.FnBack': WHATEVER THE INPUT: true; the input reads as it did. -/
def fnBackSpec : ChangeSpec := { name := "fnBack", fn := fun _ => fun
  | [d] => { results := [.lit (.bool true)], args := [d] }
  | _ => none }
def fnBackRow : OpenClaim := { program := "ytndpdoiomoefpaa", sum := "693eee841bbec22f9df0cbd302444997506570fab9ab41f82679f7b463f7f382", func := "loop.example/cableship/laws.FnBack", spec := "fnBack", unfollowed := true, recurses := true, apart := false }
def FnBackSaid : Prop := fnBackRow.holds Try.pinned (OpenSpec.ofChange fnBackSpec)

/-- ITS FALSE NEIGHBOUR: 'it returns false'. Refute it at one input. -/
def fnBackWrong : ChangeSpec := { name := "fnBack", fn := fun _ => fun
  | [d] => { results := [.lit (.bool false)], args := [d] }
  | _ => none }
def FnBackWrongFalsely : Prop := fnBackRow.holds Try.pinned (OpenSpec.ofChange fnBackWrong)

/-- 'laws.FnPay': WHATEVER THE INPUT: true; the input reads as it did. -/
def fnPaySpec : ChangeSpec := { name := "fnPay", fn := fun _ => fun
  | [d1, d2] => { results := [.lit (.bool true)], args := [d1, d2] }
  | _ => none }
def fnPayRow : OpenClaim := { program := "ytndpdoiomoefpaa", sum := "693eee841bbec22f9df0cbd302444997506570fab9ab41f82679f7b463f7f382", func := "loop.example/cableship/laws.FnPay", spec := "fnPay", unfollowed := true, recurses := true, apart := false }
def FnPaySaid : Prop := fnPayRow.holds Try.pinned (OpenSpec.ofChange fnPaySpec)

/-- ITS FALSE NEIGHBOUR: 'it returns false'. Refute it at one input. -/
def fnPayWrong : ChangeSpec := { name := "fnPay", fn := fun _ => fun
  | [d1, d2] => { results := [.lit (.bool false)], args := [d1, d2] }
  | _ => none }
def FnPayWrongFalsely : Prop := fnPayRow.holds Try.pinned (OpenSpec.ofChange fnPayWrong)

/-- 'laws.FnSlack': WHATEVER THE INPUT: true; the input reads as it did. -/
def fnSlackSpec : ChangeSpec := { name := "fnSlack", fn := fun _ => fun
  | [d] => { results := [.lit (.bool true)], args := [d] }
  | _ => none }
def fnSlackRow : OpenClaim := { program := "ytndpdoiomoefpaa", sum := "693eee841bbec22f9df0cbd302444997506570fab9ab41f82679f7b463f7f382", func := "loop.example/cableship/laws.FnSlack", spec := "fnSlack", unfollowed := true, recurses := true, apart := false }
def FnSlackSaid : Prop := fnSlackRow.holds Try.pinned (OpenSpec.ofChange fnSlackSpec)

/-- ITS FALSE NEIGHBOUR: 'it returns false'. Refute it at one input. -/
def fnSlackWrong : ChangeSpec := { name := "fnSlack", fn := fun _ => fun
  | [d] => { results := [.lit (.bool false)], args := [d] }
  | _ => none }
def FnSlackWrongFalsely : Prop := fnSlackRow.holds Try.pinned (OpenSpec.ofChange fnSlackWrong)

/-- 'laws.FnLevel': WHATEVER THE INPUT: true; the input reads as it did. -/
def fnLevelSpec : ChangeSpec := { name := "fnLevel", fn := fun _ => fun
  | [d] => { results := [.lit (.bool true)], args := [d] }
  | _ => none }
def fnLevelRow : OpenClaim := { program := "ytndpdoiomoefpaa", sum := "693eee841bbec22f9df0cbd302444997506570fab9ab41f82679f7b463f7f382", func := "loop.example/cableship/laws.FnLevel", spec := "fnLevel", unfollowed := true, recurses := true, apart := false }
def FnLevelSaid : Prop := fnLevelRow.holds Try.pinned (OpenSpec.ofChange fnLevelSpec)

/-- ITS FALSE NEIGHBOUR: 'it returns false'. Refute it at one input. -/
def fnLevelWrong : ChangeSpec := { name := "fnLevel", fn := fun _ => fun
  | [d] => { results := [.lit (.bool false)], args := [d] }
  | _ => none }
def FnLevelWrongFalsely : Prop := fnLevelRow.holds Try.pinned (OpenSpec.ofChange fnLevelWrong)

/-- 'laws.FnCarry': WHATEVER THE INPUT: true; the input reads as it did. -/
def fnCarrySpec : ChangeSpec := { name := "fnCarry", fn := fun _ => fun
  | [d] => { results := [.lit (.bool true)], args := [d] }
  | _ => none }
def fnCarryRow : OpenClaim := { program := "ytndpdoiomoefpaa", sum := "693eee841bbec22f9df0cbd302444997506570fab9ab41f82679f7b463f7f382", func := "loop.example/cableship/laws.FnCarry", spec := "fnCarry", unfollowed := true, recurses := true, apart := false }
def FnCarrySaid : Prop := fnCarryRow.holds Try.pinned (OpenSpec.ofChange fnCarrySpec)

/-- ITS FALSE NEIGHBOUR: 'it returns false'. Refute it at one input. -/
def fnCarryWrong : ChangeSpec := { name := "fnCarry", fn := fun _ => fun
  | [d] => { results := [.lit (.bool false)], args := [d] }
  | _ => none }
def FnCarryWrongFalsely : Prop := fnCarryRow.holds Try.pinned (OpenSpec.ofChange fnCarryWrong)

/-- 'laws.FnMiles': WHATEVER THE INPUT: true; the input reads as it did. -/
def fnMilesSpec : ChangeSpec := { name := "fnMiles", fn := fun _ => fun
  | [d] => { results := [.lit (.bool true)], args := [d] }
  | _ => none }
def fnMilesRow : OpenClaim := { program := "ytndpdoiomoefpaa", sum := "693eee841bbec22f9df0cbd302444997506570fab9ab41f82679f7b463f7f382", func := "loop.example/cableship/laws.FnMiles", spec := "fnMiles", apart := false }
def FnMilesSaid : Prop := fnMilesRow.holds Try.pinned (OpenSpec.ofChange fnMilesSpec)

/-- ITS FALSE NEIGHBOUR: 'it returns false'. Refute it at one input. -/
def fnMilesWrong : ChangeSpec := { name := "fnMiles", fn := fun _ => fun
  | [d] => { results := [.lit (.bool false)], args := [d] }
  | _ => none }
def FnMilesWrongFalsely : Prop := fnMilesRow.holds Try.pinned (OpenSpec.ofChange fnMilesWrong)

/-- 'laws.FnOhms': WHATEVER THE INPUT: true; the input reads as it did. -/
def fnOhmsSpec : ChangeSpec := { name := "fnOhms", fn := fun _ => fun
  | [d] => { results := [.lit (.bool true)], args := [d] }
  | _ => none }
def fnOhmsRow : OpenClaim := { program := "ytndpdoiomoefpaa", sum := "693eee841bbec22f9df0cbd302444997506570fab9ab41f82679f7b463f7f382", func := "loop.example/cableship/laws.FnOhms", spec := "fnOhms", apart := false }
def FnOhmsSaid : Prop := fnOhmsRow.holds Try.pinned (OpenSpec.ofChange fnOhmsSpec)

/-- ITS FALSE NEIGHBOUR: 'it returns false'. Refute it at one input. -/
def fnOhmsWrong : ChangeSpec := { name := "fnOhms", fn := fun _ => fun
  | [d] => { results := [.lit (.bool false)], args := [d] }
  | _ => none }
def FnOhmsWrongFalsely : Prop := fnOhmsRow.holds Try.pinned (OpenSpec.ofChange fnOhmsWrong)

/-- 'laws.FnAll': WHATEVER THE INPUT: true; the input reads as it did. -/
def fnAllSpec : ChangeSpec := { name := "fnAll", fn := fun _ => fun
  | [d] => { results := [.lit (.bool true)], args := [d] }
  | _ => none }
def fnAllRow : OpenClaim := { program := "ytndpdoiomoefpaa", sum := "693eee841bbec22f9df0cbd302444997506570fab9ab41f82679f7b463f7f382", func := "loop.example/cableship/laws.FnAll", spec := "fnAll", apart := false }
def FnAllSaid : Prop := fnAllRow.holds Try.pinned (OpenSpec.ofChange fnAllSpec)

/-- ITS FALSE NEIGHBOUR: 'it returns false'. Refute it at one input. -/
def fnAllWrong : ChangeSpec := { name := "fnAll", fn := fun _ => fun
  | [d] => { results := [.lit (.bool false)], args := [d] }
  | _ => none }
def FnAllWrongFalsely : Prop := fnAllRow.holds Try.pinned (OpenSpec.ofChange fnAllWrong)

/-- 'laws.FnKind': WHATEVER THE INPUT: true; the input reads as it did. -/
def fnKindSpec : ChangeSpec := { name := "fnKind", fn := fun _ => fun
  | [d] => { results := [.lit (.bool true)], args := [d] }
  | _ => none }
def fnKindRow : OpenClaim := { program := "ytndpdoiomoefpaa", sum := "693eee841bbec22f9df0cbd302444997506570fab9ab41f82679f7b463f7f382", func := "loop.example/cableship/laws.FnKind", spec := "fnKind", apart := false }
def FnKindSaid : Prop := fnKindRow.holds Try.pinned (OpenSpec.ofChange fnKindSpec)

/-- ITS FALSE NEIGHBOUR: 'it returns false'. Refute it at one input. -/
def fnKindWrong : ChangeSpec := { name := "fnKind", fn := fun _ => fun
  | [d] => { results := [.lit (.bool false)], args := [d] }
  | _ => none }
def FnKindWrongFalsely : Prop := fnKindRow.holds Try.pinned (OpenSpec.ofChange fnKindWrong)

/-- 'laws.FnPlain': WHATEVER THE INPUT: true; the input reads as it did. -/
def fnPlainSpec : ChangeSpec := { name := "fnPlain", fn := fun _ => fun
  | [d] => { results := [.lit (.bool true)], args := [d] }
  | _ => none }
def fnPlainRow : OpenClaim := { program := "ytndpdoiomoefpaa", sum := "693eee841bbec22f9df0cbd302444997506570fab9ab41f82679f7b463f7f382", func := "loop.example/cableship/laws.FnPlain", spec := "fnPlain", apart := false }
def FnPlainSaid : Prop := fnPlainRow.holds Try.pinned (OpenSpec.ofChange fnPlainSpec)

/-- ITS FALSE NEIGHBOUR: 'it returns false'. Refute it at one input. -/
def fnPlainWrong : ChangeSpec := { name := "fnPlain", fn := fun _ => fun
  | [d] => { results := [.lit (.bool false)], args := [d] }
  | _ => none }
def FnPlainWrongFalsely : Prop := fnPlainRow.holds Try.pinned (OpenSpec.ofChange fnPlainWrong)

/-- 'laws.FnCut': WHATEVER THE INPUT: true; the input reads as it did. -/
def fnCutSpec : ChangeSpec := { name := "fnCut", fn := fun _ => fun
  | [d] => { results := [.lit (.bool true)], args := [d] }
  | _ => none }
def fnCutRow : OpenClaim := { program := "ytndpdoiomoefpaa", sum := "693eee841bbec22f9df0cbd302444997506570fab9ab41f82679f7b463f7f382", func := "loop.example/cableship/laws.FnCut", spec := "fnCut", apart := false }
def FnCutSaid : Prop := fnCutRow.holds Try.pinned (OpenSpec.ofChange fnCutSpec)

/-- ITS FALSE NEIGHBOUR: 'it returns false'. Refute it at one input. -/
def fnCutWrong : ChangeSpec := { name := "fnCut", fn := fun _ => fun
  | [d] => { results := [.lit (.bool false)], args := [d] }
  | _ => none }
def FnCutWrongFalsely : Prop := fnCutRow.holds Try.pinned (OpenSpec.ofChange fnCutWrong)

/-- 'laws.FnSplice': WHATEVER THE INPUT: true; the input reads as it did. -/
def fnSpliceSpec : ChangeSpec := { name := "fnSplice", fn := fun _ => fun
  | [d] => { results := [.lit (.bool true)], args := [d] }
  | _ => none }
def fnSpliceRow : OpenClaim := { program := "ytndpdoiomoefpaa", sum := "693eee841bbec22f9df0cbd302444997506570fab9ab41f82679f7b463f7f382", func := "loop.example/cableship/laws.FnSplice", spec := "fnSplice", apart := false }
def FnSpliceSaid : Prop := fnSpliceRow.holds Try.pinned (OpenSpec.ofChange fnSpliceSpec)

/-- ITS FALSE NEIGHBOUR: 'it returns false'. Refute it at one input. -/
def fnSpliceWrong : ChangeSpec := { name := "fnSplice", fn := fun _ => fun
  | [d] => { results := [.lit (.bool false)], args := [d] }
  | _ => none }
def FnSpliceWrongFalsely : Prop := fnSpliceRow.holds Try.pinned (OpenSpec.ofChange fnSpliceWrong)

/-- 'laws.FnReplace': WHATEVER THE INPUT: true; the input reads as it did. -/
def fnReplaceSpec : ChangeSpec := { name := "fnReplace", fn := fun _ => fun
  | [d] => { results := [.lit (.bool true)], args := [d] }
  | _ => none }
def fnReplaceRow : OpenClaim := { program := "ytndpdoiomoefpaa", sum := "693eee841bbec22f9df0cbd302444997506570fab9ab41f82679f7b463f7f382", func := "loop.example/cableship/laws.FnReplace", spec := "fnReplace", apart := false }
def FnReplaceSaid : Prop := fnReplaceRow.holds Try.pinned (OpenSpec.ofChange fnReplaceSpec)

/-- ITS FALSE NEIGHBOUR: 'it returns false'. Refute it at one input. -/
def fnReplaceWrong : ChangeSpec := { name := "fnReplace", fn := fun _ => fun
  | [d] => { results := [.lit (.bool false)], args := [d] }
  | _ => none }
def FnReplaceWrongFalsely : Prop := fnReplaceRow.holds Try.pinned (OpenSpec.ofChange fnReplaceWrong)

/-- 'laws.FnCableBack': WHATEVER THE INPUT: true; the input reads as it did. -/
def fnCableBackSpec : ChangeSpec := { name := "fnCableBack", fn := fun _ => fun
  | [d] => { results := [.lit (.bool true)], args := [d] }
  | _ => none }
def fnCableBackRow : OpenClaim := { program := "ytndpdoiomoefpaa", sum := "693eee841bbec22f9df0cbd302444997506570fab9ab41f82679f7b463f7f382", func := "loop.example/cableship/laws.FnCableBack", spec := "fnCableBack", apart := false }
def FnCableBackSaid : Prop := fnCableBackRow.holds Try.pinned (OpenSpec.ofChange fnCableBackSpec)

/-- ITS FALSE NEIGHBOUR: 'it returns false'. Refute it at one input. -/
def fnCableBackWrong : ChangeSpec := { name := "fnCableBack", fn := fun _ => fun
  | [d] => { results := [.lit (.bool false)], args := [d] }
  | _ => none }
def FnCableBackWrongFalsely : Prop := fnCableBackRow.holds Try.pinned (OpenSpec.ofChange fnCableBackWrong)

/- THE SECOND FORM. 'bulk': how many values and letters a reading holds, each counted each time it is reached (what is shared counts as often as it is met; a slice's spare places count too). A statement '..UptoSaid' is the law's where the arguments, and the package variables that the reading takes, are together of bulk at most 1048576: NARROWER than '..Said'. Prove '..Said' where nothing that the law and all that it calls make is longer than what came in: it says more and counts as full. Else prove '..UptoSaid'. A law counts once. -/
mutual
def uptoBulk {H : Type} : DataW H → Nat
  | .lit (.string bytes) => bytes.length + 1
  | .lit _ => 1
  | .nil => 1
  | .ptr d => uptoBulk d + 1
  | .slice elems spare => uptoBulkAll elems + uptoBulkAll spare + 1
  | .agg parts => uptoBulkAll parts + 1
  | .iface _ d => uptoBulk d + 1
  | .map entries => uptoBulkEntries entries + 1
  | .held _ => 1
def uptoBulkAll {H : Type} : List (DataW H) → Nat
  | [] => 0
  | d :: r => uptoBulk d + uptoBulkAll r
def uptoBulkEntries {H : Type} : List (Lit × DataW H) → Nat
  | [] => 0
  | x :: r => uptoBulkEntry x + uptoBulkEntries r
def uptoBulkEntry {H : Type} : Lit × DataW H → Nat
  | (.string bytes, d) => bytes.length + uptoBulk d + 1
  | (_, d) => uptoBulk d + 1
 end
def uptoSmall : (H : Type) → List (DataW H) → Bool := fun _ ds => decide (uptoBulkAll ds ≤ 1048576)
def OpenSpec.upto (s : _root_.Go.ChangeSpec) : _root_.Go.OpenSpec := { _root_.Go.OpenSpec.ofChange s with cond := some uptoSmall }

/-- 'laws.FnPart', WHERE WHAT IT READS IS OF BULK AT MOST 1048576: true; the input reads as it did. -/
def fnPartUptoRow : OpenClaim := { program := "ytndpdoiomoefpaa", sum := "693eee841bbec22f9df0cbd302444997506570fab9ab41f82679f7b463f7f382", func := "loop.example/cableship/laws.FnPart", spec := "fnPart", unfollowed := true, recurses := true, apart := false, narrowed := true }
def FnPartUptoSaid : Prop := fnPartUptoRow.holds Try.pinned (OpenSpec.upto fnPartSpec)

/-- 'laws.FnJoin', WHERE WHAT IT READS IS OF BULK AT MOST 1048576: true; the input reads as it did. -/
def fnJoinUptoRow : OpenClaim := { program := "ytndpdoiomoefpaa", sum := "693eee841bbec22f9df0cbd302444997506570fab9ab41f82679f7b463f7f382", func := "loop.example/cableship/laws.FnJoin", spec := "fnJoin", unfollowed := true, recurses := true, apart := false, narrowed := true }
def FnJoinUptoSaid : Prop := fnJoinUptoRow.holds Try.pinned (OpenSpec.upto fnJoinSpec)

/-- 'laws.FnBack', WHERE WHAT IT READS IS OF BULK AT MOST 1048576: true; the input reads as it did. -/
def fnBackUptoRow : OpenClaim := { program := "ytndpdoiomoefpaa", sum := "693eee841bbec22f9df0cbd302444997506570fab9ab41f82679f7b463f7f382", func := "loop.example/cableship/laws.FnBack", spec := "fnBack", unfollowed := true, recurses := true, apart := false, narrowed := true }
def FnBackUptoSaid : Prop := fnBackUptoRow.holds Try.pinned (OpenSpec.upto fnBackSpec)

/-- 'laws.FnPay', WHERE WHAT IT READS IS OF BULK AT MOST 1048576: true; the input reads as it did. -/
def fnPayUptoRow : OpenClaim := { program := "ytndpdoiomoefpaa", sum := "693eee841bbec22f9df0cbd302444997506570fab9ab41f82679f7b463f7f382", func := "loop.example/cableship/laws.FnPay", spec := "fnPay", unfollowed := true, recurses := true, apart := false, narrowed := true }
def FnPayUptoSaid : Prop := fnPayUptoRow.holds Try.pinned (OpenSpec.upto fnPaySpec)

/-- 'laws.FnSlack', WHERE WHAT IT READS IS OF BULK AT MOST 1048576: true; the input reads as it did. -/
def fnSlackUptoRow : OpenClaim := { program := "ytndpdoiomoefpaa", sum := "693eee841bbec22f9df0cbd302444997506570fab9ab41f82679f7b463f7f382", func := "loop.example/cableship/laws.FnSlack", spec := "fnSlack", unfollowed := true, recurses := true, apart := false, narrowed := true }
def FnSlackUptoSaid : Prop := fnSlackUptoRow.holds Try.pinned (OpenSpec.upto fnSlackSpec)

/-- 'laws.FnLevel', WHERE WHAT IT READS IS OF BULK AT MOST 1048576: true; the input reads as it did. -/
def fnLevelUptoRow : OpenClaim := { program := "ytndpdoiomoefpaa", sum := "693eee841bbec22f9df0cbd302444997506570fab9ab41f82679f7b463f7f382", func := "loop.example/cableship/laws.FnLevel", spec := "fnLevel", unfollowed := true, recurses := true, apart := false, narrowed := true }
def FnLevelUptoSaid : Prop := fnLevelUptoRow.holds Try.pinned (OpenSpec.upto fnLevelSpec)

/-- 'laws.FnCarry', WHERE WHAT IT READS IS OF BULK AT MOST 1048576: true; the input reads as it did. -/
def fnCarryUptoRow : OpenClaim := { program := "ytndpdoiomoefpaa", sum := "693eee841bbec22f9df0cbd302444997506570fab9ab41f82679f7b463f7f382", func := "loop.example/cableship/laws.FnCarry", spec := "fnCarry", unfollowed := true, recurses := true, apart := false, narrowed := true }
def FnCarryUptoSaid : Prop := fnCarryUptoRow.holds Try.pinned (OpenSpec.upto fnCarrySpec)

/-- 'laws.FnMiles', WHERE WHAT IT READS IS OF BULK AT MOST 1048576: true; the input reads as it did. -/
def fnMilesUptoRow : OpenClaim := { program := "ytndpdoiomoefpaa", sum := "693eee841bbec22f9df0cbd302444997506570fab9ab41f82679f7b463f7f382", func := "loop.example/cableship/laws.FnMiles", spec := "fnMiles", apart := false, narrowed := true }
def FnMilesUptoSaid : Prop := fnMilesUptoRow.holds Try.pinned (OpenSpec.upto fnMilesSpec)

/-- 'laws.FnOhms', WHERE WHAT IT READS IS OF BULK AT MOST 1048576: true; the input reads as it did. -/
def fnOhmsUptoRow : OpenClaim := { program := "ytndpdoiomoefpaa", sum := "693eee841bbec22f9df0cbd302444997506570fab9ab41f82679f7b463f7f382", func := "loop.example/cableship/laws.FnOhms", spec := "fnOhms", apart := false, narrowed := true }
def FnOhmsUptoSaid : Prop := fnOhmsUptoRow.holds Try.pinned (OpenSpec.upto fnOhmsSpec)

/-- 'laws.FnAll', WHERE WHAT IT READS IS OF BULK AT MOST 1048576: true; the input reads as it did. -/
def fnAllUptoRow : OpenClaim := { program := "ytndpdoiomoefpaa", sum := "693eee841bbec22f9df0cbd302444997506570fab9ab41f82679f7b463f7f382", func := "loop.example/cableship/laws.FnAll", spec := "fnAll", apart := false, narrowed := true }
def FnAllUptoSaid : Prop := fnAllUptoRow.holds Try.pinned (OpenSpec.upto fnAllSpec)

/-- 'laws.FnKind', WHERE WHAT IT READS IS OF BULK AT MOST 1048576: true; the input reads as it did. -/
def fnKindUptoRow : OpenClaim := { program := "ytndpdoiomoefpaa", sum := "693eee841bbec22f9df0cbd302444997506570fab9ab41f82679f7b463f7f382", func := "loop.example/cableship/laws.FnKind", spec := "fnKind", apart := false, narrowed := true }
def FnKindUptoSaid : Prop := fnKindUptoRow.holds Try.pinned (OpenSpec.upto fnKindSpec)

/-- 'laws.FnPlain', WHERE WHAT IT READS IS OF BULK AT MOST 1048576: true; the input reads as it did. -/
def fnPlainUptoRow : OpenClaim := { program := "ytndpdoiomoefpaa", sum := "693eee841bbec22f9df0cbd302444997506570fab9ab41f82679f7b463f7f382", func := "loop.example/cableship/laws.FnPlain", spec := "fnPlain", apart := false, narrowed := true }
def FnPlainUptoSaid : Prop := fnPlainUptoRow.holds Try.pinned (OpenSpec.upto fnPlainSpec)

/-- 'laws.FnCut', WHERE WHAT IT READS IS OF BULK AT MOST 1048576: true; the input reads as it did. -/
def fnCutUptoRow : OpenClaim := { program := "ytndpdoiomoefpaa", sum := "693eee841bbec22f9df0cbd302444997506570fab9ab41f82679f7b463f7f382", func := "loop.example/cableship/laws.FnCut", spec := "fnCut", apart := false, narrowed := true }
def FnCutUptoSaid : Prop := fnCutUptoRow.holds Try.pinned (OpenSpec.upto fnCutSpec)

/-- 'laws.FnSplice', WHERE WHAT IT READS IS OF BULK AT MOST 1048576: true; the input reads as it did. -/
def fnSpliceUptoRow : OpenClaim := { program := "ytndpdoiomoefpaa", sum := "693eee841bbec22f9df0cbd302444997506570fab9ab41f82679f7b463f7f382", func := "loop.example/cableship/laws.FnSplice", spec := "fnSplice", apart := false, narrowed := true }
def FnSpliceUptoSaid : Prop := fnSpliceUptoRow.holds Try.pinned (OpenSpec.upto fnSpliceSpec)

/-- 'laws.FnReplace', WHERE WHAT IT READS IS OF BULK AT MOST 1048576: true; the input reads as it did. -/
def fnReplaceUptoRow : OpenClaim := { program := "ytndpdoiomoefpaa", sum := "693eee841bbec22f9df0cbd302444997506570fab9ab41f82679f7b463f7f382", func := "loop.example/cableship/laws.FnReplace", spec := "fnReplace", apart := false, narrowed := true }
def FnReplaceUptoSaid : Prop := fnReplaceUptoRow.holds Try.pinned (OpenSpec.upto fnReplaceSpec)

/-- 'laws.FnCableBack', WHERE WHAT IT READS IS OF BULK AT MOST 1048576: true; the input reads as it did. -/
def fnCableBackUptoRow : OpenClaim := { program := "ytndpdoiomoefpaa", sum := "693eee841bbec22f9df0cbd302444997506570fab9ab41f82679f7b463f7f382", func := "loop.example/cableship/laws.FnCableBack", spec := "fnCableBack", apart := false, narrowed := true }
def FnCableBackUptoSaid : Prop := fnCableBackUptoRow.holds Try.pinned (OpenSpec.upto fnCableBackSpec)

end Rows
end Go.Proofs.Ytndpdoiomoefpaa
