/-
  No cell of these rows narrows 'for every input' (looked for: loops, veiled, ifaces, maps, wideKeys, modest, calm, conditions, laid).
  DERIVED. THE GIVEN ROWS OF THIS SEAT. 14 by the template 'for every input the law returns true; each argument reads behind the call as it read before'; 0 by the template 'total and deterministic' (their statements: YtleagighkbmapaaTotals.lean).
  GIVEN WITH THE SEED: the statements are not yours to turn. If you find one false, say at which input.
  Laid BY PROGRAM, IN A SANDBOX (cutbox-rows.mjs): the forced cells as the released guide's own fill.sh prints them over the translation 80401152e27607a3… (all of the seat's roots in one cut). By AI agents, Wed Nov 11 2026. No macro, syntax, notation, axiom, sorry.
-/
import Derived.Test.YtleagighkbmapaaChecked
import GoSem.Claim
import GoSem.ClaimJoined
import GoSem.ClaimMapViews
import Derived.JoinedTies
import Derived.KernelRfl
namespace Go.Proofs.Ytleagighkbmapaa
/- THE CELL 'sum', in the pinned program and in every row, IS THE sha256 OF THE DUMP (.gsa) THAT YtleagighkbmapaaProg.lean LOADS. Nothing in Lean hashes anything: it is a label: what it is worth is what the hold of that sum in a sandbox is worth. -/
noncomputable def Try.pinned : Pinned := { name := "ytleagighkbmapaa", sum := "80401152e27607a316e88cd526dce583b68a2ef7f740a99fb79b3dabb5fde4e4", checked := Try.checked }
namespace Rows
def none {H : Type} : Left H := { results := [], args := [] }

/-- 'laws.FnFind': WHATEVER THE INPUT: true; the input reads as it did. -/
def fnFindSpec : ChangeSpec := { name := "fnFind", fn := fun _ => fun
  | [d] => { results := [.lit (.bool true)], args := [d] }
  | _ => none }
def fnFindRow : OpenClaim := { program := "ytleagighkbmapaa", sum := "80401152e27607a316e88cd526dce583b68a2ef7f740a99fb79b3dabb5fde4e4", func := "loop.example/cableship/laws.FnFind", spec := "fnFind", unfollowed := true, recurses := true, apart := false }
def FnFindSaid : Prop := fnFindRow.holds Try.pinned (OpenSpec.ofChange fnFindSpec)

/-- ITS FALSE NEIGHBOUR: 'it returns false'. Refute it at one input. -/
def fnFindWrong : ChangeSpec := { name := "fnFind", fn := fun _ => fun
  | [d] => { results := [.lit (.bool false)], args := [d] }
  | _ => none }
def FnFindWrongFalsely : Prop := fnFindRow.holds Try.pinned (OpenSpec.ofChange fnFindWrong)

/-- 'laws.FnExactFaultValid': WHATEVER THE INPUT: true; the input reads as it did. -/
def fnExactFaultValidSpec : ChangeSpec := { name := "fnExactFaultValid", fn := fun _ => fun
  | [d1, d2] => { results := [.lit (.bool true)], args := [d1, d2] }
  | _ => none }
def fnExactFaultValidRow : OpenClaim := { program := "ytleagighkbmapaa", sum := "80401152e27607a316e88cd526dce583b68a2ef7f740a99fb79b3dabb5fde4e4", func := "loop.example/cableship/laws.FnExactFaultValid", spec := "fnExactFaultValid", apart := false }
def FnExactFaultValidSaid : Prop := fnExactFaultValidRow.holds Try.pinned (OpenSpec.ofChange fnExactFaultValidSpec)

/-- ITS FALSE NEIGHBOUR: 'it returns false'. Refute it at one input. -/
def fnExactFaultValidWrong : ChangeSpec := { name := "fnExactFaultValid", fn := fun _ => fun
  | [d1, d2] => { results := [.lit (.bool false)], args := [d1, d2] }
  | _ => none }
def FnExactFaultValidWrongFalsely : Prop := fnExactFaultValidRow.holds Try.pinned (OpenSpec.ofChange fnExactFaultValidWrong)

/-- 'laws.FnExactFaultOpen': WHATEVER THE INPUT: true; the input reads as it did. -/
def fnExactFaultOpenSpec : ChangeSpec := { name := "fnExactFaultOpen", fn := fun _ => fun
  | [d1, d2] => { results := [.lit (.bool true)], args := [d1, d2] }
  | _ => none }
def fnExactFaultOpenRow : OpenClaim := { program := "ytleagighkbmapaa", sum := "80401152e27607a316e88cd526dce583b68a2ef7f740a99fb79b3dabb5fde4e4", func := "loop.example/cableship/laws.FnExactFaultOpen", spec := "fnExactFaultOpen", apart := false }
def FnExactFaultOpenSaid : Prop := fnExactFaultOpenRow.holds Try.pinned (OpenSpec.ofChange fnExactFaultOpenSpec)

/-- ITS FALSE NEIGHBOUR: 'it returns false'. Refute it at one input. -/
def fnExactFaultOpenWrong : ChangeSpec := { name := "fnExactFaultOpen", fn := fun _ => fun
  | [d1, d2] => { results := [.lit (.bool false)], args := [d1, d2] }
  | _ => none }
def FnExactFaultOpenWrongFalsely : Prop := fnExactFaultOpenRow.holds Try.pinned (OpenSpec.ofChange fnExactFaultOpenWrong)

/-- 'laws.FnExactRatioOf': WHATEVER THE INPUT: true; the input reads as it did. -/
def fnExactRatioOfSpec : ChangeSpec := { name := "fnExactRatioOf", fn := fun _ => fun
  | [d1, d2] => { results := [.lit (.bool true)], args := [d1, d2] }
  | _ => none }
def fnExactRatioOfRow : OpenClaim := { program := "ytleagighkbmapaa", sum := "80401152e27607a316e88cd526dce583b68a2ef7f740a99fb79b3dabb5fde4e4", func := "loop.example/cableship/laws.FnExactRatioOf", spec := "fnExactRatioOf", apart := false }
def FnExactRatioOfSaid : Prop := fnExactRatioOfRow.holds Try.pinned (OpenSpec.ofChange fnExactRatioOfSpec)

/-- ITS FALSE NEIGHBOUR: 'it returns false'. Refute it at one input. -/
def fnExactRatioOfWrong : ChangeSpec := { name := "fnExactRatioOf", fn := fun _ => fun
  | [d1, d2] => { results := [.lit (.bool false)], args := [d1, d2] }
  | _ => none }
def FnExactRatioOfWrongFalsely : Prop := fnExactRatioOfRow.holds Try.pinned (OpenSpec.ofChange fnExactRatioOfWrong)

/-- 'laws.FnExactFaultEarthed': WHATEVER THE INPUT: true; the input reads as it did. -/
def fnExactFaultEarthedSpec : ChangeSpec := { name := "fnExactFaultEarthed", fn := fun _ => fun
  | [d1, d2] => { results := [.lit (.bool true)], args := [d1, d2] }
  | _ => none }
def fnExactFaultEarthedRow : OpenClaim := { program := "ytleagighkbmapaa", sum := "80401152e27607a316e88cd526dce583b68a2ef7f740a99fb79b3dabb5fde4e4", func := "loop.example/cableship/laws.FnExactFaultEarthed", spec := "fnExactFaultEarthed", apart := false }
def FnExactFaultEarthedSaid : Prop := fnExactFaultEarthedRow.holds Try.pinned (OpenSpec.ofChange fnExactFaultEarthedSpec)

/-- ITS FALSE NEIGHBOUR: 'it returns false'. Refute it at one input. -/
def fnExactFaultEarthedWrong : ChangeSpec := { name := "fnExactFaultEarthed", fn := fun _ => fun
  | [d1, d2] => { results := [.lit (.bool false)], args := [d1, d2] }
  | _ => none }
def FnExactFaultEarthedWrongFalsely : Prop := fnExactFaultEarthedRow.holds Try.pinned (OpenSpec.ofChange fnExactFaultEarthedWrong)

/-- 'laws.FnExactFaultFar': WHATEVER THE INPUT: true; the input reads as it did. -/
def fnExactFaultFarSpec : ChangeSpec := { name := "fnExactFaultFar", fn := fun _ => fun
  | [d1, d2] => { results := [.lit (.bool true)], args := [d1, d2] }
  | _ => none }
def fnExactFaultFarRow : OpenClaim := { program := "ytleagighkbmapaa", sum := "80401152e27607a316e88cd526dce583b68a2ef7f740a99fb79b3dabb5fde4e4", func := "loop.example/cableship/laws.FnExactFaultFar", spec := "fnExactFaultFar", apart := false }
def FnExactFaultFarSaid : Prop := fnExactFaultFarRow.holds Try.pinned (OpenSpec.ofChange fnExactFaultFarSpec)

/-- ITS FALSE NEIGHBOUR: 'it returns false'. Refute it at one input. -/
def fnExactFaultFarWrong : ChangeSpec := { name := "fnExactFaultFar", fn := fun _ => fun
  | [d1, d2] => { results := [.lit (.bool false)], args := [d1, d2] }
  | _ => none }
def FnExactFaultFarWrongFalsely : Prop := fnExactFaultFarRow.holds Try.pinned (OpenSpec.ofChange fnExactFaultFarWrong)

/-- 'laws.FnExactFaultFind': WHATEVER THE INPUT: true; the input reads as it did. -/
def fnExactFaultFindSpec : ChangeSpec := { name := "fnExactFaultFind", fn := fun _ => fun
  | [d1, d2, d3] => { results := [.lit (.bool true)], args := [d1, d2, d3] }
  | _ => none }
def fnExactFaultFindRow : OpenClaim := { program := "ytleagighkbmapaa", sum := "80401152e27607a316e88cd526dce583b68a2ef7f740a99fb79b3dabb5fde4e4", func := "loop.example/cableship/laws.FnExactFaultFind", spec := "fnExactFaultFind", unfollowed := true, recurses := true, apart := false }
def FnExactFaultFindSaid : Prop := fnExactFaultFindRow.holds Try.pinned (OpenSpec.ofChange fnExactFaultFindSpec)

/-- ITS FALSE NEIGHBOUR: 'it returns false'. Refute it at one input. -/
def fnExactFaultFindWrong : ChangeSpec := { name := "fnExactFaultFind", fn := fun _ => fun
  | [d1, d2, d3] => { results := [.lit (.bool false)], args := [d1, d2, d3] }
  | _ => none }
def FnExactFaultFindWrongFalsely : Prop := fnExactFaultFindRow.holds Try.pinned (OpenSpec.ofChange fnExactFaultFindWrong)

/-- 'laws.FnExactFaultOne': WHATEVER THE INPUT: true; the input reads as it did. -/
def fnExactFaultOneSpec : ChangeSpec := { name := "fnExactFaultOne", fn := fun _ => fun
  | [d1, d2] => { results := [.lit (.bool true)], args := [d1, d2] }
  | _ => none }
def fnExactFaultOneRow : OpenClaim := { program := "ytleagighkbmapaa", sum := "80401152e27607a316e88cd526dce583b68a2ef7f740a99fb79b3dabb5fde4e4", func := "loop.example/cableship/laws.FnExactFaultOne", spec := "fnExactFaultOne", unfollowed := true, recurses := true, apart := false }
def FnExactFaultOneSaid : Prop := fnExactFaultOneRow.holds Try.pinned (OpenSpec.ofChange fnExactFaultOneSpec)

/-- ITS FALSE NEIGHBOUR: 'it returns false'. Refute it at one input. -/
def fnExactFaultOneWrong : ChangeSpec := { name := "fnExactFaultOne", fn := fun _ => fun
  | [d1, d2] => { results := [.lit (.bool false)], args := [d1, d2] }
  | _ => none }
def FnExactFaultOneWrongFalsely : Prop := fnExactFaultOneRow.holds Try.pinned (OpenSpec.ofChange fnExactFaultOneWrong)

/-- 'laws.FnExactFaultBoth': WHATEVER THE INPUT: true; the input reads as it did. -/
def fnExactFaultBothSpec : ChangeSpec := { name := "fnExactFaultBoth", fn := fun _ => fun
  | [d1, d2, d3] => { results := [.lit (.bool true)], args := [d1, d2, d3] }
  | _ => none }
def fnExactFaultBothRow : OpenClaim := { program := "ytleagighkbmapaa", sum := "80401152e27607a316e88cd526dce583b68a2ef7f740a99fb79b3dabb5fde4e4", func := "loop.example/cableship/laws.FnExactFaultBoth", spec := "fnExactFaultBoth", unfollowed := true, recurses := true, apart := false }
def FnExactFaultBothSaid : Prop := fnExactFaultBothRow.holds Try.pinned (OpenSpec.ofChange fnExactFaultBothSpec)

/-- ITS FALSE NEIGHBOUR: 'it returns false'. Refute it at one input. -/
def fnExactFaultBothWrong : ChangeSpec := { name := "fnExactFaultBoth", fn := fun _ => fun
  | [d1, d2, d3] => { results := [.lit (.bool false)], args := [d1, d2, d3] }
  | _ => none }
def FnExactFaultBothWrongFalsely : Prop := fnExactFaultBothRow.holds Try.pinned (OpenSpec.ofChange fnExactFaultBothWrong)

/-- 'laws.FnExactFaultBack': WHATEVER THE INPUT: true; the input reads as it did. -/
def fnExactFaultBackSpec : ChangeSpec := { name := "fnExactFaultBack", fn := fun _ => fun
  | [d1, d2] => { results := [.lit (.bool true)], args := [d1, d2] }
  | _ => none }
def fnExactFaultBackRow : OpenClaim := { program := "ytleagighkbmapaa", sum := "80401152e27607a316e88cd526dce583b68a2ef7f740a99fb79b3dabb5fde4e4", func := "loop.example/cableship/laws.FnExactFaultBack", spec := "fnExactFaultBack", apart := false }
def FnExactFaultBackSaid : Prop := fnExactFaultBackRow.holds Try.pinned (OpenSpec.ofChange fnExactFaultBackSpec)

/-- ITS FALSE NEIGHBOUR: 'it returns false'. Refute it at one input. -/
def fnExactFaultBackWrong : ChangeSpec := { name := "fnExactFaultBack", fn := fun _ => fun
  | [d1, d2] => { results := [.lit (.bool false)], args := [d1, d2] }
  | _ => none }
def FnExactFaultBackWrongFalsely : Prop := fnExactFaultBackRow.holds Try.pinned (OpenSpec.ofChange fnExactFaultBackWrong)

/-- 'laws.FnExactFaultLess': WHATEVER THE INPUT: true; the input reads as it did. -/
def fnExactFaultLessSpec : ChangeSpec := { name := "fnExactFaultLess", fn := fun _ => fun
  | [d1, d2, d3] => { results := [.lit (.bool true)], args := [d1, d2, d3] }
  | _ => none }
def fnExactFaultLessRow : OpenClaim := { program := "ytleagighkbmapaa", sum := "80401152e27607a316e88cd526dce583b68a2ef7f740a99fb79b3dabb5fde4e4", func := "loop.example/cableship/laws.FnExactFaultLess", spec := "fnExactFaultLess", apart := false }
def FnExactFaultLessSaid : Prop := fnExactFaultLessRow.holds Try.pinned (OpenSpec.ofChange fnExactFaultLessSpec)

/-- ITS FALSE NEIGHBOUR: 'it returns false'. Refute it at one input. -/
def fnExactFaultLessWrong : ChangeSpec := { name := "fnExactFaultLess", fn := fun _ => fun
  | [d1, d2, d3] => { results := [.lit (.bool false)], args := [d1, d2, d3] }
  | _ => none }
def FnExactFaultLessWrongFalsely : Prop := fnExactFaultLessRow.holds Try.pinned (OpenSpec.ofChange fnExactFaultLessWrong)

/-- 'laws.FnExactBreakOpen': WHATEVER THE INPUT: true; the input reads as it did. -/
def fnExactBreakOpenSpec : ChangeSpec := { name := "fnExactBreakOpen", fn := fun _ => fun
  | [d1, d2, d3] => { results := [.lit (.bool true)], args := [d1, d2, d3] }
  | _ => none }
def fnExactBreakOpenRow : OpenClaim := { program := "ytleagighkbmapaa", sum := "80401152e27607a316e88cd526dce583b68a2ef7f740a99fb79b3dabb5fde4e4", func := "loop.example/cableship/laws.FnExactBreakOpen", spec := "fnExactBreakOpen", apart := false }
def FnExactBreakOpenSaid : Prop := fnExactBreakOpenRow.holds Try.pinned (OpenSpec.ofChange fnExactBreakOpenSpec)

/-- ITS FALSE NEIGHBOUR: 'it returns false'. Refute it at one input. -/
def fnExactBreakOpenWrong : ChangeSpec := { name := "fnExactBreakOpen", fn := fun _ => fun
  | [d1, d2, d3] => { results := [.lit (.bool false)], args := [d1, d2, d3] }
  | _ => none }
def FnExactBreakOpenWrongFalsely : Prop := fnExactBreakOpenRow.holds Try.pinned (OpenSpec.ofChange fnExactBreakOpenWrong)

/-- 'laws.FnExactBreakRange': WHATEVER THE INPUT: true; the input reads as it did. -/
def fnExactBreakRangeSpec : ChangeSpec := { name := "fnExactBreakRange", fn := fun _ => fun
  | [d1, d2, d3] => { results := [.lit (.bool true)], args := [d1, d2, d3] }
  | _ => none }
def fnExactBreakRangeRow : OpenClaim := { program := "ytleagighkbmapaa", sum := "80401152e27607a316e88cd526dce583b68a2ef7f740a99fb79b3dabb5fde4e4", func := "loop.example/cableship/laws.FnExactBreakRange", spec := "fnExactBreakRange", unfollowed := true, recurses := true, apart := false }
def FnExactBreakRangeSaid : Prop := fnExactBreakRangeRow.holds Try.pinned (OpenSpec.ofChange fnExactBreakRangeSpec)

/-- ITS FALSE NEIGHBOUR: 'it returns false'. Refute it at one input. -/
def fnExactBreakRangeWrong : ChangeSpec := { name := "fnExactBreakRange", fn := fun _ => fun
  | [d1, d2, d3] => { results := [.lit (.bool false)], args := [d1, d2, d3] }
  | _ => none }
def FnExactBreakRangeWrongFalsely : Prop := fnExactBreakRangeRow.holds Try.pinned (OpenSpec.ofChange fnExactBreakRangeWrong)

/-- 'laws.FnExactRatioLess': WHATEVER THE INPUT: true; the input reads as it did. -/
def fnExactRatioLessSpec : ChangeSpec := { name := "fnExactRatioLess", fn := fun _ => fun
  | [d1, d2] => { results := [.lit (.bool true)], args := [d1, d2] }
  | _ => none }
def fnExactRatioLessRow : OpenClaim := { program := "ytleagighkbmapaa", sum := "80401152e27607a316e88cd526dce583b68a2ef7f740a99fb79b3dabb5fde4e4", func := "loop.example/cableship/laws.FnExactRatioLess", spec := "fnExactRatioLess", apart := false }
def FnExactRatioLessSaid : Prop := fnExactRatioLessRow.holds Try.pinned (OpenSpec.ofChange fnExactRatioLessSpec)

/-- ITS FALSE NEIGHBOUR: 'it returns false'. Refute it at one input. -/
def fnExactRatioLessWrong : ChangeSpec := { name := "fnExactRatioLess", fn := fun _ => fun
  | [d1, d2] => { results := [.lit (.bool false)], args := [d1, d2] }
  | _ => none }
def FnExactRatioLessWrongFalsely : Prop := fnExactRatioLessRow.holds Try.pinned (OpenSpec.ofChange fnExactRatioLessWrong)

/- THE SECOND FORM. 'bulk': how many values and letters a reading holds, each counted each time it is reached (what is shared counts as often as it is met; a slice's spare places count too). A statement '..UptoSaid' is the law's where the arguments, and the package variables that the reading takes, are together of bulk at most 1048576: NARROWER than '..Said'. Prove '..Said' where nothing that the law and all that it calls make is longer than what came in: it says more and counts as full. Else prove '..UptoSaid'. A law counts once. -/
mutual
def uptoBulk {H : Type} : DataW H → Nat
  | .lit (.string bytes) => bytes.length + 1
  | .lit _ => 1
  | .nil => 1
  | .ptr d => uptoBulk d + 1
  | .slice elems spare => uptoBulkAll elems + uptoBulkAll spare + 1
  | .agg parts => uptoBulkAll parts + 1
  | .iface _ d => uptoBulk d + 1
  | .map entries => uptoBulkEntries entries + 1
  | .held _ => 1
def uptoBulkAll {H : Type} : List (DataW H) → Nat
  | [] => 0
  | d :: r => uptoBulk d + uptoBulkAll r
def uptoBulkEntries {H : Type} : List (Lit × DataW H) → Nat
  | [] => 0
  | x :: r => uptoBulkEntry x + uptoBulkEntries r
def uptoBulkEntry {H : Type} : Lit × DataW H → Nat
  | (.string bytes, d) => bytes.length + uptoBulk d + 1
  | (_, d) => uptoBulk d + 1
 end
def uptoSmall : (H : Type) → List (DataW H) → Bool := fun _ ds => decide (uptoBulkAll ds ≤ 1048576)
def OpenSpec.upto (s : _root_.Go.ChangeSpec) : _root_.Go.OpenSpec := { _root_.Go.OpenSpec.ofChange s with cond := some uptoSmall }

/-- 'laws.FnFind', WHERE WHAT IT READS IS OF BULK AT MOST 1048576: true; the input reads as it did. -/
def fnFindUptoRow : OpenClaim := { program := "ytleagighkbmapaa", sum := "80401152e27607a316e88cd526dce583b68a2ef7f740a99fb79b3dabb5fde4e4", func := "loop.example/cableship/laws.FnFind", spec := "fnFind", unfollowed := true, recurses := true, apart := false, narrowed := true }
def FnFindUptoSaid : Prop := fnFindUptoRow.holds Try.pinned (OpenSpec.upto fnFindSpec)

/-- 'laws.FnExactFaultValid', WHERE WHAT IT READS IS OF BULK AT MOST 1048576: true; the input reads as it did. -/
def fnExactFaultValidUptoRow : OpenClaim := { program := "ytleagighkbmapaa", sum := "80401152e27607a316e88cd526dce583b68a2ef7f740a99fb79b3dabb5fde4e4", func := "loop.example/cableship/laws.FnExactFaultValid", spec := "fnExactFaultValid", apart := false, narrowed := true }
def FnExactFaultValidUptoSaid : Prop := fnExactFaultValidUptoRow.holds Try.pinned (OpenSpec.upto fnExactFaultValidSpec)

/-- 'laws.FnExactFaultOpen', WHERE WHAT IT READS IS OF BULK AT MOST 1048576: true; the input reads as it did. -/
def fnExactFaultOpenUptoRow : OpenClaim := { program := "ytleagighkbmapaa", sum := "80401152e27607a316e88cd526dce583b68a2ef7f740a99fb79b3dabb5fde4e4", func := "loop.example/cableship/laws.FnExactFaultOpen", spec := "fnExactFaultOpen", apart := false, narrowed := true }
def FnExactFaultOpenUptoSaid : Prop := fnExactFaultOpenUptoRow.holds Try.pinned (OpenSpec.upto fnExactFaultOpenSpec)

/-- 'laws.FnExactRatioOf', WHERE WHAT IT READS IS OF BULK AT MOST 1048576: true; the input reads as it did. -/
def fnExactRatioOfUptoRow : OpenClaim := { program := "ytleagighkbmapaa", sum := "80401152e27607a316e88cd526dce583b68a2ef7f740a99fb79b3dabb5fde4e4", func := "loop.example/cableship/laws.FnExactRatioOf", spec := "fnExactRatioOf", apart := false, narrowed := true }
def FnExactRatioOfUptoSaid : Prop := fnExactRatioOfUptoRow.holds Try.pinned (OpenSpec.upto fnExactRatioOfSpec)

/-- 'laws.FnExactFaultEarthed', WHERE WHAT IT READS IS OF BULK AT MOST 1048576: true; the input reads as it did. -/
def fnExactFaultEarthedUptoRow : OpenClaim := { program := "ytleagighkbmapaa", sum := "80401152e27607a316e88cd526dce583b68a2ef7f740a99fb79b3dabb5fde4e4", func := "loop.example/cableship/laws.FnExactFaultEarthed", spec := "fnExactFaultEarthed", apart := false, narrowed := true }
def FnExactFaultEarthedUptoSaid : Prop := fnExactFaultEarthedUptoRow.holds Try.pinned (OpenSpec.upto fnExactFaultEarthedSpec)

/-- 'laws.FnExactFaultFar', WHERE WHAT IT READS IS OF BULK AT MOST 1048576: true; the input reads as it did. -/
def fnExactFaultFarUptoRow : OpenClaim := { program := "ytleagighkbmapaa", sum := "80401152e27607a316e88cd526dce583b68a2ef7f740a99fb79b3dabb5fde4e4", func := "loop.example/cableship/laws.FnExactFaultFar", spec := "fnExactFaultFar", apart := false, narrowed := true }
def FnExactFaultFarUptoSaid : Prop := fnExactFaultFarUptoRow.holds Try.pinned (OpenSpec.upto fnExactFaultFarSpec)

/-- 'laws.FnExactFaultFind', WHERE WHAT IT READS IS OF BULK AT MOST 1048576: true; the input reads as it did. -/
def fnExactFaultFindUptoRow : OpenClaim := { program := "ytleagighkbmapaa", sum := "80401152e27607a316e88cd526dce583b68a2ef7f740a99fb79b3dabb5fde4e4", func := "loop.example/cableship/laws.FnExactFaultFind", spec := "fnExactFaultFind", unfollowed := true, recurses := true, apart := false, narrowed := true }
def FnExactFaultFindUptoSaid : Prop := fnExactFaultFindUptoRow.holds Try.pinned (OpenSpec.upto fnExactFaultFindSpec)

/-- 'laws.FnExactFaultOne', WHERE WHAT IT READS IS OF BULK AT MOST 1048576: true; the input reads as it did. -/
def fnExactFaultOneUptoRow : OpenClaim := { program := "ytleagighkbmapaa", sum := "80401152e27607a316e88cd526dce583b68a2ef7f740a99fb79b3dabb5fde4e4", func := "loop.example/cableship/laws.FnExactFaultOne", spec := "fnExactFaultOne", unfollowed := true, recurses := true, apart := false, narrowed := true }
def FnExactFaultOneUptoSaid : Prop := fnExactFaultOneUptoRow.holds Try.pinned (OpenSpec.upto fnExactFaultOneSpec)

/-- 'laws.FnExactFaultBoth', WHERE WHAT IT READS IS OF BULK AT MOST 1048576: true; the input reads as it did. -/
def fnExactFaultBothUptoRow : OpenClaim := { program := "ytleagighkbmapaa", sum := "80401152e27607a316e88cd526dce583b68a2ef7f740a99fb79b3dabb5fde4e4", func := "loop.example/cableship/laws.FnExactFaultBoth", spec := "fnExactFaultBoth", unfollowed := true, recurses := true, apart := false, narrowed := true }
def FnExactFaultBothUptoSaid : Prop := fnExactFaultBothUptoRow.holds Try.pinned (OpenSpec.upto fnExactFaultBothSpec)

/-- 'laws.FnExactFaultBack', WHERE WHAT IT READS IS OF BULK AT MOST 1048576: true; the input reads as it did. -/
def fnExactFaultBackUptoRow : OpenClaim := { program := "ytleagighkbmapaa", sum := "80401152e27607a316e88cd526dce583b68a2ef7f740a99fb79b3dabb5fde4e4", func := "loop.example/cableship/laws.FnExactFaultBack", spec := "fnExactFaultBack", apart := false, narrowed := true }
def FnExactFaultBackUptoSaid : Prop := fnExactFaultBackUptoRow.holds Try.pinned (OpenSpec.upto fnExactFaultBackSpec)

/-- 'laws.FnExactFaultLess', WHERE WHAT IT READS IS OF BULK AT MOST 1048576: true; the input reads as it did. -/
def fnExactFaultLessUptoRow : OpenClaim := { program := "ytleagighkbmapaa", sum := "80401152e27607a316e88cd526dce583b68a2ef7f740a99fb79b3dabb5fde4e4", func := "loop.example/cableship/laws.FnExactFaultLess", spec := "fnExactFaultLess", apart := false, narrowed := true }
def FnExactFaultLessUptoSaid : Prop := fnExactFaultLessUptoRow.holds Try.pinned (OpenSpec.upto fnExactFaultLessSpec)

/-- 'laws.FnExactBreakOpen', WHERE WHAT IT READS IS OF BULK AT MOST 1048576: true; the input reads as it did. -/
def fnExactBreakOpenUptoRow : OpenClaim := { program := "ytleagighkbmapaa", sum := "80401152e27607a316e88cd526dce583b68a2ef7f740a99fb79b3dabb5fde4e4", func := "loop.example/cableship/laws.FnExactBreakOpen", spec := "fnExactBreakOpen", apart := false, narrowed := true }
def FnExactBreakOpenUptoSaid : Prop := fnExactBreakOpenUptoRow.holds Try.pinned (OpenSpec.upto fnExactBreakOpenSpec)

/-- 'laws.FnExactBreakRange', WHERE WHAT IT READS IS OF BULK AT MOST 1048576: true; the input reads as it did. -/
def fnExactBreakRangeUptoRow : OpenClaim := { program := "ytleagighkbmapaa", sum := "80401152e27607a316e88cd526dce583b68a2ef7f740a99fb79b3dabb5fde4e4", func := "loop.example/cableship/laws.FnExactBreakRange", spec := "fnExactBreakRange", unfollowed := true, recurses := true, apart := false, narrowed := true }
def FnExactBreakRangeUptoSaid : Prop := fnExactBreakRangeUptoRow.holds Try.pinned (OpenSpec.upto fnExactBreakRangeSpec)

/-- 'laws.FnExactRatioLess', WHERE WHAT IT READS IS OF BULK AT MOST 1048576: true; the input reads as it did. -/
def fnExactRatioLessUptoRow : OpenClaim := { program := "ytleagighkbmapaa", sum := "80401152e27607a316e88cd526dce583b68a2ef7f740a99fb79b3dabb5fde4e4", func := "loop.example/cableship/laws.FnExactRatioLess", spec := "fnExactRatioLess", apart := false, narrowed := true }
def FnExactRatioLessUptoSaid : Prop := fnExactRatioLessUptoRow.holds Try.pinned (OpenSpec.upto fnExactRatioLessSpec)

end Rows
end Go.Proofs.Ytleagighkbmapaa
