/-
  No cell of these rows narrows 'for every input' (looked for: loops, veiled, ifaces, maps, wideKeys, modest, calm, conditions, laid).
  DERIVED. THE GIVEN ROWS OF THIS SEAT. 23 by the template 'for every input the law returns true; each argument reads behind the call as it read before'; 0 by the template 'total and deterministic' (their statements: YtjboamhjfncgdaaTotals.lean).
  GIVEN WITH THE SEED: the statements are not yours to turn. If you find one false, say at which input.
  Laid BY PROGRAM, IN A SANDBOX (cutbox-rows.mjs): the forced cells as the released guide's own fill.sh prints them over the translation 3de4eb4672f5d200… (all of the seat's roots in one cut). By AI agents, Wed Nov 11 2026. No macro, syntax, notation, axiom, sorry.
-/
import Derived.Test.YtjboamhjfncgdaaChecked
import GoSem.Claim
import GoSem.ClaimJoined
import GoSem.ClaimMapViews
import Derived.JoinedTies
import Derived.KernelRfl
namespace Go.Proofs.Ytjboamhjfncgdaa
/- THE CELL 'sum', in the pinned program and in every row, IS THE sha256 OF THE DUMP (.gsa) THAT YtjboamhjfncgdaaProg.lean LOADS. Nothing in Lean hashes anything: it is a label: what it is worth is what the hold of that sum in a sandbox is worth. -/
noncomputable def Try.pinned : Pinned := { name := "ytjboamhjfncgdaa", sum := "3de4eb4672f5d200c98dcc8fc7d1fc3f7dc1352453087fc4dc8bb9cf9509716a", checked := Try.checked }
namespace Rows
def none {H : Type} : Left H := { results := [], args := [] }

/-- 'laws.FnLiftFirst': WHATEVER THE INPUT: true; the input reads as it did. -/
def fnLiftFirstSpec : ChangeSpec := { name := "fnLiftFirst", fn := fun _ => fun
  | [d] => { results := [.lit (.bool true)], args := [d] }
  | _ => none }
def fnLiftFirstRow : OpenClaim := { program := "ytjboamhjfncgdaa", sum := "3de4eb4672f5d200c98dcc8fc7d1fc3f7dc1352453087fc4dc8bb9cf9509716a", func := "loop.example/cableship/laws.FnLiftFirst", spec := "fnLiftFirst", unfollowed := true, recurses := true, apart := false }
def FnLiftFirstSaid : Prop := fnLiftFirstRow.holds Try.pinned (OpenSpec.ofChange fnLiftFirstSpec)

/-- ITS FALSE NEIGHBOUR: 'it returns false'. Refute it at one input. -/
def fnLiftFirstWrong : ChangeSpec := { name := "fnLiftFirst", fn := fun _ => fun
  | [d] => { results := [.lit (.bool false)], args := [d] }
  | _ => none }
def FnLiftFirstWrongFalsely : Prop := fnLiftFirstRow.holds Try.pinned (OpenSpec.ofChange fnLiftFirstWrong)

/-- 'laws.FnSide': WHATEVER THE INPUT: true; the input reads as it did. -/
def fnSideSpec : ChangeSpec := { name := "fnSide", fn := fun _ => fun
  | [d] => { results := [.lit (.bool true)], args := [d] }
  | _ => none }
def fnSideRow : OpenClaim := { program := "ytjboamhjfncgdaa", sum := "3de4eb4672f5d200c98dcc8fc7d1fc3f7dc1352453087fc4dc8bb9cf9509716a", func := "loop.example/cableship/laws.FnSide", spec := "fnSide", apart := false }
def FnSideSaid : Prop := fnSideRow.holds Try.pinned (OpenSpec.ofChange fnSideSpec)

/-- ITS FALSE NEIGHBOUR: 'it returns false'. Refute it at one input. -/
def fnSideWrong : ChangeSpec := { name := "fnSide", fn := fun _ => fun
  | [d] => { results := [.lit (.bool false)], args := [d] }
  | _ => none }
def FnSideWrongFalsely : Prop := fnSideRow.holds Try.pinned (OpenSpec.ofChange fnSideWrong)

/-- 'laws.FnExactChartValid': WHATEVER THE INPUT: true; the input reads as it did. -/
def fnExactChartValidSpec : ChangeSpec := { name := "fnExactChartValid", fn := fun _ => fun
  | [d] => { results := [.lit (.bool true)], args := [d] }
  | _ => none }
def fnExactChartValidRow : OpenClaim := { program := "ytjboamhjfncgdaa", sum := "3de4eb4672f5d200c98dcc8fc7d1fc3f7dc1352453087fc4dc8bb9cf9509716a", func := "loop.example/cableship/laws.FnExactChartValid", spec := "fnExactChartValid", apart := false }
def FnExactChartValidSaid : Prop := fnExactChartValidRow.holds Try.pinned (OpenSpec.ofChange fnExactChartValidSpec)

/-- ITS FALSE NEIGHBOUR: 'it returns false'. Refute it at one input. -/
def fnExactChartValidWrong : ChangeSpec := { name := "fnExactChartValid", fn := fun _ => fun
  | [d] => { results := [.lit (.bool false)], args := [d] }
  | _ => none }
def FnExactChartValidWrongFalsely : Prop := fnExactChartValidRow.holds Try.pinned (OpenSpec.ofChange fnExactChartValidWrong)

/-- 'laws.FnExactRoutesCross': WHATEVER THE INPUT: true; the input reads as it did. -/
def fnExactRoutesCrossSpec : ChangeSpec := { name := "fnExactRoutesCross", fn := fun _ => fun
  | [d1, d2, d3] => { results := [.lit (.bool true)], args := [d1, d2, d3] }
  | _ => none }
def fnExactRoutesCrossRow : OpenClaim := { program := "ytjboamhjfncgdaa", sum := "3de4eb4672f5d200c98dcc8fc7d1fc3f7dc1352453087fc4dc8bb9cf9509716a", func := "loop.example/cableship/laws.FnExactRoutesCross", spec := "fnExactRoutesCross", apart := false }
def FnExactRoutesCrossSaid : Prop := fnExactRoutesCrossRow.holds Try.pinned (OpenSpec.ofChange fnExactRoutesCrossSpec)

/-- ITS FALSE NEIGHBOUR: 'it returns false'. Refute it at one input. -/
def fnExactRoutesCrossWrong : ChangeSpec := { name := "fnExactRoutesCross", fn := fun _ => fun
  | [d1, d2, d3] => { results := [.lit (.bool false)], args := [d1, d2, d3] }
  | _ => none }
def FnExactRoutesCrossWrongFalsely : Prop := fnExactRoutesCrossRow.holds Try.pinned (OpenSpec.ofChange fnExactRoutesCrossWrong)

/-- 'laws.FnExactChartCrossings': WHATEVER THE INPUT: true; the input reads as it did. -/
def fnExactChartCrossingsSpec : ChangeSpec := { name := "fnExactChartCrossings", fn := fun _ => fun
  | [d] => { results := [.lit (.bool true)], args := [d] }
  | _ => none }
def fnExactChartCrossingsRow : OpenClaim := { program := "ytjboamhjfncgdaa", sum := "3de4eb4672f5d200c98dcc8fc7d1fc3f7dc1352453087fc4dc8bb9cf9509716a", func := "loop.example/cableship/laws.FnExactChartCrossings", spec := "fnExactChartCrossings", unfollowed := true, recurses := true, apart := false }
def FnExactChartCrossingsSaid : Prop := fnExactChartCrossingsRow.holds Try.pinned (OpenSpec.ofChange fnExactChartCrossingsSpec)

/-- ITS FALSE NEIGHBOUR: 'it returns false'. Refute it at one input. -/
def fnExactChartCrossingsWrong : ChangeSpec := { name := "fnExactChartCrossings", fn := fun _ => fun
  | [d] => { results := [.lit (.bool false)], args := [d] }
  | _ => none }
def FnExactChartCrossingsWrongFalsely : Prop := fnExactChartCrossingsRow.holds Try.pinned (OpenSpec.ofChange fnExactChartCrossingsWrong)

/-- 'laws.FnExactRouteAbove': WHATEVER THE INPUT: true; the input reads as it did. -/
def fnExactRouteAboveSpec : ChangeSpec := { name := "fnExactRouteAbove", fn := fun _ => fun
  | [d1, d2] => { results := [.lit (.bool true)], args := [d1, d2] }
  | _ => none }
def fnExactRouteAboveRow : OpenClaim := { program := "ytjboamhjfncgdaa", sum := "3de4eb4672f5d200c98dcc8fc7d1fc3f7dc1352453087fc4dc8bb9cf9509716a", func := "loop.example/cableship/laws.FnExactRouteAbove", spec := "fnExactRouteAbove", unfollowed := true, recurses := true, apart := false }
def FnExactRouteAboveSaid : Prop := fnExactRouteAboveRow.holds Try.pinned (OpenSpec.ofChange fnExactRouteAboveSpec)

/-- ITS FALSE NEIGHBOUR: 'it returns false'. Refute it at one input. -/
def fnExactRouteAboveWrong : ChangeSpec := { name := "fnExactRouteAbove", fn := fun _ => fun
  | [d1, d2] => { results := [.lit (.bool false)], args := [d1, d2] }
  | _ => none }
def FnExactRouteAboveWrongFalsely : Prop := fnExactRouteAboveRow.holds Try.pinned (OpenSpec.ofChange fnExactRouteAboveWrong)

/-- 'laws.FnExactRouteClear': WHATEVER THE INPUT: true; the input reads as it did. -/
def fnExactRouteClearSpec : ChangeSpec := { name := "fnExactRouteClear", fn := fun _ => fun
  | [d1, d2] => { results := [.lit (.bool true)], args := [d1, d2] }
  | _ => none }
def fnExactRouteClearRow : OpenClaim := { program := "ytjboamhjfncgdaa", sum := "3de4eb4672f5d200c98dcc8fc7d1fc3f7dc1352453087fc4dc8bb9cf9509716a", func := "loop.example/cableship/laws.FnExactRouteClear", spec := "fnExactRouteClear", unfollowed := true, recurses := true, apart := false }
def FnExactRouteClearSaid : Prop := fnExactRouteClearRow.holds Try.pinned (OpenSpec.ofChange fnExactRouteClearSpec)

/-- ITS FALSE NEIGHBOUR: 'it returns false'. Refute it at one input. -/
def fnExactRouteClearWrong : ChangeSpec := { name := "fnExactRouteClear", fn := fun _ => fun
  | [d1, d2] => { results := [.lit (.bool false)], args := [d1, d2] }
  | _ => none }
def FnExactRouteClearWrongFalsely : Prop := fnExactRouteClearRow.holds Try.pinned (OpenSpec.ofChange fnExactRouteClearWrong)

/-- 'laws.FnExactLiftValid': WHATEVER THE INPUT: true; the input reads as it did. -/
def fnExactLiftValidSpec : ChangeSpec := { name := "fnExactLiftValid", fn := fun _ => fun
  | [d1, d2] => { results := [.lit (.bool true)], args := [d1, d2] }
  | _ => none }
def fnExactLiftValidRow : OpenClaim := { program := "ytjboamhjfncgdaa", sum := "3de4eb4672f5d200c98dcc8fc7d1fc3f7dc1352453087fc4dc8bb9cf9509716a", func := "loop.example/cableship/laws.FnExactLiftValid", spec := "fnExactLiftValid", unfollowed := true, recurses := true, apart := false }
def FnExactLiftValidSaid : Prop := fnExactLiftValidRow.holds Try.pinned (OpenSpec.ofChange fnExactLiftValidSpec)

/-- ITS FALSE NEIGHBOUR: 'it returns false'. Refute it at one input. -/
def fnExactLiftValidWrong : ChangeSpec := { name := "fnExactLiftValid", fn := fun _ => fun
  | [d1, d2] => { results := [.lit (.bool false)], args := [d1, d2] }
  | _ => none }
def FnExactLiftValidWrongFalsely : Prop := fnExactLiftValidRow.holds Try.pinned (OpenSpec.ofChange fnExactLiftValidWrong)

/-- 'laws.FnExactLiftFirst': WHATEVER THE INPUT: true; the input reads as it did. -/
def fnExactLiftFirstSpec : ChangeSpec := { name := "fnExactLiftFirst", fn := fun _ => fun
  | [d] => { results := [.lit (.bool true)], args := [d] }
  | _ => none }
def fnExactLiftFirstRow : OpenClaim := { program := "ytjboamhjfncgdaa", sum := "3de4eb4672f5d200c98dcc8fc7d1fc3f7dc1352453087fc4dc8bb9cf9509716a", func := "loop.example/cableship/laws.FnExactLiftFirst", spec := "fnExactLiftFirst", unfollowed := true, recurses := true, apart := false }
def FnExactLiftFirstSaid : Prop := fnExactLiftFirstRow.holds Try.pinned (OpenSpec.ofChange fnExactLiftFirstSpec)

/-- ITS FALSE NEIGHBOUR: 'it returns false'. Refute it at one input. -/
def fnExactLiftFirstWrong : ChangeSpec := { name := "fnExactLiftFirst", fn := fun _ => fun
  | [d] => { results := [.lit (.bool false)], args := [d] }
  | _ => none }
def FnExactLiftFirstWrongFalsely : Prop := fnExactLiftFirstRow.holds Try.pinned (OpenSpec.ofChange fnExactLiftFirstWrong)

/-- 'laws.FnExactLiftMany': WHATEVER THE INPUT: true; the input reads as it did. -/
def fnExactLiftManySpec : ChangeSpec := { name := "fnExactLiftMany", fn := fun _ => fun
  | [d] => { results := [.lit (.bool true)], args := [d] }
  | _ => none }
def fnExactLiftManyRow : OpenClaim := { program := "ytjboamhjfncgdaa", sum := "3de4eb4672f5d200c98dcc8fc7d1fc3f7dc1352453087fc4dc8bb9cf9509716a", func := "loop.example/cableship/laws.FnExactLiftMany", spec := "fnExactLiftMany", unfollowed := true, recurses := true, apart := false }
def FnExactLiftManySaid : Prop := fnExactLiftManyRow.holds Try.pinned (OpenSpec.ofChange fnExactLiftManySpec)

/-- ITS FALSE NEIGHBOUR: 'it returns false'. Refute it at one input. -/
def fnExactLiftManyWrong : ChangeSpec := { name := "fnExactLiftMany", fn := fun _ => fun
  | [d] => { results := [.lit (.bool false)], args := [d] }
  | _ => none }
def FnExactLiftManyWrongFalsely : Prop := fnExactLiftManyRow.holds Try.pinned (OpenSpec.ofChange fnExactLiftManyWrong)

/-- 'laws.FnExactLiftRounds': WHATEVER THE INPUT: true; the input reads as it did. -/
def fnExactLiftRoundsSpec : ChangeSpec := { name := "fnExactLiftRounds", fn := fun _ => fun
  | [d] => { results := [.lit (.bool true)], args := [d] }
  | _ => none }
def fnExactLiftRoundsRow : OpenClaim := { program := "ytjboamhjfncgdaa", sum := "3de4eb4672f5d200c98dcc8fc7d1fc3f7dc1352453087fc4dc8bb9cf9509716a", func := "loop.example/cableship/laws.FnExactLiftRounds", spec := "fnExactLiftRounds", unfollowed := true, recurses := true, apart := false }
def FnExactLiftRoundsSaid : Prop := fnExactLiftRoundsRow.holds Try.pinned (OpenSpec.ofChange fnExactLiftRoundsSpec)

/-- ITS FALSE NEIGHBOUR: 'it returns false'. Refute it at one input. -/
def fnExactLiftRoundsWrong : ChangeSpec := { name := "fnExactLiftRounds", fn := fun _ => fun
  | [d] => { results := [.lit (.bool false)], args := [d] }
  | _ => none }
def FnExactLiftRoundsWrongFalsely : Prop := fnExactLiftRoundsRow.holds Try.pinned (OpenSpec.ofChange fnExactLiftRoundsWrong)

/-- 'laws.FnExactChartDrop': WHATEVER THE INPUT: true; the input reads as it did. -/
def fnExactChartDropSpec : ChangeSpec := { name := "fnExactChartDrop", fn := fun _ => fun
  | [d1, d2] => { results := [.lit (.bool true)], args := [d1, d2] }
  | _ => none }
def fnExactChartDropRow : OpenClaim := { program := "ytjboamhjfncgdaa", sum := "3de4eb4672f5d200c98dcc8fc7d1fc3f7dc1352453087fc4dc8bb9cf9509716a", func := "loop.example/cableship/laws.FnExactChartDrop", spec := "fnExactChartDrop", apart := false }
def FnExactChartDropSaid : Prop := fnExactChartDropRow.holds Try.pinned (OpenSpec.ofChange fnExactChartDropSpec)

/-- ITS FALSE NEIGHBOUR: 'it returns false'. Refute it at one input. -/
def fnExactChartDropWrong : ChangeSpec := { name := "fnExactChartDrop", fn := fun _ => fun
  | [d1, d2] => { results := [.lit (.bool false)], args := [d1, d2] }
  | _ => none }
def FnExactChartDropWrongFalsely : Prop := fnExactChartDropRow.holds Try.pinned (OpenSpec.ofChange fnExactChartDropWrong)

/-- 'laws.FnExactChartTurn': WHATEVER THE INPUT: true; the input reads as it did. -/
def fnExactChartTurnSpec : ChangeSpec := { name := "fnExactChartTurn", fn := fun _ => fun
  | [d] => { results := [.lit (.bool true)], args := [d] }
  | _ => none }
def fnExactChartTurnRow : OpenClaim := { program := "ytjboamhjfncgdaa", sum := "3de4eb4672f5d200c98dcc8fc7d1fc3f7dc1352453087fc4dc8bb9cf9509716a", func := "loop.example/cableship/laws.FnExactChartTurn", spec := "fnExactChartTurn", apart := false }
def FnExactChartTurnSaid : Prop := fnExactChartTurnRow.holds Try.pinned (OpenSpec.ofChange fnExactChartTurnSpec)

/-- ITS FALSE NEIGHBOUR: 'it returns false'. Refute it at one input. -/
def fnExactChartTurnWrong : ChangeSpec := { name := "fnExactChartTurn", fn := fun _ => fun
  | [d] => { results := [.lit (.bool false)], args := [d] }
  | _ => none }
def FnExactChartTurnWrongFalsely : Prop := fnExactChartTurnRow.holds Try.pinned (OpenSpec.ofChange fnExactChartTurnWrong)

/-- 'laws.FnExactRouteSide': WHATEVER THE INPUT: true; the input reads as it did. -/
def fnExactRouteSideSpec : ChangeSpec := { name := "fnExactRouteSide", fn := fun _ => fun
  | [d1, d2, d3, d4] => { results := [.lit (.bool true)], args := [d1, d2, d3, d4] }
  | _ => none }
def fnExactRouteSideRow : OpenClaim := { program := "ytjboamhjfncgdaa", sum := "3de4eb4672f5d200c98dcc8fc7d1fc3f7dc1352453087fc4dc8bb9cf9509716a", func := "loop.example/cableship/laws.FnExactRouteSide", spec := "fnExactRouteSide", apart := false }
def FnExactRouteSideSaid : Prop := fnExactRouteSideRow.holds Try.pinned (OpenSpec.ofChange fnExactRouteSideSpec)

/-- ITS FALSE NEIGHBOUR: 'it returns false'. Refute it at one input. -/
def fnExactRouteSideWrong : ChangeSpec := { name := "fnExactRouteSide", fn := fun _ => fun
  | [d1, d2, d3, d4] => { results := [.lit (.bool false)], args := [d1, d2, d3, d4] }
  | _ => none }
def FnExactRouteSideWrongFalsely : Prop := fnExactRouteSideRow.holds Try.pinned (OpenSpec.ofChange fnExactRouteSideWrong)

/-- 'laws.FnCross': WHATEVER THE INPUT: true; the input reads as it did. -/
def fnCrossSpec : ChangeSpec := { name := "fnCross", fn := fun _ => fun
  | [d] => { results := [.lit (.bool true)], args := [d] }
  | _ => none }
def fnCrossRow : OpenClaim := { program := "ytjboamhjfncgdaa", sum := "3de4eb4672f5d200c98dcc8fc7d1fc3f7dc1352453087fc4dc8bb9cf9509716a", func := "loop.example/cableship/laws.FnCross", spec := "fnCross", unfollowed := true, recurses := true, apart := false }
def FnCrossSaid : Prop := fnCrossRow.holds Try.pinned (OpenSpec.ofChange fnCrossSpec)

/-- ITS FALSE NEIGHBOUR: 'it returns false'. Refute it at one input. -/
def fnCrossWrong : ChangeSpec := { name := "fnCross", fn := fun _ => fun
  | [d] => { results := [.lit (.bool false)], args := [d] }
  | _ => none }
def FnCrossWrongFalsely : Prop := fnCrossRow.holds Try.pinned (OpenSpec.ofChange fnCrossWrong)

/-- 'laws.FnCrossings': WHATEVER THE INPUT: true; the input reads as it did. -/
def fnCrossingsSpec : ChangeSpec := { name := "fnCrossings", fn := fun _ => fun
  | [d1, d2] => { results := [.lit (.bool true)], args := [d1, d2] }
  | _ => none }
def fnCrossingsRow : OpenClaim := { program := "ytjboamhjfncgdaa", sum := "3de4eb4672f5d200c98dcc8fc7d1fc3f7dc1352453087fc4dc8bb9cf9509716a", func := "loop.example/cableship/laws.FnCrossings", spec := "fnCrossings", unfollowed := true, recurses := true, apart := false }
def FnCrossingsSaid : Prop := fnCrossingsRow.holds Try.pinned (OpenSpec.ofChange fnCrossingsSpec)

/-- ITS FALSE NEIGHBOUR: 'it returns false'. Refute it at one input. -/
def fnCrossingsWrong : ChangeSpec := { name := "fnCrossings", fn := fun _ => fun
  | [d1, d2] => { results := [.lit (.bool false)], args := [d1, d2] }
  | _ => none }
def FnCrossingsWrongFalsely : Prop := fnCrossingsRow.holds Try.pinned (OpenSpec.ofChange fnCrossingsWrong)

/-- 'laws.FnAbove': WHATEVER THE INPUT: true; the input reads as it did. -/
def fnAboveSpec : ChangeSpec := { name := "fnAbove", fn := fun _ => fun
  | [d] => { results := [.lit (.bool true)], args := [d] }
  | _ => none }
def fnAboveRow : OpenClaim := { program := "ytjboamhjfncgdaa", sum := "3de4eb4672f5d200c98dcc8fc7d1fc3f7dc1352453087fc4dc8bb9cf9509716a", func := "loop.example/cableship/laws.FnAbove", spec := "fnAbove", unfollowed := true, recurses := true, apart := false }
def FnAboveSaid : Prop := fnAboveRow.holds Try.pinned (OpenSpec.ofChange fnAboveSpec)

/-- ITS FALSE NEIGHBOUR: 'it returns false'. Refute it at one input. -/
def fnAboveWrong : ChangeSpec := { name := "fnAbove", fn := fun _ => fun
  | [d] => { results := [.lit (.bool false)], args := [d] }
  | _ => none }
def FnAboveWrongFalsely : Prop := fnAboveRow.holds Try.pinned (OpenSpec.ofChange fnAboveWrong)

/-- 'laws.FnClear': WHATEVER THE INPUT: true; the input reads as it did. -/
def fnClearSpec : ChangeSpec := { name := "fnClear", fn := fun _ => fun
  | [d] => { results := [.lit (.bool true)], args := [d] }
  | _ => none }
def fnClearRow : OpenClaim := { program := "ytjboamhjfncgdaa", sum := "3de4eb4672f5d200c98dcc8fc7d1fc3f7dc1352453087fc4dc8bb9cf9509716a", func := "loop.example/cableship/laws.FnClear", spec := "fnClear", unfollowed := true, recurses := true, apart := false }
def FnClearSaid : Prop := fnClearRow.holds Try.pinned (OpenSpec.ofChange fnClearSpec)

/-- ITS FALSE NEIGHBOUR: 'it returns false'. Refute it at one input. -/
def fnClearWrong : ChangeSpec := { name := "fnClear", fn := fun _ => fun
  | [d] => { results := [.lit (.bool false)], args := [d] }
  | _ => none }
def FnClearWrongFalsely : Prop := fnClearRow.holds Try.pinned (OpenSpec.ofChange fnClearWrong)

/-- 'laws.FnLift': WHATEVER THE INPUT: true; the input reads as it did. -/
def fnLiftSpec : ChangeSpec := { name := "fnLift", fn := fun _ => fun
  | [d1, d2] => { results := [.lit (.bool true)], args := [d1, d2] }
  | _ => none }
def fnLiftRow : OpenClaim := { program := "ytjboamhjfncgdaa", sum := "3de4eb4672f5d200c98dcc8fc7d1fc3f7dc1352453087fc4dc8bb9cf9509716a", func := "loop.example/cableship/laws.FnLift", spec := "fnLift", unfollowed := true, recurses := true, apart := false }
def FnLiftSaid : Prop := fnLiftRow.holds Try.pinned (OpenSpec.ofChange fnLiftSpec)

/-- ITS FALSE NEIGHBOUR: 'it returns false'. Refute it at one input. -/
def fnLiftWrong : ChangeSpec := { name := "fnLift", fn := fun _ => fun
  | [d1, d2] => { results := [.lit (.bool false)], args := [d1, d2] }
  | _ => none }
def FnLiftWrongFalsely : Prop := fnLiftRow.holds Try.pinned (OpenSpec.ofChange fnLiftWrong)

/-- 'laws.FnLiftMany': WHATEVER THE INPUT: true; the input reads as it did. -/
def fnLiftManySpec : ChangeSpec := { name := "fnLiftMany", fn := fun _ => fun
  | [d] => { results := [.lit (.bool true)], args := [d] }
  | _ => none }
def fnLiftManyRow : OpenClaim := { program := "ytjboamhjfncgdaa", sum := "3de4eb4672f5d200c98dcc8fc7d1fc3f7dc1352453087fc4dc8bb9cf9509716a", func := "loop.example/cableship/laws.FnLiftMany", spec := "fnLiftMany", unfollowed := true, recurses := true, apart := false }
def FnLiftManySaid : Prop := fnLiftManyRow.holds Try.pinned (OpenSpec.ofChange fnLiftManySpec)

/-- ITS FALSE NEIGHBOUR: 'it returns false'. Refute it at one input. -/
def fnLiftManyWrong : ChangeSpec := { name := "fnLiftMany", fn := fun _ => fun
  | [d] => { results := [.lit (.bool false)], args := [d] }
  | _ => none }
def FnLiftManyWrongFalsely : Prop := fnLiftManyRow.holds Try.pinned (OpenSpec.ofChange fnLiftManyWrong)

/-- 'laws.FnRounds': WHATEVER THE INPUT: true; the input reads as it did. -/
def fnRoundsSpec : ChangeSpec := { name := "fnRounds", fn := fun _ => fun
  | [d1, d2] => { results := [.lit (.bool true)], args := [d1, d2] }
  | _ => none }
def fnRoundsRow : OpenClaim := { program := "ytjboamhjfncgdaa", sum := "3de4eb4672f5d200c98dcc8fc7d1fc3f7dc1352453087fc4dc8bb9cf9509716a", func := "loop.example/cableship/laws.FnRounds", spec := "fnRounds", unfollowed := true, recurses := true, apart := false }
def FnRoundsSaid : Prop := fnRoundsRow.holds Try.pinned (OpenSpec.ofChange fnRoundsSpec)

/-- ITS FALSE NEIGHBOUR: 'it returns false'. Refute it at one input. -/
def fnRoundsWrong : ChangeSpec := { name := "fnRounds", fn := fun _ => fun
  | [d1, d2] => { results := [.lit (.bool false)], args := [d1, d2] }
  | _ => none }
def FnRoundsWrongFalsely : Prop := fnRoundsRow.holds Try.pinned (OpenSpec.ofChange fnRoundsWrong)

/-- 'laws.FnDropRoute': WHATEVER THE INPUT: true; the input reads as it did. -/
def fnDropRouteSpec : ChangeSpec := { name := "fnDropRoute", fn := fun _ => fun
  | [d] => { results := [.lit (.bool true)], args := [d] }
  | _ => none }
def fnDropRouteRow : OpenClaim := { program := "ytjboamhjfncgdaa", sum := "3de4eb4672f5d200c98dcc8fc7d1fc3f7dc1352453087fc4dc8bb9cf9509716a", func := "loop.example/cableship/laws.FnDropRoute", spec := "fnDropRoute", unfollowed := true, recurses := true, apart := false }
def FnDropRouteSaid : Prop := fnDropRouteRow.holds Try.pinned (OpenSpec.ofChange fnDropRouteSpec)

/-- ITS FALSE NEIGHBOUR: 'it returns false'. Refute it at one input. -/
def fnDropRouteWrong : ChangeSpec := { name := "fnDropRoute", fn := fun _ => fun
  | [d] => { results := [.lit (.bool false)], args := [d] }
  | _ => none }
def FnDropRouteWrongFalsely : Prop := fnDropRouteRow.holds Try.pinned (OpenSpec.ofChange fnDropRouteWrong)

/-- 'laws.FnTurnChart': WHATEVER THE INPUT: true; the input reads as it did. -/
def fnTurnChartSpec : ChangeSpec := { name := "fnTurnChart", fn := fun _ => fun
  | [d1, d2] => { results := [.lit (.bool true)], args := [d1, d2] }
  | _ => none }
def fnTurnChartRow : OpenClaim := { program := "ytjboamhjfncgdaa", sum := "3de4eb4672f5d200c98dcc8fc7d1fc3f7dc1352453087fc4dc8bb9cf9509716a", func := "loop.example/cableship/laws.FnTurnChart", spec := "fnTurnChart", unfollowed := true, recurses := true, apart := false }
def FnTurnChartSaid : Prop := fnTurnChartRow.holds Try.pinned (OpenSpec.ofChange fnTurnChartSpec)

/-- ITS FALSE NEIGHBOUR: 'it returns false'. Refute it at one input. -/
def fnTurnChartWrong : ChangeSpec := { name := "fnTurnChart", fn := fun _ => fun
  | [d1, d2] => { results := [.lit (.bool false)], args := [d1, d2] }
  | _ => none }
def FnTurnChartWrongFalsely : Prop := fnTurnChartRow.holds Try.pinned (OpenSpec.ofChange fnTurnChartWrong)

/- THE SECOND FORM. 'bulk': how many values and letters a reading holds, each counted each time it is reached (what is shared counts as often as it is met; a slice's spare places count too). A statement '..UptoSaid' is the law's where the arguments, and the package variables that the reading takes, are together of bulk at most 1048576: NARROWER than '..Said'. Prove '..Said' where nothing that the law and all that it calls make is longer than what came in: it says more and counts as full. Else prove '..UptoSaid'. A law counts once. -/
mutual
def uptoBulk {H : Type} : DataW H → Nat
  | .lit (.string bytes) => bytes.length + 1
  | .lit _ => 1
  | .nil => 1
  | .ptr d => uptoBulk d + 1
  | .slice elems spare => uptoBulkAll elems + uptoBulkAll spare + 1
  | .agg parts => uptoBulkAll parts + 1
  | .iface _ d => uptoBulk d + 1
  | .map entries => uptoBulkEntries entries + 1
  | .held _ => 1
def uptoBulkAll {H : Type} : List (DataW H) → Nat
  | [] => 0
  | d :: r => uptoBulk d + uptoBulkAll r
def uptoBulkEntries {H : Type} : List (Lit × DataW H) → Nat
  | [] => 0
  | x :: r => uptoBulkEntry x + uptoBulkEntries r
def uptoBulkEntry {H : Type} : Lit × DataW H → Nat
  | (.string bytes, d) => bytes.length + uptoBulk d + 1
  | (_, d) => uptoBulk d + 1
 end
def uptoSmall : (H : Type) → List (DataW H) → Bool := fun _ ds => decide (uptoBulkAll ds ≤ 1048576)
def OpenSpec.upto (s : _root_.Go.ChangeSpec) : _root_.Go.OpenSpec := { _root_.Go.OpenSpec.ofChange s with cond := some uptoSmall }

/-- 'laws.FnLiftFirst', WHERE WHAT IT READS IS OF BULK AT MOST 1048576: true; the input reads as it did. -/
def fnLiftFirstUptoRow : OpenClaim := { program := "ytjboamhjfncgdaa", sum := "3de4eb4672f5d200c98dcc8fc7d1fc3f7dc1352453087fc4dc8bb9cf9509716a", func := "loop.example/cableship/laws.FnLiftFirst", spec := "fnLiftFirst", unfollowed := true, recurses := true, apart := false, narrowed := true }
def FnLiftFirstUptoSaid : Prop := fnLiftFirstUptoRow.holds Try.pinned (OpenSpec.upto fnLiftFirstSpec)

/-- 'laws.FnSide', WHERE WHAT IT READS IS OF BULK AT MOST 1048576: true; the input reads as it did. -/
def fnSideUptoRow : OpenClaim := { program := "ytjboamhjfncgdaa", sum := "3de4eb4672f5d200c98dcc8fc7d1fc3f7dc1352453087fc4dc8bb9cf9509716a", func := "loop.example/cableship/laws.FnSide", spec := "fnSide", apart := false, narrowed := true }
def FnSideUptoSaid : Prop := fnSideUptoRow.holds Try.pinned (OpenSpec.upto fnSideSpec)

/-- 'laws.FnExactChartValid', WHERE WHAT IT READS IS OF BULK AT MOST 1048576: true; the input reads as it did. -/
def fnExactChartValidUptoRow : OpenClaim := { program := "ytjboamhjfncgdaa", sum := "3de4eb4672f5d200c98dcc8fc7d1fc3f7dc1352453087fc4dc8bb9cf9509716a", func := "loop.example/cableship/laws.FnExactChartValid", spec := "fnExactChartValid", apart := false, narrowed := true }
def FnExactChartValidUptoSaid : Prop := fnExactChartValidUptoRow.holds Try.pinned (OpenSpec.upto fnExactChartValidSpec)

/-- 'laws.FnExactRoutesCross', WHERE WHAT IT READS IS OF BULK AT MOST 1048576: true; the input reads as it did. -/
def fnExactRoutesCrossUptoRow : OpenClaim := { program := "ytjboamhjfncgdaa", sum := "3de4eb4672f5d200c98dcc8fc7d1fc3f7dc1352453087fc4dc8bb9cf9509716a", func := "loop.example/cableship/laws.FnExactRoutesCross", spec := "fnExactRoutesCross", apart := false, narrowed := true }
def FnExactRoutesCrossUptoSaid : Prop := fnExactRoutesCrossUptoRow.holds Try.pinned (OpenSpec.upto fnExactRoutesCrossSpec)

/-- 'laws.FnExactChartCrossings', WHERE WHAT IT READS IS OF BULK AT MOST 1048576: true; the input reads as it did. -/
def fnExactChartCrossingsUptoRow : OpenClaim := { program := "ytjboamhjfncgdaa", sum := "3de4eb4672f5d200c98dcc8fc7d1fc3f7dc1352453087fc4dc8bb9cf9509716a", func := "loop.example/cableship/laws.FnExactChartCrossings", spec := "fnExactChartCrossings", unfollowed := true, recurses := true, apart := false, narrowed := true }
def FnExactChartCrossingsUptoSaid : Prop := fnExactChartCrossingsUptoRow.holds Try.pinned (OpenSpec.upto fnExactChartCrossingsSpec)

/-- 'laws.FnExactRouteAbove', WHERE WHAT IT READS IS OF BULK AT MOST 1048576: true; the input reads as it did. -/
def fnExactRouteAboveUptoRow : OpenClaim := { program := "ytjboamhjfncgdaa", sum := "3de4eb4672f5d200c98dcc8fc7d1fc3f7dc1352453087fc4dc8bb9cf9509716a", func := "loop.example/cableship/laws.FnExactRouteAbove", spec := "fnExactRouteAbove", unfollowed := true, recurses := true, apart := false, narrowed := true }
def FnExactRouteAboveUptoSaid : Prop := fnExactRouteAboveUptoRow.holds Try.pinned (OpenSpec.upto fnExactRouteAboveSpec)

/-- 'laws.FnExactRouteClear', WHERE WHAT IT READS IS OF BULK AT MOST 1048576: true; the input reads as it did. -/
def fnExactRouteClearUptoRow : OpenClaim := { program := "ytjboamhjfncgdaa", sum := "3de4eb4672f5d200c98dcc8fc7d1fc3f7dc1352453087fc4dc8bb9cf9509716a", func := "loop.example/cableship/laws.FnExactRouteClear", spec := "fnExactRouteClear", unfollowed := true, recurses := true, apart := false, narrowed := true }
def FnExactRouteClearUptoSaid : Prop := fnExactRouteClearUptoRow.holds Try.pinned (OpenSpec.upto fnExactRouteClearSpec)

/-- 'laws.FnExactLiftValid', WHERE WHAT IT READS IS OF BULK AT MOST 1048576: true; the input reads as it did. -/
def fnExactLiftValidUptoRow : OpenClaim := { program := "ytjboamhjfncgdaa", sum := "3de4eb4672f5d200c98dcc8fc7d1fc3f7dc1352453087fc4dc8bb9cf9509716a", func := "loop.example/cableship/laws.FnExactLiftValid", spec := "fnExactLiftValid", unfollowed := true, recurses := true, apart := false, narrowed := true }
def FnExactLiftValidUptoSaid : Prop := fnExactLiftValidUptoRow.holds Try.pinned (OpenSpec.upto fnExactLiftValidSpec)

/-- 'laws.FnExactLiftFirst', WHERE WHAT IT READS IS OF BULK AT MOST 1048576: true; the input reads as it did. -/
def fnExactLiftFirstUptoRow : OpenClaim := { program := "ytjboamhjfncgdaa", sum := "3de4eb4672f5d200c98dcc8fc7d1fc3f7dc1352453087fc4dc8bb9cf9509716a", func := "loop.example/cableship/laws.FnExactLiftFirst", spec := "fnExactLiftFirst", unfollowed := true, recurses := true, apart := false, narrowed := true }
def FnExactLiftFirstUptoSaid : Prop := fnExactLiftFirstUptoRow.holds Try.pinned (OpenSpec.upto fnExactLiftFirstSpec)

/-- 'laws.FnExactLiftMany', WHERE WHAT IT READS IS OF BULK AT MOST 1048576: true; the input reads as it did. -/
def fnExactLiftManyUptoRow : OpenClaim := { program := "ytjboamhjfncgdaa", sum := "3de4eb4672f5d200c98dcc8fc7d1fc3f7dc1352453087fc4dc8bb9cf9509716a", func := "loop.example/cableship/laws.FnExactLiftMany", spec := "fnExactLiftMany", unfollowed := true, recurses := true, apart := false, narrowed := true }
def FnExactLiftManyUptoSaid : Prop := fnExactLiftManyUptoRow.holds Try.pinned (OpenSpec.upto fnExactLiftManySpec)

/-- 'laws.FnExactLiftRounds', WHERE WHAT IT READS IS OF BULK AT MOST 1048576: true; the input reads as it did. -/
def fnExactLiftRoundsUptoRow : OpenClaim := { program := "ytjboamhjfncgdaa", sum := "3de4eb4672f5d200c98dcc8fc7d1fc3f7dc1352453087fc4dc8bb9cf9509716a", func := "loop.example/cableship/laws.FnExactLiftRounds", spec := "fnExactLiftRounds", unfollowed := true, recurses := true, apart := false, narrowed := true }
def FnExactLiftRoundsUptoSaid : Prop := fnExactLiftRoundsUptoRow.holds Try.pinned (OpenSpec.upto fnExactLiftRoundsSpec)

/-- 'laws.FnExactChartDrop', WHERE WHAT IT READS IS OF BULK AT MOST 1048576: true; the input reads as it did. -/
def fnExactChartDropUptoRow : OpenClaim := { program := "ytjboamhjfncgdaa", sum := "3de4eb4672f5d200c98dcc8fc7d1fc3f7dc1352453087fc4dc8bb9cf9509716a", func := "loop.example/cableship/laws.FnExactChartDrop", spec := "fnExactChartDrop", apart := false, narrowed := true }
def FnExactChartDropUptoSaid : Prop := fnExactChartDropUptoRow.holds Try.pinned (OpenSpec.upto fnExactChartDropSpec)

/-- 'laws.FnExactChartTurn', WHERE WHAT IT READS IS OF BULK AT MOST 1048576: true; the input reads as it did. -/
def fnExactChartTurnUptoRow : OpenClaim := { program := "ytjboamhjfncgdaa", sum := "3de4eb4672f5d200c98dcc8fc7d1fc3f7dc1352453087fc4dc8bb9cf9509716a", func := "loop.example/cableship/laws.FnExactChartTurn", spec := "fnExactChartTurn", apart := false, narrowed := true }
def FnExactChartTurnUptoSaid : Prop := fnExactChartTurnUptoRow.holds Try.pinned (OpenSpec.upto fnExactChartTurnSpec)

/-- 'laws.FnExactRouteSide', WHERE WHAT IT READS IS OF BULK AT MOST 1048576: true; the input reads as it did. -/
def fnExactRouteSideUptoRow : OpenClaim := { program := "ytjboamhjfncgdaa", sum := "3de4eb4672f5d200c98dcc8fc7d1fc3f7dc1352453087fc4dc8bb9cf9509716a", func := "loop.example/cableship/laws.FnExactRouteSide", spec := "fnExactRouteSide", apart := false, narrowed := true }
def FnExactRouteSideUptoSaid : Prop := fnExactRouteSideUptoRow.holds Try.pinned (OpenSpec.upto fnExactRouteSideSpec)

/-- 'laws.FnCross', WHERE WHAT IT READS IS OF BULK AT MOST 1048576: true; the input reads as it did. -/
def fnCrossUptoRow : OpenClaim := { program := "ytjboamhjfncgdaa", sum := "3de4eb4672f5d200c98dcc8fc7d1fc3f7dc1352453087fc4dc8bb9cf9509716a", func := "loop.example/cableship/laws.FnCross", spec := "fnCross", unfollowed := true, recurses := true, apart := false, narrowed := true }
def FnCrossUptoSaid : Prop := fnCrossUptoRow.holds Try.pinned (OpenSpec.upto fnCrossSpec)

/-- 'laws.FnCrossings', WHERE WHAT IT READS IS OF BULK AT MOST 1048576: true; the input reads as it did. -/
def fnCrossingsUptoRow : OpenClaim := { program := "ytjboamhjfncgdaa", sum := "3de4eb4672f5d200c98dcc8fc7d1fc3f7dc1352453087fc4dc8bb9cf9509716a", func := "loop.example/cableship/laws.FnCrossings", spec := "fnCrossings", unfollowed := true, recurses := true, apart := false, narrowed := true }
def FnCrossingsUptoSaid : Prop := fnCrossingsUptoRow.holds Try.pinned (OpenSpec.upto fnCrossingsSpec)

/-- 'laws.FnAbove', WHERE WHAT IT READS IS OF BULK AT MOST 1048576: true; the input reads as it did. -/
def fnAboveUptoRow : OpenClaim := { program := "ytjboamhjfncgdaa", sum := "3de4eb4672f5d200c98dcc8fc7d1fc3f7dc1352453087fc4dc8bb9cf9509716a", func := "loop.example/cableship/laws.FnAbove", spec := "fnAbove", unfollowed := true, recurses := true, apart := false, narrowed := true }
def FnAboveUptoSaid : Prop := fnAboveUptoRow.holds Try.pinned (OpenSpec.upto fnAboveSpec)

/-- 'laws.FnClear', WHERE WHAT IT READS IS OF BULK AT MOST 1048576: true; the input reads as it did. -/
def fnClearUptoRow : OpenClaim := { program := "ytjboamhjfncgdaa", sum := "3de4eb4672f5d200c98dcc8fc7d1fc3f7dc1352453087fc4dc8bb9cf9509716a", func := "loop.example/cableship/laws.FnClear", spec := "fnClear", unfollowed := true, recurses := true, apart := false, narrowed := true }
def FnClearUptoSaid : Prop := fnClearUptoRow.holds Try.pinned (OpenSpec.upto fnClearSpec)

/-- 'laws.FnLift', WHERE WHAT IT READS IS OF BULK AT MOST 1048576: true; the input reads as it did. -/
def fnLiftUptoRow : OpenClaim := { program := "ytjboamhjfncgdaa", sum := "3de4eb4672f5d200c98dcc8fc7d1fc3f7dc1352453087fc4dc8bb9cf9509716a", func := "loop.example/cableship/laws.FnLift", spec := "fnLift", unfollowed := true, recurses := true, apart := false, narrowed := true }
def FnLiftUptoSaid : Prop := fnLiftUptoRow.holds Try.pinned (OpenSpec.upto fnLiftSpec)

/-- 'laws.FnLiftMany', WHERE WHAT IT READS IS OF BULK AT MOST 1048576: true; the input reads as it did. -/
def fnLiftManyUptoRow : OpenClaim := { program := "ytjboamhjfncgdaa", sum := "3de4eb4672f5d200c98dcc8fc7d1fc3f7dc1352453087fc4dc8bb9cf9509716a", func := "loop.example/cableship/laws.FnLiftMany", spec := "fnLiftMany", unfollowed := true, recurses := true, apart := false, narrowed := true }
def FnLiftManyUptoSaid : Prop := fnLiftManyUptoRow.holds Try.pinned (OpenSpec.upto fnLiftManySpec)

/-- 'laws.FnRounds', WHERE WHAT IT READS IS OF BULK AT MOST 1048576: true; the input reads as it did. -/
def fnRoundsUptoRow : OpenClaim := { program := "ytjboamhjfncgdaa", sum := "3de4eb4672f5d200c98dcc8fc7d1fc3f7dc1352453087fc4dc8bb9cf9509716a", func := "loop.example/cableship/laws.FnRounds", spec := "fnRounds", unfollowed := true, recurses := true, apart := false, narrowed := true }
def FnRoundsUptoSaid : Prop := fnRoundsUptoRow.holds Try.pinned (OpenSpec.upto fnRoundsSpec)

/-- 'laws.FnDropRoute', WHERE WHAT IT READS IS OF BULK AT MOST 1048576: true; the input reads as it did. -/
def fnDropRouteUptoRow : OpenClaim := { program := "ytjboamhjfncgdaa", sum := "3de4eb4672f5d200c98dcc8fc7d1fc3f7dc1352453087fc4dc8bb9cf9509716a", func := "loop.example/cableship/laws.FnDropRoute", spec := "fnDropRoute", unfollowed := true, recurses := true, apart := false, narrowed := true }
def FnDropRouteUptoSaid : Prop := fnDropRouteUptoRow.holds Try.pinned (OpenSpec.upto fnDropRouteSpec)

/-- 'laws.FnTurnChart', WHERE WHAT IT READS IS OF BULK AT MOST 1048576: true; the input reads as it did. -/
def fnTurnChartUptoRow : OpenClaim := { program := "ytjboamhjfncgdaa", sum := "3de4eb4672f5d200c98dcc8fc7d1fc3f7dc1352453087fc4dc8bb9cf9509716a", func := "loop.example/cableship/laws.FnTurnChart", spec := "fnTurnChart", unfollowed := true, recurses := true, apart := false, narrowed := true }
def FnTurnChartUptoSaid : Prop := fnTurnChartUptoRow.holds Try.pinned (OpenSpec.upto fnTurnChartSpec)

end Rows
end Go.Proofs.Ytjboamhjfncgdaa
