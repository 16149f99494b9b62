/-
  No cell of these rows narrows 'for every input' (looked for: loops, veiled, ifaces, maps, wideKeys, modest, calm, conditions, laid).
  DERIVED. THE GIVEN ROWS OF THIS SEAT. 8 by the template 'for every input the law returns true; each argument reads behind the call as it read before'; 0 by the template 'total and deterministic' (their statements: YtodboccadccpfaaTotals.lean).
  GIVEN WITH THE SEED: the statements are not yours to turn. If you find one false, say at which input.
  Laid BY PROGRAM, IN A SANDBOX (cutbox-rows.mjs): the forced cells as the released guide's own fill.sh prints them over the translation c03517babcee9ce4… (all of the seat's roots in one cut). By AI agents, Wed Nov 11 2026. No macro, syntax, notation, axiom, sorry.
-/
import Derived.Test.YtodboccadccpfaaChecked
import GoSem.Claim
import GoSem.ClaimJoined
import GoSem.ClaimMapViews
import Derived.JoinedTies
import Derived.KernelRfl
namespace Go.Proofs.Ytodboccadccpfaa
/- THE CELL 'sum', in the pinned program and in every row, IS THE sha256 OF THE DUMP (.gsa) THAT YtodboccadccpfaaProg.lean LOADS. Nothing in Lean hashes anything: it is a label: what it is worth is what the hold of that sum in a sandbox is worth. -/
noncomputable def Try.pinned : Pinned := { name := "ytodboccadccpfaa", sum := "c03517babcee9ce48ecfb1f7d97cbb4e2b4a04064755500f65104ff4b19caf9b", checked := Try.checked }
namespace Rows
def none {H : Type} : Left H := { results := [], args := [] }

/-- 'laws.FnForecast': WHATEVER THE INPUT: true; the input reads as it did. -/
def fnForecastSpec : ChangeSpec := { name := "fnForecast", fn := fun _ => fun
  | [d1, d2] => { results := [.lit (.bool true)], args := [d1, d2] }
  | _ => none }
def fnForecastRow : OpenClaim := { program := "ytodboccadccpfaa", sum := "c03517babcee9ce48ecfb1f7d97cbb4e2b4a04064755500f65104ff4b19caf9b", func := "loop.example/cableship/laws.FnForecast", spec := "fnForecast", apart := false }
def FnForecastSaid : Prop := fnForecastRow.holds Try.pinned (OpenSpec.ofChange fnForecastSpec)

/-- ITS FALSE NEIGHBOUR: 'it returns false'. Refute it at one input. -/
def fnForecastWrong : ChangeSpec := { name := "fnForecast", fn := fun _ => fun
  | [d1, d2] => { results := [.lit (.bool false)], args := [d1, d2] }
  | _ => none }
def FnForecastWrongFalsely : Prop := fnForecastRow.holds Try.pinned (OpenSpec.ofChange fnForecastWrong)

/-- 'laws.FnRatio': WHATEVER THE INPUT: true; the input reads as it did. -/
def fnRatioSpec : ChangeSpec := { name := "fnRatio", fn := fun _ => fun
  | [d] => { results := [.lit (.bool true)], args := [d] }
  | _ => none }
def fnRatioRow : OpenClaim := { program := "ytodboccadccpfaa", sum := "c03517babcee9ce48ecfb1f7d97cbb4e2b4a04064755500f65104ff4b19caf9b", func := "loop.example/cableship/laws.FnRatio", spec := "fnRatio", apart := false }
def FnRatioSaid : Prop := fnRatioRow.holds Try.pinned (OpenSpec.ofChange fnRatioSpec)

/-- ITS FALSE NEIGHBOUR: 'it returns false'. Refute it at one input. -/
def fnRatioWrong : ChangeSpec := { name := "fnRatio", fn := fun _ => fun
  | [d] => { results := [.lit (.bool false)], args := [d] }
  | _ => none }
def FnRatioWrongFalsely : Prop := fnRatioRow.holds Try.pinned (OpenSpec.ofChange fnRatioWrong)

/-- 'laws.FnOne': WHATEVER THE INPUT: true; the input reads as it did. -/
def fnOneSpec : ChangeSpec := { name := "fnOne", fn := fun _ => fun
  | [d] => { results := [.lit (.bool true)], args := [d] }
  | _ => none }
def fnOneRow : OpenClaim := { program := "ytodboccadccpfaa", sum := "c03517babcee9ce48ecfb1f7d97cbb4e2b4a04064755500f65104ff4b19caf9b", func := "loop.example/cableship/laws.FnOne", spec := "fnOne", unfollowed := true, recurses := true, apart := false }
def FnOneSaid : Prop := fnOneRow.holds Try.pinned (OpenSpec.ofChange fnOneSpec)

/-- ITS FALSE NEIGHBOUR: 'it returns false'. Refute it at one input. -/
def fnOneWrong : ChangeSpec := { name := "fnOne", fn := fun _ => fun
  | [d] => { results := [.lit (.bool false)], args := [d] }
  | _ => none }
def FnOneWrongFalsely : Prop := fnOneRow.holds Try.pinned (OpenSpec.ofChange fnOneWrong)

/-- 'laws.FnBoth': WHATEVER THE INPUT: true; the input reads as it did. -/
def fnBothSpec : ChangeSpec := { name := "fnBoth", fn := fun _ => fun
  | [d] => { results := [.lit (.bool true)], args := [d] }
  | _ => none }
def fnBothRow : OpenClaim := { program := "ytodboccadccpfaa", sum := "c03517babcee9ce48ecfb1f7d97cbb4e2b4a04064755500f65104ff4b19caf9b", func := "loop.example/cableship/laws.FnBoth", spec := "fnBoth", unfollowed := true, recurses := true, apart := false }
def FnBothSaid : Prop := fnBothRow.holds Try.pinned (OpenSpec.ofChange fnBothSpec)

/-- ITS FALSE NEIGHBOUR: 'it returns false'. Refute it at one input. -/
def fnBothWrong : ChangeSpec := { name := "fnBoth", fn := fun _ => fun
  | [d] => { results := [.lit (.bool false)], args := [d] }
  | _ => none }
def FnBothWrongFalsely : Prop := fnBothRow.holds Try.pinned (OpenSpec.ofChange fnBothWrong)

/-- 'laws.FnTake': WHATEVER THE INPUT: true; the input reads as it did. -/
def fnTakeSpec : ChangeSpec := { name := "fnTake", fn := fun _ => fun
  | [d] => { results := [.lit (.bool true)], args := [d] }
  | _ => none }
def fnTakeRow : OpenClaim := { program := "ytodboccadccpfaa", sum := "c03517babcee9ce48ecfb1f7d97cbb4e2b4a04064755500f65104ff4b19caf9b", func := "loop.example/cableship/laws.FnTake", spec := "fnTake", apart := false }
def FnTakeSaid : Prop := fnTakeRow.holds Try.pinned (OpenSpec.ofChange fnTakeSpec)

/-- ITS FALSE NEIGHBOUR: 'it returns false'. Refute it at one input. -/
def fnTakeWrong : ChangeSpec := { name := "fnTake", fn := fun _ => fun
  | [d] => { results := [.lit (.bool false)], args := [d] }
  | _ => none }
def FnTakeWrongFalsely : Prop := fnTakeRow.holds Try.pinned (OpenSpec.ofChange fnTakeWrong)

/-- 'laws.FnServeCan': WHATEVER THE INPUT: true; the input reads as it did. -/
def fnServeCanSpec : ChangeSpec := { name := "fnServeCan", fn := fun _ => fun
  | [d1, d2] => { results := [.lit (.bool true)], args := [d1, d2] }
  | _ => none }
def fnServeCanRow : OpenClaim := { program := "ytodboccadccpfaa", sum := "c03517babcee9ce48ecfb1f7d97cbb4e2b4a04064755500f65104ff4b19caf9b", func := "loop.example/cableship/laws.FnServeCan", spec := "fnServeCan", unfollowed := true, recurses := true, apart := false }
def FnServeCanSaid : Prop := fnServeCanRow.holds Try.pinned (OpenSpec.ofChange fnServeCanSpec)

/-- ITS FALSE NEIGHBOUR: 'it returns false'. Refute it at one input. -/
def fnServeCanWrong : ChangeSpec := { name := "fnServeCan", fn := fun _ => fun
  | [d1, d2] => { results := [.lit (.bool false)], args := [d1, d2] }
  | _ => none }
def FnServeCanWrongFalsely : Prop := fnServeCanRow.holds Try.pinned (OpenSpec.ofChange fnServeCanWrong)

/-- 'laws.FnStowage': WHATEVER THE INPUT: true; the input reads as it did. -/
def fnStowageSpec : ChangeSpec := { name := "fnStowage", fn := fun _ => fun
  | [d1, d2] => { results := [.lit (.bool true)], args := [d1, d2] }
  | _ => none }
def fnStowageRow : OpenClaim := { program := "ytodboccadccpfaa", sum := "c03517babcee9ce48ecfb1f7d97cbb4e2b4a04064755500f65104ff4b19caf9b", func := "loop.example/cableship/laws.FnStowage", spec := "fnStowage", unfollowed := true, recurses := true, apart := false }
def FnStowageSaid : Prop := fnStowageRow.holds Try.pinned (OpenSpec.ofChange fnStowageSpec)

/-- ITS FALSE NEIGHBOUR: 'it returns false'. Refute it at one input. -/
def fnStowageWrong : ChangeSpec := { name := "fnStowage", fn := fun _ => fun
  | [d1, d2] => { results := [.lit (.bool false)], args := [d1, d2] }
  | _ => none }
def FnStowageWrongFalsely : Prop := fnStowageRow.holds Try.pinned (OpenSpec.ofChange fnStowageWrong)

/-- 'laws.FnMake': WHATEVER THE INPUT: true; the input reads as it did. -/
def fnMakeSpec : ChangeSpec := { name := "fnMake", fn := fun _ => fun
  | [d1, d2] => { results := [.lit (.bool true)], args := [d1, d2] }
  | _ => none }
def fnMakeRow : OpenClaim := { program := "ytodboccadccpfaa", sum := "c03517babcee9ce48ecfb1f7d97cbb4e2b4a04064755500f65104ff4b19caf9b", func := "loop.example/cableship/laws.FnMake", spec := "fnMake", unfollowed := true, recurses := true, apart := false }
def FnMakeSaid : Prop := fnMakeRow.holds Try.pinned (OpenSpec.ofChange fnMakeSpec)

/-- ITS FALSE NEIGHBOUR: 'it returns false'. Refute it at one input. -/
def fnMakeWrong : ChangeSpec := { name := "fnMake", fn := fun _ => fun
  | [d1, d2] => { results := [.lit (.bool false)], args := [d1, d2] }
  | _ => none }
def FnMakeWrongFalsely : Prop := fnMakeRow.holds Try.pinned (OpenSpec.ofChange fnMakeWrong)

/- THE SECOND FORM. 'bulk': how many values and letters a reading holds, each counted each time it is reached (what is shared counts as often as it is met; a slice's spare places count too). A statement '..UptoSaid' is the law's where the arguments, and the package variables that the reading takes, are together of bulk at most 1048576: NARROWER than '..Said'. Prove '..Said' where nothing that the law and all that it calls make is longer than what came in: it says more and counts as full. Else prove '..UptoSaid'. A law counts once. -/
mutual
def uptoBulk {H : Type} : DataW H → Nat
  | .lit (.string bytes) => bytes.length + 1
  | .lit _ => 1
  | .nil => 1
  | .ptr d => uptoBulk d + 1
  | .slice elems spare => uptoBulkAll elems + uptoBulkAll spare + 1
  | .agg parts => uptoBulkAll parts + 1
  | .iface _ d => uptoBulk d + 1
  | .map entries => uptoBulkEntries entries + 1
  | .held _ => 1
def uptoBulkAll {H : Type} : List (DataW H) → Nat
  | [] => 0
  | d :: r => uptoBulk d + uptoBulkAll r
def uptoBulkEntries {H : Type} : List (Lit × DataW H) → Nat
  | [] => 0
  | x :: r => uptoBulkEntry x + uptoBulkEntries r
def uptoBulkEntry {H : Type} : Lit × DataW H → Nat
  | (.string bytes, d) => bytes.length + uptoBulk d + 1
  | (_, d) => uptoBulk d + 1
 end
def uptoSmall : (H : Type) → List (DataW H) → Bool := fun _ ds => decide (uptoBulkAll ds ≤ 1048576)
def OpenSpec.upto (s : _root_.Go.ChangeSpec) : _root_.Go.OpenSpec := { _root_.Go.OpenSpec.ofChange s with cond := some uptoSmall }

/-- 'laws.FnForecast', WHERE WHAT IT READS IS OF BULK AT MOST 1048576: true; the input reads as it did. -/
def fnForecastUptoRow : OpenClaim := { program := "ytodboccadccpfaa", sum := "c03517babcee9ce48ecfb1f7d97cbb4e2b4a04064755500f65104ff4b19caf9b", func := "loop.example/cableship/laws.FnForecast", spec := "fnForecast", apart := false, narrowed := true }
def FnForecastUptoSaid : Prop := fnForecastUptoRow.holds Try.pinned (OpenSpec.upto fnForecastSpec)

/-- 'laws.FnRatio', WHERE WHAT IT READS IS OF BULK AT MOST 1048576: true; the input reads as it did. -/
def fnRatioUptoRow : OpenClaim := { program := "ytodboccadccpfaa", sum := "c03517babcee9ce48ecfb1f7d97cbb4e2b4a04064755500f65104ff4b19caf9b", func := "loop.example/cableship/laws.FnRatio", spec := "fnRatio", apart := false, narrowed := true }
def FnRatioUptoSaid : Prop := fnRatioUptoRow.holds Try.pinned (OpenSpec.upto fnRatioSpec)

/-- 'laws.FnOne', WHERE WHAT IT READS IS OF BULK AT MOST 1048576: true; the input reads as it did. -/
def fnOneUptoRow : OpenClaim := { program := "ytodboccadccpfaa", sum := "c03517babcee9ce48ecfb1f7d97cbb4e2b4a04064755500f65104ff4b19caf9b", func := "loop.example/cableship/laws.FnOne", spec := "fnOne", unfollowed := true, recurses := true, apart := false, narrowed := true }
def FnOneUptoSaid : Prop := fnOneUptoRow.holds Try.pinned (OpenSpec.upto fnOneSpec)

/-- 'laws.FnBoth', WHERE WHAT IT READS IS OF BULK AT MOST 1048576: true; the input reads as it did. -/
def fnBothUptoRow : OpenClaim := { program := "ytodboccadccpfaa", sum := "c03517babcee9ce48ecfb1f7d97cbb4e2b4a04064755500f65104ff4b19caf9b", func := "loop.example/cableship/laws.FnBoth", spec := "fnBoth", unfollowed := true, recurses := true, apart := false, narrowed := true }
def FnBothUptoSaid : Prop := fnBothUptoRow.holds Try.pinned (OpenSpec.upto fnBothSpec)

/-- 'laws.FnTake', WHERE WHAT IT READS IS OF BULK AT MOST 1048576: true; the input reads as it did. -/
def fnTakeUptoRow : OpenClaim := { program := "ytodboccadccpfaa", sum := "c03517babcee9ce48ecfb1f7d97cbb4e2b4a04064755500f65104ff4b19caf9b", func := "loop.example/cableship/laws.FnTake", spec := "fnTake", apart := false, narrowed := true }
def FnTakeUptoSaid : Prop := fnTakeUptoRow.holds Try.pinned (OpenSpec.upto fnTakeSpec)

/-- 'laws.FnServeCan', WHERE WHAT IT READS IS OF BULK AT MOST 1048576: true; the input reads as it did. -/
def fnServeCanUptoRow : OpenClaim := { program := "ytodboccadccpfaa", sum := "c03517babcee9ce48ecfb1f7d97cbb4e2b4a04064755500f65104ff4b19caf9b", func := "loop.example/cableship/laws.FnServeCan", spec := "fnServeCan", unfollowed := true, recurses := true, apart := false, narrowed := true }
def FnServeCanUptoSaid : Prop := fnServeCanUptoRow.holds Try.pinned (OpenSpec.upto fnServeCanSpec)

/-- 'laws.FnStowage', WHERE WHAT IT READS IS OF BULK AT MOST 1048576: true; the input reads as it did. -/
def fnStowageUptoRow : OpenClaim := { program := "ytodboccadccpfaa", sum := "c03517babcee9ce48ecfb1f7d97cbb4e2b4a04064755500f65104ff4b19caf9b", func := "loop.example/cableship/laws.FnStowage", spec := "fnStowage", unfollowed := true, recurses := true, apart := false, narrowed := true }
def FnStowageUptoSaid : Prop := fnStowageUptoRow.holds Try.pinned (OpenSpec.upto fnStowageSpec)

/-- 'laws.FnMake', WHERE WHAT IT READS IS OF BULK AT MOST 1048576: true; the input reads as it did. -/
def fnMakeUptoRow : OpenClaim := { program := "ytodboccadccpfaa", sum := "c03517babcee9ce48ecfb1f7d97cbb4e2b4a04064755500f65104ff4b19caf9b", func := "loop.example/cableship/laws.FnMake", spec := "fnMake", unfollowed := true, recurses := true, apart := false, narrowed := true }
def FnMakeUptoSaid : Prop := fnMakeUptoRow.holds Try.pinned (OpenSpec.upto fnMakeSpec)

end Rows
end Go.Proofs.Ytodboccadccpfaa
