/-
  No cell of these rows narrows 'for every input' (looked for: loops, veiled, ifaces, maps, wideKeys, modest, calm, conditions, laid).
  DERIVED. THE GIVEN ROWS OF THIS SEAT. 11 by the template 'for every input the law returns true; each argument reads behind the call as it read before'; 0 by the template 'total and deterministic' (their statements: YtgnemkflojohdaaTotals.lean).
  GIVEN WITH THE SEED: the statements are not yours to turn. If you find one false, say at which input.
  Laid BY PROGRAM, IN A SANDBOX (cutbox-rows.mjs): the forced cells as the released guide's own fill.sh prints them over the translation 4ebdfe532a31dbe4… (all of the seat's roots in one cut). By AI agents, Wed Nov 11 2026. No macro, syntax, notation, axiom, sorry.
-/
import Derived.Test.YtgnemkflojohdaaChecked
import GoSem.Claim
import GoSem.ClaimJoined
import GoSem.ClaimMapViews
import Derived.JoinedTies
import Derived.KernelRfl
namespace Go.Proofs.Ytgnemkflojohdaa
/- THE CELL 'sum', in the pinned program and in every row, IS THE sha256 OF THE DUMP (.gsa) THAT YtgnemkflojohdaaProg.lean LOADS. Nothing in Lean hashes anything: it is a label: what it is worth is what the hold of that sum in a sandbox is worth. -/
noncomputable def Try.pinned : Pinned := { name := "ytgnemkflojohdaa", sum := "4ebdfe532a31dbe4baa3026222a82bd0d68c746bc80bbcc95650f297b73fb439", checked := Try.checked }
namespace Rows
def none {H : Type} : Left H := { results := [], args := [] }

/-- 'laws.FnEarthed': WHATEVER THE INPUT: true; the input reads as it did. -/
def fnEarthedSpec : ChangeSpec := { name := "fnEarthed", fn := fun _ => fun
  | [d] => { results := [.lit (.bool true)], args := [d] }
  | _ => none }
def fnEarthedRow : OpenClaim := { program := "ytgnemkflojohdaa", sum := "4ebdfe532a31dbe4baa3026222a82bd0d68c746bc80bbcc95650f297b73fb439", func := "loop.example/cableship/laws.FnEarthed", spec := "fnEarthed", apart := false }
def FnEarthedSaid : Prop := fnEarthedRow.holds Try.pinned (OpenSpec.ofChange fnEarthedSpec)

/-- ITS FALSE NEIGHBOUR: 'it returns false'. Refute it at one input. -/
def fnEarthedWrong : ChangeSpec := { name := "fnEarthed", fn := fun _ => fun
  | [d] => { results := [.lit (.bool false)], args := [d] }
  | _ => none }
def FnEarthedWrongFalsely : Prop := fnEarthedRow.holds Try.pinned (OpenSpec.ofChange fnEarthedWrong)

/-- 'laws.FnFar': WHATEVER THE INPUT: true; the input reads as it did. -/
def fnFarSpec : ChangeSpec := { name := "fnFar", fn := fun _ => fun
  | [d] => { results := [.lit (.bool true)], args := [d] }
  | _ => none }
def fnFarRow : OpenClaim := { program := "ytgnemkflojohdaa", sum := "4ebdfe532a31dbe4baa3026222a82bd0d68c746bc80bbcc95650f297b73fb439", func := "loop.example/cableship/laws.FnFar", spec := "fnFar", apart := false }
def FnFarSaid : Prop := fnFarRow.holds Try.pinned (OpenSpec.ofChange fnFarSpec)

/-- ITS FALSE NEIGHBOUR: 'it returns false'. Refute it at one input. -/
def fnFarWrong : ChangeSpec := { name := "fnFar", fn := fun _ => fun
  | [d] => { results := [.lit (.bool false)], args := [d] }
  | _ => none }
def FnFarWrongFalsely : Prop := fnFarRow.holds Try.pinned (OpenSpec.ofChange fnFarWrong)

/-- 'laws.FnOne': WHATEVER THE INPUT: true; the input reads as it did. -/
def fnOneSpec : ChangeSpec := { name := "fnOne", fn := fun _ => fun
  | [d] => { results := [.lit (.bool true)], args := [d] }
  | _ => none }
def fnOneRow : OpenClaim := { program := "ytgnemkflojohdaa", sum := "4ebdfe532a31dbe4baa3026222a82bd0d68c746bc80bbcc95650f297b73fb439", func := "loop.example/cableship/laws.FnOne", spec := "fnOne", unfollowed := true, recurses := true, apart := false }
def FnOneSaid : Prop := fnOneRow.holds Try.pinned (OpenSpec.ofChange fnOneSpec)

/-- ITS FALSE NEIGHBOUR: 'it returns false'. Refute it at one input. -/
def fnOneWrong : ChangeSpec := { name := "fnOne", fn := fun _ => fun
  | [d] => { results := [.lit (.bool false)], args := [d] }
  | _ => none }
def FnOneWrongFalsely : Prop := fnOneRow.holds Try.pinned (OpenSpec.ofChange fnOneWrong)

/-- 'laws.FnBoth': WHATEVER THE INPUT: true; the input reads as it did. -/
def fnBothSpec : ChangeSpec := { name := "fnBoth", fn := fun _ => fun
  | [d] => { results := [.lit (.bool true)], args := [d] }
  | _ => none }
def fnBothRow : OpenClaim := { program := "ytgnemkflojohdaa", sum := "4ebdfe532a31dbe4baa3026222a82bd0d68c746bc80bbcc95650f297b73fb439", func := "loop.example/cableship/laws.FnBoth", spec := "fnBoth", unfollowed := true, recurses := true, apart := false }
def FnBothSaid : Prop := fnBothRow.holds Try.pinned (OpenSpec.ofChange fnBothSpec)

/-- ITS FALSE NEIGHBOUR: 'it returns false'. Refute it at one input. -/
def fnBothWrong : ChangeSpec := { name := "fnBoth", fn := fun _ => fun
  | [d] => { results := [.lit (.bool false)], args := [d] }
  | _ => none }
def FnBothWrongFalsely : Prop := fnBothRow.holds Try.pinned (OpenSpec.ofChange fnBothWrong)

/-- 'laws.FnFaultBack': WHATEVER THE INPUT: true; the input reads as it did. -/
def fnFaultBackSpec : ChangeSpec := { name := "fnFaultBack", fn := fun _ => fun
  | [d] => { results := [.lit (.bool true)], args := [d] }
  | _ => none }
def fnFaultBackRow : OpenClaim := { program := "ytgnemkflojohdaa", sum := "4ebdfe532a31dbe4baa3026222a82bd0d68c746bc80bbcc95650f297b73fb439", func := "loop.example/cableship/laws.FnFaultBack", spec := "fnFaultBack", apart := false }
def FnFaultBackSaid : Prop := fnFaultBackRow.holds Try.pinned (OpenSpec.ofChange fnFaultBackSpec)

/-- ITS FALSE NEIGHBOUR: 'it returns false'. Refute it at one input. -/
def fnFaultBackWrong : ChangeSpec := { name := "fnFaultBack", fn := fun _ => fun
  | [d] => { results := [.lit (.bool false)], args := [d] }
  | _ => none }
def FnFaultBackWrongFalsely : Prop := fnFaultBackRow.holds Try.pinned (OpenSpec.ofChange fnFaultBackWrong)

/-- 'laws.FnFaultLess': WHATEVER THE INPUT: true; the input reads as it did. -/
def fnFaultLessSpec : ChangeSpec := { name := "fnFaultLess", fn := fun _ => fun
  | [d] => { results := [.lit (.bool true)], args := [d] }
  | _ => none }
def fnFaultLessRow : OpenClaim := { program := "ytgnemkflojohdaa", sum := "4ebdfe532a31dbe4baa3026222a82bd0d68c746bc80bbcc95650f297b73fb439", func := "loop.example/cableship/laws.FnFaultLess", spec := "fnFaultLess", apart := false }
def FnFaultLessSaid : Prop := fnFaultLessRow.holds Try.pinned (OpenSpec.ofChange fnFaultLessSpec)

/-- ITS FALSE NEIGHBOUR: 'it returns false'. Refute it at one input. -/
def fnFaultLessWrong : ChangeSpec := { name := "fnFaultLess", fn := fun _ => fun
  | [d] => { results := [.lit (.bool false)], args := [d] }
  | _ => none }
def FnFaultLessWrongFalsely : Prop := fnFaultLessRow.holds Try.pinned (OpenSpec.ofChange fnFaultLessWrong)

/-- 'laws.FnBreak': WHATEVER THE INPUT: true; the input reads as it did. -/
def fnBreakSpec : ChangeSpec := { name := "fnBreak", fn := fun _ => fun
  | [d] => { results := [.lit (.bool true)], args := [d] }
  | _ => none }
def fnBreakRow : OpenClaim := { program := "ytgnemkflojohdaa", sum := "4ebdfe532a31dbe4baa3026222a82bd0d68c746bc80bbcc95650f297b73fb439", func := "loop.example/cableship/laws.FnBreak", spec := "fnBreak", unfollowed := true, recurses := true, apart := false }
def FnBreakSaid : Prop := fnBreakRow.holds Try.pinned (OpenSpec.ofChange fnBreakSpec)

/-- ITS FALSE NEIGHBOUR: 'it returns false'. Refute it at one input. -/
def fnBreakWrong : ChangeSpec := { name := "fnBreak", fn := fun _ => fun
  | [d] => { results := [.lit (.bool false)], args := [d] }
  | _ => none }
def FnBreakWrongFalsely : Prop := fnBreakRow.holds Try.pinned (OpenSpec.ofChange fnBreakWrong)

/-- 'laws.FnBreakRange': WHATEVER THE INPUT: true; the input reads as it did. -/
def fnBreakRangeSpec : ChangeSpec := { name := "fnBreakRange", fn := fun _ => fun
  | [d] => { results := [.lit (.bool true)], args := [d] }
  | _ => none }
def fnBreakRangeRow : OpenClaim := { program := "ytgnemkflojohdaa", sum := "4ebdfe532a31dbe4baa3026222a82bd0d68c746bc80bbcc95650f297b73fb439", func := "loop.example/cableship/laws.FnBreakRange", spec := "fnBreakRange", unfollowed := true, recurses := true, apart := false }
def FnBreakRangeSaid : Prop := fnBreakRangeRow.holds Try.pinned (OpenSpec.ofChange fnBreakRangeSpec)

/-- ITS FALSE NEIGHBOUR: 'it returns false'. Refute it at one input. -/
def fnBreakRangeWrong : ChangeSpec := { name := "fnBreakRange", fn := fun _ => fun
  | [d] => { results := [.lit (.bool false)], args := [d] }
  | _ => none }
def FnBreakRangeWrongFalsely : Prop := fnBreakRangeRow.holds Try.pinned (OpenSpec.ofChange fnBreakRangeWrong)

/-- 'laws.FnRatio': WHATEVER THE INPUT: true; the input reads as it did. -/
def fnRatioSpec : ChangeSpec := { name := "fnRatio", fn := fun _ => fun
  | [d] => { results := [.lit (.bool true)], args := [d] }
  | _ => none }
def fnRatioRow : OpenClaim := { program := "ytgnemkflojohdaa", sum := "4ebdfe532a31dbe4baa3026222a82bd0d68c746bc80bbcc95650f297b73fb439", func := "loop.example/cableship/laws.FnRatio", spec := "fnRatio", apart := false }
def FnRatioSaid : Prop := fnRatioRow.holds Try.pinned (OpenSpec.ofChange fnRatioSpec)

/-- ITS FALSE NEIGHBOUR: 'it returns false'. Refute it at one input. -/
def fnRatioWrong : ChangeSpec := { name := "fnRatio", fn := fun _ => fun
  | [d] => { results := [.lit (.bool false)], args := [d] }
  | _ => none }
def FnRatioWrongFalsely : Prop := fnRatioRow.holds Try.pinned (OpenSpec.ofChange fnRatioWrong)

/-- 'laws.FnRatioLess': WHATEVER THE INPUT: true; the input reads as it did. -/
def fnRatioLessSpec : ChangeSpec := { name := "fnRatioLess", fn := fun _ => fun
  | [d] => { results := [.lit (.bool true)], args := [d] }
  | _ => none }
def fnRatioLessRow : OpenClaim := { program := "ytgnemkflojohdaa", sum := "4ebdfe532a31dbe4baa3026222a82bd0d68c746bc80bbcc95650f297b73fb439", func := "loop.example/cableship/laws.FnRatioLess", spec := "fnRatioLess", apart := false }
def FnRatioLessSaid : Prop := fnRatioLessRow.holds Try.pinned (OpenSpec.ofChange fnRatioLessSpec)

/-- ITS FALSE NEIGHBOUR: 'it returns false'. Refute it at one input. -/
def fnRatioLessWrong : ChangeSpec := { name := "fnRatioLess", fn := fun _ => fun
  | [d] => { results := [.lit (.bool false)], args := [d] }
  | _ => none }
def FnRatioLessWrongFalsely : Prop := fnRatioLessRow.holds Try.pinned (OpenSpec.ofChange fnRatioLessWrong)

/-- 'laws.FnOpen': WHATEVER THE INPUT: true; the input reads as it did. -/
def fnOpenSpec : ChangeSpec := { name := "fnOpen", fn := fun _ => fun
  | [d] => { results := [.lit (.bool true)], args := [d] }
  | _ => none }
def fnOpenRow : OpenClaim := { program := "ytgnemkflojohdaa", sum := "4ebdfe532a31dbe4baa3026222a82bd0d68c746bc80bbcc95650f297b73fb439", func := "loop.example/cableship/laws.FnOpen", spec := "fnOpen", unfollowed := true, recurses := true, apart := false }
def FnOpenSaid : Prop := fnOpenRow.holds Try.pinned (OpenSpec.ofChange fnOpenSpec)

/-- ITS FALSE NEIGHBOUR: 'it returns false'. Refute it at one input. -/
def fnOpenWrong : ChangeSpec := { name := "fnOpen", fn := fun _ => fun
  | [d] => { results := [.lit (.bool false)], args := [d] }
  | _ => none }
def FnOpenWrongFalsely : Prop := fnOpenRow.holds Try.pinned (OpenSpec.ofChange fnOpenWrong)

/- THE SECOND FORM. 'bulk': how many values and letters a reading holds, each counted each time it is reached (what is shared counts as often as it is met; a slice's spare places count too). A statement '..UptoSaid' is the law's where the arguments, and the package variables that the reading takes, are together of bulk at most 1048576: NARROWER than '..Said'. Prove '..Said' where nothing that the law and all that it calls make is longer than what came in: it says more and counts as full. Else prove '..UptoSaid'. A law counts once. -/
mutual
def uptoBulk {H : Type} : DataW H → Nat
  | .lit (.string bytes) => bytes.length + 1
  | .lit _ => 1
  | .nil => 1
  | .ptr d => uptoBulk d + 1
  | .slice elems spare => uptoBulkAll elems + uptoBulkAll spare + 1
  | .agg parts => uptoBulkAll parts + 1
  | .iface _ d => uptoBulk d + 1
  | .map entries => uptoBulkEntries entries + 1
  | .held _ => 1
def uptoBulkAll {H : Type} : List (DataW H) → Nat
  | [] => 0
  | d :: r => uptoBulk d + uptoBulkAll r
def uptoBulkEntries {H : Type} : List (Lit × DataW H) → Nat
  | [] => 0
  | x :: r => uptoBulkEntry x + uptoBulkEntries r
def uptoBulkEntry {H : Type} : Lit × DataW H → Nat
  | (.string bytes, d) => bytes.length + uptoBulk d + 1
  | (_, d) => uptoBulk d + 1
 end
def uptoSmall : (H : Type) → List (DataW H) → Bool := fun _ ds => decide (uptoBulkAll ds ≤ 1048576)
def OpenSpec.upto (s : _root_.Go.ChangeSpec) : _root_.Go.OpenSpec := { _root_.Go.OpenSpec.ofChange s with cond := some uptoSmall }

/-- 'laws.FnEarthed', WHERE WHAT IT READS IS OF BULK AT MOST 1048576: true; the input reads as it did. -/
def fnEarthedUptoRow : OpenClaim := { program := "ytgnemkflojohdaa", sum := "4ebdfe532a31dbe4baa3026222a82bd0d68c746bc80bbcc95650f297b73fb439", func := "loop.example/cableship/laws.FnEarthed", spec := "fnEarthed", apart := false, narrowed := true }
def FnEarthedUptoSaid : Prop := fnEarthedUptoRow.holds Try.pinned (OpenSpec.upto fnEarthedSpec)

/-- 'laws.FnFar', WHERE WHAT IT READS IS OF BULK AT MOST 1048576: true; the input reads as it did. -/
def fnFarUptoRow : OpenClaim := { program := "ytgnemkflojohdaa", sum := "4ebdfe532a31dbe4baa3026222a82bd0d68c746bc80bbcc95650f297b73fb439", func := "loop.example/cableship/laws.FnFar", spec := "fnFar", apart := false, narrowed := true }
def FnFarUptoSaid : Prop := fnFarUptoRow.holds Try.pinned (OpenSpec.upto fnFarSpec)

/-- 'laws.FnOne', WHERE WHAT IT READS IS OF BULK AT MOST 1048576: true; the input reads as it did. -/
def fnOneUptoRow : OpenClaim := { program := "ytgnemkflojohdaa", sum := "4ebdfe532a31dbe4baa3026222a82bd0d68c746bc80bbcc95650f297b73fb439", func := "loop.example/cableship/laws.FnOne", spec := "fnOne", unfollowed := true, recurses := true, apart := false, narrowed := true }
def FnOneUptoSaid : Prop := fnOneUptoRow.holds Try.pinned (OpenSpec.upto fnOneSpec)

/-- 'laws.FnBoth', WHERE WHAT IT READS IS OF BULK AT MOST 1048576: true; the input reads as it did. -/
def fnBothUptoRow : OpenClaim := { program := "ytgnemkflojohdaa", sum := "4ebdfe532a31dbe4baa3026222a82bd0d68c746bc80bbcc95650f297b73fb439", func := "loop.example/cableship/laws.FnBoth", spec := "fnBoth", unfollowed := true, recurses := true, apart := false, narrowed := true }
def FnBothUptoSaid : Prop := fnBothUptoRow.holds Try.pinned (OpenSpec.upto fnBothSpec)

/-- 'laws.FnFaultBack', WHERE WHAT IT READS IS OF BULK AT MOST 1048576: true; the input reads as it did. -/
def fnFaultBackUptoRow : OpenClaim := { program := "ytgnemkflojohdaa", sum := "4ebdfe532a31dbe4baa3026222a82bd0d68c746bc80bbcc95650f297b73fb439", func := "loop.example/cableship/laws.FnFaultBack", spec := "fnFaultBack", apart := false, narrowed := true }
def FnFaultBackUptoSaid : Prop := fnFaultBackUptoRow.holds Try.pinned (OpenSpec.upto fnFaultBackSpec)

/-- 'laws.FnFaultLess', WHERE WHAT IT READS IS OF BULK AT MOST 1048576: true; the input reads as it did. -/
def fnFaultLessUptoRow : OpenClaim := { program := "ytgnemkflojohdaa", sum := "4ebdfe532a31dbe4baa3026222a82bd0d68c746bc80bbcc95650f297b73fb439", func := "loop.example/cableship/laws.FnFaultLess", spec := "fnFaultLess", apart := false, narrowed := true }
def FnFaultLessUptoSaid : Prop := fnFaultLessUptoRow.holds Try.pinned (OpenSpec.upto fnFaultLessSpec)

/-- 'laws.FnBreak', WHERE WHAT IT READS IS OF BULK AT MOST 1048576: true; the input reads as it did. -/
def fnBreakUptoRow : OpenClaim := { program := "ytgnemkflojohdaa", sum := "4ebdfe532a31dbe4baa3026222a82bd0d68c746bc80bbcc95650f297b73fb439", func := "loop.example/cableship/laws.FnBreak", spec := "fnBreak", unfollowed := true, recurses := true, apart := false, narrowed := true }
def FnBreakUptoSaid : Prop := fnBreakUptoRow.holds Try.pinned (OpenSpec.upto fnBreakSpec)

/-- 'laws.FnBreakRange', WHERE WHAT IT READS IS OF BULK AT MOST 1048576: true; the input reads as it did. -/
def fnBreakRangeUptoRow : OpenClaim := { program := "ytgnemkflojohdaa", sum := "4ebdfe532a31dbe4baa3026222a82bd0d68c746bc80bbcc95650f297b73fb439", func := "loop.example/cableship/laws.FnBreakRange", spec := "fnBreakRange", unfollowed := true, recurses := true, apart := false, narrowed := true }
def FnBreakRangeUptoSaid : Prop := fnBreakRangeUptoRow.holds Try.pinned (OpenSpec.upto fnBreakRangeSpec)

/-- 'laws.FnRatio', WHERE WHAT IT READS IS OF BULK AT MOST 1048576: true; the input reads as it did. -/
def fnRatioUptoRow : OpenClaim := { program := "ytgnemkflojohdaa", sum := "4ebdfe532a31dbe4baa3026222a82bd0d68c746bc80bbcc95650f297b73fb439", func := "loop.example/cableship/laws.FnRatio", spec := "fnRatio", apart := false, narrowed := true }
def FnRatioUptoSaid : Prop := fnRatioUptoRow.holds Try.pinned (OpenSpec.upto fnRatioSpec)

/-- 'laws.FnRatioLess', WHERE WHAT IT READS IS OF BULK AT MOST 1048576: true; the input reads as it did. -/
def fnRatioLessUptoRow : OpenClaim := { program := "ytgnemkflojohdaa", sum := "4ebdfe532a31dbe4baa3026222a82bd0d68c746bc80bbcc95650f297b73fb439", func := "loop.example/cableship/laws.FnRatioLess", spec := "fnRatioLess", apart := false, narrowed := true }
def FnRatioLessUptoSaid : Prop := fnRatioLessUptoRow.holds Try.pinned (OpenSpec.upto fnRatioLessSpec)

/-- 'laws.FnOpen', WHERE WHAT IT READS IS OF BULK AT MOST 1048576: true; the input reads as it did. -/
def fnOpenUptoRow : OpenClaim := { program := "ytgnemkflojohdaa", sum := "4ebdfe532a31dbe4baa3026222a82bd0d68c746bc80bbcc95650f297b73fb439", func := "loop.example/cableship/laws.FnOpen", spec := "fnOpen", unfollowed := true, recurses := true, apart := false, narrowed := true }
def FnOpenUptoSaid : Prop := fnOpenUptoRow.holds Try.pinned (OpenSpec.upto fnOpenSpec)

end Rows
end Go.Proofs.Ytgnemkflojohdaa
