/-
  No cell of these rows narrows 'for every input' (looked for: loops, veiled, ifaces, maps, wideKeys, modest, calm, conditions, laid).
  DERIVED. THE GIVEN ROWS OF THIS SEAT. 16 by the template 'for every input the law returns true; each argument reads behind the call as it read before'; 0 by the template 'total and deterministic' (their statements: YtkicifkigbciaaaTotals.lean).
  GIVEN WITH THE SEED: the statements are not yours to turn. If you find one false, say at which input.
  Laid BY PROGRAM, IN A SANDBOX (cutbox-rows.mjs): the forced cells as the released guide's own fill.sh prints them over the translation 82945ad93fa30cec… (all of the seat's roots in one cut). By AI agents, Wed Nov 11 2026. No macro, syntax, notation, axiom, sorry.
-/
import Derived.Test.YtkicifkigbciaaaChecked
import GoSem.Claim
import GoSem.ClaimJoined
import GoSem.ClaimMapViews
import Derived.JoinedTies
import Derived.KernelRfl
namespace Go.Proofs.Ytkicifkigbciaaa
/- THE CELL 'sum', in the pinned program and in every row, IS THE sha256 OF THE DUMP (.gsa) THAT YtkicifkigbciaaaProg.lean LOADS. Nothing in Lean hashes anything: it is a label: what it is worth is what the hold of that sum in a sandbox is worth. -/
noncomputable def Try.pinned : Pinned := { name := "ytkicifkigbciaaa", sum := "82945ad93fa30cecc7be0e1353a8b59129a0caacce8380f203b29fb0ace65929", checked := Try.checked }
namespace Rows
def none {H : Type} : Left H := { results := [], args := [] }

/-- 'laws.FnFit': WHATEVER THE INPUT: true; the input reads as it did. -/
def fnFitSpec : ChangeSpec := { name := "fnFit", fn := fun _ => fun
  | [d] => { results := [.lit (.bool true)], args := [d] }
  | _ => none }
def fnFitRow : OpenClaim := { program := "ytkicifkigbciaaa", sum := "82945ad93fa30cecc7be0e1353a8b59129a0caacce8380f203b29fb0ace65929", func := "loop.example/cableship/laws.FnFit", spec := "fnFit", unfollowed := true, recurses := true, apart := false }
def FnFitSaid : Prop := fnFitRow.holds Try.pinned (OpenSpec.ofChange fnFitSpec)

/-- ITS FALSE NEIGHBOUR: 'it returns false'. Refute it at one input. -/
def fnFitWrong : ChangeSpec := { name := "fnFit", fn := fun _ => fun
  | [d] => { results := [.lit (.bool false)], args := [d] }
  | _ => none }
def FnFitWrongFalsely : Prop := fnFitRow.holds Try.pinned (OpenSpec.ofChange fnFitWrong)

/-- 'laws.FnServeWaste': WHATEVER THE INPUT: true; the input reads as it did. -/
def fnServeWasteSpec : ChangeSpec := { name := "fnServeWaste", fn := fun _ => fun
  | [d] => { results := [.lit (.bool true)], args := [d] }
  | _ => none }
def fnServeWasteRow : OpenClaim := { program := "ytkicifkigbciaaa", sum := "82945ad93fa30cecc7be0e1353a8b59129a0caacce8380f203b29fb0ace65929", func := "loop.example/cableship/laws.FnServeWaste", spec := "fnServeWaste", unfollowed := true, recurses := true, apart := false }
def FnServeWasteSaid : Prop := fnServeWasteRow.holds Try.pinned (OpenSpec.ofChange fnServeWasteSpec)

/-- ITS FALSE NEIGHBOUR: 'it returns false'. Refute it at one input. -/
def fnServeWasteWrong : ChangeSpec := { name := "fnServeWaste", fn := fun _ => fun
  | [d] => { results := [.lit (.bool false)], args := [d] }
  | _ => none }
def FnServeWasteWrongFalsely : Prop := fnServeWasteRow.holds Try.pinned (OpenSpec.ofChange fnServeWasteWrong)

/-- 'laws.FnServeMany': WHATEVER THE INPUT: true; the input reads as it did. -/
def fnServeManySpec : ChangeSpec := { name := "fnServeMany", fn := fun _ => fun
  | [d] => { results := [.lit (.bool true)], args := [d] }
  | _ => none }
def fnServeManyRow : OpenClaim := { program := "ytkicifkigbciaaa", sum := "82945ad93fa30cecc7be0e1353a8b59129a0caacce8380f203b29fb0ace65929", func := "loop.example/cableship/laws.FnServeMany", spec := "fnServeMany", unfollowed := true, recurses := true, apart := false }
def FnServeManySaid : Prop := fnServeManyRow.holds Try.pinned (OpenSpec.ofChange fnServeManySpec)

/-- ITS FALSE NEIGHBOUR: 'it returns false'. Refute it at one input. -/
def fnServeManyWrong : ChangeSpec := { name := "fnServeMany", fn := fun _ => fun
  | [d] => { results := [.lit (.bool false)], args := [d] }
  | _ => none }
def FnServeManyWrongFalsely : Prop := fnServeManyRow.holds Try.pinned (OpenSpec.ofChange fnServeManyWrong)

/-- 'laws.FnJointBest': WHATEVER THE INPUT: true; the input reads as it did. -/
def fnJointBestSpec : ChangeSpec := { name := "fnJointBest", fn := fun _ => fun
  | [d] => { results := [.lit (.bool true)], args := [d] }
  | _ => none }
def fnJointBestRow : OpenClaim := { program := "ytkicifkigbciaaa", sum := "82945ad93fa30cecc7be0e1353a8b59129a0caacce8380f203b29fb0ace65929", func := "loop.example/cableship/laws.FnJointBest", spec := "fnJointBest", unfollowed := true, recurses := true, apart := false }
def FnJointBestSaid : Prop := fnJointBestRow.holds Try.pinned (OpenSpec.ofChange fnJointBestSpec)

/-- ITS FALSE NEIGHBOUR: 'it returns false'. Refute it at one input. -/
def fnJointBestWrong : ChangeSpec := { name := "fnJointBest", fn := fun _ => fun
  | [d] => { results := [.lit (.bool false)], args := [d] }
  | _ => none }
def FnJointBestWrongFalsely : Prop := fnJointBestRow.holds Try.pinned (OpenSpec.ofChange fnJointBestWrong)

/-- 'laws.FnExactSparesValid': WHATEVER THE INPUT: true; the input reads as it did. -/
def fnExactSparesValidSpec : ChangeSpec := { name := "fnExactSparesValid", fn := fun _ => fun
  | [d] => { results := [.lit (.bool true)], args := [d] }
  | _ => none }
def fnExactSparesValidRow : OpenClaim := { program := "ytkicifkigbciaaa", sum := "82945ad93fa30cecc7be0e1353a8b59129a0caacce8380f203b29fb0ace65929", func := "loop.example/cableship/laws.FnExactSparesValid", spec := "fnExactSparesValid", apart := false }
def FnExactSparesValidSaid : Prop := fnExactSparesValidRow.holds Try.pinned (OpenSpec.ofChange fnExactSparesValidSpec)

/-- ITS FALSE NEIGHBOUR: 'it returns false'. Refute it at one input. -/
def fnExactSparesValidWrong : ChangeSpec := { name := "fnExactSparesValid", fn := fun _ => fun
  | [d] => { results := [.lit (.bool false)], args := [d] }
  | _ => none }
def FnExactSparesValidWrongFalsely : Prop := fnExactSparesValidRow.holds Try.pinned (OpenSpec.ofChange fnExactSparesValidWrong)

/-- 'laws.FnExactSparesMiles': WHATEVER THE INPUT: true; the input reads as it did. -/
def fnExactSparesMilesSpec : ChangeSpec := { name := "fnExactSparesMiles", fn := fun _ => fun
  | [d1, d2] => { results := [.lit (.bool true)], args := [d1, d2] }
  | _ => none }
def fnExactSparesMilesRow : OpenClaim := { program := "ytkicifkigbciaaa", sum := "82945ad93fa30cecc7be0e1353a8b59129a0caacce8380f203b29fb0ace65929", func := "loop.example/cableship/laws.FnExactSparesMiles", spec := "fnExactSparesMiles", apart := false }
def FnExactSparesMilesSaid : Prop := fnExactSparesMilesRow.holds Try.pinned (OpenSpec.ofChange fnExactSparesMilesSpec)

/-- ITS FALSE NEIGHBOUR: 'it returns false'. Refute it at one input. -/
def fnExactSparesMilesWrong : ChangeSpec := { name := "fnExactSparesMiles", fn := fun _ => fun
  | [d1, d2] => { results := [.lit (.bool false)], args := [d1, d2] }
  | _ => none }
def FnExactSparesMilesWrongFalsely : Prop := fnExactSparesMilesRow.holds Try.pinned (OpenSpec.ofChange fnExactSparesMilesWrong)

/-- 'laws.FnExactSparesFit': WHATEVER THE INPUT: true; the input reads as it did. -/
def fnExactSparesFitSpec : ChangeSpec := { name := "fnExactSparesFit", fn := fun _ => fun
  | [d1, d2] => { results := [.lit (.bool true)], args := [d1, d2] }
  | _ => none }
def fnExactSparesFitRow : OpenClaim := { program := "ytkicifkigbciaaa", sum := "82945ad93fa30cecc7be0e1353a8b59129a0caacce8380f203b29fb0ace65929", func := "loop.example/cableship/laws.FnExactSparesFit", spec := "fnExactSparesFit", unfollowed := true, recurses := true, apart := false }
def FnExactSparesFitSaid : Prop := fnExactSparesFitRow.holds Try.pinned (OpenSpec.ofChange fnExactSparesFitSpec)

/-- ITS FALSE NEIGHBOUR: 'it returns false'. Refute it at one input. -/
def fnExactSparesFitWrong : ChangeSpec := { name := "fnExactSparesFit", fn := fun _ => fun
  | [d1, d2] => { results := [.lit (.bool false)], args := [d1, d2] }
  | _ => none }
def FnExactSparesFitWrongFalsely : Prop := fnExactSparesFitRow.holds Try.pinned (OpenSpec.ofChange fnExactSparesFitWrong)

/-- 'laws.FnExactSparesTake': WHATEVER THE INPUT: true; the input reads as it did. -/
def fnExactSparesTakeSpec : ChangeSpec := { name := "fnExactSparesTake", fn := fun _ => fun
  | [d1, d2, d3] => { results := [.lit (.bool true)], args := [d1, d2, d3] }
  | _ => none }
def fnExactSparesTakeRow : OpenClaim := { program := "ytkicifkigbciaaa", sum := "82945ad93fa30cecc7be0e1353a8b59129a0caacce8380f203b29fb0ace65929", func := "loop.example/cableship/laws.FnExactSparesTake", spec := "fnExactSparesTake", apart := false }
def FnExactSparesTakeSaid : Prop := fnExactSparesTakeRow.holds Try.pinned (OpenSpec.ofChange fnExactSparesTakeSpec)

/-- ITS FALSE NEIGHBOUR: 'it returns false'. Refute it at one input. -/
def fnExactSparesTakeWrong : ChangeSpec := { name := "fnExactSparesTake", fn := fun _ => fun
  | [d1, d2, d3] => { results := [.lit (.bool false)], args := [d1, d2, d3] }
  | _ => none }
def FnExactSparesTakeWrongFalsely : Prop := fnExactSparesTakeRow.holds Try.pinned (OpenSpec.ofChange fnExactSparesTakeWrong)

/-- 'laws.FnExactServeValid': WHATEVER THE INPUT: true; the input reads as it did. -/
def fnExactServeValidSpec : ChangeSpec := { name := "fnExactServeValid", fn := fun _ => fun
  | [d1, d2, d3] => { results := [.lit (.bool true)], args := [d1, d2, d3] }
  | _ => none }
def fnExactServeValidRow : OpenClaim := { program := "ytkicifkigbciaaa", sum := "82945ad93fa30cecc7be0e1353a8b59129a0caacce8380f203b29fb0ace65929", func := "loop.example/cableship/laws.FnExactServeValid", spec := "fnExactServeValid", apart := false }
def FnExactServeValidSaid : Prop := fnExactServeValidRow.holds Try.pinned (OpenSpec.ofChange fnExactServeValidSpec)

/-- ITS FALSE NEIGHBOUR: 'it returns false'. Refute it at one input. -/
def fnExactServeValidWrong : ChangeSpec := { name := "fnExactServeValid", fn := fun _ => fun
  | [d1, d2, d3] => { results := [.lit (.bool false)], args := [d1, d2, d3] }
  | _ => none }
def FnExactServeValidWrongFalsely : Prop := fnExactServeValidRow.holds Try.pinned (OpenSpec.ofChange fnExactServeValidWrong)

/-- 'laws.FnExactServeWaste': WHATEVER THE INPUT: true; the input reads as it did. -/
def fnExactServeWasteSpec : ChangeSpec := { name := "fnExactServeWaste", fn := fun _ => fun
  | [d1, d2, d3] => { results := [.lit (.bool true)], args := [d1, d2, d3] }
  | _ => none }
def fnExactServeWasteRow : OpenClaim := { program := "ytkicifkigbciaaa", sum := "82945ad93fa30cecc7be0e1353a8b59129a0caacce8380f203b29fb0ace65929", func := "loop.example/cableship/laws.FnExactServeWaste", spec := "fnExactServeWaste", apart := false }
def FnExactServeWasteSaid : Prop := fnExactServeWasteRow.holds Try.pinned (OpenSpec.ofChange fnExactServeWasteSpec)

/-- ITS FALSE NEIGHBOUR: 'it returns false'. Refute it at one input. -/
def fnExactServeWasteWrong : ChangeSpec := { name := "fnExactServeWaste", fn := fun _ => fun
  | [d1, d2, d3] => { results := [.lit (.bool false)], args := [d1, d2, d3] }
  | _ => none }
def FnExactServeWasteWrongFalsely : Prop := fnExactServeWasteRow.holds Try.pinned (OpenSpec.ofChange fnExactServeWasteWrong)

/-- 'laws.FnExactServeCan': WHATEVER THE INPUT: true; the input reads as it did. -/
def fnExactServeCanSpec : ChangeSpec := { name := "fnExactServeCan", fn := fun _ => fun
  | [d1, d2] => { results := [.lit (.bool true)], args := [d1, d2] }
  | _ => none }
def fnExactServeCanRow : OpenClaim := { program := "ytkicifkigbciaaa", sum := "82945ad93fa30cecc7be0e1353a8b59129a0caacce8380f203b29fb0ace65929", func := "loop.example/cableship/laws.FnExactServeCan", spec := "fnExactServeCan", unfollowed := true, recurses := true, apart := false }
def FnExactServeCanSaid : Prop := fnExactServeCanRow.holds Try.pinned (OpenSpec.ofChange fnExactServeCanSpec)

/-- ITS FALSE NEIGHBOUR: 'it returns false'. Refute it at one input. -/
def fnExactServeCanWrong : ChangeSpec := { name := "fnExactServeCan", fn := fun _ => fun
  | [d1, d2] => { results := [.lit (.bool false)], args := [d1, d2] }
  | _ => none }
def FnExactServeCanWrongFalsely : Prop := fnExactServeCanRow.holds Try.pinned (OpenSpec.ofChange fnExactServeCanWrong)

/-- 'laws.FnExactServeBest': WHATEVER THE INPUT: true; the input reads as it did. -/
def fnExactServeBestSpec : ChangeSpec := { name := "fnExactServeBest", fn := fun _ => fun
  | [d1, d2] => { results := [.lit (.bool true)], args := [d1, d2] }
  | _ => none }
def fnExactServeBestRow : OpenClaim := { program := "ytkicifkigbciaaa", sum := "82945ad93fa30cecc7be0e1353a8b59129a0caacce8380f203b29fb0ace65929", func := "loop.example/cableship/laws.FnExactServeBest", spec := "fnExactServeBest", unfollowed := true, recurses := true, apart := false }
def FnExactServeBestSaid : Prop := fnExactServeBestRow.holds Try.pinned (OpenSpec.ofChange fnExactServeBestSpec)

/-- ITS FALSE NEIGHBOUR: 'it returns false'. Refute it at one input. -/
def fnExactServeBestWrong : ChangeSpec := { name := "fnExactServeBest", fn := fun _ => fun
  | [d1, d2] => { results := [.lit (.bool false)], args := [d1, d2] }
  | _ => none }
def FnExactServeBestWrongFalsely : Prop := fnExactServeBestRow.holds Try.pinned (OpenSpec.ofChange fnExactServeBestWrong)

/-- 'laws.FnExactServeMany': WHATEVER THE INPUT: true; the input reads as it did. -/
def fnExactServeManySpec : ChangeSpec := { name := "fnExactServeMany", fn := fun _ => fun
  | [d1, d2] => { results := [.lit (.bool true)], args := [d1, d2] }
  | _ => none }
def fnExactServeManyRow : OpenClaim := { program := "ytkicifkigbciaaa", sum := "82945ad93fa30cecc7be0e1353a8b59129a0caacce8380f203b29fb0ace65929", func := "loop.example/cableship/laws.FnExactServeMany", spec := "fnExactServeMany", unfollowed := true, recurses := true, apart := false }
def FnExactServeManySaid : Prop := fnExactServeManyRow.holds Try.pinned (OpenSpec.ofChange fnExactServeManySpec)

/-- ITS FALSE NEIGHBOUR: 'it returns false'. Refute it at one input. -/
def fnExactServeManyWrong : ChangeSpec := { name := "fnExactServeMany", fn := fun _ => fun
  | [d1, d2] => { results := [.lit (.bool false)], args := [d1, d2] }
  | _ => none }
def FnExactServeManyWrongFalsely : Prop := fnExactServeManyRow.holds Try.pinned (OpenSpec.ofChange fnExactServeManyWrong)

/-- 'laws.FnExactJointBest': WHATEVER THE INPUT: true; the input reads as it did. -/
def fnExactJointBestSpec : ChangeSpec := { name := "fnExactJointBest", fn := fun _ => fun
  | [d1, d2, d3] => { results := [.lit (.bool true)], args := [d1, d2, d3] }
  | _ => none }
def fnExactJointBestRow : OpenClaim := { program := "ytkicifkigbciaaa", sum := "82945ad93fa30cecc7be0e1353a8b59129a0caacce8380f203b29fb0ace65929", func := "loop.example/cableship/laws.FnExactJointBest", spec := "fnExactJointBest", unfollowed := true, recurses := true, apart := false }
def FnExactJointBestSaid : Prop := fnExactJointBestRow.holds Try.pinned (OpenSpec.ofChange fnExactJointBestSpec)

/-- ITS FALSE NEIGHBOUR: 'it returns false'. Refute it at one input. -/
def fnExactJointBestWrong : ChangeSpec := { name := "fnExactJointBest", fn := fun _ => fun
  | [d1, d2, d3] => { results := [.lit (.bool false)], args := [d1, d2, d3] }
  | _ => none }
def FnExactJointBestWrongFalsely : Prop := fnExactJointBestRow.holds Try.pinned (OpenSpec.ofChange fnExactJointBestWrong)

/-- 'laws.FnExactJointFewest': WHATEVER THE INPUT: true; the input reads as it did. -/
def fnExactJointFewestSpec : ChangeSpec := { name := "fnExactJointFewest", fn := fun _ => fun
  | [d1, d2, d3] => { results := [.lit (.bool true)], args := [d1, d2, d3] }
  | _ => none }
def fnExactJointFewestRow : OpenClaim := { program := "ytkicifkigbciaaa", sum := "82945ad93fa30cecc7be0e1353a8b59129a0caacce8380f203b29fb0ace65929", func := "loop.example/cableship/laws.FnExactJointFewest", spec := "fnExactJointFewest", unfollowed := true, recurses := true, apart := false }
def FnExactJointFewestSaid : Prop := fnExactJointFewestRow.holds Try.pinned (OpenSpec.ofChange fnExactJointFewestSpec)

/-- ITS FALSE NEIGHBOUR: 'it returns false'. Refute it at one input. -/
def fnExactJointFewestWrong : ChangeSpec := { name := "fnExactJointFewest", fn := fun _ => fun
  | [d1, d2, d3] => { results := [.lit (.bool false)], args := [d1, d2, d3] }
  | _ => none }
def FnExactJointFewestWrongFalsely : Prop := fnExactJointFewestRow.holds Try.pinned (OpenSpec.ofChange fnExactJointFewestWrong)

/-- 'laws.FnExactSparesSort': WHATEVER THE INPUT: true; the input reads as it did. -/
def fnExactSparesSortSpec : ChangeSpec := { name := "fnExactSparesSort", fn := fun _ => fun
  | [d] => { results := [.lit (.bool true)], args := [d] }
  | _ => none }
def fnExactSparesSortRow : OpenClaim := { program := "ytkicifkigbciaaa", sum := "82945ad93fa30cecc7be0e1353a8b59129a0caacce8380f203b29fb0ace65929", func := "loop.example/cableship/laws.FnExactSparesSort", spec := "fnExactSparesSort", unfollowed := true, recurses := true, apart := false }
def FnExactSparesSortSaid : Prop := fnExactSparesSortRow.holds Try.pinned (OpenSpec.ofChange fnExactSparesSortSpec)

/-- ITS FALSE NEIGHBOUR: 'it returns false'. Refute it at one input. -/
def fnExactSparesSortWrong : ChangeSpec := { name := "fnExactSparesSort", fn := fun _ => fun
  | [d] => { results := [.lit (.bool false)], args := [d] }
  | _ => none }
def FnExactSparesSortWrongFalsely : Prop := fnExactSparesSortRow.holds Try.pinned (OpenSpec.ofChange fnExactSparesSortWrong)

/- THE SECOND FORM. 'bulk': how many values and letters a reading holds, each counted each time it is reached (what is shared counts as often as it is met; a slice's spare places count too). A statement '..UptoSaid' is the law's where the arguments, and the package variables that the reading takes, are together of bulk at most 1048576: NARROWER than '..Said'. Prove '..Said' where nothing that the law and all that it calls make is longer than what came in: it says more and counts as full. Else prove '..UptoSaid'. A law counts once. -/
mutual
def uptoBulk {H : Type} : DataW H → Nat
  | .lit (.string bytes) => bytes.length + 1
  | .lit _ => 1
  | .nil => 1
  | .ptr d => uptoBulk d + 1
  | .slice elems spare => uptoBulkAll elems + uptoBulkAll spare + 1
  | .agg parts => uptoBulkAll parts + 1
  | .iface _ d => uptoBulk d + 1
  | .map entries => uptoBulkEntries entries + 1
  | .held _ => 1
def uptoBulkAll {H : Type} : List (DataW H) → Nat
  | [] => 0
  | d :: r => uptoBulk d + uptoBulkAll r
def uptoBulkEntries {H : Type} : List (Lit × DataW H) → Nat
  | [] => 0
  | x :: r => uptoBulkEntry x + uptoBulkEntries r
def uptoBulkEntry {H : Type} : Lit × DataW H → Nat
  | (.string bytes, d) => bytes.length + uptoBulk d + 1
  | (_, d) => uptoBulk d + 1
 end
def uptoSmall : (H : Type) → List (DataW H) → Bool := fun _ ds => decide (uptoBulkAll ds ≤ 1048576)
def OpenSpec.upto (s : _root_.Go.ChangeSpec) : _root_.Go.OpenSpec := { _root_.Go.OpenSpec.ofChange s with cond := some uptoSmall }

/-- 'laws.FnFit', WHERE WHAT IT READS IS OF BULK AT MOST 1048576: true; the input reads as it did. -/
def fnFitUptoRow : OpenClaim := { program := "ytkicifkigbciaaa", sum := "82945ad93fa30cecc7be0e1353a8b59129a0caacce8380f203b29fb0ace65929", func := "loop.example/cableship/laws.FnFit", spec := "fnFit", unfollowed := true, recurses := true, apart := false, narrowed := true }
def FnFitUptoSaid : Prop := fnFitUptoRow.holds Try.pinned (OpenSpec.upto fnFitSpec)

/-- 'laws.FnServeWaste', WHERE WHAT IT READS IS OF BULK AT MOST 1048576: true; the input reads as it did. -/
def fnServeWasteUptoRow : OpenClaim := { program := "ytkicifkigbciaaa", sum := "82945ad93fa30cecc7be0e1353a8b59129a0caacce8380f203b29fb0ace65929", func := "loop.example/cableship/laws.FnServeWaste", spec := "fnServeWaste", unfollowed := true, recurses := true, apart := false, narrowed := true }
def FnServeWasteUptoSaid : Prop := fnServeWasteUptoRow.holds Try.pinned (OpenSpec.upto fnServeWasteSpec)

/-- 'laws.FnServeMany', WHERE WHAT IT READS IS OF BULK AT MOST 1048576: true; the input reads as it did. -/
def fnServeManyUptoRow : OpenClaim := { program := "ytkicifkigbciaaa", sum := "82945ad93fa30cecc7be0e1353a8b59129a0caacce8380f203b29fb0ace65929", func := "loop.example/cableship/laws.FnServeMany", spec := "fnServeMany", unfollowed := true, recurses := true, apart := false, narrowed := true }
def FnServeManyUptoSaid : Prop := fnServeManyUptoRow.holds Try.pinned (OpenSpec.upto fnServeManySpec)

/-- 'laws.FnJointBest', WHERE WHAT IT READS IS OF BULK AT MOST 1048576: true; the input reads as it did. -/
def fnJointBestUptoRow : OpenClaim := { program := "ytkicifkigbciaaa", sum := "82945ad93fa30cecc7be0e1353a8b59129a0caacce8380f203b29fb0ace65929", func := "loop.example/cableship/laws.FnJointBest", spec := "fnJointBest", unfollowed := true, recurses := true, apart := false, narrowed := true }
def FnJointBestUptoSaid : Prop := fnJointBestUptoRow.holds Try.pinned (OpenSpec.upto fnJointBestSpec)

/-- 'laws.FnExactSparesValid', WHERE WHAT IT READS IS OF BULK AT MOST 1048576: true; the input reads as it did. -/
def fnExactSparesValidUptoRow : OpenClaim := { program := "ytkicifkigbciaaa", sum := "82945ad93fa30cecc7be0e1353a8b59129a0caacce8380f203b29fb0ace65929", func := "loop.example/cableship/laws.FnExactSparesValid", spec := "fnExactSparesValid", apart := false, narrowed := true }
def FnExactSparesValidUptoSaid : Prop := fnExactSparesValidUptoRow.holds Try.pinned (OpenSpec.upto fnExactSparesValidSpec)

/-- 'laws.FnExactSparesMiles', WHERE WHAT IT READS IS OF BULK AT MOST 1048576: true; the input reads as it did. -/
def fnExactSparesMilesUptoRow : OpenClaim := { program := "ytkicifkigbciaaa", sum := "82945ad93fa30cecc7be0e1353a8b59129a0caacce8380f203b29fb0ace65929", func := "loop.example/cableship/laws.FnExactSparesMiles", spec := "fnExactSparesMiles", apart := false, narrowed := true }
def FnExactSparesMilesUptoSaid : Prop := fnExactSparesMilesUptoRow.holds Try.pinned (OpenSpec.upto fnExactSparesMilesSpec)

/-- 'laws.FnExactSparesFit', WHERE WHAT IT READS IS OF BULK AT MOST 1048576: true; the input reads as it did. -/
def fnExactSparesFitUptoRow : OpenClaim := { program := "ytkicifkigbciaaa", sum := "82945ad93fa30cecc7be0e1353a8b59129a0caacce8380f203b29fb0ace65929", func := "loop.example/cableship/laws.FnExactSparesFit", spec := "fnExactSparesFit", unfollowed := true, recurses := true, apart := false, narrowed := true }
def FnExactSparesFitUptoSaid : Prop := fnExactSparesFitUptoRow.holds Try.pinned (OpenSpec.upto fnExactSparesFitSpec)

/-- 'laws.FnExactSparesTake', WHERE WHAT IT READS IS OF BULK AT MOST 1048576: true; the input reads as it did. -/
def fnExactSparesTakeUptoRow : OpenClaim := { program := "ytkicifkigbciaaa", sum := "82945ad93fa30cecc7be0e1353a8b59129a0caacce8380f203b29fb0ace65929", func := "loop.example/cableship/laws.FnExactSparesTake", spec := "fnExactSparesTake", apart := false, narrowed := true }
def FnExactSparesTakeUptoSaid : Prop := fnExactSparesTakeUptoRow.holds Try.pinned (OpenSpec.upto fnExactSparesTakeSpec)

/-- 'laws.FnExactServeValid', WHERE WHAT IT READS IS OF BULK AT MOST 1048576: true; the input reads as it did. -/
def fnExactServeValidUptoRow : OpenClaim := { program := "ytkicifkigbciaaa", sum := "82945ad93fa30cecc7be0e1353a8b59129a0caacce8380f203b29fb0ace65929", func := "loop.example/cableship/laws.FnExactServeValid", spec := "fnExactServeValid", apart := false, narrowed := true }
def FnExactServeValidUptoSaid : Prop := fnExactServeValidUptoRow.holds Try.pinned (OpenSpec.upto fnExactServeValidSpec)

/-- 'laws.FnExactServeWaste', WHERE WHAT IT READS IS OF BULK AT MOST 1048576: true; the input reads as it did. -/
def fnExactServeWasteUptoRow : OpenClaim := { program := "ytkicifkigbciaaa", sum := "82945ad93fa30cecc7be0e1353a8b59129a0caacce8380f203b29fb0ace65929", func := "loop.example/cableship/laws.FnExactServeWaste", spec := "fnExactServeWaste", apart := false, narrowed := true }
def FnExactServeWasteUptoSaid : Prop := fnExactServeWasteUptoRow.holds Try.pinned (OpenSpec.upto fnExactServeWasteSpec)

/-- 'laws.FnExactServeCan', WHERE WHAT IT READS IS OF BULK AT MOST 1048576: true; the input reads as it did. -/
def fnExactServeCanUptoRow : OpenClaim := { program := "ytkicifkigbciaaa", sum := "82945ad93fa30cecc7be0e1353a8b59129a0caacce8380f203b29fb0ace65929", func := "loop.example/cableship/laws.FnExactServeCan", spec := "fnExactServeCan", unfollowed := true, recurses := true, apart := false, narrowed := true }
def FnExactServeCanUptoSaid : Prop := fnExactServeCanUptoRow.holds Try.pinned (OpenSpec.upto fnExactServeCanSpec)

/-- 'laws.FnExactServeBest', WHERE WHAT IT READS IS OF BULK AT MOST 1048576: true; the input reads as it did. -/
def fnExactServeBestUptoRow : OpenClaim := { program := "ytkicifkigbciaaa", sum := "82945ad93fa30cecc7be0e1353a8b59129a0caacce8380f203b29fb0ace65929", func := "loop.example/cableship/laws.FnExactServeBest", spec := "fnExactServeBest", unfollowed := true, recurses := true, apart := false, narrowed := true }
def FnExactServeBestUptoSaid : Prop := fnExactServeBestUptoRow.holds Try.pinned (OpenSpec.upto fnExactServeBestSpec)

/-- 'laws.FnExactServeMany', WHERE WHAT IT READS IS OF BULK AT MOST 1048576: true; the input reads as it did. -/
def fnExactServeManyUptoRow : OpenClaim := { program := "ytkicifkigbciaaa", sum := "82945ad93fa30cecc7be0e1353a8b59129a0caacce8380f203b29fb0ace65929", func := "loop.example/cableship/laws.FnExactServeMany", spec := "fnExactServeMany", unfollowed := true, recurses := true, apart := false, narrowed := true }
def FnExactServeManyUptoSaid : Prop := fnExactServeManyUptoRow.holds Try.pinned (OpenSpec.upto fnExactServeManySpec)

/-- 'laws.FnExactJointBest', WHERE WHAT IT READS IS OF BULK AT MOST 1048576: true; the input reads as it did. -/
def fnExactJointBestUptoRow : OpenClaim := { program := "ytkicifkigbciaaa", sum := "82945ad93fa30cecc7be0e1353a8b59129a0caacce8380f203b29fb0ace65929", func := "loop.example/cableship/laws.FnExactJointBest", spec := "fnExactJointBest", unfollowed := true, recurses := true, apart := false, narrowed := true }
def FnExactJointBestUptoSaid : Prop := fnExactJointBestUptoRow.holds Try.pinned (OpenSpec.upto fnExactJointBestSpec)

/-- 'laws.FnExactJointFewest', WHERE WHAT IT READS IS OF BULK AT MOST 1048576: true; the input reads as it did. -/
def fnExactJointFewestUptoRow : OpenClaim := { program := "ytkicifkigbciaaa", sum := "82945ad93fa30cecc7be0e1353a8b59129a0caacce8380f203b29fb0ace65929", func := "loop.example/cableship/laws.FnExactJointFewest", spec := "fnExactJointFewest", unfollowed := true, recurses := true, apart := false, narrowed := true }
def FnExactJointFewestUptoSaid : Prop := fnExactJointFewestUptoRow.holds Try.pinned (OpenSpec.upto fnExactJointFewestSpec)

/-- 'laws.FnExactSparesSort', WHERE WHAT IT READS IS OF BULK AT MOST 1048576: true; the input reads as it did. -/
def fnExactSparesSortUptoRow : OpenClaim := { program := "ytkicifkigbciaaa", sum := "82945ad93fa30cecc7be0e1353a8b59129a0caacce8380f203b29fb0ace65929", func := "loop.example/cableship/laws.FnExactSparesSort", spec := "fnExactSparesSort", unfollowed := true, recurses := true, apart := false, narrowed := true }
def FnExactSparesSortUptoSaid : Prop := fnExactSparesSortUptoRow.holds Try.pinned (OpenSpec.upto fnExactSparesSortSpec)

end Rows
end Go.Proofs.Ytkicifkigbciaaa
