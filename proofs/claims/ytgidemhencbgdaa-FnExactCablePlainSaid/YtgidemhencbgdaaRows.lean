/-
  No cell of these rows narrows 'for every input' (looked for: loops, veiled, ifaces, maps, wideKeys, modest, calm, conditions, laid).
  DERIVED. THE GIVEN ROWS OF THIS SEAT. 12 by the template 'for every input the law returns true; each argument reads behind the call as it read before'; 0 by the template 'total and deterministic' (their statements: YtgidemhencbgdaaTotals.lean).
  GIVEN WITH THE SEED: the statements are not yours to turn. If you find one false, say at which input.
  Laid BY PROGRAM, IN A SANDBOX (cutbox-rows.mjs): the forced cells as the released guide's own fill.sh prints them over the translation d20e49499303eb1a… (all of the seat's roots in one cut). By AI agents, Wed Nov 11 2026. No macro, syntax, notation, axiom, sorry.
-/
import Derived.Test.YtgidemhencbgdaaChecked
import GoSem.Claim
import GoSem.ClaimJoined
import GoSem.ClaimMapViews
import Derived.JoinedTies
import Derived.KernelRfl
namespace Go.Proofs.Ytgidemhencbgdaa
/- THE CELL 'sum', in the pinned program and in every row, IS THE sha256 OF THE DUMP (.gsa) THAT YtgidemhencbgdaaProg.lean LOADS. Nothing in Lean hashes anything: it is a label: what it is worth is what the hold of that sum in a sandbox is worth. -/
noncomputable def Try.pinned : Pinned := { name := "ytgidemhencbgdaa", sum := "d20e49499303eb1af0c7754cfdb0123ecda52aedc2245bb8d437e79a62630333", checked := Try.checked }
namespace Rows
def none {H : Type} : Left H := { results := [], args := [] }

/-- 'laws.FnWhere': WHATEVER THE INPUT: true; the input reads as it did. -/
def fnWhereSpec : ChangeSpec := { name := "fnWhere", fn := fun _ => fun
  | [d] => { results := [.lit (.bool true)], args := [d] }
  | _ => none }
def fnWhereRow : OpenClaim := { program := "ytgidemhencbgdaa", sum := "d20e49499303eb1af0c7754cfdb0123ecda52aedc2245bb8d437e79a62630333", func := "loop.example/cableship/laws.FnWhere", spec := "fnWhere", apart := false }
def FnWhereSaid : Prop := fnWhereRow.holds Try.pinned (OpenSpec.ofChange fnWhereSpec)

/-- ITS FALSE NEIGHBOUR: 'it returns false'. Refute it at one input. -/
def fnWhereWrong : ChangeSpec := { name := "fnWhere", fn := fun _ => fun
  | [d] => { results := [.lit (.bool false)], args := [d] }
  | _ => none }
def FnWhereWrongFalsely : Prop := fnWhereRow.holds Try.pinned (OpenSpec.ofChange fnWhereWrong)

/-- 'laws.FnExactCableValid': WHATEVER THE INPUT: true; the input reads as it did. -/
def fnExactCableValidSpec : ChangeSpec := { name := "fnExactCableValid", fn := fun _ => fun
  | [d] => { results := [.lit (.bool true)], args := [d] }
  | _ => none }
def fnExactCableValidRow : OpenClaim := { program := "ytgidemhencbgdaa", sum := "d20e49499303eb1af0c7754cfdb0123ecda52aedc2245bb8d437e79a62630333", func := "loop.example/cableship/laws.FnExactCableValid", spec := "fnExactCableValid", apart := false }
def FnExactCableValidSaid : Prop := fnExactCableValidRow.holds Try.pinned (OpenSpec.ofChange fnExactCableValidSpec)

/-- ITS FALSE NEIGHBOUR: 'it returns false'. Refute it at one input. -/
def fnExactCableValidWrong : ChangeSpec := { name := "fnExactCableValid", fn := fun _ => fun
  | [d] => { results := [.lit (.bool false)], args := [d] }
  | _ => none }
def FnExactCableValidWrongFalsely : Prop := fnExactCableValidRow.holds Try.pinned (OpenSpec.ofChange fnExactCableValidWrong)

/-- 'laws.FnExactCableMiles': WHATEVER THE INPUT: true; the input reads as it did. -/
def fnExactCableMilesSpec : ChangeSpec := { name := "fnExactCableMiles", fn := fun _ => fun
  | [d] => { results := [.lit (.bool true)], args := [d] }
  | _ => none }
def fnExactCableMilesRow : OpenClaim := { program := "ytgidemhencbgdaa", sum := "d20e49499303eb1af0c7754cfdb0123ecda52aedc2245bb8d437e79a62630333", func := "loop.example/cableship/laws.FnExactCableMiles", spec := "fnExactCableMiles", apart := false }
def FnExactCableMilesSaid : Prop := fnExactCableMilesRow.holds Try.pinned (OpenSpec.ofChange fnExactCableMilesSpec)

/-- ITS FALSE NEIGHBOUR: 'it returns false'. Refute it at one input. -/
def fnExactCableMilesWrong : ChangeSpec := { name := "fnExactCableMiles", fn := fun _ => fun
  | [d] => { results := [.lit (.bool false)], args := [d] }
  | _ => none }
def FnExactCableMilesWrongFalsely : Prop := fnExactCableMilesRow.holds Try.pinned (OpenSpec.ofChange fnExactCableMilesWrong)

/-- 'laws.FnExactCableOhms': WHATEVER THE INPUT: true; the input reads as it did. -/
def fnExactCableOhmsSpec : ChangeSpec := { name := "fnExactCableOhms", fn := fun _ => fun
  | [d1, d2] => { results := [.lit (.bool true)], args := [d1, d2] }
  | _ => none }
def fnExactCableOhmsRow : OpenClaim := { program := "ytgidemhencbgdaa", sum := "d20e49499303eb1af0c7754cfdb0123ecda52aedc2245bb8d437e79a62630333", func := "loop.example/cableship/laws.FnExactCableOhms", spec := "fnExactCableOhms", apart := false }
def FnExactCableOhmsSaid : Prop := fnExactCableOhmsRow.holds Try.pinned (OpenSpec.ofChange fnExactCableOhmsSpec)

/-- ITS FALSE NEIGHBOUR: 'it returns false'. Refute it at one input. -/
def fnExactCableOhmsWrong : ChangeSpec := { name := "fnExactCableOhms", fn := fun _ => fun
  | [d1, d2] => { results := [.lit (.bool false)], args := [d1, d2] }
  | _ => none }
def FnExactCableOhmsWrongFalsely : Prop := fnExactCableOhmsRow.holds Try.pinned (OpenSpec.ofChange fnExactCableOhmsWrong)

/-- 'laws.FnExactCableAll': WHATEVER THE INPUT: true; the input reads as it did. -/
def fnExactCableAllSpec : ChangeSpec := { name := "fnExactCableAll", fn := fun _ => fun
  | [d] => { results := [.lit (.bool true)], args := [d] }
  | _ => none }
def fnExactCableAllRow : OpenClaim := { program := "ytgidemhencbgdaa", sum := "d20e49499303eb1af0c7754cfdb0123ecda52aedc2245bb8d437e79a62630333", func := "loop.example/cableship/laws.FnExactCableAll", spec := "fnExactCableAll", apart := false }
def FnExactCableAllSaid : Prop := fnExactCableAllRow.holds Try.pinned (OpenSpec.ofChange fnExactCableAllSpec)

/-- ITS FALSE NEIGHBOUR: 'it returns false'. Refute it at one input. -/
def fnExactCableAllWrong : ChangeSpec := { name := "fnExactCableAll", fn := fun _ => fun
  | [d] => { results := [.lit (.bool false)], args := [d] }
  | _ => none }
def FnExactCableAllWrongFalsely : Prop := fnExactCableAllRow.holds Try.pinned (OpenSpec.ofChange fnExactCableAllWrong)

/-- 'laws.FnExactCableWhere': WHATEVER THE INPUT: true; the input reads as it did. -/
def fnExactCableWhereSpec : ChangeSpec := { name := "fnExactCableWhere", fn := fun _ => fun
  | [d1, d2] => { results := [.lit (.bool true)], args := [d1, d2] }
  | _ => none }
def fnExactCableWhereRow : OpenClaim := { program := "ytgidemhencbgdaa", sum := "d20e49499303eb1af0c7754cfdb0123ecda52aedc2245bb8d437e79a62630333", func := "loop.example/cableship/laws.FnExactCableWhere", spec := "fnExactCableWhere", apart := false }
def FnExactCableWhereSaid : Prop := fnExactCableWhereRow.holds Try.pinned (OpenSpec.ofChange fnExactCableWhereSpec)

/-- ITS FALSE NEIGHBOUR: 'it returns false'. Refute it at one input. -/
def fnExactCableWhereWrong : ChangeSpec := { name := "fnExactCableWhere", fn := fun _ => fun
  | [d1, d2] => { results := [.lit (.bool false)], args := [d1, d2] }
  | _ => none }
def FnExactCableWhereWrongFalsely : Prop := fnExactCableWhereRow.holds Try.pinned (OpenSpec.ofChange fnExactCableWhereWrong)

/-- 'laws.FnExactCableKind': WHATEVER THE INPUT: true; the input reads as it did. -/
def fnExactCableKindSpec : ChangeSpec := { name := "fnExactCableKind", fn := fun _ => fun
  | [d1, d2] => { results := [.lit (.bool true)], args := [d1, d2] }
  | _ => none }
def fnExactCableKindRow : OpenClaim := { program := "ytgidemhencbgdaa", sum := "d20e49499303eb1af0c7754cfdb0123ecda52aedc2245bb8d437e79a62630333", func := "loop.example/cableship/laws.FnExactCableKind", spec := "fnExactCableKind", apart := false }
def FnExactCableKindSaid : Prop := fnExactCableKindRow.holds Try.pinned (OpenSpec.ofChange fnExactCableKindSpec)

/-- ITS FALSE NEIGHBOUR: 'it returns false'. Refute it at one input. -/
def fnExactCableKindWrong : ChangeSpec := { name := "fnExactCableKind", fn := fun _ => fun
  | [d1, d2] => { results := [.lit (.bool false)], args := [d1, d2] }
  | _ => none }
def FnExactCableKindWrongFalsely : Prop := fnExactCableKindRow.holds Try.pinned (OpenSpec.ofChange fnExactCableKindWrong)

/-- 'laws.FnExactCablePlain': WHATEVER THE INPUT: true; the input reads as it did. -/
def fnExactCablePlainSpec : ChangeSpec := { name := "fnExactCablePlain", fn := fun _ => fun
  | [d] => { results := [.lit (.bool true)], args := [d] }
  | _ => none }
def fnExactCablePlainRow : OpenClaim := { program := "ytgidemhencbgdaa", sum := "d20e49499303eb1af0c7754cfdb0123ecda52aedc2245bb8d437e79a62630333", func := "loop.example/cableship/laws.FnExactCablePlain", spec := "fnExactCablePlain", apart := false }
def FnExactCablePlainSaid : Prop := fnExactCablePlainRow.holds Try.pinned (OpenSpec.ofChange fnExactCablePlainSpec)

/-- ITS FALSE NEIGHBOUR: 'it returns false'. Refute it at one input. -/
def fnExactCablePlainWrong : ChangeSpec := { name := "fnExactCablePlain", fn := fun _ => fun
  | [d] => { results := [.lit (.bool false)], args := [d] }
  | _ => none }
def FnExactCablePlainWrongFalsely : Prop := fnExactCablePlainRow.holds Try.pinned (OpenSpec.ofChange fnExactCablePlainWrong)

/-- 'laws.FnExactCableCut': WHATEVER THE INPUT: true; the input reads as it did. -/
def fnExactCableCutSpec : ChangeSpec := { name := "fnExactCableCut", fn := fun _ => fun
  | [d1, d2] => { results := [.lit (.bool true)], args := [d1, d2] }
  | _ => none }
def fnExactCableCutRow : OpenClaim := { program := "ytgidemhencbgdaa", sum := "d20e49499303eb1af0c7754cfdb0123ecda52aedc2245bb8d437e79a62630333", func := "loop.example/cableship/laws.FnExactCableCut", spec := "fnExactCableCut", apart := false }
def FnExactCableCutSaid : Prop := fnExactCableCutRow.holds Try.pinned (OpenSpec.ofChange fnExactCableCutSpec)

/-- ITS FALSE NEIGHBOUR: 'it returns false'. Refute it at one input. -/
def fnExactCableCutWrong : ChangeSpec := { name := "fnExactCableCut", fn := fun _ => fun
  | [d1, d2] => { results := [.lit (.bool false)], args := [d1, d2] }
  | _ => none }
def FnExactCableCutWrongFalsely : Prop := fnExactCableCutRow.holds Try.pinned (OpenSpec.ofChange fnExactCableCutWrong)

/-- 'laws.FnExactCableSplice': WHATEVER THE INPUT: true; the input reads as it did. -/
def fnExactCableSpliceSpec : ChangeSpec := { name := "fnExactCableSplice", fn := fun _ => fun
  | [d1, d2] => { results := [.lit (.bool true)], args := [d1, d2] }
  | _ => none }
def fnExactCableSpliceRow : OpenClaim := { program := "ytgidemhencbgdaa", sum := "d20e49499303eb1af0c7754cfdb0123ecda52aedc2245bb8d437e79a62630333", func := "loop.example/cableship/laws.FnExactCableSplice", spec := "fnExactCableSplice", apart := false }
def FnExactCableSpliceSaid : Prop := fnExactCableSpliceRow.holds Try.pinned (OpenSpec.ofChange fnExactCableSpliceSpec)

/-- ITS FALSE NEIGHBOUR: 'it returns false'. Refute it at one input. -/
def fnExactCableSpliceWrong : ChangeSpec := { name := "fnExactCableSplice", fn := fun _ => fun
  | [d1, d2] => { results := [.lit (.bool false)], args := [d1, d2] }
  | _ => none }
def FnExactCableSpliceWrongFalsely : Prop := fnExactCableSpliceRow.holds Try.pinned (OpenSpec.ofChange fnExactCableSpliceWrong)

/-- 'laws.FnExactCableReplace': WHATEVER THE INPUT: true; the input reads as it did. -/
def fnExactCableReplaceSpec : ChangeSpec := { name := "fnExactCableReplace", fn := fun _ => fun
  | [d1, d2, d3, d4, d5] => { results := [.lit (.bool true)], args := [d1, d2, d3, d4, d5] }
  | _ => none }
def fnExactCableReplaceRow : OpenClaim := { program := "ytgidemhencbgdaa", sum := "d20e49499303eb1af0c7754cfdb0123ecda52aedc2245bb8d437e79a62630333", func := "loop.example/cableship/laws.FnExactCableReplace", spec := "fnExactCableReplace", apart := false }
def FnExactCableReplaceSaid : Prop := fnExactCableReplaceRow.holds Try.pinned (OpenSpec.ofChange fnExactCableReplaceSpec)

/-- ITS FALSE NEIGHBOUR: 'it returns false'. Refute it at one input. -/
def fnExactCableReplaceWrong : ChangeSpec := { name := "fnExactCableReplace", fn := fun _ => fun
  | [d1, d2, d3, d4, d5] => { results := [.lit (.bool false)], args := [d1, d2, d3, d4, d5] }
  | _ => none }
def FnExactCableReplaceWrongFalsely : Prop := fnExactCableReplaceRow.holds Try.pinned (OpenSpec.ofChange fnExactCableReplaceWrong)

/-- 'laws.FnExactCableBack': WHATEVER THE INPUT: true; the input reads as it did. -/
def fnExactCableBackSpec : ChangeSpec := { name := "fnExactCableBack", fn := fun _ => fun
  | [d] => { results := [.lit (.bool true)], args := [d] }
  | _ => none }
def fnExactCableBackRow : OpenClaim := { program := "ytgidemhencbgdaa", sum := "d20e49499303eb1af0c7754cfdb0123ecda52aedc2245bb8d437e79a62630333", func := "loop.example/cableship/laws.FnExactCableBack", spec := "fnExactCableBack", apart := false }
def FnExactCableBackSaid : Prop := fnExactCableBackRow.holds Try.pinned (OpenSpec.ofChange fnExactCableBackSpec)

/-- ITS FALSE NEIGHBOUR: 'it returns false'. Refute it at one input. -/
def fnExactCableBackWrong : ChangeSpec := { name := "fnExactCableBack", fn := fun _ => fun
  | [d] => { results := [.lit (.bool false)], args := [d] }
  | _ => none }
def FnExactCableBackWrongFalsely : Prop := fnExactCableBackRow.holds Try.pinned (OpenSpec.ofChange fnExactCableBackWrong)

/- THE SECOND FORM. 'bulk': how many values and letters a reading holds, each counted each time it is reached (what is shared counts as often as it is met; a slice's spare places count too). A statement '..UptoSaid' is the law's where the arguments, and the package variables that the reading takes, are together of bulk at most 1048576: NARROWER than '..Said'. Prove '..Said' where nothing that the law and all that it calls make is longer than what came in: it says more and counts as full. Else prove '..UptoSaid'. A law counts once. -/
mutual
def uptoBulk {H : Type} : DataW H → Nat
  | .lit (.string bytes) => bytes.length + 1
  | .lit _ => 1
  | .nil => 1
  | .ptr d => uptoBulk d + 1
  | .slice elems spare => uptoBulkAll elems + uptoBulkAll spare + 1
  | .agg parts => uptoBulkAll parts + 1
  | .iface _ d => uptoBulk d + 1
  | .map entries => uptoBulkEntries entries + 1
  | .held _ => 1
def uptoBulkAll {H : Type} : List (DataW H) → Nat
  | [] => 0
  | d :: r => uptoBulk d + uptoBulkAll r
def uptoBulkEntries {H : Type} : List (Lit × DataW H) → Nat
  | [] => 0
  | x :: r => uptoBulkEntry x + uptoBulkEntries r
def uptoBulkEntry {H : Type} : Lit × DataW H → Nat
  | (.string bytes, d) => bytes.length + uptoBulk d + 1
  | (_, d) => uptoBulk d + 1
 end
def uptoSmall : (H : Type) → List (DataW H) → Bool := fun _ ds => decide (uptoBulkAll ds ≤ 1048576)
def OpenSpec.upto (s : _root_.Go.ChangeSpec) : _root_.Go.OpenSpec := { _root_.Go.OpenSpec.ofChange s with cond := some uptoSmall }

/-- 'laws.FnWhere', WHERE WHAT IT READS IS OF BULK AT MOST 1048576: true; the input reads as it did. -/
def fnWhereUptoRow : OpenClaim := { program := "ytgidemhencbgdaa", sum := "d20e49499303eb1af0c7754cfdb0123ecda52aedc2245bb8d437e79a62630333", func := "loop.example/cableship/laws.FnWhere", spec := "fnWhere", apart := false, narrowed := true }
def FnWhereUptoSaid : Prop := fnWhereUptoRow.holds Try.pinned (OpenSpec.upto fnWhereSpec)

/-- 'laws.FnExactCableValid', WHERE WHAT IT READS IS OF BULK AT MOST 1048576: true; the input reads as it did. -/
def fnExactCableValidUptoRow : OpenClaim := { program := "ytgidemhencbgdaa", sum := "d20e49499303eb1af0c7754cfdb0123ecda52aedc2245bb8d437e79a62630333", func := "loop.example/cableship/laws.FnExactCableValid", spec := "fnExactCableValid", apart := false, narrowed := true }
def FnExactCableValidUptoSaid : Prop := fnExactCableValidUptoRow.holds Try.pinned (OpenSpec.upto fnExactCableValidSpec)

/-- 'laws.FnExactCableMiles', WHERE WHAT IT READS IS OF BULK AT MOST 1048576: true; the input reads as it did. -/
def fnExactCableMilesUptoRow : OpenClaim := { program := "ytgidemhencbgdaa", sum := "d20e49499303eb1af0c7754cfdb0123ecda52aedc2245bb8d437e79a62630333", func := "loop.example/cableship/laws.FnExactCableMiles", spec := "fnExactCableMiles", apart := false, narrowed := true }
def FnExactCableMilesUptoSaid : Prop := fnExactCableMilesUptoRow.holds Try.pinned (OpenSpec.upto fnExactCableMilesSpec)

/-- 'laws.FnExactCableOhms', WHERE WHAT IT READS IS OF BULK AT MOST 1048576: true; the input reads as it did. -/
def fnExactCableOhmsUptoRow : OpenClaim := { program := "ytgidemhencbgdaa", sum := "d20e49499303eb1af0c7754cfdb0123ecda52aedc2245bb8d437e79a62630333", func := "loop.example/cableship/laws.FnExactCableOhms", spec := "fnExactCableOhms", apart := false, narrowed := true }
def FnExactCableOhmsUptoSaid : Prop := fnExactCableOhmsUptoRow.holds Try.pinned (OpenSpec.upto fnExactCableOhmsSpec)

/-- 'laws.FnExactCableAll', WHERE WHAT IT READS IS OF BULK AT MOST 1048576: true; the input reads as it did. -/
def fnExactCableAllUptoRow : OpenClaim := { program := "ytgidemhencbgdaa", sum := "d20e49499303eb1af0c7754cfdb0123ecda52aedc2245bb8d437e79a62630333", func := "loop.example/cableship/laws.FnExactCableAll", spec := "fnExactCableAll", apart := false, narrowed := true }
def FnExactCableAllUptoSaid : Prop := fnExactCableAllUptoRow.holds Try.pinned (OpenSpec.upto fnExactCableAllSpec)

/-- 'laws.FnExactCableWhere', WHERE WHAT IT READS IS OF BULK AT MOST 1048576: true; the input reads as it did. -/
def fnExactCableWhereUptoRow : OpenClaim := { program := "ytgidemhencbgdaa", sum := "d20e49499303eb1af0c7754cfdb0123ecda52aedc2245bb8d437e79a62630333", func := "loop.example/cableship/laws.FnExactCableWhere", spec := "fnExactCableWhere", apart := false, narrowed := true }
def FnExactCableWhereUptoSaid : Prop := fnExactCableWhereUptoRow.holds Try.pinned (OpenSpec.upto fnExactCableWhereSpec)

/-- 'laws.FnExactCableKind', WHERE WHAT IT READS IS OF BULK AT MOST 1048576: true; the input reads as it did. -/
def fnExactCableKindUptoRow : OpenClaim := { program := "ytgidemhencbgdaa", sum := "d20e49499303eb1af0c7754cfdb0123ecda52aedc2245bb8d437e79a62630333", func := "loop.example/cableship/laws.FnExactCableKind", spec := "fnExactCableKind", apart := false, narrowed := true }
def FnExactCableKindUptoSaid : Prop := fnExactCableKindUptoRow.holds Try.pinned (OpenSpec.upto fnExactCableKindSpec)

/-- 'laws.FnExactCablePlain', WHERE WHAT IT READS IS OF BULK AT MOST 1048576: true; the input reads as it did. -/
def fnExactCablePlainUptoRow : OpenClaim := { program := "ytgidemhencbgdaa", sum := "d20e49499303eb1af0c7754cfdb0123ecda52aedc2245bb8d437e79a62630333", func := "loop.example/cableship/laws.FnExactCablePlain", spec := "fnExactCablePlain", apart := false, narrowed := true }
def FnExactCablePlainUptoSaid : Prop := fnExactCablePlainUptoRow.holds Try.pinned (OpenSpec.upto fnExactCablePlainSpec)

/-- 'laws.FnExactCableCut', WHERE WHAT IT READS IS OF BULK AT MOST 1048576: true; the input reads as it did. -/
def fnExactCableCutUptoRow : OpenClaim := { program := "ytgidemhencbgdaa", sum := "d20e49499303eb1af0c7754cfdb0123ecda52aedc2245bb8d437e79a62630333", func := "loop.example/cableship/laws.FnExactCableCut", spec := "fnExactCableCut", apart := false, narrowed := true }
def FnExactCableCutUptoSaid : Prop := fnExactCableCutUptoRow.holds Try.pinned (OpenSpec.upto fnExactCableCutSpec)

/-- 'laws.FnExactCableSplice', WHERE WHAT IT READS IS OF BULK AT MOST 1048576: true; the input reads as it did. -/
def fnExactCableSpliceUptoRow : OpenClaim := { program := "ytgidemhencbgdaa", sum := "d20e49499303eb1af0c7754cfdb0123ecda52aedc2245bb8d437e79a62630333", func := "loop.example/cableship/laws.FnExactCableSplice", spec := "fnExactCableSplice", apart := false, narrowed := true }
def FnExactCableSpliceUptoSaid : Prop := fnExactCableSpliceUptoRow.holds Try.pinned (OpenSpec.upto fnExactCableSpliceSpec)

/-- 'laws.FnExactCableReplace', WHERE WHAT IT READS IS OF BULK AT MOST 1048576: true; the input reads as it did. -/
def fnExactCableReplaceUptoRow : OpenClaim := { program := "ytgidemhencbgdaa", sum := "d20e49499303eb1af0c7754cfdb0123ecda52aedc2245bb8d437e79a62630333", func := "loop.example/cableship/laws.FnExactCableReplace", spec := "fnExactCableReplace", apart := false, narrowed := true }
def FnExactCableReplaceUptoSaid : Prop := fnExactCableReplaceUptoRow.holds Try.pinned (OpenSpec.upto fnExactCableReplaceSpec)

/-- 'laws.FnExactCableBack', WHERE WHAT IT READS IS OF BULK AT MOST 1048576: true; the input reads as it did. -/
def fnExactCableBackUptoRow : OpenClaim := { program := "ytgidemhencbgdaa", sum := "d20e49499303eb1af0c7754cfdb0123ecda52aedc2245bb8d437e79a62630333", func := "loop.example/cableship/laws.FnExactCableBack", spec := "fnExactCableBack", apart := false, narrowed := true }
def FnExactCableBackUptoSaid : Prop := fnExactCableBackUptoRow.holds Try.pinned (OpenSpec.upto fnExactCableBackSpec)

end Rows
end Go.Proofs.Ytgidemhencbgdaa
