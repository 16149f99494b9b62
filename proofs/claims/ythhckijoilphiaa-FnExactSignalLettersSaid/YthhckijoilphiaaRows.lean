/-
  No cell of these rows narrows 'for every input' (looked for: loops, veiled, ifaces, maps, wideKeys, modest, calm, conditions, laid).
  DERIVED. THE GIVEN ROWS OF THIS SEAT. 3 by the template 'for every input the law returns true; each argument reads behind the call as it read before'; 0 by the template 'total and deterministic' (their statements: YthhckijoilphiaaTotals.lean).
  GIVEN WITH THE SEED: the statements are not yours to turn. If you find one false, say at which input.
  Laid BY PROGRAM, IN A SANDBOX (cutbox-rows.mjs): the forced cells as the released guide's own fill.sh prints them over the translation 0f3191537f67b07c… (all of the seat's roots in one cut). By AI agents, Wed Nov 11 2026. No macro, syntax, notation, axiom, sorry.
-/
import Derived.Test.YthhckijoilphiaaChecked
import GoSem.Claim
import GoSem.ClaimJoined
import GoSem.ClaimMapViews
import Derived.JoinedTies
import Derived.KernelRfl
namespace Go.Proofs.Ythhckijoilphiaa
/- THE CELL 'sum', in the pinned program and in every row, IS THE sha256 OF THE DUMP (.gsa) THAT YthhckijoilphiaaProg.lean LOADS. Nothing in Lean hashes anything: it is a label: what it is worth is what the hold of that sum in a sandbox is worth. -/
noncomputable def Try.pinned : Pinned := { name := "ythhckijoilphiaa", sum := "0f3191537f67b07c7eb5e2eead4824e01eb10bcbd4d66b014d1060f58a5a8ed8", checked := Try.checked }
namespace Rows
def none {H : Type} : Left H := { results := [], args := [] }

/-- 'laws.FnExactSignalCode': WHATEVER THE INPUT: true; the input reads as it did. -/
def fnExactSignalCodeSpec : ChangeSpec := { name := "fnExactSignalCode", fn := fun _ => fun
  | [d] => { results := [.lit (.bool true)], args := [d] }
  | _ => none }
def fnExactSignalCodeRow : OpenClaim := { program := "ythhckijoilphiaa", sum := "0f3191537f67b07c7eb5e2eead4824e01eb10bcbd4d66b014d1060f58a5a8ed8", func := "loop.example/cableship/laws.FnExactSignalCode", spec := "fnExactSignalCode", recurses := true, apart := false }
def FnExactSignalCodeSaid : Prop := fnExactSignalCodeRow.holds Try.pinned (OpenSpec.ofChange fnExactSignalCodeSpec)

/-- ITS FALSE NEIGHBOUR: 'it returns false'. Refute it at one input. -/
def fnExactSignalCodeWrong : ChangeSpec := { name := "fnExactSignalCode", fn := fun _ => fun
  | [d] => { results := [.lit (.bool false)], args := [d] }
  | _ => none }
def FnExactSignalCodeWrongFalsely : Prop := fnExactSignalCodeRow.holds Try.pinned (OpenSpec.ofChange fnExactSignalCodeWrong)

/-- 'laws.FnExactSignalOf': WHATEVER THE INPUT: true; the input reads as it did. -/
def fnExactSignalOfSpec : ChangeSpec := { name := "fnExactSignalOf", fn := fun _ => fun
  | [d] => { results := [.lit (.bool true)], args := [d] }
  | _ => none }
def fnExactSignalOfRow : OpenClaim := { program := "ythhckijoilphiaa", sum := "0f3191537f67b07c7eb5e2eead4824e01eb10bcbd4d66b014d1060f58a5a8ed8", func := "loop.example/cableship/laws.FnExactSignalOf", spec := "fnExactSignalOf", inPlace := ["internal/abi.NoEscape", "internal/bytealg.MakeNoZero"], recurses := true, apart := false }
def FnExactSignalOfSaid : Prop := fnExactSignalOfRow.holds Try.pinned (OpenSpec.ofChange fnExactSignalOfSpec)

/-- ITS FALSE NEIGHBOUR: 'it returns false'. Refute it at one input. -/
def fnExactSignalOfWrong : ChangeSpec := { name := "fnExactSignalOf", fn := fun _ => fun
  | [d] => { results := [.lit (.bool false)], args := [d] }
  | _ => none }
def FnExactSignalOfWrongFalsely : Prop := fnExactSignalOfRow.holds Try.pinned (OpenSpec.ofChange fnExactSignalOfWrong)

/-- 'laws.FnExactSignalLetters': WHATEVER THE INPUT: true; the input reads as it did. -/
def fnExactSignalLettersSpec : ChangeSpec := { name := "fnExactSignalLetters", fn := fun _ => fun
  | [d] => { results := [.lit (.bool true)], args := [d] }
  | _ => none }
def fnExactSignalLettersRow : OpenClaim := { program := "ythhckijoilphiaa", sum := "0f3191537f67b07c7eb5e2eead4824e01eb10bcbd4d66b014d1060f58a5a8ed8", func := "loop.example/cableship/laws.FnExactSignalLetters", spec := "fnExactSignalLetters", recurses := true, apart := false }
def FnExactSignalLettersSaid : Prop := fnExactSignalLettersRow.holds Try.pinned (OpenSpec.ofChange fnExactSignalLettersSpec)

/-- ITS FALSE NEIGHBOUR: 'it returns false'. Refute it at one input. -/
def fnExactSignalLettersWrong : ChangeSpec := { name := "fnExactSignalLetters", fn := fun _ => fun
  | [d] => { results := [.lit (.bool false)], args := [d] }
  | _ => none }
def FnExactSignalLettersWrongFalsely : Prop := fnExactSignalLettersRow.holds Try.pinned (OpenSpec.ofChange fnExactSignalLettersWrong)

/- THE SECOND FORM. 'bulk': how many values and letters a reading holds, each counted each time it is reached (what is shared counts as often as it is met; a slice's spare places count too). A statement '..UptoSaid' is the law's where the arguments, and the package variables that the reading takes, are together of bulk at most 1048576: NARROWER than '..Said'. Prove '..Said' where nothing that the law and all that it calls make is longer than what came in: it says more and counts as full. Else prove '..UptoSaid'. A law counts once. -/
mutual
def uptoBulk {H : Type} : DataW H → Nat
  | .lit (.string bytes) => bytes.length + 1
  | .lit _ => 1
  | .nil => 1
  | .ptr d => uptoBulk d + 1
  | .slice elems spare => uptoBulkAll elems + uptoBulkAll spare + 1
  | .agg parts => uptoBulkAll parts + 1
  | .iface _ d => uptoBulk d + 1
  | .map entries => uptoBulkEntries entries + 1
  | .held _ => 1
def uptoBulkAll {H : Type} : List (DataW H) → Nat
  | [] => 0
  | d :: r => uptoBulk d + uptoBulkAll r
def uptoBulkEntries {H : Type} : List (Lit × DataW H) → Nat
  | [] => 0
  | x :: r => uptoBulkEntry x + uptoBulkEntries r
def uptoBulkEntry {H : Type} : Lit × DataW H → Nat
  | (.string bytes, d) => bytes.length + uptoBulk d + 1
  | (_, d) => uptoBulk d + 1
 end
def uptoSmall : (H : Type) → List (DataW H) → Bool := fun _ ds => decide (uptoBulkAll ds ≤ 1048576)
def OpenSpec.upto (s : _root_.Go.ChangeSpec) : _root_.Go.OpenSpec := { _root_.Go.OpenSpec.ofChange s with cond := some uptoSmall }

/-- 'laws.FnExactSignalCode', WHERE WHAT IT READS IS OF BULK AT MOST 1048576: true; the input reads as it did. -/
def fnExactSignalCodeUptoRow : OpenClaim := { program := "ythhckijoilphiaa", sum := "0f3191537f67b07c7eb5e2eead4824e01eb10bcbd4d66b014d1060f58a5a8ed8", func := "loop.example/cableship/laws.FnExactSignalCode", spec := "fnExactSignalCode", recurses := true, apart := false, narrowed := true }
def FnExactSignalCodeUptoSaid : Prop := fnExactSignalCodeUptoRow.holds Try.pinned (OpenSpec.upto fnExactSignalCodeSpec)

/-- 'laws.FnExactSignalOf', WHERE WHAT IT READS IS OF BULK AT MOST 1048576: true; the input reads as it did. -/
def fnExactSignalOfUptoRow : OpenClaim := { program := "ythhckijoilphiaa", sum := "0f3191537f67b07c7eb5e2eead4824e01eb10bcbd4d66b014d1060f58a5a8ed8", func := "loop.example/cableship/laws.FnExactSignalOf", spec := "fnExactSignalOf", inPlace := ["internal/abi.NoEscape", "internal/bytealg.MakeNoZero"], recurses := true, apart := false, narrowed := true }
def FnExactSignalOfUptoSaid : Prop := fnExactSignalOfUptoRow.holds Try.pinned (OpenSpec.upto fnExactSignalOfSpec)

/-- 'laws.FnExactSignalLetters', WHERE WHAT IT READS IS OF BULK AT MOST 1048576: true; the input reads as it did. -/
def fnExactSignalLettersUptoRow : OpenClaim := { program := "ythhckijoilphiaa", sum := "0f3191537f67b07c7eb5e2eead4824e01eb10bcbd4d66b014d1060f58a5a8ed8", func := "loop.example/cableship/laws.FnExactSignalLetters", spec := "fnExactSignalLetters", recurses := true, apart := false, narrowed := true }
def FnExactSignalLettersUptoSaid : Prop := fnExactSignalLettersUptoRow.holds Try.pinned (OpenSpec.upto fnExactSignalLettersSpec)

end Rows
end Go.Proofs.Ythhckijoilphiaa
