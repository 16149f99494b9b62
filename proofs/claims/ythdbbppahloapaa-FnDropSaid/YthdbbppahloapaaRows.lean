/-
  No cell of these rows narrows 'for every input' (looked for: loops, veiled, ifaces, maps, wideKeys, modest, calm, conditions, laid).
  DERIVED. THE GIVEN ROWS OF THIS SEAT. 7 by the template 'for every input the law returns true; each argument reads behind the call as it read before'; 0 by the template 'total and deterministic' (their statements: YthdbbppahloapaaTotals.lean).
  GIVEN WITH THE SEED: the statements are not yours to turn. If you find one false, say at which input.
  Laid BY PROGRAM, IN A SANDBOX (cutbox-rows.mjs): the forced cells as the released guide's own fill.sh prints them over the translation 296f195fa4e56613… (all of the seat's roots in one cut). By AI agents, Wed Nov 11 2026. No macro, syntax, notation, axiom, sorry.
-/
import Derived.Test.YthdbbppahloapaaChecked
import GoSem.Claim
import GoSem.ClaimJoined
import GoSem.ClaimMapViews
import Derived.JoinedTies
import Derived.KernelRfl
namespace Go.Proofs.Ythdbbppahloapaa
/- THE CELL 'sum', in the pinned program and in every row, IS THE sha256 OF THE DUMP (.gsa) THAT YthdbbppahloapaaProg.lean LOADS. Nothing in Lean hashes anything: it is a label: what it is worth is what the hold of that sum in a sandbox is worth. -/
noncomputable def Try.pinned : Pinned := { name := "ythdbbppahloapaa", sum := "296f195fa4e56613840d2537efa4c231799582245a545402a94b0dc5e3032560", checked := Try.checked }
namespace Rows
def none {H : Type} : Left H := { results := [], args := [] }

/-- 'laws.FnStowage': WHATEVER THE INPUT: true; the input reads as it did. -/
def fnStowageSpec : ChangeSpec := { name := "fnStowage", fn := fun _ => fun
  | [d1, d2] => { results := [.lit (.bool true)], args := [d1, d2] }
  | _ => none }
def fnStowageRow : OpenClaim := { program := "ythdbbppahloapaa", sum := "296f195fa4e56613840d2537efa4c231799582245a545402a94b0dc5e3032560", func := "loop.example/cableship/laws.FnStowage", spec := "fnStowage", unfollowed := true, recurses := true, apart := false }
def FnStowageSaid : Prop := fnStowageRow.holds Try.pinned (OpenSpec.ofChange fnStowageSpec)

/-- ITS FALSE NEIGHBOUR: 'it returns false'. Refute it at one input. -/
def fnStowageWrong : ChangeSpec := { name := "fnStowage", fn := fun _ => fun
  | [d1, d2] => { results := [.lit (.bool false)], args := [d1, d2] }
  | _ => none }
def FnStowageWrongFalsely : Prop := fnStowageRow.holds Try.pinned (OpenSpec.ofChange fnStowageWrong)

/-- 'laws.FnMake': WHATEVER THE INPUT: true; the input reads as it did. -/
def fnMakeSpec : ChangeSpec := { name := "fnMake", fn := fun _ => fun
  | [d1, d2] => { results := [.lit (.bool true)], args := [d1, d2] }
  | _ => none }
def fnMakeRow : OpenClaim := { program := "ythdbbppahloapaa", sum := "296f195fa4e56613840d2537efa4c231799582245a545402a94b0dc5e3032560", func := "loop.example/cableship/laws.FnMake", spec := "fnMake", unfollowed := true, recurses := true, apart := false }
def FnMakeSaid : Prop := fnMakeRow.holds Try.pinned (OpenSpec.ofChange fnMakeSpec)

/-- ITS FALSE NEIGHBOUR: 'it returns false'. Refute it at one input. -/
def fnMakeWrong : ChangeSpec := { name := "fnMake", fn := fun _ => fun
  | [d1, d2] => { results := [.lit (.bool false)], args := [d1, d2] }
  | _ => none }
def FnMakeWrongFalsely : Prop := fnMakeRow.holds Try.pinned (OpenSpec.ofChange fnMakeWrong)

/-- 'laws.FnTanks': WHATEVER THE INPUT: true; the input reads as it did. -/
def fnTanksSpec : ChangeSpec := { name := "fnTanks", fn := fun _ => fun
  | [d] => { results := [.lit (.bool true)], args := [d] }
  | _ => none }
def fnTanksRow : OpenClaim := { program := "ythdbbppahloapaa", sum := "296f195fa4e56613840d2537efa4c231799582245a545402a94b0dc5e3032560", func := "loop.example/cableship/laws.FnTanks", spec := "fnTanks", unfollowed := true, recurses := true, apart := false }
def FnTanksSaid : Prop := fnTanksRow.holds Try.pinned (OpenSpec.ofChange fnTanksSpec)

/-- ITS FALSE NEIGHBOUR: 'it returns false'. Refute it at one input. -/
def fnTanksWrong : ChangeSpec := { name := "fnTanks", fn := fun _ => fun
  | [d] => { results := [.lit (.bool false)], args := [d] }
  | _ => none }
def FnTanksWrongFalsely : Prop := fnTanksRow.holds Try.pinned (OpenSpec.ofChange fnTanksWrong)

/-- 'laws.FnLeast': WHATEVER THE INPUT: true; the input reads as it did. -/
def fnLeastSpec : ChangeSpec := { name := "fnLeast", fn := fun _ => fun
  | [d1, d2] => { results := [.lit (.bool true)], args := [d1, d2] }
  | _ => none }
def fnLeastRow : OpenClaim := { program := "ythdbbppahloapaa", sum := "296f195fa4e56613840d2537efa4c231799582245a545402a94b0dc5e3032560", func := "loop.example/cableship/laws.FnLeast", spec := "fnLeast", unfollowed := true, recurses := true, apart := false }
def FnLeastSaid : Prop := fnLeastRow.holds Try.pinned (OpenSpec.ofChange fnLeastSpec)

/-- ITS FALSE NEIGHBOUR: 'it returns false'. Refute it at one input. -/
def fnLeastWrong : ChangeSpec := { name := "fnLeast", fn := fun _ => fun
  | [d1, d2] => { results := [.lit (.bool false)], args := [d1, d2] }
  | _ => none }
def FnLeastWrongFalsely : Prop := fnLeastRow.holds Try.pinned (OpenSpec.ofChange fnLeastWrong)

/-- 'laws.FnOrdersBack': WHATEVER THE INPUT: true; the input reads as it did. -/
def fnOrdersBackSpec : ChangeSpec := { name := "fnOrdersBack", fn := fun _ => fun
  | [d] => { results := [.lit (.bool true)], args := [d] }
  | _ => none }
def fnOrdersBackRow : OpenClaim := { program := "ythdbbppahloapaa", sum := "296f195fa4e56613840d2537efa4c231799582245a545402a94b0dc5e3032560", func := "loop.example/cableship/laws.FnOrdersBack", spec := "fnOrdersBack", unfollowed := true, recurses := true, apart := false }
def FnOrdersBackSaid : Prop := fnOrdersBackRow.holds Try.pinned (OpenSpec.ofChange fnOrdersBackSpec)

/-- ITS FALSE NEIGHBOUR: 'it returns false'. Refute it at one input. -/
def fnOrdersBackWrong : ChangeSpec := { name := "fnOrdersBack", fn := fun _ => fun
  | [d] => { results := [.lit (.bool false)], args := [d] }
  | _ => none }
def FnOrdersBackWrongFalsely : Prop := fnOrdersBackRow.holds Try.pinned (OpenSpec.ofChange fnOrdersBackWrong)

/-- 'laws.FnDrop': WHATEVER THE INPUT: true; the input reads as it did. -/
def fnDropSpec : ChangeSpec := { name := "fnDrop", fn := fun _ => fun
  | [d] => { results := [.lit (.bool true)], args := [d] }
  | _ => none }
def fnDropRow : OpenClaim := { program := "ythdbbppahloapaa", sum := "296f195fa4e56613840d2537efa4c231799582245a545402a94b0dc5e3032560", func := "loop.example/cableship/laws.FnDrop", spec := "fnDrop", apart := false }
def FnDropSaid : Prop := fnDropRow.holds Try.pinned (OpenSpec.ofChange fnDropSpec)

/-- ITS FALSE NEIGHBOUR: 'it returns false'. Refute it at one input. -/
def fnDropWrong : ChangeSpec := { name := "fnDrop", fn := fun _ => fun
  | [d] => { results := [.lit (.bool false)], args := [d] }
  | _ => none }
def FnDropWrongFalsely : Prop := fnDropRow.holds Try.pinned (OpenSpec.ofChange fnDropWrong)

/-- 'laws.FnMost': WHATEVER THE INPUT: true; the input reads as it did. -/
def fnMostSpec : ChangeSpec := { name := "fnMost", fn := fun _ => fun
  | [d] => { results := [.lit (.bool true)], args := [d] }
  | _ => none }
def fnMostRow : OpenClaim := { program := "ythdbbppahloapaa", sum := "296f195fa4e56613840d2537efa4c231799582245a545402a94b0dc5e3032560", func := "loop.example/cableship/laws.FnMost", spec := "fnMost", unfollowed := true, recurses := true, apart := false }
def FnMostSaid : Prop := fnMostRow.holds Try.pinned (OpenSpec.ofChange fnMostSpec)

/-- ITS FALSE NEIGHBOUR: 'it returns false'. Refute it at one input. -/
def fnMostWrong : ChangeSpec := { name := "fnMost", fn := fun _ => fun
  | [d] => { results := [.lit (.bool false)], args := [d] }
  | _ => none }
def FnMostWrongFalsely : Prop := fnMostRow.holds Try.pinned (OpenSpec.ofChange fnMostWrong)

/- THE SECOND FORM. 'bulk': how many values and letters a reading holds, each counted each time it is reached (what is shared counts as often as it is met; a slice's spare places count too). A statement '..UptoSaid' is the law's where the arguments, and the package variables that the reading takes, are together of bulk at most 1048576: NARROWER than '..Said'. Prove '..Said' where nothing that the law and all that it calls make is longer than what came in: it says more and counts as full. Else prove '..UptoSaid'. A law counts once. -/
mutual
def uptoBulk {H : Type} : DataW H → Nat
  | .lit (.string bytes) => bytes.length + 1
  | .lit _ => 1
  | .nil => 1
  | .ptr d => uptoBulk d + 1
  | .slice elems spare => uptoBulkAll elems + uptoBulkAll spare + 1
  | .agg parts => uptoBulkAll parts + 1
  | .iface _ d => uptoBulk d + 1
  | .map entries => uptoBulkEntries entries + 1
  | .held _ => 1
def uptoBulkAll {H : Type} : List (DataW H) → Nat
  | [] => 0
  | d :: r => uptoBulk d + uptoBulkAll r
def uptoBulkEntries {H : Type} : List (Lit × DataW H) → Nat
  | [] => 0
  | x :: r => uptoBulkEntry x + uptoBulkEntries r
def uptoBulkEntry {H : Type} : Lit × DataW H → Nat
  | (.string bytes, d) => bytes.length + uptoBulk d + 1
  | (_, d) => uptoBulk d + 1
 end
def uptoSmall : (H : Type) → List (DataW H) → Bool := fun _ ds => decide (uptoBulkAll ds ≤ 1048576)
def OpenSpec.upto (s : _root_.Go.ChangeSpec) : _root_.Go.OpenSpec := { _root_.Go.OpenSpec.ofChange s with cond := some uptoSmall }

/-- 'laws.FnStowage', WHERE WHAT IT READS IS OF BULK AT MOST 1048576: true; the input reads as it did. -/
def fnStowageUptoRow : OpenClaim := { program := "ythdbbppahloapaa", sum := "296f195fa4e56613840d2537efa4c231799582245a545402a94b0dc5e3032560", func := "loop.example/cableship/laws.FnStowage", spec := "fnStowage", unfollowed := true, recurses := true, apart := false, narrowed := true }
def FnStowageUptoSaid : Prop := fnStowageUptoRow.holds Try.pinned (OpenSpec.upto fnStowageSpec)

/-- 'laws.FnMake', WHERE WHAT IT READS IS OF BULK AT MOST 1048576: true; the input reads as it did. -/
def fnMakeUptoRow : OpenClaim := { program := "ythdbbppahloapaa", sum := "296f195fa4e56613840d2537efa4c231799582245a545402a94b0dc5e3032560", func := "loop.example/cableship/laws.FnMake", spec := "fnMake", unfollowed := true, recurses := true, apart := false, narrowed := true }
def FnMakeUptoSaid : Prop := fnMakeUptoRow.holds Try.pinned (OpenSpec.upto fnMakeSpec)

/-- 'laws.FnTanks', WHERE WHAT IT READS IS OF BULK AT MOST 1048576: true; the input reads as it did. -/
def fnTanksUptoRow : OpenClaim := { program := "ythdbbppahloapaa", sum := "296f195fa4e56613840d2537efa4c231799582245a545402a94b0dc5e3032560", func := "loop.example/cableship/laws.FnTanks", spec := "fnTanks", unfollowed := true, recurses := true, apart := false, narrowed := true }
def FnTanksUptoSaid : Prop := fnTanksUptoRow.holds Try.pinned (OpenSpec.upto fnTanksSpec)

/-- 'laws.FnLeast', WHERE WHAT IT READS IS OF BULK AT MOST 1048576: true; the input reads as it did. -/
def fnLeastUptoRow : OpenClaim := { program := "ythdbbppahloapaa", sum := "296f195fa4e56613840d2537efa4c231799582245a545402a94b0dc5e3032560", func := "loop.example/cableship/laws.FnLeast", spec := "fnLeast", unfollowed := true, recurses := true, apart := false, narrowed := true }
def FnLeastUptoSaid : Prop := fnLeastUptoRow.holds Try.pinned (OpenSpec.upto fnLeastSpec)

/-- 'laws.FnOrdersBack', WHERE WHAT IT READS IS OF BULK AT MOST 1048576: true; the input reads as it did. -/
def fnOrdersBackUptoRow : OpenClaim := { program := "ythdbbppahloapaa", sum := "296f195fa4e56613840d2537efa4c231799582245a545402a94b0dc5e3032560", func := "loop.example/cableship/laws.FnOrdersBack", spec := "fnOrdersBack", unfollowed := true, recurses := true, apart := false, narrowed := true }
def FnOrdersBackUptoSaid : Prop := fnOrdersBackUptoRow.holds Try.pinned (OpenSpec.upto fnOrdersBackSpec)

/-- 'laws.FnDrop', WHERE WHAT IT READS IS OF BULK AT MOST 1048576: true; the input reads as it did. -/
def fnDropUptoRow : OpenClaim := { program := "ythdbbppahloapaa", sum := "296f195fa4e56613840d2537efa4c231799582245a545402a94b0dc5e3032560", func := "loop.example/cableship/laws.FnDrop", spec := "fnDrop", apart := false, narrowed := true }
def FnDropUptoSaid : Prop := fnDropUptoRow.holds Try.pinned (OpenSpec.upto fnDropSpec)

/-- 'laws.FnMost', WHERE WHAT IT READS IS OF BULK AT MOST 1048576: true; the input reads as it did. -/
def fnMostUptoRow : OpenClaim := { program := "ythdbbppahloapaa", sum := "296f195fa4e56613840d2537efa4c231799582245a545402a94b0dc5e3032560", func := "loop.example/cableship/laws.FnMost", spec := "fnMost", unfollowed := true, recurses := true, apart := false, narrowed := true }
def FnMostUptoSaid : Prop := fnMostUptoRow.holds Try.pinned (OpenSpec.upto fnMostSpec)

end Rows
end Go.Proofs.Ythdbbppahloapaa
