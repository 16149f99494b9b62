/-
  DERIVED. GIVEN WITH THE SEED: THE CARDS: each row of YtgidemhencbgdaaDoorRows.lean that lists a variable, with what it lists TIED to the program's text (the seventh form; the later family's looks); each row that meets fmt, with fmt's text TOLD by the authors' own Lean function (tested against real Go, not proved from fmt's source: count such statements apart). THE CARD IS WHAT COUNTS. Prove the row's statement (the work); the ties are given (YtgidemhencbgdaaDoorTie.lean); close each card by the builder's one call (the guide's Derived/Test/ToyasCard.lean, 'card_holds'). Laid BY PROGRAM, IN A SANDBOX (cutbox-door.mjs). By AI agents, Wed Nov 11 2026. No macro, syntax, notation, axiom, sorry.
-/
import Derived.Test.YtgidemhencbgdaaDoorRows
import GoSem.ClaimSeven
namespace Go.Proofs.YtgidemhencbgdaaDoor
namespace Rows

/-- THE TIED CARD OF 'laws.FnCableText'. -/
def fnCableTextCard : Claim7 := { stood := { row := fnCableTextRow, standIns := [], harness := (true, "7c87dd3e39934e4e082857133a81362e5a14928e8694a1c58cb2848bca66ad4e"), looks := false }, kinds := [], alts := [], laidByText := true, laidKinds := [.data, .data, .data], laidTests := true, laidLooks := .later }
def FnCableTextCardSaid : Prop := Claim7.holds Tryd.pinned (.plain (OpenSpec.ofChange fnCableTextSpec)) fnCableTextCard

/-- THE TIED CARD OF 'laws.FnExactCableText'. -/
def fnExactCableTextCard : Claim7 := { stood := { row := fnExactCableTextRow, standIns := [], harness := (true, "7c87dd3e39934e4e082857133a81362e5a14928e8694a1c58cb2848bca66ad4e"), looks := false }, kinds := [], alts := [], laidByText := true, laidKinds := [.data, .data, .data], laidTests := true, laidLooks := .later }
def FnExactCableTextCardSaid : Prop := Claim7.holds Tryd.pinned (.plain (OpenSpec.ofChange fnExactCableTextSpec)) fnExactCableTextCard

/-- THE SECOND FORM's CARD OF 'laws.FnCableText'. -/
def fnCableTextUptoCard : Claim7 := { stood := { row := fnCableTextUptoRow, standIns := [], harness := (true, "7c87dd3e39934e4e082857133a81362e5a14928e8694a1c58cb2848bca66ad4e"), looks := false }, kinds := [], alts := [], laidByText := true, laidKinds := [.data, .data, .data], laidTests := true, laidLooks := .later }
def FnCableTextUptoCardSaid : Prop := Claim7.holds Tryd.pinned (.plain (OpenSpec.upto fnCableTextSpec)) fnCableTextUptoCard

/-- THE SECOND FORM's CARD OF 'laws.FnExactCableText'. -/
def fnExactCableTextUptoCard : Claim7 := { stood := { row := fnExactCableTextUptoRow, standIns := [], harness := (true, "7c87dd3e39934e4e082857133a81362e5a14928e8694a1c58cb2848bca66ad4e"), looks := false }, kinds := [], alts := [], laidByText := true, laidKinds := [.data, .data, .data], laidTests := true, laidLooks := .later }
def FnExactCableTextUptoCardSaid : Prop := Claim7.holds Tryd.pinned (.plain (OpenSpec.upto fnExactCableTextSpec)) fnExactCableTextUptoCard
end Rows
end Go.Proofs.YtgidemhencbgdaaDoor
