/-
  DERIVED. GIVEN WITH THE SEED: THE CARDS: each row of YtgnolhikphoagaaDoorRows.lean that lists a variable, with what it lists TIED to the program's text (the seventh form; the later family's looks); each row that meets fmt, with fmt's text TOLD by the authors' own Lean function (tested against real Go, not proved from fmt's source: count such statements apart). THE CARD IS WHAT COUNTS. Prove the row's statement (the work); the ties are given (YtgnolhikphoagaaDoorTie.lean); close each card by the builder's one call (the guide's Derived/Test/ToyasCard.lean, 'card_holds'). Laid BY PROGRAM, IN A SANDBOX (cutbox-door.mjs). By AI agents, Wed Nov 11 2026. No macro, syntax, notation, axiom, sorry.
-/
import Derived.Test.YtgnolhikphoagaaDoorRows
import GoSem.ClaimSeven
namespace Go.Proofs.YtgnolhikphoagaaDoor
namespace Rows

/-- THE TIED CARD OF 'laws.FnCode'. -/
def fnCodeCard : Claim7 := { stood := { row := fnCodeRow, standIns := [], harness := (true, "cbc54b6466f11da377a957482a902adac637979fcb1c0d5af4613316ec523b89"), looks := false }, kinds := [], alts := [], laidByText := true, laidKinds := [.data, .pinned], laidTests := true, laidLooks := .later }
def FnCodeCardSaid : Prop := Claim7.holds Tryd.pinned (.plain (OpenSpec.ofChange fnCodeSpec)) fnCodeCard

/-- THE TIED CARD OF 'laws.FnSignal'. -/
def fnSignalCard : Claim7 := { stood := { row := fnSignalRow, standIns := [], harness := (true, "cbc54b6466f11da377a957482a902adac637979fcb1c0d5af4613316ec523b89"), looks := false }, kinds := [], alts := [], laidByText := true, laidKinds := [.data, .pinned], laidTests := true, laidLooks := .later }
def FnSignalCardSaid : Prop := Claim7.holds Tryd.pinned (.plain (OpenSpec.ofChange fnSignalSpec)) fnSignalCard

/-- THE TIED CARD OF 'laws.FnDrift'. -/
def fnDriftCard : Claim7 := { stood := { row := fnDriftRow, standIns := [], harness := (true, "cbc54b6466f11da377a957482a902adac637979fcb1c0d5af4613316ec523b89"), looks := false }, kinds := [], alts := [], laidByText := true, laidKinds := [.data, .pinned], laidTests := true, laidLooks := .later }
def FnDriftCardSaid : Prop := Claim7.holds Tryd.pinned (.plain (OpenSpec.ofChange fnDriftSpec)) fnDriftCard

/-- THE TIED CARD OF 'laws.FnWide'. -/
def fnWideCard : Claim7 := { stood := { row := fnWideRow, standIns := [], harness := (true, "cbc54b6466f11da377a957482a902adac637979fcb1c0d5af4613316ec523b89"), looks := false }, kinds := [], alts := [], laidByText := true, laidKinds := [.data, .pinned], laidTests := true, laidLooks := .later }
def FnWideCardSaid : Prop := Claim7.holds Tryd.pinned (.plain (OpenSpec.ofChange fnWideSpec)) fnWideCard

/-- THE TIED CARD OF 'laws.FnSignalBack'. -/
def fnSignalBackCard : Claim7 := { stood := { row := fnSignalBackRow, standIns := [], harness := (true, "cbc54b6466f11da377a957482a902adac637979fcb1c0d5af4613316ec523b89"), looks := false }, kinds := [], alts := [], laidByText := true, laidKinds := [.data, .pinned], laidTests := true, laidLooks := .later }
def FnSignalBackCardSaid : Prop := Claim7.holds Tryd.pinned (.plain (OpenSpec.ofChange fnSignalBackSpec)) fnSignalBackCard

/-- THE TIED CARD OF 'laws.FnSignalFar'. -/
def fnSignalFarCard : Claim7 := { stood := { row := fnSignalFarRow, standIns := [], harness := (true, "cbc54b6466f11da377a957482a902adac637979fcb1c0d5af4613316ec523b89"), looks := false }, kinds := [], alts := [], laidByText := true, laidKinds := [.data, .pinned], laidTests := true, laidLooks := .later }
def FnSignalFarCardSaid : Prop := Claim7.holds Tryd.pinned (.plain (OpenSpec.ofChange fnSignalFarSpec)) fnSignalFarCard

/-- THE TIED CARD OF 'laws.FnErrors'. -/
def fnErrorsCard : Claim7 := { stood := { row := fnErrorsRow, standIns := [], harness := (true, "cbc54b6466f11da377a957482a902adac637979fcb1c0d5af4613316ec523b89"), looks := false }, kinds := [], alts := [], laidByText := true, laidKinds := [.data, .pinned], laidTests := true, laidLooks := .later }
def FnErrorsCardSaid : Prop := Claim7.holds Tryd.pinned (.plain (OpenSpec.ofChange fnErrorsSpec)) fnErrorsCard

/-- THE TIED CARD OF 'laws.FnLevelSignal'. -/
def fnLevelSignalCard : Claim7 := { stood := { row := fnLevelSignalRow, standIns := [], harness := (true, "cbc54b6466f11da377a957482a902adac637979fcb1c0d5af4613316ec523b89"), looks := false }, kinds := [], alts := [], laidByText := true, laidKinds := [.data, .pinned], laidTests := true, laidLooks := .later }
def FnLevelSignalCardSaid : Prop := Claim7.holds Tryd.pinned (.plain (OpenSpec.ofChange fnLevelSignalSpec)) fnLevelSignalCard

/-- THE SECOND FORM's CARD OF 'laws.FnCode'. -/
def fnCodeUptoCard : Claim7 := { stood := { row := fnCodeUptoRow, standIns := [], harness := (true, "cbc54b6466f11da377a957482a902adac637979fcb1c0d5af4613316ec523b89"), looks := false }, kinds := [], alts := [], laidByText := true, laidKinds := [.data, .pinned], laidTests := true, laidLooks := .later }
def FnCodeUptoCardSaid : Prop := Claim7.holds Tryd.pinned (.plain (OpenSpec.upto fnCodeSpec)) fnCodeUptoCard

/-- THE SECOND FORM's CARD OF 'laws.FnSignal'. -/
def fnSignalUptoCard : Claim7 := { stood := { row := fnSignalUptoRow, standIns := [], harness := (true, "cbc54b6466f11da377a957482a902adac637979fcb1c0d5af4613316ec523b89"), looks := false }, kinds := [], alts := [], laidByText := true, laidKinds := [.data, .pinned], laidTests := true, laidLooks := .later }
def FnSignalUptoCardSaid : Prop := Claim7.holds Tryd.pinned (.plain (OpenSpec.upto fnSignalSpec)) fnSignalUptoCard

/-- THE SECOND FORM's CARD OF 'laws.FnDrift'. -/
def fnDriftUptoCard : Claim7 := { stood := { row := fnDriftUptoRow, standIns := [], harness := (true, "cbc54b6466f11da377a957482a902adac637979fcb1c0d5af4613316ec523b89"), looks := false }, kinds := [], alts := [], laidByText := true, laidKinds := [.data, .pinned], laidTests := true, laidLooks := .later }
def FnDriftUptoCardSaid : Prop := Claim7.holds Tryd.pinned (.plain (OpenSpec.upto fnDriftSpec)) fnDriftUptoCard

/-- THE SECOND FORM's CARD OF 'laws.FnWide'. -/
def fnWideUptoCard : Claim7 := { stood := { row := fnWideUptoRow, standIns := [], harness := (true, "cbc54b6466f11da377a957482a902adac637979fcb1c0d5af4613316ec523b89"), looks := false }, kinds := [], alts := [], laidByText := true, laidKinds := [.data, .pinned], laidTests := true, laidLooks := .later }
def FnWideUptoCardSaid : Prop := Claim7.holds Tryd.pinned (.plain (OpenSpec.upto fnWideSpec)) fnWideUptoCard

/-- THE SECOND FORM's CARD OF 'laws.FnSignalBack'. -/
def fnSignalBackUptoCard : Claim7 := { stood := { row := fnSignalBackUptoRow, standIns := [], harness := (true, "cbc54b6466f11da377a957482a902adac637979fcb1c0d5af4613316ec523b89"), looks := false }, kinds := [], alts := [], laidByText := true, laidKinds := [.data, .pinned], laidTests := true, laidLooks := .later }
def FnSignalBackUptoCardSaid : Prop := Claim7.holds Tryd.pinned (.plain (OpenSpec.upto fnSignalBackSpec)) fnSignalBackUptoCard

/-- THE SECOND FORM's CARD OF 'laws.FnSignalFar'. -/
def fnSignalFarUptoCard : Claim7 := { stood := { row := fnSignalFarUptoRow, standIns := [], harness := (true, "cbc54b6466f11da377a957482a902adac637979fcb1c0d5af4613316ec523b89"), looks := false }, kinds := [], alts := [], laidByText := true, laidKinds := [.data, .pinned], laidTests := true, laidLooks := .later }
def FnSignalFarUptoCardSaid : Prop := Claim7.holds Tryd.pinned (.plain (OpenSpec.upto fnSignalFarSpec)) fnSignalFarUptoCard

/-- THE SECOND FORM's CARD OF 'laws.FnErrors'. -/
def fnErrorsUptoCard : Claim7 := { stood := { row := fnErrorsUptoRow, standIns := [], harness := (true, "cbc54b6466f11da377a957482a902adac637979fcb1c0d5af4613316ec523b89"), looks := false }, kinds := [], alts := [], laidByText := true, laidKinds := [.data, .pinned], laidTests := true, laidLooks := .later }
def FnErrorsUptoCardSaid : Prop := Claim7.holds Tryd.pinned (.plain (OpenSpec.upto fnErrorsSpec)) fnErrorsUptoCard

/-- THE SECOND FORM's CARD OF 'laws.FnLevelSignal'. -/
def fnLevelSignalUptoCard : Claim7 := { stood := { row := fnLevelSignalUptoRow, standIns := [], harness := (true, "cbc54b6466f11da377a957482a902adac637979fcb1c0d5af4613316ec523b89"), looks := false }, kinds := [], alts := [], laidByText := true, laidKinds := [.data, .pinned], laidTests := true, laidLooks := .later }
def FnLevelSignalUptoCardSaid : Prop := Claim7.holds Tryd.pinned (.plain (OpenSpec.upto fnLevelSignalSpec)) fnLevelSignalUptoCard
end Rows
end Go.Proofs.YtgnolhikphoagaaDoor
