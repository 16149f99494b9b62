/-
  DERIVED. GIVEN WITH THE SEED: THE CARDS: each row of YtodboccadccpfaaDoorRows.lean that lists a variable, with what it lists TIED to the program's text (the seventh form; the later family's looks); each row that meets fmt, with fmt's text TOLD by the authors' own Lean function (tested against real Go, not proved from fmt's source: count such statements apart). THE CARD IS WHAT COUNTS. Prove the row's statement (the work); the ties are given (YtodboccadccpfaaDoorTie.lean); close each card by the builder's one call (the guide's Derived/Test/ToyasCard.lean, 'card_holds'). Laid BY PROGRAM, IN A SANDBOX (cutbox-door.mjs). By AI agents, Wed Nov 11 2026. No macro, syntax, notation, axiom, sorry.
-/
import Derived.Test.YtodboccadccpfaaDoorRows
import GoSem.ClaimSeven
namespace Go.Proofs.YtodboccadccpfaaDoor
namespace Rows

/-- THE TIED CARD OF 'laws.FnPlan'. -/
def fnPlanCard : Claim7 := { stood := { row := fnPlanRow, standIns := [], harness := (true, "638cdf050ebf337977e374d30c41d42b7f6ef7aa7d8ad9fe2d46699c487b14aa"), looks := false }, kinds := [], alts := [], laidByText := true, laidKinds := [.data], laidTests := true, laidLooks := .later }
def FnPlanCardSaid : Prop := Claim7.holds Tryd.pinned (.plain (OpenSpec.ofChange fnPlanSpec)) fnPlanCard

/-- THE TIED CARD OF 'laws.FnEnds'. -/
def fnEndsCard : Claim7 := { stood := { row := fnEndsRow, standIns := [], harness := (true, "638cdf050ebf337977e374d30c41d42b7f6ef7aa7d8ad9fe2d46699c487b14aa"), looks := false }, kinds := [], alts := [], laidByText := true, laidKinds := [.data], laidTests := true, laidLooks := .later }
def FnEndsCardSaid : Prop := Claim7.holds Tryd.pinned (.plain (OpenSpec.ofChange fnEndsSpec)) fnEndsCard

/-- THE TIED CARD OF 'laws.FnPlanRate'. -/
def fnPlanRateCard : Claim7 := { stood := { row := fnPlanRateRow, standIns := [], harness := (true, "638cdf050ebf337977e374d30c41d42b7f6ef7aa7d8ad9fe2d46699c487b14aa"), looks := false }, kinds := [], alts := [], laidByText := true, laidKinds := [.data], laidTests := true, laidLooks := .later }
def FnPlanRateCardSaid : Prop := Claim7.holds Tryd.pinned (.plain (OpenSpec.ofChange fnPlanRateSpec)) fnPlanRateCard

/-- THE TIED CARD OF 'laws.FnJobsDays'. -/
def fnJobsDaysCard : Claim7 := { stood := { row := fnJobsDaysRow, standIns := [], harness := (true, "638cdf050ebf337977e374d30c41d42b7f6ef7aa7d8ad9fe2d46699c487b14aa"), looks := false }, kinds := [], alts := [], laidByText := true, laidKinds := [.data], laidTests := true, laidLooks := .later }
def FnJobsDaysCardSaid : Prop := Claim7.holds Tryd.pinned (.plain (OpenSpec.ofChange fnJobsDaysSpec)) fnJobsDaysCard

/-- THE SECOND FORM's CARD OF 'laws.FnPlan'. -/
def fnPlanUptoCard : Claim7 := { stood := { row := fnPlanUptoRow, standIns := [], harness := (true, "638cdf050ebf337977e374d30c41d42b7f6ef7aa7d8ad9fe2d46699c487b14aa"), looks := false }, kinds := [], alts := [], laidByText := true, laidKinds := [.data], laidTests := true, laidLooks := .later }
def FnPlanUptoCardSaid : Prop := Claim7.holds Tryd.pinned (.plain (OpenSpec.upto fnPlanSpec)) fnPlanUptoCard

/-- THE SECOND FORM's CARD OF 'laws.FnEnds'. -/
def fnEndsUptoCard : Claim7 := { stood := { row := fnEndsUptoRow, standIns := [], harness := (true, "638cdf050ebf337977e374d30c41d42b7f6ef7aa7d8ad9fe2d46699c487b14aa"), looks := false }, kinds := [], alts := [], laidByText := true, laidKinds := [.data], laidTests := true, laidLooks := .later }
def FnEndsUptoCardSaid : Prop := Claim7.holds Tryd.pinned (.plain (OpenSpec.upto fnEndsSpec)) fnEndsUptoCard

/-- THE SECOND FORM's CARD OF 'laws.FnPlanRate'. -/
def fnPlanRateUptoCard : Claim7 := { stood := { row := fnPlanRateUptoRow, standIns := [], harness := (true, "638cdf050ebf337977e374d30c41d42b7f6ef7aa7d8ad9fe2d46699c487b14aa"), looks := false }, kinds := [], alts := [], laidByText := true, laidKinds := [.data], laidTests := true, laidLooks := .later }
def FnPlanRateUptoCardSaid : Prop := Claim7.holds Tryd.pinned (.plain (OpenSpec.upto fnPlanRateSpec)) fnPlanRateUptoCard

/-- THE SECOND FORM's CARD OF 'laws.FnJobsDays'. -/
def fnJobsDaysUptoCard : Claim7 := { stood := { row := fnJobsDaysUptoRow, standIns := [], harness := (true, "638cdf050ebf337977e374d30c41d42b7f6ef7aa7d8ad9fe2d46699c487b14aa"), looks := false }, kinds := [], alts := [], laidByText := true, laidKinds := [.data], laidTests := true, laidLooks := .later }
def FnJobsDaysUptoCardSaid : Prop := Claim7.holds Tryd.pinned (.plain (OpenSpec.upto fnJobsDaysSpec)) fnJobsDaysUptoCard
end Rows
end Go.Proofs.YtodboccadccpfaaDoor
