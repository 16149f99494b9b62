/-
  DERIVED. GIVEN WITH THE SEED: THE CARDS: each row of YtbcgglkgdjafiaaDoorRows.lean that lists a variable, with what it lists TIED to the program's text (the seventh form; the later family's looks); each row that meets fmt, with fmt's text TOLD by the authors' own Lean function (tested against real Go, not proved from fmt's source: count such statements apart). THE CARD IS WHAT COUNTS. Prove the row's statement (the work); the ties are given (YtbcgglkgdjafiaaDoorTie.lean); close each card by the builder's one call (the guide's Derived/Test/ToyasCard.lean, 'card_holds'). Laid BY PROGRAM, IN A SANDBOX (cutbox-door.mjs). By AI agents, Wed Nov 11 2026. No macro, syntax, notation, axiom, sorry.
-/
import Derived.Test.YtbcgglkgdjafiaaDoorRows
import GoSem.ClaimSeven
namespace Go.Proofs.YtbcgglkgdjafiaaDoor
namespace Rows

/-- THE TIED CARD OF 'laws.FnForecastOpen'. -/
def fnForecastOpenCard : Claim7 := { stood := { row := fnForecastOpenRow, standIns := [], harness := (true, "409e9c497c4bbda14d1fbb202c724cfaeae1dc8c078924ddfab3c773c8342600"), looks := false }, kinds := [], alts := [], laidByText := true, laidKinds := [.data], laidTests := true, laidLooks := .later }
def FnForecastOpenCardSaid : Prop := Claim7.holds Tryd.pinned (.plain (OpenSpec.ofChange fnForecastOpenSpec)) fnForecastOpenCard

/-- THE TIED CARD OF 'laws.FnDay'. -/
def fnDayCard : Claim7 := { stood := { row := fnDayRow, standIns := [], harness := (true, "409e9c497c4bbda14d1fbb202c724cfaeae1dc8c078924ddfab3c773c8342600"), looks := false }, kinds := [], alts := [], laidByText := true, laidKinds := [.data], laidTests := true, laidLooks := .later }
def FnDayCardSaid : Prop := Claim7.holds Tryd.pinned (.plain (OpenSpec.ofChange fnDaySpec)) fnDayCard

/-- THE TIED CARD OF 'laws.FnForecastLongest'. -/
def fnForecastLongestCard : Claim7 := { stood := { row := fnForecastLongestRow, standIns := [], harness := (true, "409e9c497c4bbda14d1fbb202c724cfaeae1dc8c078924ddfab3c773c8342600"), looks := false }, kinds := [], alts := [], laidByText := true, laidKinds := [.data], laidTests := true, laidLooks := .later }
def FnForecastLongestCardSaid : Prop := Claim7.holds Tryd.pinned (.plain (OpenSpec.ofChange fnForecastLongestSpec)) fnForecastLongestCard

/-- THE TIED CARD OF 'laws.FnWindow'. -/
def fnWindowCard : Claim7 := { stood := { row := fnWindowRow, standIns := [], harness := (true, "409e9c497c4bbda14d1fbb202c724cfaeae1dc8c078924ddfab3c773c8342600"), looks := false }, kinds := [], alts := [], laidByText := true, laidKinds := [.data], laidTests := true, laidLooks := .later }
def FnWindowCardSaid : Prop := Claim7.holds Tryd.pinned (.plain (OpenSpec.ofChange fnWindowSpec)) fnWindowCard

/-- THE TIED CARD OF 'laws.FnLoss'. -/
def fnLossCard : Claim7 := { stood := { row := fnLossRow, standIns := [], harness := (true, "409e9c497c4bbda14d1fbb202c724cfaeae1dc8c078924ddfab3c773c8342600"), looks := false }, kinds := [], alts := [], laidByText := true, laidKinds := [.data], laidTests := true, laidLooks := .later }
def FnLossCardSaid : Prop := Claim7.holds Tryd.pinned (.plain (OpenSpec.ofChange fnLossSpec)) fnLossCard

/-- THE TIED CARD OF 'laws.FnPlanBest'. -/
def fnPlanBestCard : Claim7 := { stood := { row := fnPlanBestRow, standIns := [], harness := (true, "409e9c497c4bbda14d1fbb202c724cfaeae1dc8c078924ddfab3c773c8342600"), looks := false }, kinds := [], alts := [], laidByText := true, laidKinds := [.data], laidTests := true, laidLooks := .later }
def FnPlanBestCardSaid : Prop := Claim7.holds Tryd.pinned (.plain (OpenSpec.ofChange fnPlanBestSpec)) fnPlanBestCard

/-- THE TIED CARD OF 'laws.FnExactForecastDay'. -/
def fnExactForecastDayCard : Claim7 := { stood := { row := fnExactForecastDayRow, standIns := [], harness := (true, "409e9c497c4bbda14d1fbb202c724cfaeae1dc8c078924ddfab3c773c8342600"), looks := false }, kinds := [], alts := [], laidByText := true, laidKinds := [.data], laidTests := true, laidLooks := .later }
def FnExactForecastDayCardSaid : Prop := Claim7.holds Tryd.pinned (.plain (OpenSpec.ofChange fnExactForecastDaySpec)) fnExactForecastDayCard

/-- THE TIED CARD OF 'laws.FnExactForecastLongest'. -/
def fnExactForecastLongestCard : Claim7 := { stood := { row := fnExactForecastLongestRow, standIns := [], harness := (true, "409e9c497c4bbda14d1fbb202c724cfaeae1dc8c078924ddfab3c773c8342600"), looks := false }, kinds := [], alts := [], laidByText := true, laidKinds := [.data], laidTests := true, laidLooks := .later }
def FnExactForecastLongestCardSaid : Prop := Claim7.holds Tryd.pinned (.plain (OpenSpec.ofChange fnExactForecastLongestSpec)) fnExactForecastLongestCard

/-- THE TIED CARD OF 'laws.FnExactForecastWindow'. -/
def fnExactForecastWindowCard : Claim7 := { stood := { row := fnExactForecastWindowRow, standIns := [], harness := (true, "409e9c497c4bbda14d1fbb202c724cfaeae1dc8c078924ddfab3c773c8342600"), looks := false }, kinds := [], alts := [], laidByText := true, laidKinds := [.data], laidTests := true, laidLooks := .later }
def FnExactForecastWindowCardSaid : Prop := Claim7.holds Tryd.pinned (.plain (OpenSpec.ofChange fnExactForecastWindowSpec)) fnExactForecastWindowCard

/-- THE TIED CARD OF 'laws.FnExactPlanEnds'. -/
def fnExactPlanEndsCard : Claim7 := { stood := { row := fnExactPlanEndsRow, standIns := [], harness := (true, "409e9c497c4bbda14d1fbb202c724cfaeae1dc8c078924ddfab3c773c8342600"), looks := false }, kinds := [], alts := [], laidByText := true, laidKinds := [.data], laidTests := true, laidLooks := .later }
def FnExactPlanEndsCardSaid : Prop := Claim7.holds Tryd.pinned (.plain (OpenSpec.ofChange fnExactPlanEndsSpec)) fnExactPlanEndsCard

/-- THE TIED CARD OF 'laws.FnExactPlanLoss'. -/
def fnExactPlanLossCard : Claim7 := { stood := { row := fnExactPlanLossRow, standIns := [], harness := (true, "409e9c497c4bbda14d1fbb202c724cfaeae1dc8c078924ddfab3c773c8342600"), looks := false }, kinds := [], alts := [], laidByText := true, laidKinds := [.data], laidTests := true, laidLooks := .later }
def FnExactPlanLossCardSaid : Prop := Claim7.holds Tryd.pinned (.plain (OpenSpec.ofChange fnExactPlanLossSpec)) fnExactPlanLossCard

/-- THE TIED CARD OF 'laws.FnExactPlanBest'. -/
def fnExactPlanBestCard : Claim7 := { stood := { row := fnExactPlanBestRow, standIns := [], harness := (true, "409e9c497c4bbda14d1fbb202c724cfaeae1dc8c078924ddfab3c773c8342600"), looks := false }, kinds := [], alts := [], laidByText := true, laidKinds := [.data], laidTests := true, laidLooks := .later }
def FnExactPlanBestCardSaid : Prop := Claim7.holds Tryd.pinned (.plain (OpenSpec.ofChange fnExactPlanBestSpec)) fnExactPlanBestCard

/-- THE SECOND FORM's CARD OF 'laws.FnForecastOpen'. -/
def fnForecastOpenUptoCard : Claim7 := { stood := { row := fnForecastOpenUptoRow, standIns := [], harness := (true, "409e9c497c4bbda14d1fbb202c724cfaeae1dc8c078924ddfab3c773c8342600"), looks := false }, kinds := [], alts := [], laidByText := true, laidKinds := [.data], laidTests := true, laidLooks := .later }
def FnForecastOpenUptoCardSaid : Prop := Claim7.holds Tryd.pinned (.plain (OpenSpec.upto fnForecastOpenSpec)) fnForecastOpenUptoCard

/-- THE SECOND FORM's CARD OF 'laws.FnDay'. -/
def fnDayUptoCard : Claim7 := { stood := { row := fnDayUptoRow, standIns := [], harness := (true, "409e9c497c4bbda14d1fbb202c724cfaeae1dc8c078924ddfab3c773c8342600"), looks := false }, kinds := [], alts := [], laidByText := true, laidKinds := [.data], laidTests := true, laidLooks := .later }
def FnDayUptoCardSaid : Prop := Claim7.holds Tryd.pinned (.plain (OpenSpec.upto fnDaySpec)) fnDayUptoCard

/-- THE SECOND FORM's CARD OF 'laws.FnForecastLongest'. -/
def fnForecastLongestUptoCard : Claim7 := { stood := { row := fnForecastLongestUptoRow, standIns := [], harness := (true, "409e9c497c4bbda14d1fbb202c724cfaeae1dc8c078924ddfab3c773c8342600"), looks := false }, kinds := [], alts := [], laidByText := true, laidKinds := [.data], laidTests := true, laidLooks := .later }
def FnForecastLongestUptoCardSaid : Prop := Claim7.holds Tryd.pinned (.plain (OpenSpec.upto fnForecastLongestSpec)) fnForecastLongestUptoCard

/-- THE SECOND FORM's CARD OF 'laws.FnWindow'. -/
def fnWindowUptoCard : Claim7 := { stood := { row := fnWindowUptoRow, standIns := [], harness := (true, "409e9c497c4bbda14d1fbb202c724cfaeae1dc8c078924ddfab3c773c8342600"), looks := false }, kinds := [], alts := [], laidByText := true, laidKinds := [.data], laidTests := true, laidLooks := .later }
def FnWindowUptoCardSaid : Prop := Claim7.holds Tryd.pinned (.plain (OpenSpec.upto fnWindowSpec)) fnWindowUptoCard

/-- THE SECOND FORM's CARD OF 'laws.FnLoss'. -/
def fnLossUptoCard : Claim7 := { stood := { row := fnLossUptoRow, standIns := [], harness := (true, "409e9c497c4bbda14d1fbb202c724cfaeae1dc8c078924ddfab3c773c8342600"), looks := false }, kinds := [], alts := [], laidByText := true, laidKinds := [.data], laidTests := true, laidLooks := .later }
def FnLossUptoCardSaid : Prop := Claim7.holds Tryd.pinned (.plain (OpenSpec.upto fnLossSpec)) fnLossUptoCard

/-- THE SECOND FORM's CARD OF 'laws.FnPlanBest'. -/
def fnPlanBestUptoCard : Claim7 := { stood := { row := fnPlanBestUptoRow, standIns := [], harness := (true, "409e9c497c4bbda14d1fbb202c724cfaeae1dc8c078924ddfab3c773c8342600"), looks := false }, kinds := [], alts := [], laidByText := true, laidKinds := [.data], laidTests := true, laidLooks := .later }
def FnPlanBestUptoCardSaid : Prop := Claim7.holds Tryd.pinned (.plain (OpenSpec.upto fnPlanBestSpec)) fnPlanBestUptoCard

/-- THE SECOND FORM's CARD OF 'laws.FnExactForecastDay'. -/
def fnExactForecastDayUptoCard : Claim7 := { stood := { row := fnExactForecastDayUptoRow, standIns := [], harness := (true, "409e9c497c4bbda14d1fbb202c724cfaeae1dc8c078924ddfab3c773c8342600"), looks := false }, kinds := [], alts := [], laidByText := true, laidKinds := [.data], laidTests := true, laidLooks := .later }
def FnExactForecastDayUptoCardSaid : Prop := Claim7.holds Tryd.pinned (.plain (OpenSpec.upto fnExactForecastDaySpec)) fnExactForecastDayUptoCard

/-- THE SECOND FORM's CARD OF 'laws.FnExactForecastLongest'. -/
def fnExactForecastLongestUptoCard : Claim7 := { stood := { row := fnExactForecastLongestUptoRow, standIns := [], harness := (true, "409e9c497c4bbda14d1fbb202c724cfaeae1dc8c078924ddfab3c773c8342600"), looks := false }, kinds := [], alts := [], laidByText := true, laidKinds := [.data], laidTests := true, laidLooks := .later }
def FnExactForecastLongestUptoCardSaid : Prop := Claim7.holds Tryd.pinned (.plain (OpenSpec.upto fnExactForecastLongestSpec)) fnExactForecastLongestUptoCard

/-- THE SECOND FORM's CARD OF 'laws.FnExactForecastWindow'. -/
def fnExactForecastWindowUptoCard : Claim7 := { stood := { row := fnExactForecastWindowUptoRow, standIns := [], harness := (true, "409e9c497c4bbda14d1fbb202c724cfaeae1dc8c078924ddfab3c773c8342600"), looks := false }, kinds := [], alts := [], laidByText := true, laidKinds := [.data], laidTests := true, laidLooks := .later }
def FnExactForecastWindowUptoCardSaid : Prop := Claim7.holds Tryd.pinned (.plain (OpenSpec.upto fnExactForecastWindowSpec)) fnExactForecastWindowUptoCard

/-- THE SECOND FORM's CARD OF 'laws.FnExactPlanEnds'. -/
def fnExactPlanEndsUptoCard : Claim7 := { stood := { row := fnExactPlanEndsUptoRow, standIns := [], harness := (true, "409e9c497c4bbda14d1fbb202c724cfaeae1dc8c078924ddfab3c773c8342600"), looks := false }, kinds := [], alts := [], laidByText := true, laidKinds := [.data], laidTests := true, laidLooks := .later }
def FnExactPlanEndsUptoCardSaid : Prop := Claim7.holds Tryd.pinned (.plain (OpenSpec.upto fnExactPlanEndsSpec)) fnExactPlanEndsUptoCard

/-- THE SECOND FORM's CARD OF 'laws.FnExactPlanLoss'. -/
def fnExactPlanLossUptoCard : Claim7 := { stood := { row := fnExactPlanLossUptoRow, standIns := [], harness := (true, "409e9c497c4bbda14d1fbb202c724cfaeae1dc8c078924ddfab3c773c8342600"), looks := false }, kinds := [], alts := [], laidByText := true, laidKinds := [.data], laidTests := true, laidLooks := .later }
def FnExactPlanLossUptoCardSaid : Prop := Claim7.holds Tryd.pinned (.plain (OpenSpec.upto fnExactPlanLossSpec)) fnExactPlanLossUptoCard

/-- THE SECOND FORM's CARD OF 'laws.FnExactPlanBest'. -/
def fnExactPlanBestUptoCard : Claim7 := { stood := { row := fnExactPlanBestUptoRow, standIns := [], harness := (true, "409e9c497c4bbda14d1fbb202c724cfaeae1dc8c078924ddfab3c773c8342600"), looks := false }, kinds := [], alts := [], laidByText := true, laidKinds := [.data], laidTests := true, laidLooks := .later }
def FnExactPlanBestUptoCardSaid : Prop := Claim7.holds Tryd.pinned (.plain (OpenSpec.upto fnExactPlanBestSpec)) fnExactPlanBestUptoCard
end Rows
end Go.Proofs.YtbcgglkgdjafiaaDoor
