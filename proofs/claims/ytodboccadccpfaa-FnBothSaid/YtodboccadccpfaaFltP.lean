/-
  FaultBack, FaultLess, BreakOpen of the program.
-/
import Derived.Test.YtodboccadccpfaaFltO
namespace Go.Proofs.Ytodboccadccpfaa
open Go.RowKit

/-- the fault as it is counted from B -/
def backV (ss : List Sec) (f : Flt) : Value := if faultB ss f then .tuple #[.agg #[.int .i64 (milesL ss - f.m), .int .i64 f.o], .bool true] else .tuple #[.agg #[.int .i64 0, .int .i64 0], .bool false]
theorem backV_no {ss : List Sec} {f : Flt} (h : faultB ss f = false) : backV ss f = .tuple #[.agg #[.int .i64 0, .int .i64 0], .bool false] := by unfold backV; rw [h]; rfl
theorem backV_yes {ss : List Sec} {f : Flt} (h : faultB ss f = true) : backV ss f = .tuple #[.agg #[.int .i64 (milesL ss - f.m), .int .i64 f.o], .bool true] := by unfold backV; rw [h]; rfl

/-- both are faults, and the first one is measured with less from both ends -/
def fless (ss : List Sec) (f g : Flt) : Bool := faultB ss f && faultB ss g && decide (upL ss f + f.o < upL ss g + g.o) && decide (restL ss f + f.o < restL ss g + g.o)

/-- what is measured of a broken cable -/
def breakI (ss : List Sec) (f : Flt) : Int := if faultB ss f then upL ss f + f.o else -1
theorem breakI_no {ss : List Sec} {f : Flt} (h : faultB ss f = false) : breakI ss f = -1 := by unfold breakI; rw [h]; rfl
theorem breakI_yes {ss : List Sec} {f : Flt} (h : faultB ss f = true) : breakI ss f = upL ss f + f.o := by unfold breakI; rw [h]; rfl

end Go.Proofs.Ytodboccadccpfaa
