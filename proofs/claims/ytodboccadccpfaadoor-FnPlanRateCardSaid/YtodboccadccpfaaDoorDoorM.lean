/-
  The start of a card's seat: its listed variable as its text lays it. (Common to all cards of the seat.)
-/
import Derived.Test.YtodboccadccpfaaDoorTabM
import Derived.Test.YtodboccadccpfaaDoorCards
import Derived.LaidMore
import Derived.SevenTiedAt
import Derived.Stop.Joined
namespace Go.Proofs.YtodboccadccpfaaDoor

set_option maxRecDepth 100000 in
theorem door_laid (os : Os) (args : Array Value) : laidMetH Tryd.prog [("math/bits.deBruijn32tab", Rows.laid_math_bits_deBruijn32tab)] ((World.doorLaid Tryd.prog 4000 os).forCall (fun _ _ => 0) ⟨#[], args, []⟩).memory :=
  laidMetH_of_parts3 (fuel := 8) (laidMet_of_run' 8 (by kernel_rfl) (by kernel_rfl)) (by kernel_rfl) (by kernel_rfl)
set_option maxRecDepth 100000 in
theorem door_shaped (os : Os) (args : Array Value) : ((World.doorLaid Tryd.prog 4000 os).forCall (fun _ _ => 0) ⟨#[], args, []⟩).Shaped Tryd.prog :=
  World.shaped_of_RefB (by kernel_rfl) (by kernel_rfl)
set_option maxRecDepth 100000 in
theorem door_main : Tryd.pinned.checked.prog.mainIs = some (Rows.fnPlanCard.stood.harness.1, Rows.fnPlanCard.stood.harness.2.toList) := by kernel_rfl
set_option maxRecDepth 100000 in
theorem door_looks : false = Tryd.pinned.checked.prog.looks [] := by kernel_rfl

end Go.Proofs.YtodboccadccpfaaDoor
