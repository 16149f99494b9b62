/-
  From the card's condition: the table of math/bits lies as its text lays it.
-/
import Derived.Test.YtodboccadccpfaaDoorFcD
import Derived.Test.YtodboccadccpfaaDoorRows
import Derived.Lib.LaidTab
import Derived.LaidSub
namespace Go.Proofs.YtodboccadccpfaaDoor
open Go.RowKit

theorem tab_name : Tryd.prog.globalNamed "math/bits.deBruijn32tab" = some 0 := by kernel_rfl
theorem tab_type : (Tryd.prog.globals[(0 : Nat)]?).map (·.type) = some 87 := by kernel_rfl
theorem tab_cells : Tryd.prog.cellsOf 87 = 32 := by kernel_rfl
theorem tab_cell : Tryd.prog.cellsOf 5 = 1 := by kernel_rfl
theorem tab_of {W : World} (h : laidMetH Tryd.prog [("math/bits.deBruijn32tab", Rows.laid_math_bits_deBruijn32tab)] W) : Tab W := by
  have h2 : laidMet Tryd.prog (("math/bits.deBruijn32tab", Lib.tabData .u8 (Lib.deBruijn32tab.map fun (n : Nat) => (n : Int))) :: []) W := h
  have h3 := Lib.tabIs_of_head tab_name tab_type Tryd.underlying87 Tryd.underlying5 tab_cell tab_cells h2
  intro j hj
  have h4 := h3.cell tab_name j (by rw [List.length_map]; exact hj)
  rw [h4]
  simp only [List.getD_eq_getElem?_getD, List.getElem?_map]
  cases Lib.deBruijn32tab[j]? <;> rfl

end Go.Proofs.YtodboccadccpfaaDoor
