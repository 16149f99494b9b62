/-
  A row of zeros, as ints.
-/
import Derived.Test.YtnekjhpocfdpnaaBase0
namespace Go.Proofs.Ytnekjhpocfdpnaa
open Go.RowKit

theorem made_ints (n : Nat) : (madeCells (Value.cells (.int .i64 0)) (n * 1)).toList = (List.replicate n (0 : Int)).map (Value.int .i64) := by
  apply List.ext_getElem
  · simp [madeCells]
  · intro i h1 h2
    simp [madeCells, Value.cells, Nat.mod_one]

end Go.Proofs.Ytnekjhpocfdpnaa
