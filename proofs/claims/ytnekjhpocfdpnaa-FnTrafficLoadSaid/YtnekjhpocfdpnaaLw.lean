/-
  Small facts for laws written by lw.py.
-/
import Derived.Test.YtnekjhpocfdpnaaMem
namespace Go.Proofs.Ytnekjhpocfdpnaa
open Go.RowKit
theorem below_of_drew {w w' : World} {n : Nat} (h : w' = w.drewN n) : Below w.heap.size w w' := by rw [h]; exact below_drewN (Below.refl _ _) n
end Go.Proofs.Ytnekjhpocfdpnaa
