/-
  Contracts of the laws' own small functions over lists of ints: toIntS, eqIntS, sameInts, sumOf, markIntS, heldIntS.
-/
import Derived.Test.YtnekjhpocfdpnaaMem
import Derived.Test.YtnekjhpocfdpnaaProg
namespace Go.Proofs.Ytnekjhpocfdpnaa
open Go.RowKit

theorem int_info : (Try.prog.info? 3).map (fun i => (i.zero, i.size, i.bytes)) = some (some (.int .i64 0), 1, 8) := by kernel_rfl

/-- the first k numbers are equal -/
def eqTo (xs ys : List Int) (k : Nat) : Prop := ∀ j, j < k → xs[j]?.getD 0 = ys[j]?.getD 0
theorem eqTo_zero (xs ys : List Int) : eqTo xs ys 0 := fun j hj => absurd hj (by omega)
theorem eqTo_succ {xs ys : List Int} {k : Nat} (h : eqTo xs ys k) (hk : xs[k]?.getD 0 = ys[k]?.getD 0) : eqTo xs ys (k + 1) := fun j hj => by
  rcases Nat.lt_or_ge j k with h1 | h1
  · exact h j h1
  · obtain rfl : j = k := by omega
    exact hk
theorem eq_of_to {xs ys : List Int} (hl : xs.length = ys.length) (h : eqTo xs ys xs.length) : xs = ys := by
  apply List.ext_getElem hl
  intro i h1 h2
  have := h i h1
  simpa [h1, h2] using this

end Go.Proofs.Ytnekjhpocfdpnaa
