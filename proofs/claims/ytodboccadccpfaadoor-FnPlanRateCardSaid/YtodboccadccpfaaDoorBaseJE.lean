/-
  Contracts of the laws' own small functions over lists of jbss: eqJobS.
-/
import Derived.Test.YtodboccadccpfaaDoorMemJ
import Derived.Test.YtodboccadccpfaaDoorProg
import Derived.RegionTactic
import Derived.StillTailTactics
namespace Go.Proofs.YtodboccadccpfaaDoor
open Go.RowKit

/-! ### two jbss compared -/
/-- the first k jbss are equal -/
def eqToJ (xs ys : List Jbs) (k : Nat) : Prop := ∀ j, j < k → jbsAt xs j = jbsAt ys j
theorem eqToJ_zero (xs ys : List Jbs) : eqToJ xs ys 0 := fun j hj => absurd hj (by omega)
theorem eqToJ_succ {xs ys : List Jbs} {k : Nat} (h : eqToJ xs ys k) (hk : jbsAt xs k = jbsAt ys k) : eqToJ xs ys (k + 1) := fun j hj => by
  rcases Nat.lt_or_ge j k with h1 | h1
  · exact h j h1
  · obtain rfl : j = k := by omega
    exact hk
theorem eqJ_of_to {xs ys : List Jbs} (hl : xs.length = ys.length) (h : eqToJ xs ys xs.length) : xs = ys := by
  apply List.ext_getElem hl
  intro i h1 h2
  have := h i h1
  rwa [jbsAt_lt h1, jbsAt_lt h2] at this

theorem jbsCells_set2 (xs ys : List Jbs) (s t : Jbs) {k : Nat} (hk : xs.length = k) :
    ((jbsCells (xs ++ s :: ys)).set (k * 2) (.int .i64 t.d)).set (k * 2 + 1) (.int .i64 t.g) = jbsCells (xs ++ t :: ys) := by
  have hl : (jbsCells xs).length = k * 2 := by rw [jbsCells_length, hk]
  rw [jbsCells_append, jbsCells_cons, jbsCells_append, jbsCells_cons]
  rw [List.set_append_right _ _ (by omega), List.set_append_right _ _ (by omega), hl]
  rw [show k * 2 - k * 2 = 0 by omega, show k * 2 + 1 - k * 2 = 1 by omega]
  rfl

end Go.Proofs.YtodboccadccpfaaDoor
