/-
  A word of the drawn texts: what a draw leaves below.
-/
import Derived.WalkKit
namespace Go.Proofs.Ytodboccadccpfaa
open Go.RowKit

theorem draw_below {w a b : World} {R : Nat} (h : Below w.heap.size w a) (hR : w.heap.size ≤ R) (hg : a.grownBy b (some R)) : Below w.heap.size w b := h.grown hg h.size (fun r e => by cases e; exact hR)

end Go.Proofs.Ytodboccadccpfaa
