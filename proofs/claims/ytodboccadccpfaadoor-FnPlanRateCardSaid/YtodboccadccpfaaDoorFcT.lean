/-
  ForecastWindow and ForecastLongest of the model.
-/
import Derived.Test.YtodboccadccpfaaDoorFcD
import Derived.Test.YtodboccadccpfaaDoorFcS
namespace Go.Proofs.YtodboccadccpfaaDoor
open Go.RowKit

theorem win_test (L : List UInt8) {n k : Nat} (h : k + n ≤ L.length) : winB L n k = ((((opT L (k + n) : Nat) : Int) - (opT L k : Int)) == (n : Int)) := by
  unfold winB
  rw [decide_eq_true h, Bool.true_and, Bool.eq_iff_iff, decide_eq_true_eq, beq_iff_eq]
  omega
theorem win_stop {L : List UInt8} {n k : Nat} (hp : ∀ e, e < k → winB L n e = false) (h : L.length < k + n) : winF L n = none :=
  winF_no fun d hd => hp d (by omega)
theorem run_next {s : ByteArray} {k : Nat} (hk : k < s.size) : runT (byL s) (k + 1) = if isO s[k] then runT (byL s) k + 1 else 0 := by
  rw [runT, byL_at s k hk]; rfl
theorem fc_letter {s : ByteArray} (h : fcB (byL s) = true) {k : Nat} (hk : k < s.size) : s[k].toNat = 111 ∨ s[k].toNat = 120 := by
  unfold fcB at h
  rw [Bool.and_eq_true, List.all_eq_true] at h
  have := h.1 s[k] (List.mem_of_getElem? (byL_at s k hk))
  simpa [isOX] using this
end Go.Proofs.YtodboccadccpfaaDoor
