/-
  OrdersBack of both.
-/
import Derived.Test.YtodboccadccpfaaTkO
import Derived.Test.YtodboccadccpfaaStwS
import Derived.Test.YtodboccadccpfaaMade
namespace Go.Proofs.Ytodboccadccpfaa
open Go.RowKit

/-- the coil that is paid out as the k-th one from the end, counted from the end -/
def backK (L : List Int) (k : Nat) : Int := (L.length : Int) - 1 - invN L (L.length - 1 - k)
def backL (L : List Int) : List Int := (List.range L.length).map (backK L)
def backTo (L : List Int) (i : Nat) : List Int := (List.range L.length).map fun k => if invN L (L.length - 1 - k) < i then backK L k else 0
theorem backL_len (L : List Int) : (backL L).length = L.length := by simp [backL]
theorem backTo_len (L : List Int) (i : Nat) : (backTo L i).length = L.length := by simp [backTo]
theorem backTo_zero (L : List Int) : backTo L 0 = List.replicate L.length 0 := by
  unfold backTo
  apply List.ext_getElem (by simp)
  intro k h1 h2
  simp
theorem backTo_all {L : List Int} (h : ordB L = true) : backTo L L.length = backL L := by
  unfold backTo backL
  refine List.map_congr_left fun k hk => ?_
  have := List.mem_range.1 hk
  rw [if_pos (inv_lt h (by omega))]
theorem backTo_succ {L : List Int} (h : ordB L = true) {i t : Nat} (hi : i < L.length) (ht : (L.length : Int) - 1 - L[i]?.getD 0 = t) : backTo L (i + 1) = (backTo L i).set t ((L.length : Int) - 1 - i) := by
  have h0 := ord_at h hi
  apply List.ext_getElem (by simp [backTo])
  intro k h1 h2
  have hk : k < L.length := by simpa [backTo] using h1
  rw [List.getElem_set]
  simp only [backTo, List.getElem_map, List.getElem_range]
  by_cases e : t = k
  · have h3 : invN L (L.length - 1 - k) = i := inv_of h hi (by omega) (by omega)
    rw [if_pos e, if_pos (by omega)]
    unfold backK
    rw [h3]
  · rw [if_neg e]
    have h3 : invN L (L.length - 1 - k) ≠ i := fun e2 => e (by
      have := inv_at h (show L.length - 1 - k < L.length by omega)
      rw [e2] at this
      omega)
    by_cases h4 : invN L (L.length - 1 - k) < i
    · rw [if_pos h4, if_pos (by omega)]
    · rw [if_neg h4, if_neg (by omega)]
def bkR (L : List Int) : List Int := if ordB L then backL L else []
theorem bk_no {L : List Int} (h : ordB L = false) : bkR L = [] := by unfold bkR; rw [h]; rfl
theorem bk_yes {L : List Int} (h : ordB L = true) : bkR L = backL L := by unfold bkR; rw [h]; rfl

end Go.Proofs.Ytodboccadccpfaa
