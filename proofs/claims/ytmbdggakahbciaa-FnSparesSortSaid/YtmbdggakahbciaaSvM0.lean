/-
  Small lemmas on servings.
-/
import Derived.Test.YtmbdggakahbciaaSvS0
namespace Go.Proofs.Ytmbdggakahbciaa
open Go.RowKit

theorem arg_empty (W : World) (A : Option Addr) (c : Nat) (hc : c ≤ maxLen) : Arg W A c [] := ⟨by simp, by simp, hc, Rd.nil⟩
theorem manyZ_no {L Nd : List Spr} (h : bothB L Nd = false) : manyZ L Nd = -1 := by unfold manyZ; rw [h]; rfl
theorem manyZ_yes {L Nd : List Spr} (h : bothB L Nd = true) : manyZ L Nd = ((fromS L Nd []).length : Int) := by unfold manyZ; rw [h, allS_from]; rfl
theorem serveB_no {L Nd : List Spr} (h : bothB L Nd = false) : serveB L Nd = false := by unfold serveB serveG; rw [h]; rfl
theorem idx5_nil (n : Nat) : idx5 n [] := fun j hj => by simp at hj

end Go.Proofs.Ytmbdggakahbciaa
