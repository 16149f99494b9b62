/-
  Plain mathematics: what is measured earthed with a fault of no resistance.
-/
import Derived.Test.YtgnemkflojohdaaEarM
namespace Go.Proofs.Ytgnemkflojohdaa

theorem earR_none {r s : Int} (hs : 0 ≤ s) : earR r s 0 = ⟨r, 1⟩ := by
  by_cases h : (0 : Int) + s = 0
  · exact earR_zero h
  · rw [earR_some h]
    have h1 : ¬ s = 0 := by omega
    unfold lowR
    dsimp only
    rw [Int.zero_mul, Int.zero_add, gcdI_comm, gcdI_zero hs, Int.zero_tdiv, Int.tdiv_self h1]
    simp

end Go.Proofs.Ytgnemkflojohdaa
