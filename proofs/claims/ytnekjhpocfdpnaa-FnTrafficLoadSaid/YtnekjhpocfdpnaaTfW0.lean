/-
  LoadValid and LoadTraffic of the model.
-/
import Derived.Test.YtnekjhpocfdpnaaTfO
namespace Go.Proofs.Ytnekjhpocfdpnaa
open Go.RowKit

/-- a station is as a load wants it -/
def kpOk (N : List Lin) (f t : Int) (L : List Int) (k : Int) : Prop := (k ≠ f → k ≠ t → outV N L k = 0) ∧ (k = f → 0 ≤ outV N L k)
def kpTo (N : List Lin) (f t : Int) (L : List Int) (k : Nat) : Prop := ∀ i : Nat, i < k → kpOk N f t L (i : Int)
theorem kpTo_zero (N : List Lin) (f t : Int) (L : List Int) : kpTo N f t L 0 := fun i h => by omega
theorem kpTo_succ {N : List Lin} {f t : Int} {L : List Int} {k : Nat} (h : kpTo N f t L k) (hk : kpOk N f t L (k : Int)) : kpTo N f t L (k + 1) := fun i hi => by
  rcases (by omega : i < k ∨ i = k) with h1 | rfl
  · exact h i h1
  · exact hk
theorem kpTo_all {N : List Lin} {f t : Int} {L : List Int} {m : Nat} (he : endB (m : Int) N f t = true) (hc : chB N L = true) (h : kpTo N f t L m) : loadB (m : Int) N f t L = true := by
  obtain ⟨_, hf, _, _⟩ := endB_true.1 he
  refine loadB_true.2 ⟨he, hc, fun k h0 h1 h2 h3 => ?_, ?_⟩
  · have := (h k.toNat (by omega)).1
    rw [Int.toNat_of_nonneg h0] at this
    exact this h2 h3
  · have := (h f.toNat (by omega)).2
    rw [Int.toNat_of_nonneg hf.1] at this
    exact this rfl
theorem kpTo_not {N : List Lin} {f t : Int} {L : List Int} {m k : Nat} (hk : k < m) (h : ¬ kpOk N f t L (k : Int)) : loadB (m : Int) N f t L = false := by
  apply eq_false_of_ne_true
  intro e
  obtain ⟨_, _, h3, h4⟩ := loadB_true.1 e
  exact h ⟨fun h1 h2 => h3 _ (by omega) (by omega) h1 h2, fun h1 => by rw [h1]; exact h4⟩
theorem load_no1 {n : Int} {N : List Lin} {f t : Int} {L : List Int} (h : endB n N f t = false) : loadB n N f t L = false := by unfold loadB; rw [h]; rfl
theorem load_no2 {n : Int} {N : List Lin} {f t : Int} {L : List Int} (h : chB N L = false) : loadB n N f t L = false := by unfold loadB; rw [h, Bool.and_false]; rfl

end Go.Proofs.Ytnekjhpocfdpnaa
