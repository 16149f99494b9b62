/-
  JointBest of the program.
-/
import Derived.Test.YtmbdggakahbciaaJoFI
namespace Go.Proofs.Ytmbdggakahbciaa
open Go.RowKit

def jointL (L : List Spr) (kind miles : Int) : List Int := (jointG L kind miles).getD []
def jointB (L : List Spr) (kind miles : Int) : Bool := (jointG L kind miles).isSome
theorem joint_none {L : List Spr} {kind miles : Int} (h : jointG L kind miles = none) : jointL L kind miles = [] ∧ jointB L kind miles = false := by unfold jointL jointB; rw [h]; exact ⟨rfl, rfl⟩
theorem joint_some {L : List Spr} {kind miles : Int} {x : List Int} (h : jointG L kind miles = some x) : jointL L kind miles = x ∧ jointB L kind miles = true := by unfold jointL jointB; rw [h]; exact ⟨rfl, rfl⟩
theorem joint_neg {L : List Spr} {kind miles : Int} (h : fewV L kind miles < 0) : jointG L kind miles = none := by
  unfold fewV at h
  unfold jointG
  by_cases h1 : sprB 10 L = true ∧ 1 ≤ miles ∧ miles ≤ 500
  · rw [if_pos h1] at h ⊢; rw [if_pos h]
  · rw [if_neg h1]
theorem joint_pos {L : List Spr} {kind miles : Int} (h : ¬ fewV L kind miles < 0) : sprB 10 L = true ∧ ∃ j : Nat, fewV L kind miles = j ∧ j < 10 ∧ jointG L kind miles = bst (sumZ L) ((rows (jf L kind) L.length (j + 1)).filter (fun y => decide (miles ≤ sumZ L y))) := by
  unfold fewV at h
  by_cases h1 : sprB 10 L = true ∧ 1 ≤ miles ∧ miles ≤ 500
  · rw [if_pos h1] at h
    have h9 := (sprB_true.1 h1.1).1
    rcases few_spec h1.1 kind h1.2.1 with ⟨h2, _⟩ | ⟨j, h2, h3, _⟩
    · omega
    · refine ⟨h1.1, j, by unfold fewV; rw [if_pos h1]; exact h2, by omega, ?_⟩
      unfold jointG
      rw [if_pos h1, if_neg h, h2, show ((j : Int) + 1).toNat = j + 1 by omega]
  · rw [if_neg h1] at h; exact absurd (by decide) h

end Go.Proofs.Ytmbdggakahbciaa
