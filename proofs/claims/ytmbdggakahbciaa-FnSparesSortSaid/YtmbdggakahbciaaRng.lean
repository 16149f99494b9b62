/-
  Contracts of the two small tests of a range.
-/
import Derived.Test.YtmbdggakahbciaaMemC
import Derived.Test.YtmbdggakahbciaaProg
namespace Go.Proofs.Ytmbdggakahbciaa
open Go.RowKit

theorem inRange_c (a b c : Int) (w : World) : Calls Try.prog 48 #[.int .i64 a, .int .i64 b, .int .i64 c] w fun e w' => e = .returned (.bool (inB a b c)) ∧ w = w' := by
  unfold inB
  by_cases h1 : b ≤ a <;> by_cases h2 : a ≤ c
  all_goals
    go_enter Try.func48, Try.ntmps48
    go_wp2
    go_ret
    exact ⟨by simp [h1, h2], rfl⟩

theorem l6In_c (a b c : Int) (w : World) : Calls Try.prog 50 #[.int .i64 a, .int .i64 b, .int .i64 c] w fun e w' => e = .returned (.bool (inB a b c)) ∧ w = w' := by
  unfold inB
  by_cases h1 : b ≤ a <;> by_cases h2 : a ≤ c
  all_goals
    go_enter Try.func50, Try.ntmps50
    go_wp2
    go_ret
    exact ⟨by simp [h1, h2], rfl⟩

theorem secOk_false1 {s : Sec} (h : inB s.m 1 50 = false) : secOk s = false := by unfold secOk; rw [h]; rfl
theorem secOk_false2 {s : Sec} (h : inB s.k 0 3 = false) : secOk s = false := by unfold secOk; rw [h]; simp
theorem secOk_false3 {s : Sec} (h : inB s.o 1 20 = false) : secOk s = false := by unfold secOk; rw [h]; simp
theorem secOk_all {s : Sec} (h1 : inB s.m 1 50 = true) (h2 : inB s.k 0 3 = true) (h3 : inB s.o 1 20 = true) : secOk s = true := by unfold secOk; rw [h1, h2, h3]; rfl
theorem cabB_no {ss : List Sec} (h : allOk ss = false) : cabB ss = false := by unfold cabB; rw [h]; simp
theorem cabB_len {ss : List Sec} (h : inB (ss.length : Int) 1 8 = false) : cabB ss = false := by unfold cabB; rw [h]; rfl
theorem cabB_yes {ss : List Sec} (h : inB (ss.length : Int) 1 8 = true) (h2 : allOk ss = true) : cabB ss = true := by unfold cabB; rw [h, h2]; rfl

end Go.Proofs.Ytmbdggakahbciaa
