/-
  The two small tests of a range, of sections.
-/
import Derived.Test.YtodboccadccpfaaMemC
import Derived.Test.YtodboccadccpfaaRng0
namespace Go.Proofs.Ytodboccadccpfaa
open Go.RowKit

theorem secOk_false1 {s : Sec} (h : inB s.m 1 50 = false) : secOk s = false := by unfold secOk; rw [h]; rfl
theorem secOk_false2 {s : Sec} (h : inB s.k 0 3 = false) : secOk s = false := by unfold secOk; rw [h]; simp
theorem secOk_false3 {s : Sec} (h : inB s.o 1 20 = false) : secOk s = false := by unfold secOk; rw [h]; simp
theorem secOk_all {s : Sec} (h1 : inB s.m 1 50 = true) (h2 : inB s.k 0 3 = true) (h3 : inB s.o 1 20 = true) : secOk s = true := by unfold secOk; rw [h1, h2, h3]; rfl
theorem cabB_no {ss : List Sec} (h : allOk ss = false) : cabB ss = false := by unfold cabB; rw [h]; simp
theorem cabB_len {ss : List Sec} (h : inB (ss.length : Int) 1 8 = false) : cabB ss = false := by unfold cabB; rw [h]; rfl
theorem cabB_yes {ss : List Sec} (h : inB (ss.length : Int) 1 8 = true) (h2 : allOk ss = true) : cabB ss = true := by unfold cabB; rw [h, h2]; rfl

end Go.Proofs.Ytodboccadccpfaa
