/-
  == at faults.
-/
import Derived.Test.YtodboccadccpfaaMemF
import Derived.Test.YtodboccadccpfaaProg
import Derived.Laws.StructEq
import Derived.RegionTactic
namespace Go.Proofs.Ytodboccadccpfaa
open Go.RowKit

theorem eqFlt_run (s t : Flt) (w : World) : (Op.equalIn 10000 44 (.agg #[.int .i64 s.m, .int .i64 s.o]) (.agg #[.int .i64 t.m, .int .i64 t.o])).run Try.prog w = .ok (decide (s.m = t.m) && decide (s.o = t.o)) w := by
  rw [run_equalIn_struct w 9999 _ _ _ (by kernel_rfl) (by kernel_rfl)]
  simp only [Program.fieldsOf, Try.underlying44]
  go_simp
  by_cases h1 : s.m = t.m <;> by_cases h2 : s.o = t.o <;> simp [h1, h2]
theorem eqFlt_is (s t : Flt) : (decide (s.m = t.m) && decide (s.o = t.o)) = decide (s = t) := by
  by_cases h : s = t
  · subst h; simp
  · rw [decide_eq_false h]
    by_cases h1 : s.m = t.m
    · by_cases h2 : s.o = t.o
      · exact absurd (Flt.ext_ h1 h2) h
      · simp [h2]
    · simp [h1]
theorem eqFlts (s t : Flt) (w : World) : (Op.equalIn 10000 44 (.agg #[.int .i64 s.m, .int .i64 s.o]) (.agg #[.int .i64 t.m, .int .i64 t.o])).run Try.prog w = .ok (decide (s = t)) w := by
  rw [eqFlt_run, eqFlt_is]
theorem guardFlt : Try.prog.eqGuardType Try.prog.depth 44 = false := by kernel_rfl

end Go.Proofs.Ytodboccadccpfaa
