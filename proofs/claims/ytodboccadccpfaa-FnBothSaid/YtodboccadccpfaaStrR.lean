/-
  == at ratios.
-/
import Derived.Test.YtodboccadccpfaaRatM
import Derived.Test.YtodboccadccpfaaProg
import Derived.Laws.StructEq
import Derived.RegionTactic
namespace Go.Proofs.Ytodboccadccpfaa
open Go.RowKit

theorem eqRat_run (s t : Rat2) (w : World) : (Op.equalIn 10000 30 (.agg #[.int .i64 s.t, .int .i64 s.l]) (.agg #[.int .i64 t.t, .int .i64 t.l])).run Try.prog w = .ok (decide (s.t = t.t) && decide (s.l = t.l)) w := by
  rw [run_equalIn_struct w 9999 _ _ _ (by kernel_rfl) (by kernel_rfl)]
  simp only [Program.fieldsOf, Try.underlying30]
  go_simp
  by_cases h1 : s.t = t.t <;> by_cases h2 : s.l = t.l <;> simp [h1, h2]
theorem eqRat_is (s t : Rat2) : (decide (s.t = t.t) && decide (s.l = t.l)) = decide (s = t) := by
  by_cases h : s = t
  · subst h; simp
  · rw [decide_eq_false h]
    by_cases h1 : s.t = t.t
    · by_cases h2 : s.l = t.l
      · exact absurd (Rat2.ext_ h1 h2) h
      · simp [h2]
    · simp [h1]
theorem eqRats (s t : Rat2) (w : World) : (Op.equalIn 10000 30 (.agg #[.int .i64 s.t, .int .i64 s.l]) (.agg #[.int .i64 t.t, .int .i64 t.l])).run Try.prog w = .ok (decide (s = t)) w := by
  rw [eqRat_run, eqRat_is]
theorem guardRat : Try.prog.eqGuardType Try.prog.depth 30 = false := by kernel_rfl

end Go.Proofs.Ytodboccadccpfaa
