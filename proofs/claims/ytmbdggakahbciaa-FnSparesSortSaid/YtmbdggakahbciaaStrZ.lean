/-
  == at spares.
-/
import Derived.Test.YtmbdggakahbciaaMemZ
import Derived.Test.YtmbdggakahbciaaProg
import Derived.Laws.StructEq
import Derived.RegionTactic
namespace Go.Proofs.Ytmbdggakahbciaa
open Go.RowKit

theorem eqSpr_run (s t : Spr) (w : World) : (Op.equalIn 10000 30 (.agg #[.int .i64 s.m, .int .i64 s.k]) (.agg #[.int .i64 t.m, .int .i64 t.k])).run Try.prog w = .ok (decide (s.m = t.m) && decide (s.k = t.k)) w := by
  rw [run_equalIn_struct w 9999 _ _ _ (by kernel_rfl) (by kernel_rfl)]
  simp only [Program.fieldsOf, Try.underlying30]
  go_simp
  by_cases h1 : s.m = t.m <;> by_cases h2 : s.k = t.k <;> simp [h1, h2]
theorem eqSpr_is (s t : Spr) : (decide (s.m = t.m) && decide (s.k = t.k)) = decide (s = t) := by
  by_cases h : s = t
  · subst h; simp
  · rw [decide_eq_false h]
    by_cases h1 : s.m = t.m
    · by_cases h2 : s.k = t.k
      · exact absurd (Spr.ext_ h1 h2) h
      · simp [h2]
    · simp [h1]
theorem eqSprs (s t : Spr) (w : World) : (Op.equalIn 10000 30 (.agg #[.int .i64 s.m, .int .i64 s.k]) (.agg #[.int .i64 t.m, .int .i64 t.k])).run Try.prog w = .ok (decide (s = t)) w := by
  rw [eqSpr_run, eqSpr_is]
theorem guardSpr : Try.prog.eqGuardType Try.prog.depth 30 = false := by kernel_rfl

end Go.Proofs.Ytmbdggakahbciaa
