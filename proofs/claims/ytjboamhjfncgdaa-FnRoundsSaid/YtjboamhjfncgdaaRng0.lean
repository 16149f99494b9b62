/-
  Contracts of the two small tests of a range.
-/
import Derived.Test.YtjboamhjfncgdaaInB
import Derived.Test.YtjboamhjfncgdaaProg
namespace Go.Proofs.Ytjboamhjfncgdaa
open Go.RowKit

theorem inRange_c (a b c : Int) (w : World) : Calls Try.prog 102 #[.int .i64 a, .int .i64 b, .int .i64 c] w fun e w' => e = .returned (.bool (inB a b c)) ∧ w = w' := by
  unfold inB
  by_cases h1 : b ≤ a <;> by_cases h2 : a ≤ c
  all_goals
    go_enter Try.func102, Try.ntmps102
    go_wp2
    go_ret
    exact ⟨by simp [h1, h2], rfl⟩

theorem l6In_c (a b c : Int) (w : World) : Calls Try.prog 86 #[.int .i64 a, .int .i64 b, .int .i64 c] w fun e w' => e = .returned (.bool (inB a b c)) ∧ w = w' := by
  unfold inB
  by_cases h1 : b ≤ a <;> by_cases h2 : a ≤ c
  all_goals
    go_enter Try.func86, Try.ntmps86
    go_wp2
    go_ret
    exact ⟨by simp [h1, h2], rfl⟩

end Go.Proofs.Ytjboamhjfncgdaa
