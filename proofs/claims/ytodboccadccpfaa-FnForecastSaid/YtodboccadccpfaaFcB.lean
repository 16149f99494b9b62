/-
  ForecastValid and ForecastOpen of both, as the laws want them.
-/
import Derived.Test.YtodboccadccpfaaFcA
namespace Go.Proofs.Ytodboccadccpfaa

theorem specForecastValid_b (s : ByteArray) (w : World) (hs : s.size ≤ 2097152) : Calls Try.prog 13 #[.string s] w (RetB (.bool (fcB (byL s))) w) := (specForecastValid_c s hs w).mono fun _ _ h => RetB.same h
theorem implForecastValid_b (s : ByteArray) (w : World) (_ : s.size ≤ 2097152) : Calls Try.prog 12 #[.string s] w (RetB (.bool (fcB (byL s))) w) := (implForecastValid_q s w).mono fun _ _ h => h.toB
theorem implForecastOpen_b (s : ByteArray) (d : Int) (w : World) (_ : s.size ≤ 2097152) : Calls Try.prog 14 #[.string s, .int .i64 d] w (RetB (.int .i64 (opV (byL s) d)) w) := (implForecastOpen_q s d w).mono fun _ _ h => h.toB

end Go.Proofs.Ytodboccadccpfaa
