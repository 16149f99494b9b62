/-
  ForecastValid and ForecastOpen of both, as the laws want them.
-/
import Derived.Test.YtodboccadccpfaaDoorFcA
namespace Go.Proofs.YtodboccadccpfaaDoor

theorem specForecastValid_b (s : ByteArray) (w : World) (hs : s.size ≤ 2097152) : Calls Tryd.prog 56 #[.string s] w (RetB (.bool (fcB (byL s))) w) := (specForecastValid_c s hs w).mono fun _ _ h => RetB.same h
theorem specForecastOpen_b (s : ByteArray) (d : Int) (w : World) (hs : s.size ≤ 2097152) : Calls Tryd.prog 57 #[.string s, .int .i64 d] w (RetB (.int .i64 (opV (byL s) d)) w) := (specForecastOpen_c s hs d w).mono fun _ _ h => RetB.same h
theorem implForecastOpen_b (s : ByteArray) (d : Int) (w : World) (_ : s.size ≤ 2097152) : Calls Tryd.prog 12 #[.string s, .int .i64 d] w (RetB (.int .i64 (opV (byL s) d)) w) := (implForecastOpen_q s d w).mono fun _ _ h => h.toB

end Go.Proofs.YtodboccadccpfaaDoor
