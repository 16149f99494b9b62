/-
  ForecastDay, ForecastWindow and ForecastLongest of both, as the laws want them.
-/
import Derived.Test.YtbcgglkgdjafiaaDoorFcT
namespace Go.Proofs.YtbcgglkgdjafiaaDoor

theorem Tab.grown {w w' : World} (h : Tab w) {row : Option Nat} (hg : w.grownBy w' row) (hr : ∀ r, row = some r → 0 < r) : Tab w' := fun j hj =>
  (World.cell?_of_block (a := ⟨0, j, none⟩) (hg.block 0 h.lt (fun e => by have := hr 0 e.symm; omega))).trans (h j hj)
theorem specForecastDay_b (s : ByteArray) (d : Int) (w : World) (hs : s.size ≤ 2097152) : Calls Tryd.prog 21 #[.string s, .int .i64 d] w (RetB (.int .i64 (dyV (byL s) d)) w) := (specForecastDay_c s hs d w).mono fun _ _ h => RetB.same h
theorem implForecastDay_b (s : ByteArray) (d : Int) (w : World) (_ : s.size ≤ 2097152) (hT : Tab w) : Calls Tryd.prog 19 #[.string s, .int .i64 d] w (RetB (.int .i64 (dyV (byL s) d)) w) := (implForecastDay_q s d w hT).mono fun _ _ h => h.toB
theorem specForecastWindow_b (s : ByteArray) (d : Int) (w : World) (hs : s.size ≤ 2097152) : Calls Tryd.prog 27 #[.string s, .int .i64 d] w (RetB (.int .i64 (wiV (byL s) d)) w) := (specForecastWindow_c s hs d w).mono fun _ _ h => RetB.same h
theorem implForecastWindow_b (s : ByteArray) (d : Int) (w : World) (_ : s.size ≤ 2097152) (hT : Tab w) : Calls Tryd.prog 25 #[.string s, .int .i64 d] w (RetB (.int .i64 (wiV (byL s) d)) w) := (implForecastWindow_q s d w hT).mono fun _ _ h => h.toB
theorem specForecastLongest_b (s : ByteArray) (w : World) (hs : s.size ≤ 2097152) : Calls Tryd.prog 24 #[.string s] w (RetB (.int .i64 (loV (byL s))) w) := (specForecastLongest_c s hs w).mono fun _ _ h => RetB.same h
theorem implForecastLongest_b (s : ByteArray) (w : World) (_ : s.size ≤ 2097152) (hT : Tab w) : Calls Tryd.prog 23 #[.string s] w (RetB (.int .i64 (loV (byL s))) w) := (implForecastLongest_q s w hT).mono fun _ _ h => h.toB

end Go.Proofs.YtbcgglkgdjafiaaDoor
