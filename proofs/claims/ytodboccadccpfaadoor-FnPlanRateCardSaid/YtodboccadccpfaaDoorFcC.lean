/-
  ForecastDay, ForecastWindow and ForecastLongest of both, as the laws want them.
-/
import Derived.Test.YtodboccadccpfaaDoorFcT
namespace Go.Proofs.YtodboccadccpfaaDoor

theorem Tab.grown {w w' : World} (h : Tab w) {row : Option Nat} (hg : w.grownBy w' row) (hr : ∀ r, row = some r → 0 < r) : Tab w' := fun j hj =>
  (World.cell?_of_block (a := ⟨0, j, none⟩) (hg.block 0 h.lt (fun e => by have := hr 0 e.symm; omega))).trans (h j hj)
theorem specForecastDay_b (s : ByteArray) (d : Int) (w : World) (hs : s.size ≤ 2097152) : Calls Tryd.prog 38 #[.string s, .int .i64 d] w (RetB (.int .i64 (dyV (byL s) d)) w) := (specForecastDay_c s hs d w).mono fun _ _ h => RetB.same h
theorem implForecastDay_b (s : ByteArray) (d : Int) (w : World) (_ : s.size ≤ 2097152) (hT : Tab w) : Calls Tryd.prog 19 #[.string s, .int .i64 d] w (RetB (.int .i64 (dyV (byL s) d)) w) := (implForecastDay_q s d w hT).mono fun _ _ h => h.toB
end Go.Proofs.YtodboccadccpfaaDoor
