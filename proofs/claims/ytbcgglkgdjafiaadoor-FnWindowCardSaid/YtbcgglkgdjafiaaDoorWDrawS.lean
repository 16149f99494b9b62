/-
  The other draws of forecasts.
-/
import Derived.Test.YtbcgglkgdjafiaaDoorWCnt
namespace Go.Proofs.YtbcgglkgdjafiaaDoor
open Go.RowKit

theorem DrawForecastDay_c (A : Option Addr) (n c : Nat) (w : World) (hn : n ≤ 9223372036854775807) (hnc : n ≤ c) (hb : Bytes w.heap.size w A n) :
    Calls Tryd.prog 20 #[.slice A n c] w (RetTD 15 (-1) 10 w) := by
  have Hb := Lib.hid hb
  clear hb
  go_enter Tryd.func20, Tryd.ntmps20
  go_wp2_with fail
  refine (l6Open_c A n c _ hn hnc Hb.out).mono ?_
  rintro e w1 ⟨n', c', rfl, hr1, hb1, hlt1⟩
  have Hr1 := Lib.hid hr1
  have Hb1 := Lib.hid hb1
  clear hr1 hb1
  go_wp2_with fail
  refine (l92Forecast_c _ A n' c' 0 14 _ Hr1.out hlt1 (by omega) (by omega)).mono ?_
  rintro e w2 ⟨s, q, rfl, hs, hr2, hq, hg2⟩
  have Hr2 := Lib.hid hr2
  have Hb2 := Lib.hid (Hb1.out.grown hg2 Hb1.out.size (fun r e => by injection e with e; omega))
  clear hr2 hg2
  go_wp2_with fail
  refine (pick_c _ A n' c' q 12 _ Hr2.out (by omega) (by omega) (by omega)).mono ?_
  rintro e w3 ⟨k, rfl, hk0, hk1, hr3, hg3⟩
  have Hb3 := Lib.hid (Hb2.out.grown hg3 Hb2.out.size (fun r e => by injection e with e; omega))
  clear hr3 hg3
  have q2 : IntKind.i64.wrap (k - 1) = k - 1 := IntWalk.i64_in _ (by omega)
  go_wp2
  go_ret2
  exact ⟨s, k - 1, rfl, by omega, by omega, by omega, Hb3.out⟩
theorem DrawForecastWindow_c (A : Option Addr) (n c : Nat) (w : World) (hn : n ≤ 9223372036854775807) (hnc : n ≤ c) (hb : Bytes w.heap.size w A n) :
    Calls Tryd.prog 26 #[.slice A n c] w (RetTD 15 0 6 w) := by
  have Hb := Lib.hid hb
  clear hb
  go_enter Tryd.func26, Tryd.ntmps26
  go_wp2_with fail
  refine (l6Open_c A n c _ hn hnc Hb.out).mono ?_
  rintro e w1 ⟨n', c', rfl, hr1, hb1, hlt1⟩
  have Hr1 := Lib.hid hr1
  have Hb1 := Lib.hid hb1
  clear hr1 hb1
  go_wp2_with fail
  refine (l92Forecast_c _ A n' c' 0 14 _ Hr1.out hlt1 (by omega) (by omega)).mono ?_
  rintro e w2 ⟨s, q, rfl, hs, hr2, hq, hg2⟩
  have Hr2 := Lib.hid hr2
  have Hb2 := Lib.hid (Hb1.out.grown hg2 Hb1.out.size (fun r e => by injection e with e; omega))
  clear hr2 hg2
  go_wp2_with fail
  refine (pick_c _ A n' c' q 7 _ Hr2.out (by omega) (by omega) (by omega)).mono ?_
  rintro e w3 ⟨k, rfl, hk0, hk1, hr3, hg3⟩
  have Hb3 := Lib.hid (Hb2.out.grown hg3 Hb2.out.size (fun r e => by injection e with e; omega))
  clear hr3 hg3
  go_wp2
  go_ret2
  exact ⟨s, k, rfl, by omega, by omega, by omega, Hb3.out⟩
theorem DrawForecastLongest_c (A : Option Addr) (n c : Nat) (w : World) (hn : n ≤ 9223372036854775807) (hnc : n ≤ c) (hb : Bytes w.heap.size w A n) :
    Calls Tryd.prog 22 #[.slice A n c] w (fun e w' => ∃ s : ByteArray, e = .returned (.string s) ∧ s.size ≤ 15 ∧ Below w.heap.size w w') := by
  have Hb := Lib.hid hb
  clear hb
  go_enter Tryd.func22, Tryd.ntmps22
  go_wp2_with fail
  refine (l6Open_c A n c _ hn hnc Hb.out).mono ?_
  rintro e w1 ⟨n', c', rfl, hr1, hb1, hlt1⟩
  have Hr1 := Lib.hid hr1
  have Hb1 := Lib.hid hb1
  clear hr1 hb1
  go_wp2_with fail
  refine (l92Forecast_c _ A n' c' 0 14 _ Hr1.out hlt1 (by omega) (by omega)).mono ?_
  rintro e w2 ⟨s, q, rfl, hs, hr2, hq, hg2⟩
  have Hr2 := Lib.hid hr2
  have Hb2 := Lib.hid (Hb1.out.grown hg2 Hb1.out.size (fun r e => by injection e with e; omega))
  clear hr2 hg2
  go_wp2
  go_ret
  exact ⟨s, rfl, by omega, Hb2.out⟩

end Go.Proofs.YtbcgglkgdjafiaaDoor
