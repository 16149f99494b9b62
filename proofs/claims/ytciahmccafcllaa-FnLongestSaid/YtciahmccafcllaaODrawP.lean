/-
  Drawn orders: DrawOrdersPairs, DrawOrdersLongest.
-/
import Derived.Test.YtciahmccafcllaaODrawA
namespace Go.Proofs.Ytciahmccafcllaa
open Go.RowKit

set_option maxHeartbeats 1000000 in
theorem DrawOrdersPairs_c (A : Option Addr) (n c : Nat) (w : World) (hn : n ≤ 9223372036854775807) (hnc : n ≤ c) (hb : Bytes w.heap.size w A n) :
    Calls Try.prog 23 #[.slice A n c] w fun e w' => ∃ B d zs, e = .returned (.slice B (zs : List Int).length d) ∧ zs.length ≤ 20 ∧ Arg w' B d zs ∧ Below w.heap.size w w' := by
  have Hb := Lib.hid hb
  clear hb
  go_enter Try.func23, Try.ntmps23
  go_wp2_with fail
  refine (l6Open_c A n c _ hn hnc Hb.out).mono ?_
  rintro e w1 ⟨n1, c1, rfl, hr1, hb1, hs1⟩
  have Hr1 := Lib.hid hr1
  have Hb1 := Lib.hid hb1
  clear hr1 hb1
  go_wp2_with fail
  refine (l92Orders_c w.heap.size A n1 c1 0 9 _ Hr1.out hs1 (by omega) (by omega) (by omega)).mono ?_
  rintro e w2 ⟨B, d, zs, q, rfl, hl, ha, ho, hr2, hq, hg2⟩
  have Hb2 := Lib.hid (draw_below Hb1.out (Nat.le_refl _) hg2)
  have Ha := Lib.hid ha
  clear ha ho hr2 hg2
  go_wp2
  go_ret
  exact ⟨B, d, zs, rfl, hl, Ha.out, Hb2.out⟩

set_option maxHeartbeats 1000000 in
theorem DrawOrdersLongest_c (A : Option Addr) (n c : Nat) (w : World) (hn : n ≤ 9223372036854775807) (hnc : n ≤ c) (hb : Bytes w.heap.size w A n) :
    Calls Try.prog 28 #[.slice A n c] w fun e w' => ∃ B d zs, e = .returned (.slice B (zs : List Int).length d) ∧ zs.length ≤ 20 ∧ Arg w' B d zs ∧ Below w.heap.size w w' := by
  have Hb := Lib.hid hb
  clear hb
  go_enter Try.func28, Try.ntmps28
  go_wp2_with fail
  refine (l6Open_c A n c _ hn hnc Hb.out).mono ?_
  rintro e w1 ⟨n1, c1, rfl, hr1, hb1, hs1⟩
  have Hr1 := Lib.hid hr1
  have Hb1 := Lib.hid hb1
  clear hr1 hb1
  go_wp2_with fail
  refine (l92Orders_c w.heap.size A n1 c1 0 9 _ Hr1.out hs1 (by omega) (by omega) (by omega)).mono ?_
  rintro e w2 ⟨B, d, zs, q, rfl, hl, ha, ho, hr2, hq, hg2⟩
  have Hb2 := Lib.hid (draw_below Hb1.out (Nat.le_refl _) hg2)
  have Ha := Lib.hid ha
  clear ha ho hr2 hg2
  go_wp2
  go_ret
  exact ⟨B, d, zs, rfl, hl, Ha.out, Hb2.out⟩

end Go.Proofs.Ytciahmccafcllaa
