/-
  The drawn joints: DrawJointFewest.
-/
import Derived.Test.YtmbdggakahbciaaZDrawJ0
namespace Go.Proofs.Ytmbdggakahbciaa
open Go.RowKit

set_option maxHeartbeats 1000000 in
theorem DrawJointFewest_c (A : Option Addr) (n c : Nat) (w : World) (hn : n ≤ 9223372036854775807) (hnc : n ≤ c) (hb : Bytes w.heap.size w A n) :
    Calls Try.prog 32 #[.slice A n c] w (RetJoint w) := by
  have Hb := Lib.hid hb
  clear hb
  go_enter Try.func32, Try.ntmps32
  go_wp2_with fail
  refine (l6Open_c A n c _ hn hnc Hb.out).mono ?_
  rintro e w0 ⟨n1, c1, rfl, hr0, hb0, hs0⟩
  have H0 := Lib.hid hr0
  have HB0 := Lib.hid hb0
  obtain ⟨R, hR⟩ : ∃ R, w.heap.size = R := ⟨_, rfl⟩
  rw [hR] at H0 hs0
  have hRR : w.heap.size ≤ R := by omega
  clear hr0 hb0
  go_wp2_with fail
  refine (l91Joint_c R A n1 c1 0 _ H0.out hs0 (by omega)).mono ?_
  rintro e w1 ⟨B, d, zs, q, k, m, rfl, hzl, k0, k1, m0, m1, ha1, hr1, hg1⟩
  have Ha := Lib.hid ha1
  have HB1 := Lib.hid (draw_below HB0.out hRR hg1)
  clear ha1 hr1 hg1
  go_wp2
  go_ret3
  exact ⟨B, d, zs, k, m, rfl, hzl, k0, k1, m0, m1, Ha.out, HB1.out⟩

end Go.Proofs.Ytmbdggakahbciaa
