/-
  Drawn needs: DrawServeBest.
-/
import Derived.Test.YtmbdggakahbciaaZDrawN0
namespace Go.Proofs.Ytmbdggakahbciaa
open Go.RowKit

set_option maxHeartbeats 1000000 in
theorem DrawServeBest_c (A : Option Addr) (n c : Nat) (w : World) (hn : n ≤ 9223372036854775807) (hnc : n ≤ c) (hb : Bytes w.heap.size w A n) :
    Calls Try.prog 27 #[.slice A n c] w (RetNeeds w) := by
  have Hb := Lib.hid hb
  clear hb
  go_enter Try.func27, Try.ntmps27
  go_wp2_with fail
  refine (l6Open_c A n c _ hn hnc Hb.out).mono ?_
  rintro e w0 ⟨n1, c1, rfl, hr0, hb0, hs0⟩
  have H0 := Lib.hid hr0
  have HB0 := Lib.hid hb0
  obtain ⟨R, hR⟩ : ∃ R, w.heap.size = R := ⟨_, rfl⟩
  rw [hR] at H0 hs0
  have hRR : w.heap.size ≤ R := by omega
  clear hr0 hb0
  go_wp2_with fail
  refine (l91Needs_c R A n1 c1 0 _ H0.out hs0 (by omega)).mono ?_
  rintro e w1 ⟨B, d, zs, B2, d2, ys, q, rfl, hzl, hyl, ho1, ho2, hr1, hq, hg1⟩
  have Ha := Lib.hid (ho1.arg (by omega) (Nat.le_refl _))
  have Ha2 := Lib.hid (ho2.arg (by omega) (Nat.le_refl _))
  have HB1 := Lib.hid (draw_below HB0.out hRR hg1)
  clear ho1 ho2 hr1 hg1
  go_wp2
  go_ret2
  exact ⟨B, d, zs, B2, d2, ys, rfl, hzl, hyl, Ha.out, Ha2.out, HB1.out⟩

end Go.Proofs.Ytmbdggakahbciaa
