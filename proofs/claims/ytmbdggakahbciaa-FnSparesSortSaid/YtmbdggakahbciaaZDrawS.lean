/-
  Drawn spares: DrawSparesSort.
-/
import Derived.Test.YtmbdggakahbciaaZDrawJ0
namespace Go.Proofs.Ytmbdggakahbciaa
open Go.RowKit

/-- spares -/
def RetSS (w : World) (e : Ending) (w' : World) : Prop :=
  ∃ B d zs, e = .returned (.slice B (zs : List Spr).length d) ∧ zs.length ≤ 12 ∧ ArgZ w' B d zs ∧ Below w.heap.size w w'

set_option maxHeartbeats 1000000 in
theorem DrawSparesSort_c (A : Option Addr) (n c : Nat) (w : World) (hn : n ≤ 9223372036854775807) (hnc : n ≤ c) (hb : Bytes w.heap.size w A n) :
    Calls Try.prog 35 #[.slice A n c] w (RetSS w) := by
  have Hb := Lib.hid hb
  clear hb
  go_enter Try.func35, Try.ntmps35
  go_wp2_with fail
  refine (l6Open_c A n c _ hn hnc Hb.out).mono ?_
  rintro e w0 ⟨n1, c1, rfl, hr0, hb0, hs0⟩
  have H0 := Lib.hid hr0
  have HB0 := Lib.hid hb0
  obtain ⟨R, hR⟩ : ∃ R, w.heap.size = R := ⟨_, rfl⟩
  rw [hR] at H0 hs0
  have hRR : w.heap.size ≤ R := by omega
  clear hr0 hb0
  go_wp2_with fail
  refine (l91Spares_c R A n1 c1 0 7 _ H0.out hs0 (by omega) (by omega)).mono ?_
  rintro e w1 ⟨B, d, zs, q, rfl, hzl, ha1, _, hr1, hq, hg1⟩
  have HA1 := Lib.hid ha1
  have HB1 := Lib.hid (draw_below HB0.out hRR hg1)
  clear ha1 hr1 hg1 H0 HB0
  go_wp2
  go_ret
  exact ⟨B, d, zs, rfl, hzl, HA1.out, HB1.out⟩

end Go.Proofs.Ytmbdggakahbciaa
