/-
  Drawn spares and a kind: DrawSparesMiles.
-/
import Derived.Test.YtmbdggakahbciaaZDrawJ0
namespace Go.Proofs.Ytmbdggakahbciaa
open Go.RowKit

/-- spares and a kind -/
def RetSM (w : World) (e : Ending) (w' : World) : Prop :=
  ∃ B d zs k, e = .returned (.tuple #[.slice B (zs : List Spr).length d, .int .i64 k]) ∧ zs.length ≤ 12 ∧ -1 ≤ k ∧ k ≤ 3 ∧ ArgZ w' B d zs ∧ Below w.heap.size w w'

set_option maxHeartbeats 1000000 in
theorem DrawSparesMiles_c (A : Option Addr) (n c : Nat) (w : World) (hn : n ≤ 9223372036854775807) (hnc : n ≤ c) (hb : Bytes w.heap.size w A n) :
    Calls Try.prog 11 #[.slice A n c] w (RetSM w) := by
  have Hb := Lib.hid hb
  clear hb
  go_enter Try.func11, Try.ntmps11
  go_wp2_with fail
  refine (l6Open_c A n c _ hn hnc Hb.out).mono ?_
  rintro e w0 ⟨n1, c1, rfl, hr0, hb0, hs0⟩
  have H0 := Lib.hid hr0
  have HB0 := Lib.hid hb0
  obtain ⟨R, hR⟩ : ∃ R, w.heap.size = R := ⟨_, rfl⟩
  rw [hR] at H0 hs0
  have hRR : w.heap.size ≤ R := by omega
  clear hr0 hb0
  go_wp2_with fail
  refine (l91Spares_c R A n1 c1 0 6 _ H0.out hs0 (by omega) (by omega)).mono ?_
  rintro e w1 ⟨B, d, zs, q, rfl, hzl, _, ho1, hr1, hq, hg1⟩
  have HA1 := Lib.hid ho1
  have HR1 := Lib.hid hr1
  have HB1 := Lib.hid (draw_below HB0.out hRR hg1)
  have s1 := hg1.size
  clear ho1 hr1 hg1 H0 HB0
  go_wp2_with fail
  refine (pick_c R A n1 c1 q 5 _ HR1.out (by omega) (by omega) (by omega)).mono ?_
  rintro e w2 ⟨k2, rfl, k20, k21, hr2, hg2⟩
  have s2 := hg2.size
  have HA2 := Lib.hid (HA1.out.kept hg2 (fun r e => by cases e; exact .inl hs0))
  have HB2 := Lib.hid (draw_below HB1.out hRR hg2)
  clear hr2 hg2 HA1 HR1 HB1
  go_wp2
  go_ret2
  exact ⟨B, d, zs, k2 - 1, rfl, hzl, by omega, by omega, HA2.out.arg (by omega) (by omega), HB2.out⟩

end Go.Proofs.Ytmbdggakahbciaa
