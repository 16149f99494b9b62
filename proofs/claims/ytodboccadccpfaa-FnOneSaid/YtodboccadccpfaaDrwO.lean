/-
  The drawn cable and number of the law FnOne: DrawFaultOne.
-/
import Derived.Test.YtodboccadccpfaaCDraw
import Derived.Test.YtodboccadccpfaaCDrawB
namespace Go.Proofs.Ytodboccadccpfaa
open Go.RowKit

def RetOne (w : World) (e : Ending) (w' : World) : Prop :=
  ∃ B d zs a, e = .returned (.tuple #[.slice B (zs : List Sec).length d, .int .i64 a]) ∧ zs.length ≤ 20 ∧ -1 ≤ a ∧ a ≤ 1100 ∧ ArgC w' B d zs ∧ Below w.heap.size w w'
set_option maxRecDepth 100000 in
set_option maxHeartbeats 4000000 in
theorem DrawFaultOne_c (A : Option Addr) (n c : Nat) (w : World) (hn : n ≤ 9223372036854775807) (hnc : n ≤ c) (hb : Bytes w.heap.size w A n) :
    Calls Try.prog 18 #[.slice A n c] w (RetOne w) := by
  have Hb := Lib.hid hb
  clear hb
  go_enter Try.func18, Try.ntmps18
  go_wp2_with fail
  refine (l6Open_c A n c _ hn hnc Hb.out).mono ?_
  rintro e w0 ⟨n1, c1, rfl, hr0, hb0, hs0⟩
  have H0 := Lib.hid hr0
  have HB0 := Lib.hid hb0
  obtain ⟨R, hR⟩ : ∃ R, w.heap.size = R := ⟨_, rfl⟩
  rw [hR] at H0 hs0
  have hRR : w.heap.size ≤ R := by omega
  clear hr0 hb0
  go_wp2_with fail
  refine (l91Cable_c R A n1 c1 0 4 w0 H0.out hs0 (by omega) (by omega) (by omega)).mono ?_
  rintro e w1 ⟨B, d, zs, q, rfl, hzl, _, ho1, hr1, hq, hg1⟩
  have H1 := Lib.hid hr1
  have Ha1 := Lib.hid ho1
  have HB1 := Lib.hid (draw_below HB0.out hRR hg1)
  have hz1 := hg1.size
  clear ho1 hr1 hg1 hR HB0 H0
  go_wp2_with fail
  refine (pick_c R A n1 c1 (q) 60 _ H1.out (by omega) (by omega) (by omega)).mono ?_
  rintro e w2 ⟨a2, rfl, a20, a21, hr2, hg2⟩
  have H2 := Lib.hid hr2
  have Ha2 := Lib.hid (Ha1.out.kept hg2 (fun r e => by cases e; exact .inl hs0))
  have HB2 := Lib.hid (draw_below HB1.out hRR hg2)
  have hz2 := hg2.size
  clear hr2 hg2 H1 Ha1 HB1
  go_wp2_with fail
  refine (pick_c R A n1 c1 (q + 1) 12 _ H2.out (by omega) (by omega) (by omega)).mono ?_
  rintro e w3 ⟨a3, rfl, a30, a31, hr3, hg3⟩
  have H3 := Lib.hid hr3
  have Ha3 := Lib.hid (Ha2.out.kept hg3 (fun r e => by cases e; exact .inl hs0))
  have HB3 := Lib.hid (draw_below HB2.out hRR hg3)
  have hz3 := hg3.size
  clear hr3 hg3 H2 Ha2 HB2
  obtain ⟨t3, ht3⟩ : ∃ t, a3 / 11 = t := ⟨_, rfl⟩
  have b3 : 0 ≤ t3 ∧ t3 ≤ 1 := by omega
  have y3 : IntKind.i64.wrap t3 = t3 := IntWalk.i64_in _ (by omega)
  have q1 : IntKind.i64.wrap (a2 - 1) = a2 - 1 := IntWalk.i64_in _ (by omega)
  have q2 : IntKind.i64.wrap (t3 * 980) = t3 * 980 := IntWalk.i64_in _ (by omega)
  have q3 : IntKind.i64.wrap (a2 - 1 + t3 * 980) = a2 - 1 + t3 * 980 := IntWalk.i64_in _ (by omega)
  have Har := Lib.hid (ArgC.go (OwC.arg (Ha3.out.more (Nat.le_refl _) (show w1.heap.size ≤ w3.heap.size by omega)) (by omega) (Nat.le_refl _)) (Below.refl _ _))
  go_wp2
  go_ret2
  exact ⟨B, d, zs, _, rfl, hzl, by omega, by omega, Har.out, HB3.out⟩
end Go.Proofs.Ytodboccadccpfaa
