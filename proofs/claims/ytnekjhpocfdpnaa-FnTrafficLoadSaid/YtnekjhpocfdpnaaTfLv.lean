/-
  LoadValid of the program. (Written by a program of mine, gen7l.py; parted from TfL.)
-/
import Derived.Test.YtnekjhpocfdpnaaTfL
namespace Go.Proofs.Ytnekjhpocfdpnaa
open Go.RowKit Go.Maps

set_option maxRecDepth 100000 in
set_option maxHeartbeats 1000000 in
theorem implLoadValid_b (n f t : Int) (A B : Option Addr) (c d : Nat) (ss : List Lin) (L : List Int) (w : World) (ha : ArgL w A c ss) (hb : Arg w B d L) :
    Calls Try.prog 8 #[.int .i64 n, .slice A ss.length c, .int .i64 f, .int .i64 t, .slice B L.length d] w (RetB (.bool (loadB n ss f t L)) w) := by
  have HA := Lib.hid ha
  have HB := Lib.hid hb
  have HV := Lib.hid (trafV_nonneg (n := n) (N := ss) (f := f) (t := t) (L := L))
  clear ha hb
  go_enter Try.func8, Try.ntmps8
  go_wp2_with fail
  refine (implLoadTraffic_b _ _ _ _ _ _ _ _ _ _ HA.out HB.out).mono ?_
  rintro e w1 ⟨rfl, hb1⟩
  have Hb1 := Lib.hid hb1
  clear hb1
  go_wp2
  go_ret
  exact ⟨by rw [← HV.out] <;> rfl, Hb1.out⟩

end Go.Proofs.Ytnekjhpocfdpnaa
