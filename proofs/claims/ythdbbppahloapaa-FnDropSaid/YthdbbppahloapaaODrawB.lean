/-
  Drawn orders: DrawOrdersBack, DrawTanksLeast, DrawOrdersDrop.
-/
import Derived.Test.YthdbbppahloapaaODrawL
namespace Go.Proofs.Ythdbbppahloapaa
open Go.RowKit

set_option maxHeartbeats 1000000 in
theorem DrawOrdersBack_c (A : Option Addr) (n c : Nat) (w : World) (hn : n ≤ 9223372036854775807) (hnc : n ≤ c) (hb : Bytes w.heap.size w A n) :
    Calls Try.prog 27 #[.slice A n c] w fun e w' => ∃ B d zs, e = .returned (.slice B (zs : List Int).length d) ∧ zs.length ≤ 20 ∧ Arg w' B d zs ∧ Below w.heap.size w w' := by
  have Hb := Lib.hid hb
  clear hb
  go_enter Try.func27, Try.ntmps27
  go_wp2_with fail
  refine (l6Open_c A n c _ hn hnc Hb.out).mono ?_
  rintro e w1 ⟨n1, c1, rfl, hr1, hb1, hs1⟩
  have Hr1 := Lib.hid hr1
  have Hb1 := Lib.hid hb1
  clear hr1 hb1
  go_wp2_with fail
  refine (l92Orders_c w.heap.size A n1 c1 0 9 _ Hr1.out hs1 (by omega) (by omega) (by omega)).mono ?_
  rintro e w2 ⟨B, d, zs, q, rfl, hl, ha, ho, hr2, hq, hg2⟩
  have Hb2 := Lib.hid (draw_below Hb1.out (Nat.le_refl _) hg2)
  have Ha := Lib.hid ha
  clear ha ho hr2 hg2
  go_wp2
  go_ret
  exact ⟨B, d, zs, rfl, hl, Ha.out, Hb2.out⟩

set_option maxHeartbeats 2000000 in
theorem DrawOrdersDrop_c (A : Option Addr) (n c : Nat) (w : World) (hn : n ≤ 9223372036854775807) (hnc : n ≤ c) (hb : Bytes w.heap.size w A n) :
    Calls Try.prog 31 #[.slice A n c] w fun e w' => ∃ B d zs x, e = .returned (.tuple #[.slice B (zs : List Int).length d, .int .i64 x]) ∧ zs.length ≤ 20 ∧ Arg w' B d zs ∧ Below w.heap.size w w' := by
  have Hb := Lib.hid hb
  clear hb
  go_enter Try.func31, Try.ntmps31
  go_wp2_with fail
  refine (l6Open_c A n c _ hn hnc Hb.out).mono ?_
  rintro e w1 ⟨n1, c1, rfl, hr1, hb1, hs1⟩
  have Hr1 := Lib.hid hr1
  have Hb1 := Lib.hid hb1
  clear hr1 hb1
  go_wp2_with fail
  refine (l92Orders_c w.heap.size A n1 c1 0 8 _ Hr1.out hs1 (by omega) (by omega) (by omega)).mono ?_
  rintro e w2 ⟨B, d, zs, q, rfl, hl, ha, ho, hr2, hq, hg2⟩
  have hs2 := hg2.size
  have Hb2 := Lib.hid (draw_below Hb1.out (Nat.le_refl _) hg2)
  have Ho := Lib.hid ho
  have Hr2 := Lib.hid hr2
  clear ha ho hr2 hg2
  go_wp2_with fail
  refine (l91At_c w.heap.size A n1 c1 q zs.length _ Hr2.out (by omega) (by omega) hl).mono ?_
  rintro e w3 ⟨x, q3, rfl, hr3, hq3, hg3⟩
  have hs3 := hg3.size
  have Hb3 := Lib.hid (draw_below Hb2.out (Nat.le_refl _) hg3)
  have Ha3 := Lib.hid ((Ho.out.kept hg3 (fun r e => by cases e; exact .inl hs1)).arg (by omega) (by omega))
  clear hr3 hg3
  go_wp2
  go_ret2
  exact ⟨B, d, zs, x, rfl, hl, Ha3.out, Hb3.out⟩

set_option maxHeartbeats 1000000 in
theorem DrawTanksLeast_c (A : Option Addr) (n c : Nat) (w : World) (hn : n ≤ 9223372036854775807) (hnc : n ≤ c) (hb : Bytes w.heap.size w A n) :
    Calls Try.prog 24 #[.slice A n c] w fun e w' => ∃ B d zs, e = .returned (.slice B (zs : List Int).length d) ∧ zs.length ≤ 20 ∧ Arg w' B d zs ∧ Below w.heap.size w w' := by
  have Hb := Lib.hid hb
  clear hb
  go_enter Try.func24, Try.ntmps24
  go_wp2_with fail
  refine (l6Open_c A n c _ hn hnc Hb.out).mono ?_
  rintro e w1 ⟨n1, c1, rfl, hr1, hb1, hs1⟩
  have Hr1 := Lib.hid hr1
  have Hb1 := Lib.hid hb1
  clear hr1 hb1
  go_wp2_with fail
  refine (l92Orders_c w.heap.size A n1 c1 0 9 _ Hr1.out hs1 (by omega) (by omega) (by omega)).mono ?_
  rintro e w2 ⟨B, d, zs, q, rfl, hl, ha, ho, hr2, hq, hg2⟩
  have Hb2 := Lib.hid (draw_below Hb1.out (Nat.le_refl _) hg2)
  have Ha := Lib.hid ha
  clear ha ho hr2 hg2
  go_wp2
  go_ret
  exact ⟨B, d, zs, rfl, hl, Ha.out, Hb2.out⟩

end Go.Proofs.Ythdbbppahloapaa
