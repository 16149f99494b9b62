/-
  Drawn orders and stowages: DrawStowageMost, DrawStowageTanks, DrawStowageValid.
-/
import Derived.Test.YthdbbppahloapaaODrawT
namespace Go.Proofs.Ythdbbppahloapaa
open Go.RowKit

set_option maxHeartbeats 1000000 in
theorem DrawStowageMost_c (A : Option Addr) (n c : Nat) (w : World) (hn : n ≤ 9223372036854775807) (hnc : n ≤ c) (hb : Bytes w.heap.size w A n) :
    Calls Try.prog 33 #[.slice A n c] w fun e w' => ∃ B d zs C k ts, e = .returned (.tuple #[.slice B (zs : List Int).length d, .slice C (ts : List Int).length k]) ∧ zs.length ≤ 20 ∧ ts.length ≤ 20 ∧ Arg w' B d zs ∧ Arg w' C k ts ∧ Below w.heap.size w w' := by
  have Hb := Lib.hid hb
  clear hb
  go_enter Try.func33, Try.ntmps33
  go_wp2_with fail
  refine (l6Open_c A n c _ hn hnc Hb.out).mono ?_
  rintro e w1 ⟨n1, c1, rfl, hr1, hb1, hs1⟩
  have Hr1 := Lib.hid hr1
  have Hb1 := Lib.hid hb1
  clear hr1 hb1
  go_wp2_with fail
  refine (l92Stowage_c w.heap.size A n1 c1 0 _ Hr1.out hs1 (by omega)).mono ?_
  rintro e w2 ⟨B, d, zs, C, k, ts, rfl, hl, hl2, ha, ha2, hg2⟩
  have Hb2 := Lib.hid (draw_below Hb1.out (Nat.le_refl _) hg2)
  have Ha := Lib.hid ha
  have Ha2 := Lib.hid ha2
  clear ha ha2 hg2
  go_wp2
  go_ret2
  exact ⟨B, d, zs, C, k, ts, rfl, hl, hl2, Ha.out, Ha2.out, Hb2.out⟩

set_option maxHeartbeats 1000000 in
theorem DrawStowageTanks_c (A : Option Addr) (n c : Nat) (w : World) (hn : n ≤ 9223372036854775807) (hnc : n ≤ c) (hb : Bytes w.heap.size w A n) :
    Calls Try.prog 21 #[.slice A n c] w fun e w' => ∃ B d zs C k ts, e = .returned (.tuple #[.slice B (zs : List Int).length d, .slice C (ts : List Int).length k]) ∧ zs.length ≤ 20 ∧ ts.length ≤ 20 ∧ Arg w' B d zs ∧ Arg w' C k ts ∧ Below w.heap.size w w' := by
  have Hb := Lib.hid hb
  clear hb
  go_enter Try.func21, Try.ntmps21
  go_wp2_with fail
  refine (l6Open_c A n c _ hn hnc Hb.out).mono ?_
  rintro e w1 ⟨n1, c1, rfl, hr1, hb1, hs1⟩
  have Hr1 := Lib.hid hr1
  have Hb1 := Lib.hid hb1
  clear hr1 hb1
  go_wp2_with fail
  refine (l92Stowage_c w.heap.size A n1 c1 0 _ Hr1.out hs1 (by omega)).mono ?_
  rintro e w2 ⟨B, d, zs, C, k, ts, rfl, hl, hl2, ha, ha2, hg2⟩
  have Hb2 := Lib.hid (draw_below Hb1.out (Nat.le_refl _) hg2)
  have Ha := Lib.hid ha
  have Ha2 := Lib.hid ha2
  clear ha ha2 hg2
  go_wp2
  go_ret2
  exact ⟨B, d, zs, C, k, ts, rfl, hl, hl2, Ha.out, Ha2.out, Hb2.out⟩

set_option maxHeartbeats 1000000 in
theorem DrawStowageValid_c (A : Option Addr) (n c : Nat) (w : World) (hn : n ≤ 9223372036854775807) (hnc : n ≤ c) (hb : Bytes w.heap.size w A n) :
    Calls Try.prog 10 #[.slice A n c] w fun e w' => ∃ B d zs C k ts, e = .returned (.tuple #[.slice B (zs : List Int).length d, .slice C (ts : List Int).length k]) ∧ zs.length ≤ 20 ∧ ts.length ≤ 20 ∧ Arg w' B d zs ∧ Arg w' C k ts ∧ Below w.heap.size w w' := by
  have Hb := Lib.hid hb
  clear hb
  go_enter Try.func10, Try.ntmps10
  go_wp2_with fail
  refine (l6Open_c A n c _ hn hnc Hb.out).mono ?_
  rintro e w1 ⟨n1, c1, rfl, hr1, hb1, hs1⟩
  have Hr1 := Lib.hid hr1
  have Hb1 := Lib.hid hb1
  clear hr1 hb1
  go_wp2_with fail
  refine (l92Stowage_c w.heap.size A n1 c1 0 _ Hr1.out hs1 (by omega)).mono ?_
  rintro e w2 ⟨B, d, zs, C, k, ts, rfl, hl, hl2, ha, ha2, hg2⟩
  have Hb2 := Lib.hid (draw_below Hb1.out (Nat.le_refl _) hg2)
  have Ha := Lib.hid ha
  have Ha2 := Lib.hid ha2
  clear ha ha2 hg2
  go_wp2
  go_ret2
  exact ⟨B, d, zs, C, k, ts, rfl, hl, hl2, Ha.out, Ha2.out, Hb2.out⟩

end Go.Proofs.Ythdbbppahloapaa
