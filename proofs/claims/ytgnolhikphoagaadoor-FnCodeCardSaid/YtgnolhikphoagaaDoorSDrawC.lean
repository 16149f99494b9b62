/-
  A drawn letter.
-/
import Derived.Test.YtgnolhikphoagaaDoorSDraw
import Derived.Test.YtgnolhikphoagaaDoorCnv
namespace Go.Proofs.YtgnolhikphoagaaDoor
open Go.RowKit

set_option maxHeartbeats 1000000 in
theorem DrawSignalCode_c (A : Option Addr) (n c : Nat) (w : World) (hn : n ≤ 9223372036854775807) (hnc : n ≤ c) (hb : Bytes w.heap.size w A n) :
    Calls Tryd.prog 11 #[.slice A n c] w (RetDT 2 w) := by
  have Hb := Lib.hid hb
  clear hb
  go_enter Tryd.func11, Tryd.ntmps11
  go_wp2_with fail
  refine (l6Open_c A n c _ hn hnc Hb.out).mono ?_
  rintro e w1 ⟨n', c', rfl, hr1, hb1, hlt1⟩
  have Hr1 := Lib.hid hr1
  have Hb1 := Lib.hid hb1
  clear hr1 hb1
  go_wp2_with fail
  refine (pick_c _ A n' c' 0 8 _ Hr1.out (by omega) (by omega) (by omega)).mono ?_
  rintro e w3 ⟨x, rfl, hx0, hx1, hr3, hg3⟩
  have Hr3 := Lib.hid hr3
  have hl3 := Nat.lt_of_lt_of_le hlt1 hg3.size
  have Hb3 := Lib.hid (Hb1.out.grown hg3 Hb1.out.size (fun r e => by injection e with e; omega))
  clear hr3 hg3
  by_cases hx : x = 0
  · subst hx
    have Hof := Lib.hid (ofS_new _ A n' c' 1 w3 Hr3.out (by omega) hl3)
    go_wp2_with fail
    refine (Hof.out 2 4 _ (by rfl) (by omega) (by omega)).mono ?_
    rintro e w4 ⟨t, q4, rfl, ht, hr4, hq4, hg4⟩
    have Hb4 := Lib.hid (Hb3.out.grown hg4 Hb3.out.size (fun r e => by injection e with e; omega))
    clear hr4 hg4
    go_wp2
    go_ret
    exact ⟨t, rfl, ht, Hb4.out⟩
  · have g2 : (x == 0) = false := by simp [hx]
    go_wp2_with fail
    refine (pick_c _ A n' c' 1 26 _ Hr3.out (by omega) (by omega) (by omega)).mono ?_
    rintro e w4 ⟨k, rfl, hk0, hk1, hr4, hg4⟩
    have Hb4 := Lib.hid (Hb3.out.grown hg4 Hb3.out.size (fun r e => by injection e with e; omega))
    clear hr4 hg4
    have u0 : IntKind.i64.wrap (97 + k) = 97 + k := IntWalk.i64_in _ (by omega)
    have u1 : IntKind.u8.wrap (97 + k) = 97 + k := IntWalk.u8_in _ (by omega)
    have hcv := conv_new w4 (97 + k) (by omega) (by omega)
    have Hsz := Lib.hid (show (str [UInt8.ofNat (97 + k).toNat]).size ≤ 2 by rw [str_size]; simp)
    obtain ⟨T, hT⟩ : ∃ T, str [UInt8.ofNat (97 + k).toNat] = T := ⟨_, rfl⟩
    rw [hT] at hcv Hsz
    clear hT
    go_wp2
    go_ret
    exact ⟨T, rfl, Hsz.out, Hb4.out.alloc Hb4.out.size _⟩

end Go.Proofs.YtgnolhikphoagaaDoor
