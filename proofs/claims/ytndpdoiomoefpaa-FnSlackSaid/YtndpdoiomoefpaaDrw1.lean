/-
  The drawn floors of the laws FnPart, FnBack, FnPay, FnSlack, FnLevel, FnCarry.
-/
import Derived.Test.YtndpdoiomoefpaaTwo0
import Derived.Test.YtndpdoiomoefpaaPayD0
namespace Go.Proofs.Ytndpdoiomoefpaa
open Go.RowKit

set_option maxRecDepth 100000 in
theorem DrawFloorPart_c (A : Option Addr) (n c : Nat) (w : World) (hn : n ≤ 9223372036854775807) (hnc : n ≤ c) (hb : Bytes w.heap.size w A n) :
    Calls Try.prog 19 #[.slice A n c] w fun e w' => ∃ B d zs x y, e = .returned (.tuple #[.slice B (zs : List Int).length d, .int .i64 x, .int .i64 y]) ∧ zs.length ≤ 20 ∧ -1 ≤ x ∧ x ≤ 40 ∧ -1 ≤ y ∧ y ≤ 40 ∧ Arg w' B d zs ∧ Below w.heap.size w w' := by
  have Hb := Lib.hid hb
  clear hb
  go_enter Try.func19, Try.ntmps19
  go_wp2_with fail
  refine (l6Open_c A n c _ hn hnc Hb.out).mono ?_
  rintro e w1 ⟨n1, c1, rfl, hr1, hb1, hs1⟩
  have Hr1 := Lib.hid hr1
  have Hb1 := Lib.hid hb1
  clear hr1 hb1
  go_wp2_with fail
  refine (l91Two_c w.heap.size A n1 c1 0 _ Hr1.out hs1 (by omega)).mono ?_
  rintro e w2 ⟨B, d, zs, x, y, rfl, hl, hx0, hx1, hy0, hy1, ha, hg⟩
  have HH := Lib.hid (⟨ha, draw_below Hb1.out (Nat.le_refl _) hg⟩ : Arg w2 B d zs ∧ Below w.heap.size w w2)
  clear ha hg
  go_wp2
  go_ret3
  exact ⟨B, d, zs, x, y, rfl, hl, hx0, hx1, hy0, hy1, HH.out⟩

set_option maxRecDepth 100000 in
theorem DrawFloorBack_c (A : Option Addr) (n c : Nat) (w : World) (hn : n ≤ 9223372036854775807) (hnc : n ≤ c) (hb : Bytes w.heap.size w A n) :
    Calls Try.prog 27 #[.slice A n c] w (RetDraw id w) := by
  have Hb := Lib.hid hb
  clear hb
  go_enter Try.func27, Try.ntmps27
  go_wp2_with fail
  refine (l6Open_c A n c _ hn hnc Hb.out).mono ?_
  rintro e w1 ⟨n1, c1, rfl, hr1, hb1, hs1⟩
  have Hr1 := Lib.hid hr1
  have Hb1 := Lib.hid hb1
  clear hr1 hb1
  go_wp2_with fail
  refine (l91Floor_c w.heap.size A n1 c1 0 7 _ Hr1.out hs1 (by omega) (by omega) (by omega)).mono ?_
  rintro e w2 ⟨B, d, zs, q, rfl, hl, ha, ho, hr, hq, hg⟩
  have HH := Lib.hid (⟨ha, ho.more Hb1.out.size (Nat.le_refl _), draw_below Hb1.out (Nat.le_refl _) hg⟩ : Arg w2 B d zs ∧ Ow 3 w.heap.size w2.heap.size w2 (.slice B zs.length d) zs ∧ Below w.heap.size w w2)
  clear ha ho hr hg
  go_wp2
  go_ret
  exact ⟨B, d, zs, rfl, hl, HH.out⟩

set_option maxRecDepth 100000 in
theorem DrawPayLevel_c (A : Option Addr) (n c : Nat) (w : World) (hn : n ≤ 9223372036854775807) (hnc : n ≤ c) (hb : Bytes w.heap.size w A n) :
    Calls Try.prog 41 #[.slice A n c] w (RetDraw id w) := by
  have Hb := Lib.hid hb
  clear hb
  go_enter Try.func41, Try.ntmps41
  go_wp2_with fail
  refine (l6Open_c A n c _ hn hnc Hb.out).mono ?_
  rintro e w1 ⟨n1, c1, rfl, hr1, hb1, hs1⟩
  have Hr1 := Lib.hid hr1
  have Hb1 := Lib.hid hb1
  clear hr1 hb1
  go_wp2_with fail
  refine (l91Floor_c w.heap.size A n1 c1 0 7 _ Hr1.out hs1 (by omega) (by omega) (by omega)).mono ?_
  rintro e w2 ⟨B, d, zs, q, rfl, hl, ha, ho, hr, hq, hg⟩
  have HH := Lib.hid (⟨ha, ho.more Hb1.out.size (Nat.le_refl _), draw_below Hb1.out (Nat.le_refl _) hg⟩ : Arg w2 B d zs ∧ Ow 3 w.heap.size w2.heap.size w2 (.slice B zs.length d) zs ∧ Below w.heap.size w w2)
  clear ha ho hr hg
  go_wp2
  go_ret
  exact ⟨B, d, zs, rfl, hl, HH.out⟩

set_option maxRecDepth 100000 in
theorem DrawPayValid_c (A : Option Addr) (n c : Nat) (w : World) (hn : n ≤ 9223372036854775807) (hnc : n ≤ c) (hb : Bytes w.heap.size w A n) :
    Calls Try.prog 32 #[.slice A n c] w fun e w' => ∃ B d zs B2 d2 ps, e = .returned (.tuple #[.slice B (zs : List Int).length d, .slice B2 (ps : List Int).length d2]) ∧ zs.length ≤ 20 ∧ ps.length ≤ 20 ∧ Arg w' B d zs ∧ Arg w' B2 d2 ps ∧ Below w.heap.size w w' := by
  have Hb := Lib.hid hb
  clear hb
  go_enter Try.func32, Try.ntmps32
  go_wp2_with fail
  refine (l6Open_c A n c _ hn hnc Hb.out).mono ?_
  rintro e w1 ⟨n1, c1, rfl, hr1, hb1, hs1⟩
  have Hr1 := Lib.hid hr1
  have Hb1 := Lib.hid hb1
  clear hr1 hb1
  go_wp2_with fail
  refine (l91Pay_c w.heap.size A n1 c1 0 _ Hr1.out hs1 (by omega)).mono ?_
  rintro e w2 ⟨B, d, zs, B2, d2, ps, rfl, hl, hl2, ha, ha2, hg⟩
  have HH := Lib.hid (⟨ha, ha2, draw_below Hb1.out (Nat.le_refl _) hg⟩ : Arg w2 B d zs ∧ Arg w2 B2 d2 ps ∧ Below w.heap.size w w2)
  clear ha ha2 hg
  go_wp2
  go_ret2
  exact ⟨B, d, zs, B2, d2, ps, rfl, hl, hl2, HH.out⟩

set_option maxRecDepth 100000 in
theorem DrawPaySlack_c (A : Option Addr) (n c : Nat) (w : World) (hn : n ≤ 9223372036854775807) (hnc : n ≤ c) (hb : Bytes w.heap.size w A n) :
    Calls Try.prog 38 #[.slice A n c] w fun e w' => ∃ B d zs B2 d2 ps, e = .returned (.tuple #[.slice B (zs : List Int).length d, .slice B2 (ps : List Int).length d2]) ∧ zs.length ≤ 20 ∧ ps.length ≤ 20 ∧ Arg w' B d zs ∧ Arg w' B2 d2 ps ∧ Below w.heap.size w w' := by
  have Hb := Lib.hid hb
  clear hb
  go_enter Try.func38, Try.ntmps38
  go_wp2_with fail
  refine (l6Open_c A n c _ hn hnc Hb.out).mono ?_
  rintro e w1 ⟨n1, c1, rfl, hr1, hb1, hs1⟩
  have Hr1 := Lib.hid hr1
  have Hb1 := Lib.hid hb1
  clear hr1 hb1
  go_wp2_with fail
  refine (l91Pay_c w.heap.size A n1 c1 0 _ Hr1.out hs1 (by omega)).mono ?_
  rintro e w2 ⟨B, d, zs, B2, d2, ps, rfl, hl, hl2, ha, ha2, hg⟩
  have HH := Lib.hid (⟨ha, ha2, draw_below Hb1.out (Nat.le_refl _) hg⟩ : Arg w2 B d zs ∧ Arg w2 B2 d2 ps ∧ Below w.heap.size w w2)
  clear ha ha2 hg
  go_wp2
  go_ret2
  exact ⟨B, d, zs, B2, d2, ps, rfl, hl, hl2, HH.out⟩

set_option maxRecDepth 100000 in
theorem DrawPayCarry_c (A : Option Addr) (n c : Nat) (w : World) (hn : n ≤ 9223372036854775807) (hnc : n ≤ c) (hb : Bytes w.heap.size w A n) :
    Calls Try.prog 44 #[.slice A n c] w fun e w' => ∃ B d zs x, e = .returned (.tuple #[.slice B (zs : List Int).length d, .int .i64 x]) ∧ zs.length ≤ 20 ∧ -1 ≤ x ∧ x ≤ 1001 ∧ Arg w' B d zs ∧ Below w.heap.size w w' := by
  have Hb := Lib.hid hb
  clear hb
  go_enter Try.func44, Try.ntmps44
  go_wp2_with fail
  refine (l6Open_c A n c _ hn hnc Hb.out).mono ?_
  rintro e w1 ⟨n1, c1, rfl, hr1, hb1, hs1⟩
  have Hr1 := Lib.hid hr1
  have Hb1 := Lib.hid hb1
  clear hr1 hb1
  go_wp2_with fail
  refine (l91Aboard_c w.heap.size A n1 c1 0 _ Hr1.out hs1 (by omega)).mono ?_
  rintro e w2 ⟨B, d, zs, x, rfl, hl, hx0, hx1, ha, hg⟩
  have HH := Lib.hid (⟨ha, draw_below Hb1.out (Nat.le_refl _) hg⟩ : Arg w2 B d zs ∧ Below w.heap.size w w2)
  clear ha hg
  go_wp2
  go_ret2
  exact ⟨B, d, zs, x, rfl, hl, hx0, hx1, HH.out⟩

end Go.Proofs.Ytndpdoiomoefpaa
