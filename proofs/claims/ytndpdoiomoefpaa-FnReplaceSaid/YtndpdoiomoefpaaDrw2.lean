/-
  The drawn cables of the laws of chapter 2: one cable; a cable and a mile; two cables.
-/
import Derived.Test.YtndpdoiomoefpaaCDrawM
import Derived.Test.YtndpdoiomoefpaaCDrawB
namespace Go.Proofs.Ytndpdoiomoefpaa
open Go.RowKit

/-- a cable of at most 20 sections -/
def RetCb (w : World) (e : Ending) (w' : World) : Prop :=
  ∃ B d zs, e = .returned (.slice B (zs : List Sec).length d) ∧ zs.length ≤ 20 ∧ ArgC w' B d zs ∧ Below w.heap.size w w'
/-- .. and a mile -/
def RetKd (w : World) (e : Ending) (w' : World) : Prop :=
  ∃ B d zs x, e = .returned (.tuple #[.slice B (zs : List Sec).length d, .int .i64 x]) ∧ zs.length ≤ 20 ∧ -1 ≤ x ∧ x ≤ 1000 ∧ ArgC w' B d zs ∧ Below w.heap.size w w'
/-- two cables -/
def RetTwoC (w : World) (e : Ending) (w' : World) : Prop :=
  ∃ B d zs B2 d2 ys, e = .returned (.tuple #[.slice B (zs : List Sec).length d, .slice B2 (ys : List Sec).length d2]) ∧ zs.length ≤ 20 ∧ ys.length ≤ 20 ∧ ArgC w' B d zs ∧ ArgC w' B2 d2 ys ∧ Below w.heap.size w w'

set_option maxRecDepth 100000 in
theorem DrawCableMiles_c (A : Option Addr) (n c : Nat) (w : World) (hn : n ≤ 9223372036854775807) (hnc : n ≤ c) (hb : Bytes w.heap.size w A n) :
    Calls Try.prog 47 #[.slice A n c] w (RetCb w) := by
  have Hb := Lib.hid hb
  clear hb
  go_enter Try.func47, Try.ntmps47
  go_wp2_with fail
  refine (l6Open_c A n c _ hn hnc Hb.out).mono ?_
  rintro e w1 ⟨n1, c1, rfl, hr1, hb1, hs1⟩
  have Hr1 := Lib.hid hr1
  have Hb1 := Lib.hid hb1
  clear hr1 hb1
  go_wp2_with fail
  refine (l91Cable_c w.heap.size A n1 c1 0 5 _ Hr1.out hs1 (by omega) (by omega) (by omega)).mono ?_
  rintro e w2 ⟨B, d, zs, q, rfl, hl, ha, ho, hr, hq, hg⟩
  have HH := Lib.hid (⟨ha, draw_below Hb1.out (Nat.le_refl _) hg⟩ : ArgC w2 B d zs ∧ Below w.heap.size w w2)
  clear ha ho hr hg
  go_wp2
  go_ret
  exact ⟨B, d, zs, rfl, hl, HH.out⟩

set_option maxRecDepth 100000 in
theorem DrawCableAll_c (A : Option Addr) (n c : Nat) (w : World) (hn : n ≤ 9223372036854775807) (hnc : n ≤ c) (hb : Bytes w.heap.size w A n) :
    Calls Try.prog 56 #[.slice A n c] w (RetCb w) := by
  have Hb := Lib.hid hb
  clear hb
  go_enter Try.func56, Try.ntmps56
  go_wp2_with fail
  refine (l6Open_c A n c _ hn hnc Hb.out).mono ?_
  rintro e w1 ⟨n1, c1, rfl, hr1, hb1, hs1⟩
  have Hr1 := Lib.hid hr1
  have Hb1 := Lib.hid hb1
  clear hr1 hb1
  go_wp2_with fail
  refine (l91Cable_c w.heap.size A n1 c1 0 5 _ Hr1.out hs1 (by omega) (by omega) (by omega)).mono ?_
  rintro e w2 ⟨B, d, zs, q, rfl, hl, ha, ho, hr, hq, hg⟩
  have HH := Lib.hid (⟨ha, draw_below Hb1.out (Nat.le_refl _) hg⟩ : ArgC w2 B d zs ∧ Below w.heap.size w w2)
  clear ha ho hr hg
  go_wp2
  go_ret
  exact ⟨B, d, zs, rfl, hl, HH.out⟩

set_option maxRecDepth 100000 in
theorem DrawCableBack_c (A : Option Addr) (n c : Nat) (w : World) (hn : n ≤ 9223372036854775807) (hnc : n ≤ c) (hb : Bytes w.heap.size w A n) :
    Calls Try.prog 73 #[.slice A n c] w (RetCb w) := by
  have Hb := Lib.hid hb
  clear hb
  go_enter Try.func73, Try.ntmps73
  go_wp2_with fail
  refine (l6Open_c A n c _ hn hnc Hb.out).mono ?_
  rintro e w1 ⟨n1, c1, rfl, hr1, hb1, hs1⟩
  have Hr1 := Lib.hid hr1
  have Hb1 := Lib.hid hb1
  clear hr1 hb1
  go_wp2_with fail
  refine (l91Cable_c w.heap.size A n1 c1 0 5 _ Hr1.out hs1 (by omega) (by omega) (by omega)).mono ?_
  rintro e w2 ⟨B, d, zs, q, rfl, hl, ha, ho, hr, hq, hg⟩
  have HH := Lib.hid (⟨ha, draw_below Hb1.out (Nat.le_refl _) hg⟩ : ArgC w2 B d zs ∧ Below w.heap.size w w2)
  clear ha ho hr hg
  go_wp2
  go_ret
  exact ⟨B, d, zs, rfl, hl, HH.out⟩

set_option maxRecDepth 100000 in
theorem DrawCableOhms_c (A : Option Addr) (n c : Nat) (w : World) (hn : n ≤ 9223372036854775807) (hnc : n ≤ c) (hb : Bytes w.heap.size w A n) :
    Calls Try.prog 52 #[.slice A n c] w (RetKd w) := by
  have Hb := Lib.hid hb
  clear hb
  go_enter Try.func52, Try.ntmps52
  go_wp2_with fail
  refine (l6Open_c A n c _ hn hnc Hb.out).mono ?_
  rintro e w1 ⟨n1, c1, rfl, hr1, hb1, hs1⟩
  have Hr1 := Lib.hid hr1
  have Hb1 := Lib.hid hb1
  clear hr1 hb1
  go_wp2_with fail
  refine (l91Mile_c w.heap.size A n1 c1 0 _ Hr1.out hs1 (by omega)).mono ?_
  rintro e w2 ⟨B, d, zs, x, q, rfl, hl, hx0, hx1, ho, hr, hq, hg⟩
  have HH := Lib.hid (⟨ho.arg (by omega) (Nat.le_refl _), draw_below Hb1.out (Nat.le_refl _) hg⟩ : ArgC w2 B d zs ∧ Below w.heap.size w w2)
  clear ho hr hg
  go_wp2
  go_ret2
  exact ⟨B, d, zs, x, rfl, hl, hx0, hx1, HH.out⟩

set_option maxRecDepth 100000 in
theorem DrawCableKind_c (A : Option Addr) (n c : Nat) (w : World) (hn : n ≤ 9223372036854775807) (hnc : n ≤ c) (hb : Bytes w.heap.size w A n) :
    Calls Try.prog 59 #[.slice A n c] w (RetKd w) := by
  have Hb := Lib.hid hb
  clear hb
  go_enter Try.func59, Try.ntmps59
  go_wp2_with fail
  refine (l6Open_c A n c _ hn hnc Hb.out).mono ?_
  rintro e w1 ⟨n1, c1, rfl, hr1, hb1, hs1⟩
  have Hr1 := Lib.hid hr1
  have Hb1 := Lib.hid hb1
  clear hr1 hb1
  go_wp2_with fail
  refine (l91Mile_c w.heap.size A n1 c1 0 _ Hr1.out hs1 (by omega)).mono ?_
  rintro e w2 ⟨B, d, zs, x, q, rfl, hl, hx0, hx1, ho, hr, hq, hg⟩
  have HH := Lib.hid (⟨ho.arg (by omega) (Nat.le_refl _), draw_below Hb1.out (Nat.le_refl _) hg⟩ : ArgC w2 B d zs ∧ Below w.heap.size w w2)
  clear ho hr hg
  go_wp2
  go_ret2
  exact ⟨B, d, zs, x, rfl, hl, hx0, hx1, HH.out⟩

set_option maxRecDepth 100000 in
theorem DrawCableCut_c (A : Option Addr) (n c : Nat) (w : World) (hn : n ≤ 9223372036854775807) (hnc : n ≤ c) (hb : Bytes w.heap.size w A n) :
    Calls Try.prog 65 #[.slice A n c] w (RetKd w) := by
  have Hb := Lib.hid hb
  clear hb
  go_enter Try.func65, Try.ntmps65
  go_wp2_with fail
  refine (l6Open_c A n c _ hn hnc Hb.out).mono ?_
  rintro e w1 ⟨n1, c1, rfl, hr1, hb1, hs1⟩
  have Hr1 := Lib.hid hr1
  have Hb1 := Lib.hid hb1
  clear hr1 hb1
  go_wp2_with fail
  refine (l91Mile_c w.heap.size A n1 c1 0 _ Hr1.out hs1 (by omega)).mono ?_
  rintro e w2 ⟨B, d, zs, x, q, rfl, hl, hx0, hx1, ho, hr, hq, hg⟩
  have HH := Lib.hid (⟨ho.arg (by omega) (Nat.le_refl _), draw_below Hb1.out (Nat.le_refl _) hg⟩ : ArgC w2 B d zs ∧ Below w.heap.size w w2)
  clear ho hr hg
  go_wp2
  go_ret2
  exact ⟨B, d, zs, x, rfl, hl, hx0, hx1, HH.out⟩

set_option maxRecDepth 100000 in
theorem DrawCableSplice_c (A : Option Addr) (n c : Nat) (w : World) (hn : n ≤ 9223372036854775807) (hnc : n ≤ c) (hb : Bytes w.heap.size w A n) :
    Calls Try.prog 69 #[.slice A n c] w (RetTwoC w) := by
  have Hb := Lib.hid hb
  clear hb
  go_enter Try.func69, Try.ntmps69
  go_wp2_with fail
  refine (l6Open_c A n c _ hn hnc Hb.out).mono ?_
  rintro e w1 ⟨n1, c1, rfl, hr1, hb1, hs1⟩
  have Hr1 := Lib.hid hr1
  have Hb1 := Lib.hid hb1
  clear hr1 hb1
  go_wp2_with fail
  refine (l91Cable_c w.heap.size A n1 c1 0 5 _ Hr1.out hs1 (by omega) (by omega) (by omega)).mono ?_
  rintro e w2 ⟨B, d, zs, q, rfl, hl, ha, ho, hr, hq, hg⟩
  have s2 := hg.size
  have HB2 := Lib.hid (draw_below Hb1.out (Nat.le_refl _) hg)
  have HO := Lib.hid ho
  have HR := Lib.hid hr
  clear ha ho hr hg Hr1 Hb1
  go_wp2_with fail
  refine (l91Cable_c w.heap.size A n1 c1 q 5 _ HR.out (by omega) (by omega) (by omega) (by omega)).mono ?_
  rintro e w3 ⟨B2, d2, ys, q2, rfl, hl2, ha2, ho2, hr, hq2, hg⟩
  have s3 := hg.size
  have HH := Lib.hid (⟨(HO.out.kept hg (fun r e => by cases e; exact .inl hs1)).arg (by omega) s3, ha2, draw_below HB2.out (Nat.le_refl _) hg⟩ : ArgC w3 B d zs ∧ ArgC w3 B2 d2 ys ∧ Below w.heap.size w w3)
  clear ha2 ho2 hr hg HO HR HB2
  go_wp2
  go_ret2
  exact ⟨B, d, zs, B2, d2, ys, rfl, hl, hl2, HH.out⟩

end Go.Proofs.Ytndpdoiomoefpaa
