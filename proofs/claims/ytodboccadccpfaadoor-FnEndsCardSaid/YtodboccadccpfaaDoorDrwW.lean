/-
  Drawn plans of the laws FnPlan and FnEnds: DrawPlanValid, DrawPlanEnds.
-/
import Derived.Test.YtodboccadccpfaaDoorJPlan
namespace Go.Proofs.YtodboccadccpfaaDoor
open Go.RowKit

set_option maxRecDepth 100000 in
theorem DrawPlanValid_c (A : Option Addr) (n c : Nat) (w : World) (hn : n ≤ 9223372036854775807) (hnc : n ≤ c) (hb : Bytes w.heap.size w A n) :
    Calls Tryd.prog 7 #[.slice A n c] w (fun e w' => ∃ (s : ByteArray) (B : Option Addr) (d : Nat) (J : List Jbs) (B2 : Option Addr) (d2 : Nat) (zs : List Int), e = .returned (.tuple #[.string s, .slice B J.length d, .slice B2 zs.length d2]) ∧ s.size ≤ 63 ∧ J.length ≤ 4 ∧ zs.length ≤ 4 ∧ ArgJ w' B d J ∧ Arg w' B2 d2 zs ∧ Below w.heap.size w w') := by
  have Hb := Lib.hid hb
  clear hb
  go_enter Tryd.func7, Tryd.ntmps7
  go_wp2_with fail
  refine (l6Open_c A n c _ hn hnc Hb.out).mono ?_
  rintro e w1 ⟨n', c', rfl, hr1, hb1, hlt1⟩
  have Hr1 := Lib.hid hr1
  have Hb1 := Lib.hid hb1
  clear hr1 hb1
  go_wp2_with fail
  refine (l92Plan_c _ A n' c' 0 _ Hr1.out hlt1 (by omega)).mono ?_
  rintro e w2 ⟨s, B, d, J, B2, d2, zs, rfl, hs, hJ, hz, hA, hA2, hg2⟩
  have Hb2 := Lib.hid (Hb1.out.grown hg2 Hb1.out.size (fun r e => by injection e with e; omega))
  have HA := Lib.hid (And.intro hA hA2)
  clear hg2 hA hA2
  go_wp2
  go_ret3
  exact ⟨s, B, d, J, B2, d2, zs, rfl, hs, hJ, hz, HA.out.1, HA.out.2, Hb2.out⟩

set_option maxRecDepth 100000 in
theorem DrawPlanEnds_c (A : Option Addr) (n c : Nat) (w : World) (hn : n ≤ 9223372036854775807) (hnc : n ≤ c) (hb : Bytes w.heap.size w A n) :
    Calls Tryd.prog 15 #[.slice A n c] w (fun e w' => ∃ (s : ByteArray) (B : Option Addr) (d : Nat) (J : List Jbs) (B2 : Option Addr) (d2 : Nat) (zs : List Int), e = .returned (.tuple #[.string s, .slice B J.length d, .slice B2 zs.length d2]) ∧ s.size ≤ 63 ∧ J.length ≤ 4 ∧ zs.length ≤ 4 ∧ ArgJ w' B d J ∧ Arg w' B2 d2 zs ∧ Below w.heap.size w w') := by
  have Hb := Lib.hid hb
  clear hb
  go_enter Tryd.func15, Tryd.ntmps15
  go_wp2_with fail
  refine (l6Open_c A n c _ hn hnc Hb.out).mono ?_
  rintro e w1 ⟨n', c', rfl, hr1, hb1, hlt1⟩
  have Hr1 := Lib.hid hr1
  have Hb1 := Lib.hid hb1
  clear hr1 hb1
  go_wp2_with fail
  refine (l92Plan_c _ A n' c' 0 _ Hr1.out hlt1 (by omega)).mono ?_
  rintro e w2 ⟨s, B, d, J, B2, d2, zs, rfl, hs, hJ, hz, hA, hA2, hg2⟩
  have Hb2 := Lib.hid (Hb1.out.grown hg2 Hb1.out.size (fun r e => by injection e with e; omega))
  have HA := Lib.hid (And.intro hA hA2)
  clear hg2 hA hA2
  go_wp2
  go_ret3
  exact ⟨s, B, d, J, B2, d2, zs, rfl, hs, hJ, hz, HA.out.1, HA.out.2, Hb2.out⟩

end Go.Proofs.YtodboccadccpfaaDoor
