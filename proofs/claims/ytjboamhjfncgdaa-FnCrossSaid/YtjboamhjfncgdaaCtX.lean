/-
  Drawn charts with two indexes: DrawRoutesCross.
-/
import Derived.Test.YtjboamhjfncgdaaCtR
namespace Go.Proofs.Ytjboamhjfncgdaa
open Go.RowKit

/-- A DRAWN CHART AND TWO NUMBERS -/
def RetCx (w : World) (e : Ending) (w' : World) : Prop := ∃ B d zs, ∃ i k : Int, e = .returned (.tuple #[.slice B (zs : List Rot).length d, .int .i64 i, .int .i64 k]) ∧ zs.length ≤ 7 ∧ ArgK w' B d zs ∧ Below w.heap.size w w'

set_option maxRecDepth 100000 in
set_option maxHeartbeats 4000000 in
theorem DrawRoutesCross_c (A : Option Addr) (n c : Nat) (w : World) (hn : n ≤ 9223372036854775807) (hnc : n ≤ c) (hb : Bytes w.heap.size w A n) :
    Calls Try.prog 62 #[.slice A n c] w (RetCx w) := by
  have Hb := Lib.hid hb
  clear hb
  go_enter Try.func62, Try.ntmps62
  go_wp2_with fail
  refine (l6Open_c A n c _ hn hnc Hb.out).mono ?_
  rintro e w0 ⟨n1, c1, rfl, hr0, hb0, hs0⟩
  have H0 := Lib.hid hr0
  have HB0 := Lib.hid hb0
  obtain ⟨R, hR⟩ : ∃ R, w.heap.size = R := ⟨_, rfl⟩
  rw [hR] at H0 hs0
  have hRR : w.heap.size ≤ R := by omega
  clear hr0 hb0
  have HC := Lib.hid (l92Chart_c R A n1 c1 0 6 w0 H0.out hs0 (by omega) (by omega) (by omega))
  rw [show ((6 : Nat) : Int) = 6 from rfl] at HC
  go_wp2_with fail
  refine HC.out.mono ?_
  rintro e w1 ⟨B, d, zs, q, rfl, hzl, ho1, hr1, hq, hg1⟩
  have HO1 := Lib.hid ho1
  have HR1 := Lib.hid hr1
  have HG1 := Lib.hid hg1
  have hs1 := hg1.size
  clear ho1 hr1 hg1 HC
  go_wp2_with fail
  refine (l91At_c R A n1 c1 q zs.length w1 HR1.out (by omega) (by omega) (by omega)).mono ?_
  rintro e w2 ⟨i, q2, rfl, hr2, hq2, hg2⟩
  have HO2 := Lib.hid ((HO1.out.kept hg2 (fun r e => by cases e; exact .inl hs0)).more (Nat.le_refl _) hg2.size)
  have HR2 := Lib.hid hr2
  have HG2 := Lib.hid (grown_then HG1.out hg2)
  have hs2 := hg2.size
  clear hr2 hg2 HO1 HR1 HG1
  go_wp2_with fail
  refine (l91At_c R A n1 c1 q2 zs.length w2 HR2.out (by omega) (by omega) (by omega)).mono ?_
  rintro e w3 ⟨k, q3, rfl, hr3, hq3, hg3⟩
  have HO3 := Lib.hid ((HO2.out.kept hg3 (fun r e => by cases e; exact .inl hs0)).more (Nat.le_refl _) hg3.size)
  have Ha := Lib.hid (HO3.out.arg (by omega) (Nat.le_refl _))
  have HB1 := Lib.hid (draw_belowR HB0.out hRR (grown_then HG2.out hg3))
  clear hr3 hg3 HO2 HO3 HR2 HG2 hR
  go_wp2
  go_ret3
  exact ⟨B, d, zs, i, k, rfl, by omega, Ha.out, HB1.out⟩

end Go.Proofs.Ytjboamhjfncgdaa
