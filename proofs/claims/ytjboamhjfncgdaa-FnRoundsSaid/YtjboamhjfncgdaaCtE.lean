/-
  Drawn charts: DrawChartCrossings, DrawLiftFirst, DrawLiftMany, DrawLiftRounds, DrawChartTurn. (Written by a program of mine, gen9c.py.)
-/
import Derived.Test.YtjboamhjfncgdaaCtD
namespace Go.Proofs.Ytjboamhjfncgdaa
open Go.RowKit

theorem draw_belowR {w a b : World} {R : Nat} (h : Below w.heap.size w a) (hR : w.heap.size ≤ R) (hg : a.grownBy b (some R)) : Below w.heap.size w b := h.grown hg h.size (fun r e => by cases e; exact hR)
/-- A DRAWN CHART -/
def RetCt (w : World) (e : Ending) (w' : World) : Prop := ∃ B d zs, e = .returned (.slice B (zs : List Rot).length d) ∧ zs.length ≤ 10 ∧ ArgK w' B d zs ∧ Below w.heap.size w w'

set_option maxRecDepth 100000 in
set_option maxHeartbeats 4000000 in
theorem DrawChartCrossings_c (A : Option Addr) (n c : Nat) (w : World) (hn : n ≤ 9223372036854775807) (hnc : n ≤ c) (hb : Bytes w.heap.size w A n) :
    Calls Try.prog 64 #[.slice A n c] w (RetCt w) := by
  have Hb := Lib.hid hb
  clear hb
  go_enter Try.func64, Try.ntmps64
  go_wp2_with fail
  refine (l6Open_c A n c _ hn hnc Hb.out).mono ?_
  rintro e w0 ⟨n1, c1, rfl, hr0, hb0, hs0⟩
  have H0 := Lib.hid hr0
  have HB0 := Lib.hid hb0
  obtain ⟨R, hR⟩ : ∃ R, w.heap.size = R := ⟨_, rfl⟩
  rw [hR] at H0 hs0
  have hRR : w.heap.size ≤ R := by omega
  clear hr0 hb0
  have HC := Lib.hid (l92Chart_c R A n1 c1 0 8 w0 H0.out hs0 (by omega) (by omega) (by omega))
  rw [show ((8 : Nat) : Int) = 8 from rfl] at HC
  go_wp2_with fail
  refine HC.out.mono ?_
  rintro e w1 ⟨B, d, zs, q, rfl, hzl, ho1, hr1, hq, hg1⟩
  have Ha := Lib.hid (ho1.arg (by omega) (Nat.le_refl _))
  have HB1 := Lib.hid (draw_belowR HB0.out hRR hg1)
  clear ho1 hr1 hg1 hR HC
  go_wp2
  go_ret
  exact ⟨B, d, zs, rfl, by omega, Ha.out, HB1.out⟩

set_option maxRecDepth 100000 in
set_option maxHeartbeats 4000000 in
theorem DrawLiftFirst_c (A : Option Addr) (n c : Nat) (w : World) (hn : n ≤ 9223372036854775807) (hnc : n ≤ c) (hb : Bytes w.heap.size w A n) :
    Calls Try.prog 26 #[.slice A n c] w (RetCt w) := by
  have Hb := Lib.hid hb
  clear hb
  go_enter Try.func26, Try.ntmps26
  go_wp2_with fail
  refine (l6Open_c A n c _ hn hnc Hb.out).mono ?_
  rintro e w0 ⟨n1, c1, rfl, hr0, hb0, hs0⟩
  have H0 := Lib.hid hr0
  have HB0 := Lib.hid hb0
  obtain ⟨R, hR⟩ : ∃ R, w.heap.size = R := ⟨_, rfl⟩
  rw [hR] at H0 hs0
  have hRR : w.heap.size ≤ R := by omega
  clear hr0 hb0
  have HC := Lib.hid (l92Chart_c R A n1 c1 0 8 w0 H0.out hs0 (by omega) (by omega) (by omega))
  rw [show ((8 : Nat) : Int) = 8 from rfl] at HC
  go_wp2_with fail
  refine HC.out.mono ?_
  rintro e w1 ⟨B, d, zs, q, rfl, hzl, ho1, hr1, hq, hg1⟩
  have Ha := Lib.hid (ho1.arg (by omega) (Nat.le_refl _))
  have HB1 := Lib.hid (draw_belowR HB0.out hRR hg1)
  clear ho1 hr1 hg1 hR HC
  go_wp2
  go_ret
  exact ⟨B, d, zs, rfl, by omega, Ha.out, HB1.out⟩

set_option maxRecDepth 100000 in
set_option maxHeartbeats 4000000 in
theorem DrawLiftMany_c (A : Option Addr) (n c : Nat) (w : World) (hn : n ≤ 9223372036854775807) (hnc : n ≤ c) (hb : Bytes w.heap.size w A n) :
    Calls Try.prog 68 #[.slice A n c] w (RetCt w) := by
  have Hb := Lib.hid hb
  clear hb
  go_enter Try.func68, Try.ntmps68
  go_wp2_with fail
  refine (l6Open_c A n c _ hn hnc Hb.out).mono ?_
  rintro e w0 ⟨n1, c1, rfl, hr0, hb0, hs0⟩
  have H0 := Lib.hid hr0
  have HB0 := Lib.hid hb0
  obtain ⟨R, hR⟩ : ∃ R, w.heap.size = R := ⟨_, rfl⟩
  rw [hR] at H0 hs0
  have hRR : w.heap.size ≤ R := by omega
  clear hr0 hb0
  have HC := Lib.hid (l92Chart_c R A n1 c1 0 5 w0 H0.out hs0 (by omega) (by omega) (by omega))
  rw [show ((5 : Nat) : Int) = 5 from rfl] at HC
  go_wp2_with fail
  refine HC.out.mono ?_
  rintro e w1 ⟨B, d, zs, q, rfl, hzl, ho1, hr1, hq, hg1⟩
  have Ha := Lib.hid (ho1.arg (by omega) (Nat.le_refl _))
  have HB1 := Lib.hid (draw_belowR HB0.out hRR hg1)
  clear ho1 hr1 hg1 hR HC
  go_wp2
  go_ret
  exact ⟨B, d, zs, rfl, by omega, Ha.out, HB1.out⟩

set_option maxRecDepth 100000 in
set_option maxHeartbeats 4000000 in
theorem DrawLiftRounds_c (A : Option Addr) (n c : Nat) (w : World) (hn : n ≤ 9223372036854775807) (hnc : n ≤ c) (hb : Bytes w.heap.size w A n) :
    Calls Try.prog 69 #[.slice A n c] w (RetCt w) := by
  have Hb := Lib.hid hb
  clear hb
  go_enter Try.func69, Try.ntmps69
  go_wp2_with fail
  refine (l6Open_c A n c _ hn hnc Hb.out).mono ?_
  rintro e w0 ⟨n1, c1, rfl, hr0, hb0, hs0⟩
  have H0 := Lib.hid hr0
  have HB0 := Lib.hid hb0
  obtain ⟨R, hR⟩ : ∃ R, w.heap.size = R := ⟨_, rfl⟩
  rw [hR] at H0 hs0
  have hRR : w.heap.size ≤ R := by omega
  clear hr0 hb0
  have HC := Lib.hid (l92Chart_c R A n1 c1 0 8 w0 H0.out hs0 (by omega) (by omega) (by omega))
  rw [show ((8 : Nat) : Int) = 8 from rfl] at HC
  go_wp2_with fail
  refine HC.out.mono ?_
  rintro e w1 ⟨B, d, zs, q, rfl, hzl, ho1, hr1, hq, hg1⟩
  have Ha := Lib.hid (ho1.arg (by omega) (Nat.le_refl _))
  have HB1 := Lib.hid (draw_belowR HB0.out hRR hg1)
  clear ho1 hr1 hg1 hR HC
  go_wp2
  go_ret
  exact ⟨B, d, zs, rfl, by omega, Ha.out, HB1.out⟩

set_option maxRecDepth 100000 in
set_option maxHeartbeats 4000000 in
theorem DrawChartTurn_c (A : Option Addr) (n c : Nat) (w : World) (hn : n ≤ 9223372036854775807) (hnc : n ≤ c) (hb : Bytes w.heap.size w A n) :
    Calls Try.prog 72 #[.slice A n c] w (RetCt w) := by
  have Hb := Lib.hid hb
  clear hb
  go_enter Try.func72, Try.ntmps72
  go_wp2_with fail
  refine (l6Open_c A n c _ hn hnc Hb.out).mono ?_
  rintro e w0 ⟨n1, c1, rfl, hr0, hb0, hs0⟩
  have H0 := Lib.hid hr0
  have HB0 := Lib.hid hb0
  obtain ⟨R, hR⟩ : ∃ R, w.heap.size = R := ⟨_, rfl⟩
  rw [hR] at H0 hs0
  have hRR : w.heap.size ≤ R := by omega
  clear hr0 hb0
  have HC := Lib.hid (l92Chart_c R A n1 c1 0 7 w0 H0.out hs0 (by omega) (by omega) (by omega))
  rw [show ((7 : Nat) : Int) = 7 from rfl] at HC
  go_wp2_with fail
  refine HC.out.mono ?_
  rintro e w1 ⟨B, d, zs, q, rfl, hzl, ho1, hr1, hq, hg1⟩
  have Ha := Lib.hid (ho1.arg (by omega) (Nat.le_refl _))
  have HB1 := Lib.hid (draw_belowR HB0.out hRR hg1)
  clear ho1 hr1 hg1 hR HC
  go_wp2
  go_ret
  exact ⟨B, d, zs, rfl, by omega, Ha.out, HB1.out⟩

end Go.Proofs.Ytjboamhjfncgdaa
