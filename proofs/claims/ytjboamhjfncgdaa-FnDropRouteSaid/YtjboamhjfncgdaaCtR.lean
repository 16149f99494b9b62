/-
  Drawn charts with an index: l92Route, DrawRouteAbove, DrawRouteClear, DrawChartDrop, DrawRouteSide. (Written by a program of mine, gen9c.py.)
-/
import Derived.Test.YtjboamhjfncgdaaCtE
import Derived.Test.YtjboamhjfncgdaaL91A
import Derived.IntWalk
namespace Go.Proofs.Ytjboamhjfncgdaa
open Go.RowKit

/-- a chart and a number, as drawn -/
def RetRo (R : Nat) (A : Option Addr) (n c p : Nat) (w : World) (e : Ending) (w' : World) : Prop :=
  ∃ B d zs, ∃ (k : Int) (q : Nat), e = .returned (.tuple #[.slice B (zs : List Rot).length d, .int .i64 k]) ∧ zs.length ≤ 7 ∧ OwK 37 w.heap.size w'.heap.size w' (.slice B zs.length d) zs ∧ Reader w' R A n c q ∧ q ≤ p + 110 ∧ w.grownBy w' (some R)
set_option maxRecDepth 100000 in
set_option maxHeartbeats 4000000 in
theorem l92Route_c (R : Nat) (A : Option Addr) (n c p : Nat) (w : World) (h : Reader w R A n c p) (hRw : R < w.heap.size) (hp : p ≤ 40000) :
    Calls Try.prog 80 #[.pointer (some ⟨R, 0, none⟩)] w (RetRo R A n c p w) := by
  have HC := Lib.hid (l92Chart_c R A n c p 7 w h hRw (by omega) (by omega) (by omega))
  rw [show ((7 : Nat) : Int) = 7 from rfl] at HC
  clear h
  go_enter Try.func80, Try.ntmps80
  go_wp2_with fail
  refine HC.out.mono ?_
  rintro e w1 ⟨B, d, zs, q, rfl, hzl, ho1, hr1, hq, hg1⟩
  have HO1 := Lib.hid ho1
  have HR1 := Lib.hid hr1
  have HG1 := Lib.hid hg1
  have hs1 := hg1.size
  clear ho1 hr1 hg1 HC
  go_wp2_with fail
  refine (l91At_c R A n c q zs.length w1 HR1.out (by omega) (by omega) (by omega)).mono ?_
  rintro e w2 ⟨k, q2, rfl, hr2, hq2, hg2⟩
  have HO2 := Lib.hid ((HO1.out.kept hg2 (fun r e => by cases e; exact .inl hRw)).more (Nat.le_refl _) hg2.size)
  have HR2 := Lib.hid hr2
  have HG2 := Lib.hid (grown_then HG1.out hg2)
  clear hr2 hg2 HO1 HR1 HG1
  go_wp2
  go_ret2
  exact ⟨B, d, zs, k, q2, rfl, hzl, HO2.out, HR2.out, by omega, HG2.out⟩

/-- A DRAWN CHART AND A NUMBER -/
def RetCk (w : World) (e : Ending) (w' : World) : Prop := ∃ B d zs, ∃ k : Int, e = .returned (.tuple #[.slice B (zs : List Rot).length d, .int .i64 k]) ∧ zs.length ≤ 7 ∧ ArgK w' B d zs ∧ Below w.heap.size w w'

set_option maxRecDepth 100000 in
set_option maxHeartbeats 4000000 in
theorem DrawRouteAbove_c (A : Option Addr) (n c : Nat) (w : World) (hn : n ≤ 9223372036854775807) (hnc : n ≤ c) (hb : Bytes w.heap.size w A n) :
    Calls Try.prog 65 #[.slice A n c] w (RetCk w) := by
  have Hb := Lib.hid hb
  clear hb
  go_enter Try.func65, Try.ntmps65
  go_wp2_with fail
  refine (l6Open_c A n c _ hn hnc Hb.out).mono ?_
  rintro e w0 ⟨n1, c1, rfl, hr0, hb0, hs0⟩
  have H0 := Lib.hid hr0
  have HB0 := Lib.hid hb0
  obtain ⟨R, hR⟩ : ∃ R, w.heap.size = R := ⟨_, rfl⟩
  rw [hR] at H0 hs0
  have hRR : w.heap.size ≤ R := by omega
  clear hr0 hb0
  go_wp2_with fail
  refine (l92Route_c R A n1 c1 0 w0 H0.out hs0 (by omega)).mono ?_
  rintro e w1 ⟨B, d, zs, k, q, rfl, hzl, ho1, hr1, hq, hg1⟩
  have Ha := Lib.hid (ho1.arg (by omega) (Nat.le_refl _))
  have HB1 := Lib.hid (draw_belowR HB0.out hRR hg1)
  clear ho1 hr1 hg1 hR
  go_wp2
  go_ret2
  exact ⟨B, d, zs, k, rfl, hzl, Ha.out, HB1.out⟩

set_option maxRecDepth 100000 in
set_option maxHeartbeats 4000000 in
theorem DrawRouteClear_c (A : Option Addr) (n c : Nat) (w : World) (hn : n ≤ 9223372036854775807) (hnc : n ≤ c) (hb : Bytes w.heap.size w A n) :
    Calls Try.prog 66 #[.slice A n c] w (RetCk w) := by
  have Hb := Lib.hid hb
  clear hb
  go_enter Try.func66, Try.ntmps66
  go_wp2_with fail
  refine (l6Open_c A n c _ hn hnc Hb.out).mono ?_
  rintro e w0 ⟨n1, c1, rfl, hr0, hb0, hs0⟩
  have H0 := Lib.hid hr0
  have HB0 := Lib.hid hb0
  obtain ⟨R, hR⟩ : ∃ R, w.heap.size = R := ⟨_, rfl⟩
  rw [hR] at H0 hs0
  have hRR : w.heap.size ≤ R := by omega
  clear hr0 hb0
  go_wp2_with fail
  refine (l92Route_c R A n1 c1 0 w0 H0.out hs0 (by omega)).mono ?_
  rintro e w1 ⟨B, d, zs, k, q, rfl, hzl, ho1, hr1, hq, hg1⟩
  have Ha := Lib.hid (ho1.arg (by omega) (Nat.le_refl _))
  have HB1 := Lib.hid (draw_belowR HB0.out hRR hg1)
  clear ho1 hr1 hg1 hR
  go_wp2
  go_ret2
  exact ⟨B, d, zs, k, rfl, hzl, Ha.out, HB1.out⟩

set_option maxRecDepth 100000 in
set_option maxHeartbeats 4000000 in
theorem DrawChartDrop_c (A : Option Addr) (n c : Nat) (w : World) (hn : n ≤ 9223372036854775807) (hnc : n ≤ c) (hb : Bytes w.heap.size w A n) :
    Calls Try.prog 70 #[.slice A n c] w (RetCk w) := by
  have Hb := Lib.hid hb
  clear hb
  go_enter Try.func70, Try.ntmps70
  go_wp2_with fail
  refine (l6Open_c A n c _ hn hnc Hb.out).mono ?_
  rintro e w0 ⟨n1, c1, rfl, hr0, hb0, hs0⟩
  have H0 := Lib.hid hr0
  have HB0 := Lib.hid hb0
  obtain ⟨R, hR⟩ : ∃ R, w.heap.size = R := ⟨_, rfl⟩
  rw [hR] at H0 hs0
  have hRR : w.heap.size ≤ R := by omega
  clear hr0 hb0
  go_wp2_with fail
  refine (l92Route_c R A n1 c1 0 w0 H0.out hs0 (by omega)).mono ?_
  rintro e w1 ⟨B, d, zs, k, q, rfl, hzl, ho1, hr1, hq, hg1⟩
  have Ha := Lib.hid (ho1.arg (by omega) (Nat.le_refl _))
  have HB1 := Lib.hid (draw_belowR HB0.out hRR hg1)
  clear ho1 hr1 hg1 hR
  go_wp2
  go_ret2
  exact ⟨B, d, zs, k, rfl, hzl, Ha.out, HB1.out⟩

/-- A DRAWN CHART, A NUMBER AND A POINT -/
def RetCp (w : World) (e : Ending) (w' : World) : Prop := ∃ B d zs, ∃ k x y : Int, e = .returned (.tuple #[.slice B (zs : List Rot).length d, .int .i64 k, .int .i64 x, .int .i64 y]) ∧ zs.length ≤ 7 ∧ ArgK w' B d zs ∧ Below w.heap.size w w'
set_option maxRecDepth 100000 in
set_option maxHeartbeats 4000000 in
theorem DrawRouteSide_c (A : Option Addr) (n c : Nat) (w : World) (hn : n ≤ 9223372036854775807) (hnc : n ≤ c) (hb : Bytes w.heap.size w A n) :
    Calls Try.prog 32 #[.slice A n c] w (RetCp w) := by
  have Hb := Lib.hid hb
  clear hb
  go_enter Try.func32, Try.ntmps32
  go_wp2_with fail
  refine (l6Open_c A n c _ hn hnc Hb.out).mono ?_
  rintro e w0 ⟨n1, c1, rfl, hr0, hb0, hs0⟩
  have H0 := Lib.hid hr0
  have HB0 := Lib.hid hb0
  obtain ⟨R, hR⟩ : ∃ R, w.heap.size = R := ⟨_, rfl⟩
  rw [hR] at H0 hs0
  have hRR : w.heap.size ≤ R := by omega
  clear hr0 hb0
  go_wp2_with fail
  refine (l92Route_c R A n1 c1 0 w0 H0.out hs0 (by omega)).mono ?_
  rintro e w1 ⟨B, d, zs, k, q, rfl, hzl, ho1, hr1, hq, hg1⟩
  have H1 := Lib.hid hr1
  have Ha1 := Lib.hid ho1
  have HB1 := Lib.hid (draw_belowR HB0.out hRR hg1)
  have hz1 := hg1.size
  clear ho1 hr1 hg1 hR HB0 H0
  go_wp2_with fail
  refine (pick_c R A n1 c1 (q) 8 _ H1.out (by omega) (by omega) (by omega)).mono ?_
  rintro e w2 ⟨a2, rfl, a20, a21, hr2, hg2⟩
  have H2 := Lib.hid hr2
  have Ha2 := Lib.hid (Ha1.out.kept hg2 (fun r e => by cases e; exact .inl hs0))
  have HB2 := Lib.hid (draw_belowR HB1.out hRR hg2)
  have hz2 := hg2.size
  clear hr2 hg2 H1 Ha1 HB1
  go_wp2_with fail
  refine (pick_c R A n1 c1 (q + 1) 20 _ H2.out (by omega) (by omega) (by omega)).mono ?_
  rintro e w3 ⟨a3, rfl, a30, a31, hr3, hg3⟩
  have H3 := Lib.hid hr3
  have Ha3 := Lib.hid (Ha2.out.kept hg3 (fun r e => by cases e; exact .inl hs0))
  have HB3 := Lib.hid (draw_belowR HB2.out hRR hg3)
  have hz3 := hg3.size
  clear hr3 hg3 H2 Ha2 HB2
  go_wp2_with fail
  refine (pick_c R A n1 c1 (q + 1 + 1) 8 _ H3.out (by omega) (by omega) (by omega)).mono ?_
  rintro e w4 ⟨a4, rfl, a40, a41, hr4, hg4⟩
  have H4 := Lib.hid hr4
  have Ha4 := Lib.hid (Ha3.out.kept hg4 (fun r e => by cases e; exact .inl hs0))
  have HB4 := Lib.hid (draw_belowR HB3.out hRR hg4)
  have hz4 := hg4.size
  clear hr4 hg4 H3 Ha3 HB3
  go_wp2_with fail
  refine (pick_c R A n1 c1 (q + 1 + 1 + 1) 20 _ H4.out (by omega) (by omega) (by omega)).mono ?_
  rintro e w5 ⟨a5, rfl, a50, a51, hr5, hg5⟩
  have H5 := Lib.hid hr5
  have Ha5 := Lib.hid (Ha4.out.kept hg5 (fun r e => by cases e; exact .inl hs0))
  have HB5 := Lib.hid (draw_belowR HB4.out hRR hg5)
  have hz5 := hg5.size
  clear hr5 hg5 H4 Ha4 HB4
  obtain ⟨t3, ht3⟩ : ∃ t, a3 / 19 = t := ⟨_, rfl⟩
  obtain ⟨t5, ht5⟩ : ∃ t, a5 / 19 = t := ⟨_, rfl⟩
  have b3 : 0 ≤ t3 ∧ t3 ≤ 1 := by omega
  have b5 : 0 ≤ t5 ∧ t5 ≤ 1 := by omega
  have q1 : IntKind.i64.wrap t3 = t3 := IntWalk.i64_in _ (by omega)
  have q2 : IntKind.i64.wrap t5 = t5 := IntWalk.i64_in _ (by omega)
  have q3 : IntKind.i64.wrap (a2 - t3) = a2 - t3 := IntWalk.i64_in _ (by omega)
  have q4 : IntKind.i64.wrap (t5 * 14) = t5 * 14 := IntWalk.i64_in _ (by omega)
  have q5 : IntKind.i64.wrap (a4 + t5 * 14) = a4 + t5 * 14 := IntWalk.i64_in _ (by omega)
  have Har := Lib.hid (ArgK.go (OwK.arg (Ha5.out.more (Nat.le_refl _) (show w1.heap.size ≤ w5.heap.size by omega)) (by omega) (Nat.le_refl _)) (Below.refl _ _))
  go_wp2
  refine bodyPost_ret (v := .tuple #[.slice B zs.length d, .int .i64 k, .int .i64 (a2 - t3), .int .i64 (a4 + t5 * 14)]) (by simp [results, Try.results32, go_sem]) rfl ?_
  exact ⟨B, d, zs, k, _, _, rfl, hzl, Har.out, HB5.out⟩

end Go.Proofs.Ytjboamhjfncgdaa
