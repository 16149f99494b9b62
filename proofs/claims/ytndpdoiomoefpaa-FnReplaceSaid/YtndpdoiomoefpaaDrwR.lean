/-
  The drawn cables of the laws FnReplace and FnPlain: DrawCableReplace, DrawCablePlain.
-/
import Derived.Test.YtndpdoiomoefpaaCDrawM
import Derived.Test.YtndpdoiomoefpaaCDrawB
namespace Go.Proofs.Ytndpdoiomoefpaa
open Go.RowKit

/-- a cable, two miles, a kind and ohms -/
def RetRp (w : World) (e : Ending) (w' : World) : Prop :=
  ∃ B d zs f t k o, e = .returned (.tuple #[.slice B (zs : List Sec).length d, .int .i64 f, .int .i64 t, .int .i64 k, .int .i64 o]) ∧ zs.length ≤ 20 ∧ (-1 ≤ f ∧ f ≤ 1000) ∧ (-2 ≤ t ∧ t ≤ 1008) ∧ (-1 ≤ k ∧ k ≤ 4) ∧ (0 ≤ o ∧ o ≤ 5) ∧ ArgC w' B d zs ∧ Below w.heap.size w w'

set_option maxRecDepth 100000 in
set_option maxHeartbeats 4000000 in
theorem DrawCableReplace_c (A : Option Addr) (n c : Nat) (w : World) (hn : n ≤ 9223372036854775807) (hnc : n ≤ c) (hb : Bytes w.heap.size w A n) :
    Calls Try.prog 71 #[.slice A n c] w (RetRp w) := by
  have Hb := Lib.hid hb
  clear hb
  go_enter Try.func71, Try.ntmps71
  go_wp2_with fail
  refine (l6Open_c A n c _ hn hnc Hb.out).mono ?_
  rintro e w0 ⟨n1, c1, rfl, hr0, hb0, hs0⟩
  have H0 := Lib.hid hr0
  have HB0 := Lib.hid hb0
  obtain ⟨R, hR⟩ : ∃ R, w.heap.size = R := ⟨_, rfl⟩
  rw [hR] at H0 hs0
  have hRR : w.heap.size ≤ R := by omega
  clear hr0 hb0
  go_wp2_with fail
  refine (l91Mile_c R A n1 c1 0 w0 H0.out hs0 (by omega)).mono ?_
  rintro e w1 ⟨B, d, zs, x, q, rfl, hzl, hx0, hx1, ho1, hr1, hq, hg1⟩
  have H1 := Lib.hid hr1
  have Ha1 := Lib.hid ho1
  have HB1 := Lib.hid (draw_below HB0.out hRR hg1)
  have hz1 := hg1.size
  clear ho1 hr1 hg1 hR HB0 H0
  go_wp2_with fail
  refine (pick_c R A n1 c1 (q) 9 _ H1.out (by omega) (by omega) (by omega)).mono ?_
  rintro e w2 ⟨a2, rfl, a20, a21, hr2, hg2⟩
  have H2 := Lib.hid hr2
  have Ha2 := Lib.hid (Ha1.out.kept hg2 (fun r e => by cases e; exact .inl hs0))
  have HB2 := Lib.hid (draw_below HB1.out hRR hg2)
  have hz2 := hg2.size
  clear hr2 hg2 H1 Ha1 HB1
  go_wp2_with fail
  refine (pick_c R A n1 c1 (q + 1) 16 _ H2.out (by omega) (by omega) (by omega)).mono ?_
  rintro e w3 ⟨a3, rfl, a30, a31, hr3, hg3⟩
  have H3 := Lib.hid hr3
  have Ha3 := Lib.hid (Ha2.out.kept hg3 (fun r e => by cases e; exact .inl hs0))
  have HB3 := Lib.hid (draw_below HB2.out hRR hg3)
  have hz3 := hg3.size
  clear hr3 hg3 H2 Ha2 HB2
  obtain ⟨t3, ht3⟩ : ∃ t, a3 / 15 = t := ⟨_, rfl⟩
  have b3 : 0 ≤ t3 ∧ t3 ≤ 1 := by omega
  have y3 : IntKind.i64.wrap t3 = t3 := IntWalk.i64_in _ (by omega)
  go_wp2_with fail
  refine (pick_c R A n1 c1 (q + 1 + 1) 5 _ H3.out (by omega) (by omega) (by omega)).mono ?_
  rintro e w4 ⟨a4, rfl, a40, a41, hr4, hg4⟩
  have H4 := Lib.hid hr4
  have Ha4 := Lib.hid (Ha3.out.kept hg4 (fun r e => by cases e; exact .inl hs0))
  have HB4 := Lib.hid (draw_below HB3.out hRR hg4)
  have hz4 := hg4.size
  clear hr4 hg4 H3 Ha3 HB3
  go_wp2_with fail
  refine (pick_c R A n1 c1 (q + 1 + 1 + 1) 20 _ H4.out (by omega) (by omega) (by omega)).mono ?_
  rintro e w5 ⟨a5, rfl, a50, a51, hr5, hg5⟩
  have H5 := Lib.hid hr5
  have Ha5 := Lib.hid (Ha4.out.kept hg5 (fun r e => by cases e; exact .inl hs0))
  have HB5 := Lib.hid (draw_below HB4.out hRR hg5)
  have hz5 := hg5.size
  clear hr5 hg5 H4 Ha4 HB4
  obtain ⟨t5, ht5⟩ : ∃ t, a5 / 19 = t := ⟨_, rfl⟩
  have b5 : 0 ≤ t5 ∧ t5 ≤ 1 := by omega
  have y5 : IntKind.i64.wrap t5 = t5 := IntWalk.i64_in _ (by omega)
  go_wp2_with fail
  refine (pick_c R A n1 c1 (q + 1 + 1 + 1 + 1) 5 _ H5.out (by omega) (by omega) (by omega)).mono ?_
  rintro e w6 ⟨a6, rfl, a60, a61, hr6, hg6⟩
  have H6 := Lib.hid hr6
  have Ha6 := Lib.hid (Ha5.out.kept hg6 (fun r e => by cases e; exact .inl hs0))
  have HB6 := Lib.hid (draw_below HB5.out hRR hg6)
  have hz6 := hg6.size
  clear hr6 hg6 H5 Ha5 HB5
  go_wp2_with fail
  refine (pick_c R A n1 c1 (q + 1 + 1 + 1 + 1 + 1) 20 _ H6.out (by omega) (by omega) (by omega)).mono ?_
  rintro e w7 ⟨a7, rfl, a70, a71, hr7, hg7⟩
  have H7 := Lib.hid hr7
  have Ha7 := Lib.hid (Ha6.out.kept hg7 (fun r e => by cases e; exact .inl hs0))
  have HB7 := Lib.hid (draw_below HB6.out hRR hg7)
  have hz7 := hg7.size
  clear hr7 hg7 H6 Ha6 HB6
  obtain ⟨t7, ht7⟩ : ∃ t, a7 / 19 = t := ⟨_, rfl⟩
  have b7 : 0 ≤ t7 ∧ t7 ≤ 1 := by omega
  have y7 : IntKind.i64.wrap t7 = t7 := IntWalk.i64_in _ (by omega)
  have q1 : IntKind.i64.wrap (x + a2) = x + a2 := IntWalk.i64_in _ (by omega)
  have q2 : IntKind.i64.wrap (x + a2 - t3) = x + a2 - t3 := IntWalk.i64_in _ (by omega)
  have q3 : IntKind.i64.wrap (a4 - t5) = a4 - t5 := IntWalk.i64_in _ (by omega)
  have q4 : IntKind.i64.wrap (1 + a6) = 1 + a6 := IntWalk.i64_in _ (by omega)
  have q5 : IntKind.i64.wrap (1 + a6 - t7) = 1 + a6 - t7 := IntWalk.i64_in _ (by omega)
  have Har := Lib.hid (ArgC.go (OwC.arg (Ha7.out.more (Nat.le_refl _) (show w1.heap.size ≤ w7.heap.size by omega)) (by omega) (Nat.le_refl _)) (Below.refl _ _))
  go_wp2
  refine bodyPost_ret (v := .tuple #[.slice B zs.length d, .int .i64 x, .int .i64 (x + a2 - t3), .int .i64 (a4 - t5), .int .i64 (1 + a6 - t7)]) (by simp [results, Try.results71, go_sem]) rfl ?_
  exact ⟨B, d, zs, x, _, _, _, rfl, hzl, ⟨hx0, hx1⟩, by omega, by omega, by omega, Har.out, HB7.out⟩

end Go.Proofs.Ytndpdoiomoefpaa
