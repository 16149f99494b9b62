/-
  The drawn floors with two points: l91Two, DrawFloorLength.
-/
import Derived.Test.YtndpdoiomoefpaaDraws0
namespace Go.Proofs.Ytndpdoiomoefpaa
open Go.RowKit

/-- a floor of at most 20 ints and two numbers from -1 to 40 -/
def RetTwo (R : Nat) (w : World) (e : Ending) (w' : World) : Prop :=
  ∃ B d zs x y, e = .returned (.tuple #[.slice B (zs : List Int).length d, .int .i64 x, .int .i64 y]) ∧ zs.length ≤ 20 ∧ -1 ≤ x ∧ x ≤ 40 ∧ -1 ≤ y ∧ y ≤ 40 ∧ Arg w' B d zs ∧ w.grownBy w' (some R)
theorem RetTwo.mk {R hi : Nat} {w w' : World} {B : Option Addr} {d : Nat} {zs : List Int} {x y : Int} (hl : zs.length ≤ 20) (h0 : -1 ≤ x) (h1 : x ≤ 40) (h2 : -1 ≤ y) (h3 : y ≤ 40) (ho : Ow 3 w.heap.size hi w' (.slice B zs.length d) zs) (hh : hi ≤ w'.heap.size) (hg : w.grownBy w' (some R)) :
    RetTwo R w (.returned (.tuple #[.slice B zs.length d, .int .i64 x, .int .i64 y])) w' := ⟨B, d, zs, x, y, rfl, hl, h0, h1, h2, h3, ho.arg (by omega) hh, hg⟩

set_option maxRecDepth 100000 in
set_option maxHeartbeats 4000000 in
theorem l91Two_c (R : Nat) (A : Option Addr) (n c p : Nat) (w : World) (h : Reader w R A n c p) (hRw : R < w.heap.size) (hp : p ≤ 40000) :
    Calls Try.prog 75 #[.pointer (some ⟨R, 0, none⟩)] w (RetTwo R w) := by
  have H0 := Lib.hid h
  clear h
  go_enter Try.func75, Try.ntmps75
  go_wp2_with fail
  refine (l91Floor_c R A n c p 7 _ H0.out hRw (by omega) (by omega) (by omega)).mono ?_
  rintro e w1 ⟨B, d, zs, q, rfl, hzl, _, ho1, hr1, hq, hg1⟩
  have s1 := hg1.size
  have HO1 := Lib.hid ho1
  have HR1 := Lib.hid hr1
  have HG1 := Lib.hid hg1
  clear ho1 hr1 hg1 H0
  by_cases hz : (1 : Int) < (zs.length : Int)
  · go_wp2_with fail
    refine (pick_c R A n c q (zs.length : Int) _ HR1.out (by omega) (by omega) (by omega)).mono ?_
    rintro e w2 ⟨f, rfl, f0, f1, hr2, hg2⟩
    have s2 := hg2.size
    have HO2 := Lib.hid (HO1.out.kept hg2 (fun r e => by cases e; exact .inl hRw))
    have HR2 := Lib.hid hr2
    have HG2 := Lib.hid (grown_then HG1.out hg2)
    clear hr2 hg2 HO1 HR1 HG1
    go_wp2_with fail
    refine (pick_c R A n c (q + 1) 16 _ HR2.out (by omega) (by omega) (by omega)).mono ?_
    rintro e w3 ⟨k, rfl, k0, k1, hr3, hg3⟩
    have s3 := hg3.size
    have HO3 := Lib.hid (HO2.out.kept hg3 (fun r e => by cases e; exact .inl hRw))
    have HR3 := Lib.hid hr3
    have HG3 := Lib.hid (grown_then HG2.out hg3)
    clear hr3 hg3 HO2 HR2 HG2
    obtain rfl | hk0 := Classical.em (k = 0)
    · go_wp2
      go_ret3
      exact RetTwo.mk hzl (by omega) (by omega) (by omega) (by omega) HO3.out (by omega) HG3.out
    · have b0 : (k == 0) = false := by simpa using hk0
      obtain rfl | hk1 := Classical.em (k = 1)
      · go_wp2
        go_ret3
        exact RetTwo.mk hzl (by omega) (by omega) (by omega) (by omega) HO3.out (by omega) HG3.out
      · have b1 : (k == 1) = false := by simpa using hk1
        obtain rfl | hk2 := Classical.em (k = 2)
        · go_wp2
          go_ret3
          exact RetTwo.mk hzl (by omega) (by omega) (by omega) (by omega) HO3.out (by omega) HG3.out
        · have b2 : (k == 2) = false := by simpa using hk2
          go_wp2_with fail
          refine (pick_c R A n c (q + 1 + 1) ((zs.length : Int) - f) _ HR3.out (by omega) (by omega) (by omega)).mono ?_
          rintro e w4 ⟨g, rfl, g0, g1, hr4, hg4⟩
          have s4 := hg4.size
          have HO4 := Lib.hid (HO3.out.kept hg4 (fun r e => by cases e; exact .inl hRw))
          have HG4 := Lib.hid (grown_then HG3.out hg4)
          clear hr4 hg4
          go_wp2
          go_ret3
          exact RetTwo.mk hzl (by omega) (by omega) (by omega) (by omega) HO4.out (by omega) HG4.out
  · have hz0 : (zs.length : Int) ≤ 1 := by omega
    have hz9 : (zs.length : Int) = 1 ∨ (zs.length : Int) < 1 := by omega
    go_wp2_with fail
    refine (pick_c R A n c q 1 _ HR1.out (by omega) (by omega) (by omega)).mono ?_
    rintro e w2 ⟨f, rfl, f0, f1, hr2, hg2⟩
    have s2 := hg2.size
    have HO2 := Lib.hid (HO1.out.kept hg2 (fun r e => by cases e; exact .inl hRw))
    have HR2 := Lib.hid hr2
    have HG2 := Lib.hid (grown_then HG1.out hg2)
    clear hr2 hg2 HO1 HR1 HG1
    go_wp2_with fail
    refine (pick_c R A n c (q + 1) 16 _ HR2.out (by omega) (by omega) (by omega)).mono ?_
    rintro e w3 ⟨k, rfl, k0, k1, hr3, hg3⟩
    have s3 := hg3.size
    have HO3 := Lib.hid (HO2.out.kept hg3 (fun r e => by cases e; exact .inl hRw))
    have HR3 := Lib.hid hr3
    have HG3 := Lib.hid (grown_then HG2.out hg3)
    clear hr3 hg3 HO2 HR2 HG2
    obtain rfl | hk0 := Classical.em (k = 0)
    · go_wp2
      go_ret3
      exact RetTwo.mk hzl (by omega) (by omega) (by omega) (by omega) HO3.out (by omega) HG3.out
    · have b0 : (k == 0) = false := by simpa using hk0
      obtain rfl | hk1 := Classical.em (k = 1)
      · go_wp2
        go_ret3
        exact RetTwo.mk hzl (by omega) (by omega) (by omega) (by omega) HO3.out (by omega) HG3.out
      · have b1 : (k == 1) = false := by simpa using hk1
        obtain rfl | hk2 := Classical.em (k = 2)
        · go_wp2
          go_ret3
          exact RetTwo.mk hzl (by omega) (by omega) (by omega) (by omega) HO3.out (by omega) HG3.out
        · have b2 : (k == 2) = false := by simpa using hk2
          go_wp2_with fail
          refine (pick_c R A n c (q + 1 + 1) (1 - f) _ HR3.out (by omega) (by omega) (by omega)).mono ?_
          rintro e w4 ⟨g, rfl, g0, g1, hr4, hg4⟩
          have s4 := hg4.size
          have HO4 := Lib.hid (HO3.out.kept hg4 (fun r e => by cases e; exact .inl hRw))
          have HG4 := Lib.hid (grown_then HG3.out hg4)
          clear hr4 hg4
          go_wp2
          go_ret3
          exact RetTwo.mk hzl (by omega) (by omega) (by omega) (by omega) HO4.out (by omega) HG4.out
end Go.Proofs.Ytndpdoiomoefpaa
