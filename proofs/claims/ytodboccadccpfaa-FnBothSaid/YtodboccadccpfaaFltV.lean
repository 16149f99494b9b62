/-
  FaultValid of both.
-/
import Derived.Test.YtodboccadccpfaaCAll
import Derived.Test.YtodboccadccpfaaRatio
import Derived.Deep.RegionWith
namespace Go.Proofs.Ytodboccadccpfaa
open Go.RowKit

/-- a list is a cable and a fault one of it -/
def faultB (ss : List Sec) (f : Flt) : Bool := inB f.m 0 (milesI ss) && inB f.o 0 1000
theorem faultB_no1 {ss : List Sec} {f : Flt} (h : inB f.m 0 (milesI ss) = false) : faultB ss f = false := by unfold faultB; rw [h]; rfl
theorem faultB_no2 {ss : List Sec} {f : Flt} (h : inB f.o 0 1000 = false) : faultB ss f = false := by unfold faultB; rw [h]; simp
theorem faultB_yes {ss : List Sec} {f : Flt} (h : inB f.m 0 (milesI ss) = true) (h2 : inB f.o 0 1000 = true) : faultB ss f = true := by unfold faultB; rw [h, h2]; rfl
theorem faultB_true {ss : List Sec} {f : Flt} (h : faultB ss f = true) : cabB ss = true ∧ (0 ≤ f.m ∧ f.m ≤ milesL ss) ∧ 0 ≤ f.o ∧ f.o ≤ 1000 := by
  unfold faultB at h
  rw [Bool.and_eq_true, inB_true, inB_true] at h
  cases hc : cabB ss
  · rw [milesI_no hc] at h
    omega
  · rw [milesI_yes hc] at h
    exact ⟨rfl, h⟩

set_option maxRecDepth 100000 in
set_option maxHeartbeats 1000000 in
theorem implFaultValid_b (A : Option Addr) (c : Nat) (ss : List Sec) (f : Flt) (w : World) (ha : ArgC w A c ss) :
    Calls Try.prog 107 #[.slice A ss.length c, .agg #[.int .i64 f.m, .int .i64 f.o]] w (RetB (.bool (faultB ss f)) w) := by
  obtain ⟨wd, hwd⟩ : ∃ wd, wd = (w.alloc (.cells #[.int .i64 f.m, .int .i64 f.o] 44)).drew := ⟨_, rfl⟩
  have hT : TwoAt 44 wd w.heap.size f.m f.o := by rw [hwd]; exact TwoAt.new _ w f.m f.o
  have hB : Below w.heap.size w wd := by rw [hwd]; exact ((Below.refl _ _).alloc (Nat.le_refl _) _).drew
  have hs : wd.heap.size = w.heap.size + 1 := by rw [hwd]; show (w.alloc _).heap.size = _; simp
  have HA := Lib.hid (ha.go hB)
  have Hwd := Lib.hid hwd
  have HT := Lib.hid hT
  have HB := Lib.hid hB
  clear ha hwd hT hB
  cases h1 : inB f.m 0 (milesI ss)
  · have Hv := Lib.hid (faultB_no1 h1)
    have H1 := Lib.hid h1
    clear h1
    go_enter Try.func107, Try.ntmps107
    go_wp2
    first
      | go_region_with (first
          | (rw [← Hwd.out]; go_at_call 24; refine (implCableMiles_b A c ss wd HA.out).mono ?_; rintro e w1 ⟨rfl, hb1⟩; have k0 := (HT.out.below hb1 (by omega)).c0; have k1 := (HT.out.below hb1 (by omega)).c1; have Hb1 := Lib.hid (below_step HB.out hb1); clear hb1)
          | (go_at_call 56; refine (inRange_c _ _ _ _).mono ?_; rintro e w2 ⟨rfl, rfl⟩; rw [H1.out]))
      | fail
    all_goals
      go_wp2
      go_ret
      exact ⟨by rw [Hv.out]; rfl, Hb1.out⟩
  · have H1 := Lib.hid h1
    cases h2 : inB f.o 0 1000
    all_goals
      have H2 := Lib.hid h2
      have Hv := Lib.hid (show faultB ss f = _ by first | exact faultB_no2 h2 | exact faultB_yes h1 h2)
      clear h1 h2
      go_enter Try.func107, Try.ntmps107
      go_wp2
      go_region_with (first
        | (rw [← Hwd.out]; go_at_call 24; refine (implCableMiles_b A c ss wd HA.out).mono ?_; rintro e w1 ⟨rfl, hb1⟩; have k0 := (HT.out.below hb1 (by omega)).c0; have k1 := (HT.out.below hb1 (by omega)).c1; have Hb1 := Lib.hid (below_step HB.out hb1); clear hb1)
        | (go_at_call 56; refine (inRange_c _ _ _ _).mono ?_; rintro e w2 ⟨rfl, rfl⟩; first | rw [H1.out] | rw [H2.out]))
      all_goals
        go_wp2
        go_ret
        exact ⟨by rw [Hv.out]; rfl, Hb1.out⟩

end Go.Proofs.Ytodboccadccpfaa
