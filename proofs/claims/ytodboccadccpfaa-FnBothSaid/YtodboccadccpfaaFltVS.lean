/-
  FaultValid of the model.
-/
import Derived.Test.YtodboccadccpfaaFltV
import Derived.Test.YtodboccadccpfaaCabV
namespace Go.Proofs.Ytodboccadccpfaa
open Go.RowKit

theorem faultB_cab {ss : List Sec} (f : Flt) (h : cabB ss = false) : faultB ss f = false := faultB_no1 (by rw [milesI_no h]; exact inB_none _)

set_option maxRecDepth 100000 in
set_option maxHeartbeats 1000000 in
theorem specFaultValid_b (A : Option Addr) (c : Nat) (ss : List Sec) (f : Flt) (w : World) (ha : ArgC w A c ss) :
    Calls Try.prog 111 #[.slice A ss.length c, .agg #[.int .i64 f.m, .int .i64 f.o]] w (RetB (.bool (faultB ss f)) w) := by
  obtain ⟨wd, hwd⟩ : ∃ wd, wd = (w.alloc (.cells #[.int .i64 f.m, .int .i64 f.o] 44)).drew := ⟨_, rfl⟩
  have hT : TwoAt 44 wd w.heap.size f.m f.o := by rw [hwd]; exact TwoAt.new _ w f.m f.o
  have hB : Below w.heap.size w wd := by rw [hwd]; exact ((Below.refl _ _).alloc (Nat.le_refl _) _).drew
  have hs : wd.heap.size = w.heap.size + 1 := by rw [hwd]; show (w.alloc _).heap.size = _; simp
  have HA := Lib.hid (ha.go hB)
  have Hwd := Lib.hid hwd
  have HT := Lib.hid hT
  have HB := Lib.hid hB
  clear ha hwd hT hB
  cases h0 : cabB ss
  · have Hv := Lib.hid (faultB_cab f h0)
    have H0 := Lib.hid h0
    clear h0
    go_enter Try.func111, Try.ntmps111
    go_wp2
    first
      | go_region_with (first
          | (rw [← Hwd.out]; go_at_call 64; refine (specCableValid_c A c ss wd HA.out).mono ?_; rintro e w1 ⟨rfl, hb1⟩; rw [H0.out]; have Hb1 := Lib.hid (below_step HB.out hb1); clear hb1))
      | fail
    all_goals
      go_wp2
      go_ret
      exact ⟨by rw [Hv.out]; rfl, Hb1.out⟩
  have H0 := Lib.hid h0
  clear h0
  cases h1 : inB f.m 0 (milesI ss)
  · have Hv := Lib.hid (faultB_no1 h1)
    have H1 := Lib.hid h1
    clear h1
    go_enter Try.func111, Try.ntmps111
    go_wp2
    first
      | go_region_with (first
          | (rw [← Hwd.out]; go_at_call 64; refine (specCableValid_c A c ss wd HA.out).mono ?_; rintro e w1 ⟨rfl, hb1⟩; rw [H0.out]; have s1 := hb1.size; have HA1 := Lib.hid (HA.out.go hb1); have HT1 := Lib.hid (HT.out.below hb1 (by omega)); have k0 := HT1.out.c0; have k1 := HT1.out.c1; have Hb1 := Lib.hid (below_step HB.out hb1); clear hb1)
          | (go_at_call 65; refine (specCableMiles_b A c ss w1 HA1.out).mono ?_; rintro e w2 ⟨rfl, hb2⟩; have HT2 := Lib.hid (HT1.out.below hb2 (by omega)); have l0 := HT2.out.c0; have l1 := HT2.out.c1; have Hb2 := Lib.hid (below_step Hb1.out hb2); clear hb2)
          | (go_at_call 67; refine (l6In_c _ _ _ _).mono ?_; rintro e w3 ⟨rfl, rfl⟩; rw [H1.out]))
      | fail
    all_goals
      go_wp2
      go_ret
      exact ⟨by rw [Hv.out]; rfl, Hb2.out⟩
  · have H1 := Lib.hid h1
    cases h2 : inB f.o 0 1000
    all_goals
      have H2 := Lib.hid h2
      have Hv := Lib.hid (show faultB ss f = _ by first | exact faultB_no2 h2 | exact faultB_yes h1 h2)
      clear h1 h2
      go_enter Try.func111, Try.ntmps111
      go_wp2
      first
        | go_region_with (first
            | (rw [← Hwd.out]; go_at_call 64; refine (specCableValid_c A c ss wd HA.out).mono ?_; rintro e w1 ⟨rfl, hb1⟩; rw [H0.out]; have s1 := hb1.size; have HA1 := Lib.hid (HA.out.go hb1); have HT1 := Lib.hid (HT.out.below hb1 (by omega)); have k0 := HT1.out.c0; have k1 := HT1.out.c1; have Hb1 := Lib.hid (below_step HB.out hb1); clear hb1)
            | (go_at_call 65; refine (specCableMiles_b A c ss w1 HA1.out).mono ?_; rintro e w2 ⟨rfl, hb2⟩; have HT2 := Lib.hid (HT1.out.below hb2 (by omega)); have l0 := HT2.out.c0; have l1 := HT2.out.c1; have Hb2 := Lib.hid (below_step Hb1.out hb2); clear hb2)
            | (go_at_call 67; refine (l6In_c _ _ _ _).mono ?_; rintro e w3 ⟨rfl, rfl⟩; first | rw [H1.out] | rw [H2.out]))
        | fail
      all_goals
        go_wp2
        go_ret
        exact ⟨by rw [Hv.out]; rfl, Hb2.out⟩

end Go.Proofs.Ytodboccadccpfaa
