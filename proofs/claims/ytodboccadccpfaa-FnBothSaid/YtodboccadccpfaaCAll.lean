/-
  CableAll of the model.
-/
import Derived.Test.YtodboccadccpfaaCMiles
namespace Go.Proofs.Ytodboccadccpfaa
open Go.RowKit

theorem ohmsI_miles (ss : List Sec) : ohmsI ss (milesI ss) = allI ss := by
  cases hv : cabB ss
  · rw [ohmsI_no hv, allI_no hv]
  · have hm := cab_miles hv
    rw [milesI_yes hv, allI_yes hv, ohmsI_in hv (inB_true.2 (by omega)), ohmsTo_all (cab_small hv)]

set_option maxRecDepth 100000 in
theorem specCableAll_b (A : Option Addr) (c : Nat) (ss : List Sec) (w : World) (ha : ArgC w A c ss) :
    Calls Try.prog 133 #[.slice A ss.length c] w (RetB (.int .i64 (allI ss)) w) := by
  have HA := Lib.hid ha
  have Hm := Lib.hid (ohmsI_miles ss)
  clear ha
  go_enter Try.func133, Try.ntmps133
  go_wp2_with fail
  refine (specCableMiles_b A c ss _ HA.out).mono ?_
  rintro e w1 ⟨rfl, hb⟩
  have Hb := Lib.hid hb
  have HA1 := Lib.hid (HA.out.go hb)
  clear hb
  go_wp2_with fail
  refine (specCableOhms_b A c ss (milesI ss) _ HA1.out).mono ?_
  rintro e w2 ⟨rfl, hb⟩
  have Hb2 := Lib.hid (below_step Hb.out hb)
  clear hb
  go_wp2
  go_ret
  exact ⟨by rw [← Hm.out]; rfl, Hb2.out⟩

end Go.Proofs.Ytodboccadccpfaa
