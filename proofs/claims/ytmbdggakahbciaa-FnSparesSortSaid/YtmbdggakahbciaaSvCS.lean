/-
  ServeCan of the model.
-/
import Derived.Test.YtmbdggakahbciaaSvM0
import Derived.Test.YtmbdggakahbciaaSvL
namespace Go.Proofs.Ytmbdggakahbciaa
open Go.RowKit

theorem specServeCan_b (A0 : Option Addr) (c0 : Nat) (z0 : List Spr) (A1 : Option Addr) (c1 : Nat) (z1 : List Spr) (w : World) (h0 : ArgZ w A0 c0 z0) (h1 : ArgZ w A1 c1 z1) :
    Calls Try.prog 25 #[.slice A0 z0.length c0, .slice A1 z1.length c1] w (RetB (.bool (serveB z0 z1)) w) := by
  have H0 := Lib.hid h0
  have H1 := Lib.hid h1
  clear h0 h1
  go_enter Try.func25, Try.ntmps25
  go_wp2_with fail
  refine (l4Both_c A0 c0 z0 A1 c1 z1 _ H0.out H1.out).mono ?_
  rintro e w1 ⟨rfl, hb1⟩
  have Hb1 := Lib.hid hb1
  replace H0 := Lib.hid (H0.out.go hb1)
  replace H1 := Lib.hid (H1.out.go hb1)
  clear hb1
  cases hv : bothB z0 z1
  · have Hv := Lib.hid hv
    clear hv
    go_wp2
    go_ret
    exact ⟨by rw [serveB_no Hv.out]; rfl, Hb1.out⟩
  have Hv := Lib.hid hv
  clear hv
  go_wp2_with fail
  refine (l4Least_c z0 z1 Hv.out A0 c0 A1 c1 z1.length [] (some ⟨w1.heap.size, 0, none⟩) 0 _ (by simp) (idx5_nil _) (H0.out.go ((Below.refl _ _).alloc (Nat.le_refl _) _)) (H1.out.go ((Below.refl _ _).alloc (Nat.le_refl _) _)) (arg_empty _ _ _ (by simp [maxLen]))).mono ?_
  rintro e w2 ⟨rfl, hb2⟩
  have Hb2 := Lib.hid (below_step ((Below.refl w1.heap.size w1).alloc (Nat.le_refl _) _) hb2)
  have Hc := Lib.hid (canB_lw Hv.out)
  clear hb2
  go_wp2
  go_ret
  exact ⟨by rw [← Hc.out]; rfl, below_step Hb1.out Hb2.out⟩

end Go.Proofs.Ytmbdggakahbciaa
