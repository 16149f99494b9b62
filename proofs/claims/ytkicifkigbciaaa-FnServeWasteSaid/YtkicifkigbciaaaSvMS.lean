/-
  ServeMany and ServeCan of the model.
-/
import Derived.Test.YtkicifkigbciaaaSvL
namespace Go.Proofs.Ytkicifkigbciaaa
open Go.RowKit

theorem arg_empty (W : World) (A : Option Addr) (c : Nat) (hc : c ≤ maxLen) : Arg W A c [] := ⟨by simp, by simp, hc, Rd.nil⟩
theorem manyZ_no {L Nd : List Spr} (h : bothB L Nd = false) : manyZ L Nd = -1 := by unfold manyZ; rw [h]; rfl
theorem manyZ_yes {L Nd : List Spr} (h : bothB L Nd = true) : manyZ L Nd = ((fromS L Nd []).length : Int) := by unfold manyZ; rw [h, allS_from]; rfl
theorem serveB_no {L Nd : List Spr} (h : bothB L Nd = false) : serveB L Nd = false := by unfold serveB serveG; rw [h]; rfl
theorem idx5_nil (n : Nat) : idx5 n [] := fun j hj => by simp at hj

theorem specServeMany_b (A0 : Option Addr) (c0 : Nat) (z0 : List Spr) (A1 : Option Addr) (c1 : Nat) (z1 : List Spr) (w : World) (h0 : ArgZ w A0 c0 z0) (h1 : ArgZ w A1 c1 z1) :
    Calls Try.prog 29 #[.slice A0 z0.length c0, .slice A1 z1.length c1] w (RetB (.int .i64 (manyZ z0 z1)) w) := by
  have H0 := Lib.hid h0
  have H1 := Lib.hid h1
  clear h0 h1
  go_enter Try.func29, Try.ntmps29
  go_wp2_with fail
  refine (l4Both_c A0 c0 z0 A1 c1 z1 _ H0.out H1.out).mono ?_
  rintro e w1 ⟨rfl, hb1⟩
  have Hb1 := Lib.hid hb1
  replace H0 := Lib.hid (H0.out.go hb1)
  replace H1 := Lib.hid (H1.out.go hb1)
  clear hb1
  cases hv : bothB z0 z1
  · have Hv := Lib.hid hv
    clear hv
    go_wp2
    go_ret
    exact ⟨by rw [manyZ_no Hv.out]; rfl, Hb1.out⟩
  have Hv := Lib.hid hv
  clear hv
  go_wp2_with fail
  refine (l4Many_c z0 z1 Hv.out A0 c0 A1 c1 z1.length [] (some ⟨w1.heap.size, 0, none⟩) 0 _ (by simp) (idx5_nil _) (H0.out.go ((Below.refl _ _).alloc (Nat.le_refl _) _)) (H1.out.go ((Below.refl _ _).alloc (Nat.le_refl _) _)) (arg_empty _ _ _ (by simp [maxLen]))).mono ?_
  rintro e w2 ⟨rfl, hb2⟩
  have Hb2 := Lib.hid (below_step ((Below.refl w1.heap.size w1).alloc (Nat.le_refl _) _) hb2)
  clear hb2
  go_wp2
  go_ret
  exact ⟨by rw [manyZ_yes Hv.out]; rfl, below_step Hb1.out Hb2.out⟩

theorem specServeCan_b (A0 : Option Addr) (c0 : Nat) (z0 : List Spr) (A1 : Option Addr) (c1 : Nat) (z1 : List Spr) (w : World) (h0 : ArgZ w A0 c0 z0) (h1 : ArgZ w A1 c1 z1) :
    Calls Try.prog 50 #[.slice A0 z0.length c0, .slice A1 z1.length c1] w (RetB (.bool (serveB z0 z1)) w) := by
  have H0 := Lib.hid h0
  have H1 := Lib.hid h1
  clear h0 h1
  go_enter Try.func50, Try.ntmps50
  go_wp2_with fail
  refine (l4Both_c A0 c0 z0 A1 c1 z1 _ H0.out H1.out).mono ?_
  rintro e w1 ⟨rfl, hb1⟩
  have Hb1 := Lib.hid hb1
  replace H0 := Lib.hid (H0.out.go hb1)
  replace H1 := Lib.hid (H1.out.go hb1)
  clear hb1
  cases hv : bothB z0 z1
  · have Hv := Lib.hid hv
    clear hv
    go_wp2
    go_ret
    exact ⟨by rw [serveB_no Hv.out]; rfl, Hb1.out⟩
  have Hv := Lib.hid hv
  clear hv
  go_wp2_with fail
  refine (l4Least_c z0 z1 Hv.out A0 c0 A1 c1 z1.length [] (some ⟨w1.heap.size, 0, none⟩) 0 _ (by simp) (idx5_nil _) (H0.out.go ((Below.refl _ _).alloc (Nat.le_refl _) _)) (H1.out.go ((Below.refl _ _).alloc (Nat.le_refl _) _)) (arg_empty _ _ _ (by simp [maxLen]))).mono ?_
  rintro e w2 ⟨rfl, hb2⟩
  have Hb2 := Lib.hid (below_step ((Below.refl w1.heap.size w1).alloc (Nat.le_refl _) _) hb2)
  have Hc := Lib.hid (canB_lw Hv.out)
  clear hb2
  go_wp2
  go_ret
  exact ⟨by rw [← Hc.out]; rfl, below_step Hb1.out Hb2.out⟩

end Go.Proofs.Ytkicifkigbciaaa
