/-
  PayLevel of the model.
-/
import Derived.Test.YtndpdoiomoefpaaSteep
namespace Go.Proofs.Ytndpdoiomoefpaa
open Go.RowKit

set_option maxRecDepth 100000 in
theorem specPayLevel_b (A : Option Addr) (c : Nat) (zs : List Int) (w : World) (ha : Arg w A c zs) :
    Calls Try.prog 43 #[.slice A zs.length c] w (RetB (.int .i64 (levelI zs)) w) := by
  have Ha := Lib.hid ha
  clear ha
  cases hv : validB zs
  · have Hd := Lib.hid (show levelI zs = -1 by unfold levelI; rw [hv]; rfl)
    have Hs := Lib.hid (show steepestI zs = -1 by unfold steepestI; rw [hv]; rfl)
    clear hv
    go_enter Try.func43, Try.ntmps43
    go_wp2_with fail
    refine (specFloorSteepest_b A c zs _ Ha.out).mono ?_
    rintro e w1 ⟨rfl, rb⟩
    rw [Hs.out]
    go_wp2
    go_ret
    exact ⟨by rw [Hd.out]; rfl, rb⟩
  · have hn := (validB_true hv).1
    have hl := needsL_length zs
    have hp := firstTo_prop (needsL zs) (needsL zs).length (by omega)
    obtain ⟨p, hpe⟩ : ∃ p, firstTo (needsL zs) (needsL zs).length = p := ⟨_, rfl⟩
    have Hd := Lib.hid (show levelI zs = needAt zs p by
      unfold levelI
      rw [hv, ← needsL_at (i := p) (by rw [← hpe]; omega), hpe]
      rfl)
    have Hs := Lib.hid (show steepestI zs = p by unfold steepestI; rw [hv, ← hpe]; rfl)
    have hpl : p + 1 < zs.length := by rw [← hpe]; omega
    have Hv := Lib.hid hv
    clear hv hl hpe hp
    go_enter Try.func43, Try.ntmps43
    go_wp2_with fail
    refine (specFloorSteepest_b A c zs _ Ha.out).mono ?_
    rintro e w1 ⟨rfl, rb⟩
    rw [Hs.out]
    have Ha1 := Lib.hid (Ha.out.go rb)
    have g0 : ¬ ((p : Int) < 0) := by omega
    go_wp2_with fail
    refine ((l1Need_c A c zs _ _ Ha1.out Hv.out (by omega) (by omega)).mono (fun _ _ h => h.toB)).mono ?_
    rintro e w2 ⟨rfl, hb2⟩
    rw [Int.toNat_natCast]
    go_wp2
    go_ret
    exact ⟨by rw [Hd.out]; rfl, below_step rb hb2⟩

end Go.Proofs.Ytndpdoiomoefpaa
