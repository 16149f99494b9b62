/-
  FloorSteepest and PayLevel of both.
-/
import Derived.Test.YtndpdoiomoefpaaFirst
import Derived.Test.YtndpdoiomoefpaaFFloorNeeds
namespace Go.Proofs.Ytndpdoiomoefpaa
open Go.RowKit

theorem needsL_at {zs : List Int} {i : Nat} (h : i + 1 < zs.length) : at0 (needsL zs) i = needAt zs i := by
  have : i < zs.length - 1 := by omega
  simp [at0, needsL, needsTo, this]
def steepestI (zs : List Int) : Int := if validB zs then firstTo (needsL zs) (needsL zs).length else -1
def levelI (zs : List Int) : Int := if validB zs then at0 (needsL zs) (firstTo (needsL zs) (needsL zs).length) else -1
theorem floorNeedsL_yes {zs : List Int} (h : validB zs = true) : floorNeedsL zs = needsL zs := by unfold floorNeedsL; rw [h]; rfl

set_option maxRecDepth 100000 in
theorem specFloorSteepest_b (A : Option Addr) (c : Nat) (zs : List Int) (w : World) (ha : Arg w A c zs) :
    Calls Try.prog 92 #[.slice A zs.length c] w (RetB (.int .i64 (steepestI zs)) w) := by
  have Ha := Lib.hid ha
  clear ha
  cases hv : validB zs
  · have Hd := Lib.hid (show steepestI zs = -1 by unfold steepestI; rw [hv]; rfl)
    have Hv := Lib.hid hv
    clear hv
    go_enter Try.func92, Try.ntmps92
    go_wp2_with fail
    refine (specFloorNeeds_b A c zs _ Ha.out).mono ?_
    rintro e w1 ⟨B, d, rfl, ra, ro, rb⟩
    dsimp only
    rw [Hv.out]
    clear ra ro
    go_wp2
    go_ret
    exact ⟨by rw [Hd.out]; rfl, rb⟩
  · have Hd := Lib.hid (show steepestI zs = firstTo (needsL zs) (needsL zs).length by unfold steepestI; rw [hv]; rfl)
    have Hv := Lib.hid hv
    have Hq := Lib.hid (floorNeedsL_yes hv)
    clear hv
    go_enter Try.func92, Try.ntmps92
    go_wp2_with fail
    refine (specFloorNeeds_b A c zs _ Ha.out).mono ?_
    rintro e w1 ⟨B, d, rfl, ra, ro, rb⟩
    dsimp only
    rw [Hv.out]
    rw [Hq.out] at ra ⊢
    have Ra := Lib.hid ra
    clear ra ro
    go_wp2_with fail
    refine ((l1First_c B d (needsL zs) _ Ra.out).mono (fun _ _ h => h.toB)).mono ?_
    rintro e w' ⟨rfl, hb⟩
    go_wp2
    go_ret
    exact ⟨by rw [Hd.out]; rfl, below_step rb hb⟩

set_option maxRecDepth 100000 in
theorem implPayLevel_b (A : Option Addr) (c : Nat) (zs : List Int) (w : World) (ha : Arg w A c zs) :
    Calls Try.prog 42 #[.slice A zs.length c] w (RetB (.int .i64 (levelI zs)) w) := by
  have Ha := Lib.hid ha
  clear ha
  cases hv : validB zs
  · have Hd := Lib.hid (show levelI zs = -1 by unfold levelI; rw [hv]; rfl)
    have Hv := Lib.hid hv
    clear hv
    go_enter Try.func42, Try.ntmps42
    go_wp2_with fail
    refine (implFloorNeeds_b A c zs _ Ha.out).mono ?_
    rintro e w1 ⟨B, d, rfl, ra, ro, rb⟩
    dsimp only
    rw [Hv.out]
    clear ra ro
    go_wp2
    go_ret
    exact ⟨by rw [Hd.out]; rfl, rb⟩
  · have Hd := Lib.hid (show levelI zs = at0 (needsL zs) (firstTo (needsL zs) (needsL zs).length) by unfold levelI; rw [hv]; rfl)
    have hn := (validB_true hv).1
    have hl := needsL_length zs
    have Hv := Lib.hid hv
    have Hl := Lib.hid hl
    have Hq := Lib.hid (floorNeedsL_yes hv)
    clear hv hl
    go_enter Try.func42, Try.ntmps42
    go_wp2_with fail
    refine (implFloorNeeds_b A c zs _ Ha.out).mono ?_
    rintro e w1 ⟨B, d, rfl, ra, ro, rb⟩
    dsimp only
    rw [Hv.out]
    rw [Hq.out] at ra ⊢
    have Ra := Lib.hid ra
    clear ra ro
    go_wp2_with fail
    refine (max_c B d (needsL zs) _ Ra.out (by rw [Hl.out]; omega)).mono ?_
    rintro e w' ⟨rfl, rfl⟩
    go_wp2
    go_ret
    exact ⟨by rw [Hd.out]; rfl, rb⟩

end Go.Proofs.Ytndpdoiomoefpaa
