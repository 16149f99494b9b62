/-
  FloorSteepest and PayLevel of both.
-/
import Derived.Test.YtpkcfdbgndpkeaaFirst
import Derived.Test.YtpkcfdbgndpkeaaFFloorNeeds
namespace Go.Proofs.Ytpkcfdbgndpkeaa
open Go.RowKit

theorem needsL_at {zs : List Int} {i : Nat} (h : i + 1 < zs.length) : at0 (needsL zs) i = needAt zs i := by
  have : i < zs.length - 1 := by omega
  simp [at0, needsL, needsTo, this]
def steepestI (zs : List Int) : Int := if validB zs then firstTo (needsL zs) (needsL zs).length else -1
def levelI (zs : List Int) : Int := if validB zs then at0 (needsL zs) (firstTo (needsL zs) (needsL zs).length) else -1
theorem floorNeedsL_yes {zs : List Int} (h : validB zs = true) : floorNeedsL zs = needsL zs := by unfold floorNeedsL; rw [h]; rfl

theorem implFloorSteepest_b (A : Option Addr) (c : Nat) (zs : List Int) (w : World) (ha : Arg w A c zs) :
    Calls Try.prog 29 #[.slice A zs.length c] w (RetB (.int .i64 (steepestI zs)) w) := by
  have Ha := Lib.hid ha
  clear ha
  cases hv : validB zs
  · have Hd := Lib.hid (show steepestI zs = -1 by unfold steepestI; rw [hv]; rfl)
    have Hv := Lib.hid hv
    clear hv
    go_enter Try.func29, Try.ntmps29
    go_wp2_with fail
    refine (implFloorNeeds_b A c zs _ Ha.out).mono ?_
    rintro e w1 ⟨B, d, rfl, ra, ro, rb⟩
    dsimp only
    rw [Hv.out]
    clear ra ro
    go_wp2
    go_ret
    exact ⟨by rw [Hd.out]; rfl, rb⟩
  · have Hd := Lib.hid (show steepestI zs = firstTo (needsL zs) (needsL zs).length by unfold steepestI; rw [hv]; rfl)
    have hn := (validB_true hv).1
    have hl := needsL_length zs
    have Hv := Lib.hid hv
    have Hp := Lib.hid (firstTo_prop (needsL zs) (needsL zs).length (by omega))
    have Hl := Lib.hid hl
    have Hq := Lib.hid (floorNeedsL_yes hv)
    clear hv hl
    go_enter Try.func29, Try.ntmps29
    go_wp2_with fail
    refine (implFloorNeeds_b A c zs _ Ha.out).mono ?_
    rintro e w1 ⟨B, d, rfl, ra, ro, rb⟩
    dsimp only
    rw [Hv.out]
    rw [Hq.out] at ra ⊢
    have Ra := Lib.hid ra
    clear ra ro
    go_wp2_with fail
    refine (max_c B d (needsL zs) _ Ra.out (by rw [Hl.out]; omega)).mono ?_
    rintro e w' ⟨rfl, rfl⟩
    go_wp2_with fail
    refine (index_c B d (needsL zs) _ _ Ra.out Hp.out.1 Hp.out.2.2).mono ?_
    rintro e w' ⟨rfl, rfl⟩
    go_wp2
    go_ret
    exact ⟨by rw [Hd.out]; rfl, rb⟩

theorem specFloorSteepest_b (A : Option Addr) (c : Nat) (zs : List Int) (w : World) (ha : Arg w A c zs) :
    Calls Try.prog 30 #[.slice A zs.length c] w (RetB (.int .i64 (steepestI zs)) w) := by
  have Ha := Lib.hid ha
  clear ha
  cases hv : validB zs
  · have Hd := Lib.hid (show steepestI zs = -1 by unfold steepestI; rw [hv]; rfl)
    have Hv := Lib.hid hv
    clear hv
    go_enter Try.func30, Try.ntmps30
    go_wp2_with fail
    refine (specFloorNeeds_b A c zs _ Ha.out).mono ?_
    rintro e w1 ⟨B, d, rfl, ra, ro, rb⟩
    dsimp only
    rw [Hv.out]
    clear ra ro
    go_wp2
    go_ret
    exact ⟨by rw [Hd.out]; rfl, rb⟩
  · have Hd := Lib.hid (show steepestI zs = firstTo (needsL zs) (needsL zs).length by unfold steepestI; rw [hv]; rfl)
    have Hv := Lib.hid hv
    have Hq := Lib.hid (floorNeedsL_yes hv)
    clear hv
    go_enter Try.func30, Try.ntmps30
    go_wp2_with fail
    refine (specFloorNeeds_b A c zs _ Ha.out).mono ?_
    rintro e w1 ⟨B, d, rfl, ra, ro, rb⟩
    dsimp only
    rw [Hv.out]
    rw [Hq.out] at ra ⊢
    have Ra := Lib.hid ra
    clear ra ro
    go_wp2_with fail
    refine ((l1First_c B d (needsL zs) _ Ra.out).mono (fun _ _ h => h.toB)).mono ?_
    rintro e w' ⟨rfl, hb⟩
    go_wp2
    go_ret
    exact ⟨by rw [Hd.out]; rfl, below_step rb hb⟩

theorem implPayLevel_b (A : Option Addr) (c : Nat) (zs : List Int) (w : World) (ha : Arg w A c zs) :
    Calls Try.prog 31 #[.slice A zs.length c] w (RetB (.int .i64 (levelI zs)) w) := by
  have Ha := Lib.hid ha
  clear ha
  cases hv : validB zs
  · have Hd := Lib.hid (show levelI zs = -1 by unfold levelI; rw [hv]; rfl)
    have Hv := Lib.hid hv
    clear hv
    go_enter Try.func31, Try.ntmps31
    go_wp2_with fail
    refine (implFloorNeeds_b A c zs _ Ha.out).mono ?_
    rintro e w1 ⟨B, d, rfl, ra, ro, rb⟩
    dsimp only
    rw [Hv.out]
    clear ra ro
    go_wp2
    go_ret
    exact ⟨by rw [Hd.out]; rfl, rb⟩
  · have Hd := Lib.hid (show levelI zs = at0 (needsL zs) (firstTo (needsL zs) (needsL zs).length) by unfold levelI; rw [hv]; rfl)
    have hn := (validB_true hv).1
    have hl := needsL_length zs
    have Hv := Lib.hid hv
    have Hl := Lib.hid hl
    have Hq := Lib.hid (floorNeedsL_yes hv)
    clear hv hl
    go_enter Try.func31, Try.ntmps31
    go_wp2_with fail
    refine (implFloorNeeds_b A c zs _ Ha.out).mono ?_
    rintro e w1 ⟨B, d, rfl, ra, ro, rb⟩
    dsimp only
    rw [Hv.out]
    rw [Hq.out] at ra ⊢
    have Ra := Lib.hid ra
    clear ra ro
    go_wp2_with fail
    refine (max_c B d (needsL zs) _ Ra.out (by rw [Hl.out]; omega)).mono ?_
    rintro e w' ⟨rfl, rfl⟩
    go_wp2
    go_ret
    exact ⟨by rw [Hd.out]; rfl, rb⟩

end Go.Proofs.Ytpkcfdbgndpkeaa
