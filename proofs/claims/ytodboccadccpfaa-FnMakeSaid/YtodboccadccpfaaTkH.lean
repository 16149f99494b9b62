/-
  Every number of a list lies in a range: allInRange of the program.
-/
import Derived.Test.YtodboccadccpfaaTkH0
import Derived.Lib.Hide
namespace Go.Proofs.Ytodboccadccpfaa
open Go.RowKit

/-- every number of a list lies in a range -/
def allB (zs : List Int) (lo hi : Int) : Bool := zs.all fun z => inB z lo hi
theorem allB_true {zs : List Int} {lo hi : Int} : allB zs lo hi = true ↔ ∀ j, j < zs.length → lo ≤ zs[j]?.getD 0 ∧ zs[j]?.getD 0 ≤ hi := by
  unfold allB
  rw [List.all_eq_true]
  constructor
  · intro h j hj
    have := h zs[j] (List.getElem_mem hj)
    rw [inB_true] at this
    simpa [List.getElem?_eq_getElem hj] using this
  · intro h z hz
    obtain ⟨j, hj, rfl⟩ := List.mem_iff_getElem.1 hz
    rw [inB_true]
    simpa [List.getElem?_eq_getElem hj] using h j hj
/-- the first k numbers lie in the range -/
def allTo (zs : List Int) (lo hi : Int) (k : Nat) : Prop := ∀ j, j < k → lo ≤ zs[j]?.getD 0 ∧ zs[j]?.getD 0 ≤ hi
theorem allTo_zero (zs : List Int) (lo hi : Int) : allTo zs lo hi 0 := fun j hj => absurd hj (by omega)
theorem allTo_succ {zs : List Int} {lo hi : Int} {k : Nat} (h : allTo zs lo hi k) (hk : lo ≤ zs[k]?.getD 0 ∧ zs[k]?.getD 0 ≤ hi) : allTo zs lo hi (k + 1) := fun j hj => by
  rcases Nat.lt_or_ge j k with h1 | h1
  · exact h j h1
  · obtain rfl : j = k := by omega
    exact hk
theorem allB_of_to {zs : List Int} {lo hi : Int} (h : allTo zs lo hi zs.length) : allB zs lo hi = true := allB_true.2 h
theorem allB_not {zs : List Int} {lo hi : Int} {k : Nat} (hk : k < zs.length) (h : inB (zs[k]?.getD 0) lo hi = false) : allB zs lo hi = false := by
  rw [Bool.eq_false_iff]
  intro h2
  have := allB_true.1 h2 k hk
  rw [inB_false] at h
  omega

set_option maxRecDepth 100000 in
set_option maxHeartbeats 400000 in
theorem allInRange_c (A : Option Addr) (c : Nat) (zs : List Int) (lo hi : Int) (w : World) (ha : Arg w A c zs) :
    Calls Try.prog 135 #[.slice A zs.length c, .int .i64 lo, .int .i64 hi] w fun e w' => e = .returned (.bool (allB zs lo hi)) ∧ w = w' := by
  obtain ⟨hl, _, _, hr⟩ := ha
  go_enter Try.func135, Try.ntmps135
  go_wp2
  go_loop [11] (fun i => ∃ k : Nat, k ≤ zs.length ∧ allTo zs lo hi k ∧ i = .int .i64 k) (fun i => zs.length - (intOf i).toNat)
  case atStart => exact ⟨0, Nat.zero_le _, allTo_zero _ _ _, rfl⟩
  case round =>
    obtain ⟨k, hk, ha, rfl⟩ := hrel
    have Ha := Lib.hid ha
    clear ha
    by_cases hlt : k < zs.length
    · obtain ⟨b, off, rfl, _, _, hc⟩ := hr.at_ hlt
      have Hr := Lib.hid hr
      clear hr
      have e0 : zs[k]?.getD 0 = zs[k] := by simp [hlt]
      rw [e0] at hc
      have E0 := Lib.hid e0
      clear e0
      cases hin : inB zs[k] lo hi
      all_goals
        have hin2 := Lib.hid hin
        go_wp2_with (go_at_call 56; refine (inRange_c _ _ _ _).mono ?_; rintro e w' ⟨rfl, rfl⟩)
      · go_ret
        exact ⟨by rw [allB_not hlt (by rw [E0.out]; exact hin2.out)]; rfl, rfl⟩
      · go_round
        case rel => exact ⟨k + 1, by omega, allTo_succ Ha.out (by rw [E0.out]; exact inB_true.1 hin2.out), by go_num⟩
        case measure => simp [intOf]; omega
    · obtain rfl : k = zs.length := by omega
      go_wp2
      go_ret
      exact ⟨by rw [allB_of_to Ha.out]; rfl, rfl⟩

end Go.Proofs.Ytodboccadccpfaa
