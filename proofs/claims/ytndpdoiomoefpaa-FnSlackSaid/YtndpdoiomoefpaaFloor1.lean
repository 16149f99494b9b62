/-
  Contracts of the small functions of chapter 1 that only read: inRange, l6In, allInRange, FloorValid (both), PayValid (both).
-/
import Derived.Test.YtndpdoiomoefpaaMem
import Derived.Test.YtndpdoiomoefpaaProg
import Derived.Lib.Hide
namespace Go.Proofs.Ytndpdoiomoefpaa
open Go.RowKit

/-- a number in a range -/
def inB (n lo hi : Int) : Bool := decide (lo ≤ n) && decide (n ≤ hi)
theorem inB_true {n lo hi : Int} : inB n lo hi = true ↔ lo ≤ n ∧ n ≤ hi := by simp [inB]
theorem inB_false {n lo hi : Int} : inB n lo hi = false ↔ n < lo ∨ hi < n := by simp [inB]; omega

set_option maxRecDepth 100000 in
theorem inRange_c (a b c : Int) (w : World) : Calls Try.prog 94 #[.int .i64 a, .int .i64 b, .int .i64 c] w fun e w' => e = .returned (.bool (inB a b c)) ∧ w = w' := by
  unfold inB
  by_cases h1 : b ≤ a <;> by_cases h2 : a ≤ c
  all_goals
    go_enter Try.func94, Try.ntmps94
    go_wp2
    go_ret
    exact ⟨by simp [h1, h2], rfl⟩

set_option maxRecDepth 100000 in
theorem l6In_c (a b c : Int) (w : World) : Calls Try.prog 89 #[.int .i64 a, .int .i64 b, .int .i64 c] w fun e w' => e = .returned (.bool (inB a b c)) ∧ w = w' := by
  unfold inB
  by_cases h1 : b ≤ a <;> by_cases h2 : a ≤ c
  all_goals
    go_enter Try.func89, Try.ntmps89
    go_wp2
    go_ret
    exact ⟨by simp [h1, h2], rfl⟩

/-- every number of a list lies in a range -/
def allB (zs : List Int) (lo hi : Int) : Bool := zs.all fun z => inB z lo hi
theorem allB_true {zs : List Int} {lo hi : Int} : allB zs lo hi = true ↔ ∀ j, j < zs.length → lo ≤ zs[j]?.getD 0 ∧ zs[j]?.getD 0 ≤ hi := by
  unfold allB
  rw [List.all_eq_true]
  constructor
  · intro h j hj
    have := h zs[j] (List.getElem_mem hj)
    rw [inB_true] at this
    simpa [List.getElem?_eq_getElem hj] using this
  · intro h z hz
    obtain ⟨j, hj, rfl⟩ := List.mem_iff_getElem.1 hz
    rw [inB_true]
    simpa [List.getElem?_eq_getElem hj] using h j hj
/-- the first k numbers lie in the range -/
def allTo (zs : List Int) (lo hi : Int) (k : Nat) : Prop := ∀ j, j < k → lo ≤ zs[j]?.getD 0 ∧ zs[j]?.getD 0 ≤ hi
theorem allTo_zero (zs : List Int) (lo hi : Int) : allTo zs lo hi 0 := fun j hj => absurd hj (by omega)
theorem allTo_succ {zs : List Int} {lo hi : Int} {k : Nat} (h : allTo zs lo hi k) (hk : lo ≤ zs[k]?.getD 0 ∧ zs[k]?.getD 0 ≤ hi) : allTo zs lo hi (k + 1) := fun j hj => by
  rcases Nat.lt_or_ge j k with h1 | h1
  · exact h j h1
  · obtain rfl : j = k := by omega
    exact hk
theorem allB_of_to {zs : List Int} {lo hi : Int} (h : allTo zs lo hi zs.length) : allB zs lo hi = true := allB_true.2 h
theorem allB_not {zs : List Int} {lo hi : Int} {k : Nat} (hk : k < zs.length) (h : inB (zs[k]?.getD 0) lo hi = false) : allB zs lo hi = false := by
  rw [Bool.eq_false_iff]
  intro h2
  have := allB_true.1 h2 k hk
  rw [inB_false] at h
  omega

set_option maxRecDepth 100000 in
set_option maxHeartbeats 400000 in
theorem allInRange_c (A : Option Addr) (c : Nat) (zs : List Int) (lo hi : Int) (w : World) (ha : Arg w A c zs) :
    Calls Try.prog 88 #[.slice A zs.length c, .int .i64 lo, .int .i64 hi] w fun e w' => e = .returned (.bool (allB zs lo hi)) ∧ w = w' := by
  obtain ⟨hl, _, _, hr⟩ := ha
  go_enter Try.func88, Try.ntmps88
  go_wp2
  go_loop [11] (fun i => ∃ k : Nat, k ≤ zs.length ∧ allTo zs lo hi k ∧ i = .int .i64 k) (fun i => zs.length - (intOf i).toNat)
  case atStart => exact ⟨0, Nat.zero_le _, allTo_zero _ _ _, rfl⟩
  case round =>
    obtain ⟨k, hk, ha, rfl⟩ := hrel
    have Ha := Lib.hid ha
    clear ha
    by_cases hlt : k < zs.length
    · obtain ⟨b, off, rfl, _, _, hc⟩ := hr.at_ hlt
      have Hr := Lib.hid hr
      clear hr
      have e0 : zs[k]?.getD 0 = zs[k] := by simp [hlt]
      rw [e0] at hc
      have E0 := Lib.hid e0
      clear e0
      cases hin : inB zs[k] lo hi
      all_goals
        have hin2 := Lib.hid hin
        go_wp2_with (go_at_call 94; refine (inRange_c _ _ _ _).mono ?_; rintro e w' ⟨rfl, rfl⟩)
      · go_ret
        exact ⟨by rw [allB_not hlt (by rw [E0.out]; exact hin2.out)]; rfl, rfl⟩
      · go_round
        case rel => exact ⟨k + 1, by omega, allTo_succ Ha.out (by rw [E0.out]; exact inB_true.1 hin2.out), by go_num⟩
        case measure => simp [intOf]; omega
    · obtain rfl : k = zs.length := by omega
      go_wp2
      go_ret
      exact ⟨by rw [allB_of_to Ha.out]; rfl, rfl⟩

/-- A LIST IS A FLOOR. -/
def validB (zs : List Int) : Bool := inB zs.length 2 16 && allB zs 0 40
theorem validB_true {zs : List Int} (h : validB zs = true) : 2 ≤ zs.length ∧ zs.length ≤ 16 ∧ ∀ j, j < zs.length → 0 ≤ zs[j]?.getD 0 ∧ zs[j]?.getD 0 ≤ 40 := by
  unfold validB at h
  rw [Bool.and_eq_true, inB_true, allB_true] at h
  exact ⟨by omega, by omega, h.2⟩

set_option maxRecDepth 100000 in
set_option maxHeartbeats 400000 in
theorem implFloorValid_c (A : Option Addr) (c : Nat) (zs : List Int) (w : World) (ha : Arg w A c zs) :
    Calls Try.prog 77 #[.slice A zs.length c] w fun e w' => e = .returned (.bool (validB zs)) ∧ w = w' := by
  have HA := Lib.hid ha
  obtain ⟨hl, _, _, hr⟩ := ha
  unfold validB
  cases h1 : inB (zs.length : Int) 2 16
  all_goals
    have H1 := Lib.hid h1
    clear h1
    have Hr := Lib.hid hr
    clear hr
    go_enter Try.func77, Try.ntmps77
    go_wp2_with fail
    refine (inRange_c _ _ _ _).mono ?_
    rintro e w' ⟨rfl, rfl⟩
    rw [H1.out]
  · go_wp2
    go_ret
    exact ⟨by simp, rfl⟩
  · go_wp2_with fail
    refine (allInRange_c A c zs 0 40 _ HA.out).mono ?_
    rintro e w' ⟨rfl, rfl⟩
    go_wp2
    go_ret
    exact ⟨by simp, rfl⟩

set_option maxRecDepth 100000 in
set_option maxHeartbeats 400000 in
theorem specFloorValid_c (A : Option Addr) (c : Nat) (zs : List Int) (w : World) (ha : Arg w A c zs) :
    Calls Try.prog 85 #[.slice A zs.length c] w fun e w' => e = .returned (.bool (validB zs)) ∧ w = w' := by
  have HA := Lib.hid ha
  obtain ⟨hl, _, _, hr⟩ := ha
  go_enter Try.func85, Try.ntmps85
  go_wp2
  go_loop [3] (fun i => ∃ k : Nat, k ≤ zs.length ∧ allTo zs 0 40 k ∧ i = .int .i64 k) (fun i => zs.length - (intOf i).toNat)
  case atStart => exact ⟨0, Nat.zero_le _, allTo_zero _ _ _, rfl⟩
  case round =>
    obtain ⟨k, hk, ha, rfl⟩ := hrel
    have Ha := Lib.hid ha
    clear ha
    by_cases hlt : k < zs.length
    · obtain ⟨b, off, rfl, _, _, hc⟩ := hr.at_ hlt
      have Hr := Lib.hid hr
      clear hr
      have e0 : zs[k]?.getD 0 = zs[k] := by simp [hlt]
      rw [e0] at hc
      have E0 := Lib.hid e0
      clear e0
      cases hin : inB zs[k] 0 40
      all_goals
        have hin2 := Lib.hid hin
        go_wp2_with (go_at_call 89; refine (l6In_c _ _ _ _).mono ?_; rintro e w' ⟨rfl, rfl⟩)
      · go_ret
        exact ⟨by unfold validB; rw [allB_not hlt (by rw [E0.out]; exact hin2.out)]; simp, rfl⟩
      · go_round
        case rel => exact ⟨k + 1, by omega, allTo_succ Ha.out (by rw [E0.out]; exact inB_true.1 hin2.out), by go_num⟩
        case measure => simp [intOf]; omega
    · obtain rfl : k = zs.length := by omega
      go_wp2_with (go_at_call 89; refine (l6In_c _ _ _ _).mono ?_; rintro e w' ⟨rfl, rfl⟩)
      go_ret
      exact ⟨by unfold validB; rw [allB_of_to Ha.out]; simp, rfl⟩

end Go.Proofs.Ytndpdoiomoefpaa
