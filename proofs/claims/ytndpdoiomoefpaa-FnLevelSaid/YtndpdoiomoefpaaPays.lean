/-
  PayValid of both.
-/
import Derived.Test.YtndpdoiomoefpaaNeed
namespace Go.Proofs.Ytndpdoiomoefpaa
open Go.RowKit

/-- a list is a pay-out of a floor -/
def payB (zs ps : List Int) : Bool := validB zs && decide (ps.length = zs.length - 1) && allB ps 0 60
theorem payB_true {zs ps : List Int} (h : payB zs ps = true) : validB zs = true ∧ ps.length = zs.length - 1 ∧ allB ps 0 60 = true := by
  simp only [payB, Bool.and_eq_true, decide_eq_true_eq] at h
  exact ⟨h.1.1, h.1.2, h.2⟩

set_option maxRecDepth 100000 in
set_option maxHeartbeats 400000 in
theorem implPayValid_c (A : Option Addr) (c : Nat) (zs : List Int) (B : Option Addr) (d : Nat) (ps : List Int) (w : World) (ha : Arg w A c zs) (hb : Arg w B d ps) :
    Calls Try.prog 33 #[.slice A zs.length c, .slice B ps.length d] w fun e w' => e = .returned (.bool (payB zs ps)) ∧ w = w' := by
  have hl := ha.len
  have hl2 := hb.len
  have Ha := Lib.hid ha
  have Hb := Lib.hid hb
  clear ha hb
  cases hv : validB zs
  · have Hp := Lib.hid (show payB zs ps = false by unfold payB; rw [hv]; rfl)
    have Hv := Lib.hid hv
    clear hv
    go_enter Try.func33, Try.ntmps33
    go_wp2_with fail
    refine (implFloorValid_c A c zs _ Ha.out).mono ?_
    rintro e w' ⟨rfl, rfl⟩
    rw [Hv.out]
    go_wp2
    go_ret
    exact ⟨by rw [Hp.out]; rfl, rfl⟩
  · have hn := (validB_true hv).1
    by_cases hlen : ps.length = zs.length - 1
    · have Hp := Lib.hid (show payB zs ps = allB ps 0 60 by unfold payB; rw [hv, hlen]; simp)
      have Hv := Lib.hid hv
      have hq : ((ps.length : Int) == (zs.length : Int) - 1) = true := by rw [beq_iff_eq]; omega
      clear hv hlen
      go_enter Try.func33, Try.ntmps33
      go_wp2_with fail
      refine (implFloorValid_c A c zs _ Ha.out).mono ?_
      rintro e w' ⟨rfl, rfl⟩
      rw [Hv.out]
      go_wp2_with fail
      refine (allInRange_c B d ps 0 60 _ Hb.out).mono ?_
      rintro e w' ⟨rfl, rfl⟩
      go_wp2
      go_ret
      exact ⟨by rw [Hp.out]; simp, rfl⟩
    · have Hp := Lib.hid (show payB zs ps = false by unfold payB; rw [hv, decide_eq_false hlen]; rfl)
      have Hv := Lib.hid hv
      have hq : ((ps.length : Int) == (zs.length : Int) - 1) = false := by rw [beq_eq_false_iff_ne]; omega
      clear hv hlen
      go_enter Try.func33, Try.ntmps33
      go_wp2_with fail
      refine (implFloorValid_c A c zs _ Ha.out).mono ?_
      rintro e w' ⟨rfl, rfl⟩
      rw [Hv.out]
      go_wp2
      go_ret
      exact ⟨by rw [Hp.out]; rfl, rfl⟩

set_option maxRecDepth 100000 in
set_option maxHeartbeats 400000 in
theorem specPayValid_c (A : Option Addr) (c : Nat) (zs : List Int) (B : Option Addr) (d : Nat) (ps : List Int) (w : World) (ha : Arg w A c zs) (hb : Arg w B d ps) :
    Calls Try.prog 34 #[.slice A zs.length c, .slice B ps.length d] w fun e w' => e = .returned (.bool (payB zs ps)) ∧ w = w' := by
  have hl := ha.len
  have hl2 := hb.len
  have hr := hb.rd
  have Ha := Lib.hid ha
  clear ha hb
  go_enter Try.func34, Try.ntmps34
  go_wp2
  go_loop [5] (fun i => ∃ k : Nat, k ≤ ps.length ∧ allTo ps 0 60 k ∧ i = .int .i64 k) (fun i => ps.length - (intOf i).toNat)
  case atStart => exact ⟨0, Nat.zero_le _, allTo_zero _ _ _, rfl⟩
  case round =>
    obtain ⟨k, hk, ha, rfl⟩ := hrel
    have Hto := Lib.hid ha
    clear ha
    by_cases hlt : k < ps.length
    · obtain ⟨b, off, rfl, _, _, hc⟩ := hr.at_ hlt
      have Hr := Lib.hid hr
      clear hr
      have e0 : ps[k]?.getD 0 = ps[k] := by simp [hlt]
      rw [e0] at hc
      have E0 := Lib.hid e0
      clear e0
      cases hin : inB ps[k] 0 60
      all_goals
        have hin2 := Lib.hid hin
        go_wp2_with (go_at_call 89; refine (l6In_c _ _ _ _).mono ?_; rintro e w' ⟨rfl, rfl⟩)
      · have hp : payB zs ps = false := by unfold payB; rw [allB_not hlt (by rw [E0.out]; exact hin2.out)]; simp
        go_ret
        exact ⟨by rw [hp]; rfl, rfl⟩
      · go_round
        case rel => exact ⟨k + 1, by omega, allTo_succ Hto.out (by rw [E0.out]; exact inB_true.1 hin2.out), by go_num⟩
        case measure => simp [intOf]; omega
    · obtain rfl : k = ps.length := by omega
      have hall := allB_of_to Hto.out
      cases hv : validB zs
      · have Hp := Lib.hid (show payB zs ps = false by unfold payB; rw [hv]; rfl)
        have Hv := Lib.hid hv
        clear hv hall
        go_wp2_with fail
        refine (specFloorValid_c A c zs _ Ha.out).mono ?_
        rintro e w' ⟨rfl, rfl⟩
        rw [Hv.out]
        go_wp2
        go_ret
        exact ⟨by rw [Hp.out]; rfl, rfl⟩
      · have hn := (validB_true hv).1
        by_cases hlen : ps.length = zs.length - 1
        · have Hp := Lib.hid (show payB zs ps = true by unfold payB; rw [hv, hall, hlen]; simp)
          have Hv := Lib.hid hv
          have hq : ((ps.length : Int) == (zs.length : Int) - 1) = true := by rw [beq_iff_eq]; omega
          clear hv hlen hall
          go_wp2_with fail
          refine (specFloorValid_c A c zs _ Ha.out).mono ?_
          rintro e w' ⟨rfl, rfl⟩
          rw [Hv.out]
          go_wp2
          go_ret
          exact ⟨by rw [Hp.out]; rfl, rfl⟩
        · have Hp := Lib.hid (show payB zs ps = false by unfold payB; rw [hv, decide_eq_false hlen]; rfl)
          have Hv := Lib.hid hv
          have hq : ((ps.length : Int) == (zs.length : Int) - 1) = false := by rw [beq_eq_false_iff_ne]; omega
          clear hv hlen hall
          go_wp2_with fail
          refine (specFloorValid_c A c zs _ Ha.out).mono ?_
          rintro e w' ⟨rfl, rfl⟩
          rw [Hv.out]
          go_wp2
          go_ret
          exact ⟨by rw [Hp.out]; rfl, rfl⟩

theorem implPayValid_b (A : Option Addr) (c : Nat) (zs : List Int) (B : Option Addr) (d : Nat) (ps : List Int) (w : World) (ha : Arg w A c zs) (hb : Arg w B d ps) :
    Calls Try.prog 33 #[.slice A zs.length c, .slice B ps.length d] w (RetB (.bool (payB zs ps)) w) := (implPayValid_c A c zs B d ps w ha hb).mono fun _ _ h => RetB.same h
theorem specPayValid_b (A : Option Addr) (c : Nat) (zs : List Int) (B : Option Addr) (d : Nat) (ps : List Int) (w : World) (ha : Arg w A c zs) (hb : Arg w B d ps) :
    Calls Try.prog 34 #[.slice A zs.length c, .slice B ps.length d] w (RetB (.bool (payB zs ps)) w) := (specPayValid_c A c zs B d ps w ha hb).mono fun _ _ h => RetB.same h

end Go.Proofs.Ytndpdoiomoefpaa
