/-
  SignalBack of the program.
-/
import Derived.Test.YtgnolhikphoagaaDoorVaI
import Derived.Test.YtgnolhikphoagaaDoorSgY
namespace Go.Proofs.YtgnolhikphoagaaDoor
open Go.RowKit

theorem turnPulse_c (r : Nat) (w : World) : Calls Tryd.prog 47 #[.int .i32 r] w fun e w' => e = .returned (.int .i32 (turnF r)) ∧ w = w' := by
  by_cases h1 : (r : Int) = 45
  · have g1 : ((r : Int) == 45) = true := beq_iff_eq.2 h1
    have HV := Lib.hid (show turnF (r : Int) = 43 by unfold turnF; rw [if_pos h1])
    clear h1
    go_enter Tryd.func47, Tryd.ntmps47
    go_wp2
    go_ret
    exact ⟨by rw [HV.out]; rfl, rfl⟩
  have g1 : ((r : Int) == 45) = false := beq_eq_false_iff_ne.2 h1
  by_cases h2 : (r : Int) = 43
  · have g2 : ((r : Int) == 43) = true := beq_iff_eq.2 h2
    have HV := Lib.hid (show turnF (r : Int) = 45 by unfold turnF; rw [if_neg h1, if_pos h2])
    clear h1 h2
    go_enter Tryd.func47, Tryd.ntmps47
    go_wp2
    go_ret
    exact ⟨by rw [HV.out]; rfl, rfl⟩
  · have g2 : ((r : Int) == 43) = false := beq_eq_false_iff_ne.2 h2
    have HV := Lib.hid (show turnF (r : Int) = (r : Int) by unfold turnF; rw [if_neg h1, if_neg h2])
    clear h1 h2
    go_enter Tryd.func47, Tryd.ntmps47
    go_wp2
    go_ret
    exact ⟨by rw [HV.out]; rfl, rfl⟩
theorem turn_at (w : World) : MapAtRunes Tryd.prog 47 #[] turnF w := fun W x _ _ =>
  (turnPulse_c x W).mono fun e w' ⟨he, hw⟩ => ⟨he, 0, by rw [← hw]; rfl⟩

set_option maxHeartbeats 1000000 in
theorem implSignalBack_b (s : ByteArray) (w : World) (hs : s.size ≤ 1048576) (hT : Tab w) : Calls Tryd.prog 15 #[.string s] w (RetB (.tuple #[.string (str (tuV (byL s))), .bool (sigB (byL s))]) w) := by
  have HS := Lib.hid (fun w => implSignalValid_b s w hs)
  cases h1 : sigB (byL s)
  · have HV := Lib.hid (tuV_no h1)
    rw [h1] at HS
    clear h1 hT
    go_enter Tryd.func15, Tryd.ntmps15
    go_wp2_with fail
    refine (HS.out _).mono ?_
    rintro e w1 ⟨rfl, hb1⟩
    have Hb1 := Lib.hid hb1
    clear hb1
    go_wp2
    go_ret2
    exact ⟨by rw [HV.out]; rfl, Hb1.out⟩
  · have hm := map_turn (byL s) (by unfold sigB at h1; rw [Bool.and_eq_true] at h1; exact h1.2)
    rw [← tuV_yes h1] at hm
    have eg : ∀ args w, (callFunc 47 args).run Tryd.prog w = .ok (.enter 47 args) w := enters_of Tryd.func47 (by kernel_rfl) rfl
    have hc := fun w (hT : Tab w) => (show Calls Tryd.prog 46 #[.func (.func 47) #[] #[], .string s] w fun e w' => e = .returned (.string (str (Lib.mapD turnF (byL s)))) ∧ Below w.heap.size w w' from Tryd.strings_Map_runes 47 #[] eg turnF s w (by omega) (turn_at w) (fun x hx => turn_range x hx) hT.1)
    rw [hm] at hc
    have HC := Lib.hid hc
    have HTb := Lib.hid hT
    rw [h1] at HS
    clear h1 hm hc eg hT
    go_enter Tryd.func15, Tryd.ntmps15
    go_wp2_with fail
    refine (HS.out _).mono ?_
    rintro e w1 ⟨rfl, hb1⟩
    have HT1 := Lib.hid (HTb.out.go hb1)
    have Hb1 := Lib.hid hb1
    clear hb1
    go_wp2_with fail
    refine (HC.out _ HT1.out).mono ?_
    rintro e w2 ⟨rfl, hb2⟩
    have Hb2 := Lib.hid (below_step Hb1.out hb2)
    clear hb2
    go_wp2
    go_ret2
    exact ⟨rfl, Hb2.out⟩

end Go.Proofs.YtgnolhikphoagaaDoor
