/-
  timeEnough and PlanValid of the program, l6rOk and PlanValid of the model.
-/
import Derived.Test.YtodboccadccpfaaDoorFcB
import Derived.Test.YtodboccadccpfaaDoorFcS
import Derived.Test.YtodboccadccpfaaDoorJbV
import Derived.Test.YtodboccadccpfaaDoorTkO
namespace Go.Proofs.YtodboccadccpfaaDoor
open Go.RowKit

theorem timeB_no1 {L : List UInt8} (h : fcB L = false) (J : List Jbs) : timeB L J = false := by unfold timeB; rw [h]; rfl
theorem timeB_no2 (L : List UInt8) {J : List Jbs} (h : jbB J = false) : timeB L J = false := by unfold timeB; rw [h]; simp
theorem timeB_yes {L : List UInt8} {J : List Jbs} (h : fcB L = true) (h2 : jbB J = true) : timeB L J = decide (daysJ J ≤ (opT L L.length : Int)) := by unfold timeB; rw [h, h2]; rfl
theorem daysV_is {J : List Jbs} (h : jbB J = true) : daysV J = daysJ J := by unfold daysV; rw [if_pos h]
set_option maxRecDepth 100000 in
set_option maxHeartbeats 1000000 in
theorem timeEnough_b (s : ByteArray) (A : Option Addr) (c : Nat) (J : List Jbs) (w : World) (ha : ArgJ w A c J) :
    Calls Tryd.prog 27 #[.string s, .slice A J.length c] w (RetB (.bool (timeB (byL s) J)) w) := by
  have HA := Lib.hid ha
  clear ha
  go_enter Tryd.func27, Tryd.ntmps27
  go_wp2_with fail
  refine (openDays_c s w).mono ?_
  rintro e w1 ⟨rfl, rfl⟩
  cases hv : fcB (byL s)
  · have Hn := Lib.hid (timeB_no1 hv J)
    clear hv
    go_wp2
    go_ret
    exact ⟨by rw [Hn.out]; rfl, Below.refl _ _⟩
  have hb := bits_lt hv
  have hl := fc_l30 hv
  have hset := setV_yes hv
  have hpop := pop_bits (byL s) 32 (by omega)
  have Hyes := Lib.hid (fun h => timeB_yes (J := J) hv h)
  have hop := opT_all (byL s)
  rw [hset]
  obtain ⟨X, hX⟩ : ∃ X, bitsV (byL s) = X := ⟨_, rfl⟩
  obtain ⟨t, ht⟩ : ∃ t, opT (byL s) (byL s).length = t := ⟨_, rfl⟩
  rw [hX] at hb hpop ⊢
  rw [ht] at hpop Hyes hop
  have Hpop := Lib.hid hpop
  clear hset hX ht hpop hv
  go_wp2_with fail
  refine (implJobsValid_b A c J _ HA.out).mono ?_
  rintro e w1 ⟨rfl, hb1⟩
  have Hb1 := Lib.hid hb1
  have HA1 := Lib.hid (HA.out.go hb1)
  clear hb1 HA
  cases hj : jbB J
  · have Hn := Lib.hid (timeB_no2 (byL s) hj)
    clear hj
    go_wp2
    go_ret
    exact ⟨by rw [Hn.out]; rfl, Hb1.out⟩
  have Hy := Lib.hid (Hyes.out hj)
  have Hd := Lib.hid (daysV_is hj)
  have hbd := daysJ_bd hj
  clear hj
  go_wp2_with fail
  refine (implJobsDays_b A c J _ HA1.out).mono ?_
  rintro e w2 ⟨rfl, hb2⟩
  rw [Hd.out]
  have Hb2 := Lib.hid (below_step Hb1.out hb2)
  clear hb2
  obtain ⟨D, hD⟩ : ∃ D, daysJ J = D := ⟨_, rfl⟩
  rw [hD] at Hy hbd ⊢
  clear hD
  go_wp2_with fail
  refine (size_c X (by omega) _).mono ?_
  rintro e w3 ⟨rfl, n, rfl⟩
  rw [Hpop.out]
  go_wp2
  go_ret
  exact ⟨by rw [Hy.out]; rfl, below_drewN Hb2.out n⟩

theorem planB_no1 {L : List UInt8} {J : List Jbs} (h : timeB L J = false) (p : List Int) : planB L J p = false := by unfold planB; rw [h]; rfl
theorem planB_no2 (L : List UInt8) {J : List Jbs} {p : List Int} (h : ¬ p.length = J.length) : planB L J p = false := by unfold planB; rw [decide_eq_false h]; simp
theorem planB_no3 (L : List UInt8) (J : List Jbs) {p : List Int} (h : ordB p = false) : planB L J p = false := by unfold planB; rw [h]; simp
theorem planB_yes {L : List UInt8} {J : List Jbs} {p : List Int} (h : timeB L J = true) (h2 : p.length = J.length) (h3 : ordB p = true) : planB L J p = true := planB_true.2 ⟨h, h3, h2⟩
set_option maxRecDepth 100000 in
set_option maxHeartbeats 1000000 in
theorem implPlanValid_b (s : ByteArray) (A : Option Addr) (c : Nat) (J : List Jbs) (A2 : Option Addr) (c2 : Nat) (p : List Int) (w : World) (_ : s.size ≤ 2097152) (ha : ArgJ w A c J) (hp : Arg w A2 c2 p) :
    Calls Tryd.prog 8 #[.string s, .slice A J.length c, .slice A2 p.length c2] w (RetB (.bool (planB (byL s) J p)) w) := by
  have hjl := ha.len
  have hpl := hp.len
  have HA := Lib.hid ha
  have HP := Lib.hid hp
  clear ha hp
  go_enter Tryd.func8, Tryd.ntmps8
  go_wp2_with fail
  refine (timeEnough_b s A c J _ HA.out).mono ?_
  rintro e w1 ⟨rfl, hb1⟩
  have Hb1 := Lib.hid hb1
  have HP1 := Lib.hid (HP.out.go hb1)
  clear hb1 HP
  cases ht : timeB (byL s) J
  · have Hn := Lib.hid (planB_no1 ht p)
    clear ht
    go_wp2
    go_ret
    exact ⟨by rw [Hn.out]; rfl, Hb1.out⟩
  by_cases hl : p.length = J.length
  · have g0 : ((p.length : Int) == (J.length : Int)) = true := by simp [hl]
    have Hy := Lib.hid (fun h => planB_yes ht hl h)
    clear ht hl
    go_wp2_with fail
    refine (implOrdersValid_b A2 c2 p _ HP1.out).mono ?_
    rintro e w2 ⟨rfl, hb2⟩
    have Hb2 := Lib.hid (below_step Hb1.out hb2)
    clear hb2
    cases ho : ordB p
    · have Hn := Lib.hid (planB_no3 (byL s) J ho)
      clear ho
      go_wp2
      go_ret
      exact ⟨by rw [Hn.out]; rfl, Hb2.out⟩
    · have Hn := Lib.hid (Hy.out ho)
      clear ho
      go_wp2
      go_ret
      exact ⟨by rw [Hn.out]; rfl, Hb2.out⟩
  · have g0 : ((p.length : Int) == (J.length : Int)) = false := by simp; omega
    have Hn := Lib.hid (planB_no2 (byL s) (J := J) hl)
    clear ht hl
    go_wp2
    go_ret
    exact ⟨by rw [Hn.out]; rfl, Hb1.out⟩

theorem dy_time {L : List UInt8} {J : List Jbs} (h : jbB J = true) : decide (0 ≤ dyV L (daysJ J)) = timeB L J := by
  have hbd := daysJ_bd h
  unfold timeB dyV
  rw [h, Bool.true_and]
  cases hf : fcB L
  · simp
  · simp only [Bool.true_and]
    by_cases hc : daysJ J ≤ (opT L L.length : Int)
    · rw [if_pos (inB_true.2 ⟨hbd.1, hc⟩), decide_eq_true hc, decide_eq_true (by omega)]
    · rw [if_neg (by rw [inB_true]; omega), decide_eq_false hc, decide_eq_false (by omega)]
set_option maxRecDepth 100000 in
set_option maxHeartbeats 1000000 in
theorem l6rOk_c (s : ByteArray) (hs : s.size ≤ 2097152) (A : Option Addr) (c : Nat) (J : List Jbs) (w : World) (ha : ArgJ w A c J) :
    Calls Tryd.prog 29 #[.string s, .slice A J.length c] w fun e w' => e = .returned (.bool (timeB (byL s) J)) ∧ w = w' := by
  have HA := Lib.hid ha
  clear ha
  go_enter Tryd.func29, Tryd.ntmps29
  go_wp2_with fail
  refine (specJobsValid_c A c J w HA.out).mono ?_
  rintro e w1 ⟨rfl, rfl⟩
  cases hj : jbB J
  · have Hn := Lib.hid (timeB_no2 (byL s) hj)
    clear hj
    go_wp2
    go_ret
    exact ⟨by rw [Hn.out]; rfl, rfl⟩
  have Hd := Lib.hid (daysV_is hj)
  have Hy := Lib.hid (dy_time (L := byL s) hj)
  clear hj
  go_wp2_with fail
  refine (specJobsDays_c A c J w HA.out).mono ?_
  rintro e w1 ⟨rfl, rfl⟩
  rw [Hd.out]
  go_wp2_with fail
  refine (specForecastDay_c s hs (daysJ J) w).mono ?_
  rintro e w1 ⟨rfl, rfl⟩
  obtain ⟨v, hv⟩ : ∃ v, dyV (byL s) (daysJ J) = v := ⟨_, rfl⟩
  rw [hv] at Hy ⊢
  clear hv
  go_wp2
  go_ret
  exact ⟨by rw [← Hy.out]; rfl, rfl⟩
set_option maxRecDepth 100000 in
set_option maxHeartbeats 1000000 in
theorem specPlanValid_b (s : ByteArray) (A : Option Addr) (c : Nat) (J : List Jbs) (A2 : Option Addr) (c2 : Nat) (p : List Int) (w : World) (hs : s.size ≤ 2097152) (ha : ArgJ w A c J) (hp : Arg w A2 c2 p) :
    Calls Tryd.prog 9 #[.string s, .slice A J.length c, .slice A2 p.length c2] w (RetB (.bool (planB (byL s) J p)) w) := by
  have hjl := ha.len
  have hpl := hp.len
  have HA := Lib.hid ha
  have HP := Lib.hid hp
  clear ha hp
  go_enter Tryd.func9, Tryd.ntmps9
  go_wp2_with fail
  refine (l6rOk_c s hs A c J _ HA.out).mono ?_
  rintro e w1 ⟨rfl, rfl⟩
  cases ht : timeB (byL s) J
  · have Hn := Lib.hid (planB_no1 ht p)
    clear ht
    go_wp2
    go_ret
    exact ⟨by rw [Hn.out]; rfl, Below.refl _ _⟩
  go_wp2_with fail
  refine (specOrdersValid_b A2 c2 p _ HP.out).mono ?_
  rintro e w2 ⟨rfl, hb2⟩
  have Hb2 := Lib.hid hb2
  clear hb2
  cases ho : ordB p
  · have Hn := Lib.hid (planB_no3 (byL s) J ho)
    clear ho ht
    go_wp2
    go_ret
    exact ⟨by rw [Hn.out]; rfl, Hb2.out⟩
  by_cases hl : p.length = J.length
  · have g0 : ((p.length : Int) == (J.length : Int)) = true := by simp [hl]
    have Hy := Lib.hid (planB_yes ht hl ho)
    clear ht hl ho
    go_wp2
    go_ret
    exact ⟨by rw [Hy.out]; rfl, Hb2.out⟩
  · have g0 : ((p.length : Int) == (J.length : Int)) = false := by simp; omega
    have Hn := Lib.hid (planB_no2 (byL s) (J := J) hl)
    clear ht hl ho
    go_wp2
    go_ret
    exact ⟨by rw [Hn.out]; rfl, Hb2.out⟩

end Go.Proofs.YtodboccadccpfaaDoor
