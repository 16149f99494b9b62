/-
  JobsValid and JobsDays of both.
-/
import Derived.Test.YtodboccadccpfaaDoorRng0
import Derived.Test.YtodboccadccpfaaDoorPlnM
namespace Go.Proofs.YtodboccadccpfaaDoor
open Go.RowKit

theorem jbOk_no1 {s : Jbs} (h : inB s.d 1 9 = false) : jbOk s = false := by
  have h2 : (decide (1 ≤ s.d) && decide (s.d ≤ 9)) = false := h
  unfold jbOk; rw [h2]; rfl
theorem jbOk_no2 {s : Jbs} (h : inB s.g 1 9 = false) : jbOk s = false := by
  have h2 : (decide (1 ≤ s.g) && decide (s.g ≤ 9)) = false := h
  unfold jbOk; rw [h2]; simp
theorem jbOk_yes {s : Jbs} (h1 : inB s.d 1 9 = true) (h2 : inB s.g 1 9 = true) : jbOk s = true := by
  have g1 : (decide (1 ≤ s.d) && decide (s.d ≤ 9)) = true := h1
  have g2 : (decide (1 ≤ s.g) && decide (s.g ≤ 9)) = true := h2
  unfold jbOk; rw [g1, g2]; rfl
/-- the first k are repairs -/
def jbTo (J : List Jbs) (k : Nat) : Prop := (J.take k).all jbOk = true
theorem jbTo_zero (J : List Jbs) : jbTo J 0 := by simp [jbTo]
theorem jbTo_succ {J : List Jbs} {k : Nat} (h : jbTo J k) (hk : k < J.length) (hp : jbOk (jbsAt J k) = true) : jbTo J (k + 1) := by
  rw [jbsAt_lt hk] at hp
  unfold jbTo at *
  rw [List.take_succ_eq_append_getElem hk, List.all_append, h]; simp [hp]
theorem jbTo_not {J : List Jbs} {k : Nat} (hk : k < J.length) (hp : jbOk (jbsAt J k) = false) : jbB J = false := by
  rw [jbsAt_lt hk] at hp
  have : J.all jbOk = false := by
    apply Bool.eq_false_iff.2
    intro h
    rw [List.all_eq_true] at h
    have := h _ (List.getElem_mem hk)
    rw [hp] at this; cases this
  unfold jbB; rw [this]; simp
theorem jbTo_all {J : List Jbs} (h : jbTo J J.length) : jbB J = decide (J.length ≤ 6) := by
  unfold jbTo at h
  rw [List.take_length] at h
  unfold jbB; rw [h]; simp
theorem jb_long {J : List Jbs} (h : 6 < J.length) : jbB J = false := by unfold jbB; rw [decide_eq_false (by omega)]; rfl

set_option maxRecDepth 100000 in
set_option maxHeartbeats 1000000 in
theorem implJobsValid_b (A : Option Addr) (c : Nat) (ss : List Jbs) (w : World) (ha : ArgJ w A c ss) :
    Calls Tryd.prog 37 #[.slice A ss.length c] w (RetB (.bool (jbB ss)) w) := by
  have hl := ha.len
  have HA := Lib.hid ha
  clear ha
  by_cases h1 : 6 < ss.length
  · have g1 : (6 : Int) < (ss.length : Int) := by omega
    have Hv := Lib.hid (jb_long h1)
    go_enter Tryd.func37, Tryd.ntmps37
    go_wp2
    go_ret
    exact ⟨by rw [Hv.out]; rfl, Below.refl _ _⟩
  have g1 : ¬ (6 : Int) < (ss.length : Int) := by omega
  have g2 : ss.length ≤ 6 := by omega
  clear h1
  go_enter Tryd.func37, Tryd.ntmps37
  go_wp2
  go_loopw [10] (fun i wr => ∃ k : Nat, k ≤ ss.length ∧ jbTo ss k ∧ i = .int .i64 k ∧ Below w.heap.size w wr) (fun i _ => ss.length - (intOf i).toNat)
  case atStart => exact ⟨0, Nat.zero_le _, jbTo_zero _, rfl, Below.refl _ _⟩
  case round =>
    obtain ⟨k, hk, ho, rfl, hb⟩ := hrel
    have Ho := Lib.hid ho
    have Hb := Lib.hid hb
    clear ho hb
    by_cases hlt : k < ss.length
    · obtain ⟨b, off, rfl, _, hbw, hc0, hc1⟩ := (HA.out.go Hb.out).rd.at_ hlt
      have hyes := fun h => jbTo_succ Ho.out hlt h
      have hno := fun h => jbTo_not hlt h
      obtain ⟨s, hs⟩ : ∃ s, jbsAt ss k = s := ⟨_, rfl⟩
      rw [hs] at hc0 hc1 hyes hno
      have Hyes := Lib.hid hyes
      have Hno := Lib.hid hno
      clear hs hyes hno
      have g3 : (k : Int) < (ss.length : Int) := by omega
      go_wp2_with fail
      refine (inRange_c _ _ _ _).mono ?_
      rintro e w' ⟨rfl, rfl⟩
      cases e1 : inB s.d 1 9
      · have Hn := Lib.hid (Hno.out (jbOk_no1 e1))
        clear e1
        go_wp2
        go_ret
        exact ⟨by rw [Hn.out]; rfl, Hb.out.alloc Hb.out.size _⟩
      have E1 := Lib.hid e1
      clear e1
      go_wp2_with fail
      refine (inRange_c _ _ _ _).mono ?_
      rintro e w' ⟨rfl, rfl⟩
      cases e2 : inB s.g 1 9
      · have Hn := Lib.hid (Hno.out (jbOk_no2 e2))
        clear e2
        go_wp2
        go_ret
        exact ⟨by rw [Hn.out]; rfl, Hb.out.alloc Hb.out.size _⟩
      have Hn := Lib.hid (Hyes.out (jbOk_yes E1.out e2))
      clear e2
      go_wp2
      go_roundw
      case rel => exact ⟨k + 1, by omega, Hn.out, by go_num, Hb.out.alloc Hb.out.size _⟩
      case measure => simp [intOf]; omega
    · obtain rfl : k = ss.length := by omega
      have Hv := Lib.hid (jbTo_all Ho.out)
      go_wp2
      go_ret
      exact ⟨by rw [Hv.out, decide_eq_true g2]; rfl, Hb.out⟩

set_option maxRecDepth 100000 in
set_option maxHeartbeats 1000000 in
theorem specJobsValid_c (A : Option Addr) (c : Nat) (ss : List Jbs) (w : World) (ha : ArgJ w A c ss) :
    Calls Tryd.prog 47 #[.slice A ss.length c] w fun e w' => e = .returned (.bool (jbB ss)) ∧ w = w' := by
  have hl := ha.len
  have HA := Lib.hid ha
  clear ha
  go_enter Tryd.func47, Tryd.ntmps47
  go_wp2
  go_loop [3] (fun i => ∃ k : Nat, k ≤ ss.length ∧ jbTo ss k ∧ i = .int .i64 k) (fun i => ss.length - (intOf i).toNat)
  case atStart => exact ⟨0, Nat.zero_le _, jbTo_zero _, rfl⟩
  case round =>
    obtain ⟨k, hk, ho, rfl⟩ := hrel
    have Ho := Lib.hid ho
    clear ho
    by_cases hlt : k < ss.length
    · obtain ⟨b, off, rfl, _, hbw, hc0, hc1⟩ := HA.out.rd.at_ hlt
      have hyes := fun h => jbTo_succ Ho.out hlt h
      have hno := fun h => jbTo_not hlt h
      obtain ⟨s, hs⟩ : ∃ s, jbsAt ss k = s := ⟨_, rfl⟩
      rw [hs] at hc0 hc1 hyes hno
      have Hyes := Lib.hid hyes
      have Hno := Lib.hid hno
      clear hs hyes hno
      have g3 : (k : Int) < (ss.length : Int) := by omega
      go_wp2_with fail
      refine (l6In_c _ _ _ _).mono ?_
      rintro e w' ⟨rfl, rfl⟩
      cases e1 : inB s.d 1 9
      · have Hn := Lib.hid (Hno.out (jbOk_no1 e1))
        clear e1
        go_wp2
        go_ret
        exact ⟨by rw [Hn.out]; rfl, rfl⟩
      have E1 := Lib.hid e1
      clear e1
      go_wp2_with fail
      refine (l6In_c _ _ _ _).mono ?_
      rintro e w' ⟨rfl, rfl⟩
      cases e2 : inB s.g 1 9
      · have Hn := Lib.hid (Hno.out (jbOk_no2 e2))
        clear e2
        go_wp2
        go_ret
        exact ⟨by rw [Hn.out]; rfl, rfl⟩
      have Hn := Lib.hid (Hyes.out (jbOk_yes E1.out e2))
      clear e2
      go_wp2
      go_round
      case rel => exact ⟨k + 1, by omega, Hn.out, by go_num⟩
      case measure => simp [intOf]; omega
    · obtain rfl : k = ss.length := by omega
      have Hv := Lib.hid (jbTo_all Ho.out)
      by_cases h1 : ss.length ≤ 6
      · have g1 : (ss.length : Int) ≤ 6 := by omega
        go_wp2
        go_ret
        exact ⟨by rw [Hv.out, decide_eq_true h1]; rfl, rfl⟩
      · have g1 : ¬ (ss.length : Int) ≤ 6 := by omega
        go_wp2
        go_ret
        exact ⟨by rw [Hv.out, decide_eq_false h1]; rfl, rfl⟩
theorem specJobsValid_b (A : Option Addr) (c : Nat) (ss : List Jbs) (w : World) (ha : ArgJ w A c ss) :
    Calls Tryd.prog 47 #[.slice A ss.length c] w (RetB (.bool (jbB ss)) w) := (specJobsValid_c A c ss w ha).mono fun _ _ h => RetB.same h

theorem daysV_no {J : List Jbs} (h : jbB J = false) : daysV J = -1 := by unfold daysV; rw [h]; rfl
theorem daysV_yes {J : List Jbs} (h : jbB J = true) : daysV J = daysT J J.length := by unfold daysV; rw [if_pos h]; rfl
set_option maxRecDepth 100000 in
set_option maxHeartbeats 1000000 in
theorem implJobsDays_b (A : Option Addr) (c : Nat) (ss : List Jbs) (w : World) (ha : ArgJ w A c ss) :
    Calls Tryd.prog 13 #[.slice A ss.length c] w (RetB (.int .i64 (daysV ss)) w) := by
  have HA := Lib.hid ha
  clear ha
  go_enter Tryd.func13, Tryd.ntmps13
  go_wp2_with fail
  refine (implJobsValid_b A c ss _ HA.out).mono ?_
  rintro e w1 ⟨rfl, hb⟩
  have Hb := Lib.hid hb
  have HA1 := Lib.hid (HA.out.go hb)
  clear hb HA
  cases hv : jbB ss
  · have Hv := Lib.hid (daysV_no hv)
    clear hv
    go_wp2
    go_ret
    exact ⟨by rw [Hv.out]; rfl, Hb.out⟩
  have Hd := Lib.hid (daysV_yes hv)
  have Hbd := Lib.hid (daysT_bd hv)
  have Hat := Lib.hid (fun (k : Nat) (hk : k < ss.length) => jbB_at hv hk)
  have hl := (jbB_true.1 hv).1
  clear hv
  go_wp2
  go_loopw [3, 11] (fun q i wr => ∃ k : Nat, k ≤ ss.length ∧ i = .int .i64 k ∧ q = .int .i64 (daysT ss k) ∧ Below w1.heap.size w1 wr) (fun _ i _ => ss.length - (intOf i).toNat)
  case atStart => exact ⟨0, Nat.zero_le _, rfl, rfl, Below.refl _ _⟩
  case round =>
    obtain ⟨k, hk, rfl, rfl, hb⟩ := hrel
    have Hb2 := Lib.hid hb
    clear hb
    by_cases hlt : k < ss.length
    · obtain ⟨b, off, rfl, _, hbw, hc0, hc1⟩ := (HA1.out.go Hb2.out).rd.at_ hlt
      obtain ⟨b1, b2⟩ := Hbd.out k
      obtain ⟨b3, _⟩ := Hat.out k hlt
      have hn : daysT ss (k + 1) = daysT ss k + (jbsAt ss k).d := rfl
      obtain ⟨s, hs⟩ : ∃ s, jbsAt ss k = s := ⟨_, rfl⟩
      obtain ⟨q, hq⟩ : ∃ q, daysT ss k = q := ⟨_, rfl⟩
      rw [hs] at hc0 hc1 b3 hn
      rw [hq] at b1 b2 hn ⊢
      have Hn := Lib.hid hn
      have g1 : (k : Int) < (ss.length : Int) := by omega
      clear hs hq hn
      go_wp2
      go_roundw
      case rel => exact ⟨k + 1, by omega, by go_num, by rw [Hn.out], Hb2.out.alloc Hb2.out.size _⟩
      case measure => simp [intOf]; omega
    · obtain rfl : k = ss.length := by omega
      go_wp2
      go_ret
      exact ⟨by rw [Hd.out]; rfl, below_step Hb.out Hb2.out⟩
set_option maxRecDepth 100000 in
set_option maxHeartbeats 1000000 in
theorem specJobsDays_c (A : Option Addr) (c : Nat) (ss : List Jbs) (w : World) (ha : ArgJ w A c ss) :
    Calls Tryd.prog 24 #[.slice A ss.length c] w fun e w' => e = .returned (.int .i64 (daysV ss)) ∧ w = w' := by
  have HA := Lib.hid ha
  clear ha
  go_enter Tryd.func24, Tryd.ntmps24
  go_wp2_with fail
  refine (specJobsValid_c A c ss _ HA.out).mono ?_
  rintro e w1 ⟨rfl, rfl⟩
  cases hv : jbB ss
  · have Hv := Lib.hid (daysV_no hv)
    clear hv
    go_wp2
    go_ret
    exact ⟨by rw [Hv.out]; rfl, rfl⟩
  have Hd := Lib.hid (daysV_yes hv)
  have Hbd := Lib.hid (daysT_bd hv)
  have Hat := Lib.hid (fun (k : Nat) (hk : k < ss.length) => jbB_at hv hk)
  have hl := (jbB_true.1 hv).1
  clear hv
  go_wp2
  go_loop [3, 4] (fun q i => ∃ k : Nat, k ≤ ss.length ∧ i = .int .i64 k ∧ q = .int .i64 (daysT ss k)) (fun _ i => ss.length - (intOf i).toNat)
  case atStart => exact ⟨0, Nat.zero_le _, rfl, rfl⟩
  case round =>
    obtain ⟨k, hk, rfl, rfl⟩ := hrel
    by_cases hlt : k < ss.length
    · obtain ⟨b, off, rfl, _, hbw, hc0, hc1⟩ := HA.out.rd.at_ hlt
      obtain ⟨b1, b2⟩ := Hbd.out k
      obtain ⟨b3, _⟩ := Hat.out k hlt
      have hn : daysT ss (k + 1) = daysT ss k + (jbsAt ss k).d := rfl
      obtain ⟨s, hs⟩ : ∃ s, jbsAt ss k = s := ⟨_, rfl⟩
      obtain ⟨q, hq⟩ : ∃ q, daysT ss k = q := ⟨_, rfl⟩
      rw [hs] at hc0 hc1 b3 hn
      rw [hq] at b1 b2 hn ⊢
      have Hn := Lib.hid hn
      have g1 : (k : Int) < (ss.length : Int) := by omega
      clear hs hq hn
      go_wp2
      go_round
      case rel => exact ⟨k + 1, by omega, by go_num, by rw [Hn.out]⟩
      case measure => simp [intOf]; omega
    · obtain rfl : k = ss.length := by omega
      go_wp2
      go_ret
      exact ⟨by rw [Hd.out]; rfl, rfl⟩
theorem specJobsDays_b (A : Option Addr) (c : Nat) (ss : List Jbs) (w : World) (ha : ArgJ w A c ss) :
    Calls Tryd.prog 24 #[.slice A ss.length c] w (RetB (.int .i64 (daysV ss)) w) := (specJobsDays_c A c ss w ha).mono fun _ _ h => RetB.same h

end Go.Proofs.YtodboccadccpfaaDoor
