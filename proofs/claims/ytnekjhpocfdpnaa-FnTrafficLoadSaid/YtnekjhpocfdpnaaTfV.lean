/-
  NetValid, and nets with two different stations, of both.
-/
import Derived.Test.YtnekjhpocfdpnaaRng0
import Derived.Test.YtnekjhpocfdpnaaTfM
namespace Go.Proofs.Ytnekjhpocfdpnaa
open Go.RowKit

/-! ### small steps of the mathematics -/
theorem two_no1 {n a b : Int} (h : inB a 0 (n - 1) = false) : twoB n a b = false := by unfold twoB; rw [h]; rfl
theorem two_no2 {n a b : Int} (h : inB b 0 (n - 1) = false) : twoB n a b = false := by unfold twoB; rw [h, Bool.and_false]; rfl
theorem two_no3 {n a b : Int} (h : a = b) : twoB n a b = false := by
  unfold twoB
  have : decide (a ≠ b) = false := by simp [h]
  rw [this, Bool.and_false]
theorem two_yes {n a b : Int} (h1 : inB a 0 (n - 1) = true) (h2 : inB b 0 (n - 1) = true) (h3 : ¬ a = b) : twoB n a b = true := by
  unfold twoB
  have : decide (a ≠ b) = true := by simp [h3]
  rw [h1, h2, this]; rfl
theorem lnOk_no1 {n : Int} {s : Lin} (h : twoB n s.a s.b = false) : lnOk n s = false := by unfold lnOk; rw [h]; rfl
theorem lnOk_no2 {n : Int} {s : Lin} (h : inB s.c 1 9 = false) : lnOk n s = false := by unfold lnOk; rw [h, Bool.and_false]
theorem lnOk_yes {n : Int} {s : Lin} (h1 : twoB n s.a s.b = true) (h2 : inB s.c 1 9 = true) : lnOk n s = true := by unfold lnOk; rw [h1, h2]; rfl
/-- the first k are lines -/
def lnTo (n : Int) (N : List Lin) (k : Nat) : Prop := (N.take k).all (lnOk n) = true
theorem lnTo_zero (n : Int) (N : List Lin) : lnTo n N 0 := by simp [lnTo]
theorem lnTo_succ {n : Int} {N : List Lin} {k : Nat} (h : lnTo n N k) (hk : k < N.length) (hp : lnOk n (linAt N k) = true) : lnTo n N (k + 1) := by
  rw [linAt_lt hk] at hp
  unfold lnTo at *
  rw [List.take_succ_eq_append_getElem hk, List.all_append, h]; simp [hp]
theorem lnTo_not {n : Int} {N : List Lin} {k : Nat} (hk : k < N.length) (hp : lnOk n (linAt N k) = false) : netB n N = false := by
  rw [linAt_lt hk] at hp
  have : N.all (lnOk n) = false := by
    apply Bool.eq_false_iff.2
    intro h
    rw [List.all_eq_true] at h
    have := h _ (List.getElem_mem hk)
    rw [hp] at this; cases this
  unfold netB; rw [this, Bool.and_false]
theorem lnTo_all {n : Int} {N : List Lin} (h : lnTo n N N.length) : netB n N = (inB n 2 6 && decide (N.length ≤ 10)) := by
  unfold lnTo at h
  rw [List.take_length] at h
  unfold netB; rw [h, Bool.and_true]
theorem net_out {n : Int} {N : List Lin} (h : inB n 2 6 = false) : netB n N = false := by unfold netB; rw [h]; rfl
theorem net_long {n : Int} {N : List Lin} (h : 10 < N.length) : netB n N = false := by unfold netB; rw [decide_eq_false (by omega), Bool.and_false]; rfl

/-! ### the program -/
set_option maxRecDepth 100000 in
set_option maxHeartbeats 1000000 in
theorem two_c (n a b : Int) (w : World) (h2 : 2 ≤ n) (h6 : n ≤ 6) :
    Calls Try.prog 44 #[.int .i64 n, .int .i64 a, .int .i64 b] w fun e w' => e = .returned (.bool (twoB n a b)) ∧ w = w' := by
  go_enter Try.func44, Try.ntmps44
  go_wp2_with fail
  refine (inRange_c _ _ _ _).mono ?_
  rintro e w' ⟨rfl, rfl⟩
  cases e1 : inB a 0 (n - 1)
  · have Hv := Lib.hid (two_no1 (b := b) e1)
    clear e1
    go_wp2
    go_ret
    exact ⟨by rw [Hv.out] <;> rfl, rfl⟩
  have E1 := Lib.hid e1
  clear e1
  go_wp2_with fail
  refine (inRange_c _ _ _ _).mono ?_
  rintro e w' ⟨rfl, rfl⟩
  cases e2 : inB b 0 (n - 1)
  · have Hv := Lib.hid (two_no2 (a := a) e2)
    clear e2
    go_wp2
    go_ret
    exact ⟨by rw [Hv.out] <;> rfl, rfl⟩
  have E2 := Lib.hid e2
  clear e2
  by_cases h3 : a = b
  · have Hv := Lib.hid (two_no3 (n := n) h3)
    have g : (a != b) = false := by simp [h3]
    clear h3
    go_wp2
    go_ret
    exact ⟨by rw [Hv.out] <;> rfl, rfl⟩
  · have Hv := Lib.hid (two_yes E1.out E2.out h3)
    have g : (a != b) = true := by simp [h3]
    clear h3
    go_wp2
    go_ret
    exact ⟨by rw [Hv.out] <;> rfl, rfl⟩

set_option maxRecDepth 100000 in
set_option maxHeartbeats 1000000 in
theorem implNetValid_b (n : Int) (A : Option Addr) (c : Nat) (ss : List Lin) (w : World) (ha : ArgL w A c ss) :
    Calls Try.prog 43 #[.int .i64 n, .slice A ss.length c] w (RetB (.bool (netB n ss)) w) := by
  have hl := ha.len
  have HA := Lib.hid ha
  clear ha
  go_enter Try.func43, Try.ntmps43
  go_wp2_with fail
  refine (inRange_c _ _ _ _).mono ?_
  rintro e w' ⟨rfl, rfl⟩
  cases e1 : inB n 2 6
  · have Hv := Lib.hid (net_out (N := ss) e1)
    clear e1
    go_wp2
    go_ret
    exact ⟨by rw [Hv.out] <;> rfl, Below.refl _ _⟩
  have E1 := Lib.hid e1
  obtain ⟨n2, n6⟩ := inB_true.1 e1
  clear e1
  by_cases h1 : 10 < ss.length
  · have g1 : (10 : Int) < (ss.length : Int) := by omega
    have Hv := Lib.hid (net_long (n := n) h1)
    clear h1
    go_wp2
    go_ret
    exact ⟨by rw [Hv.out] <;> rfl, Below.refl _ _⟩
  have g1 : ¬ (10 : Int) < (ss.length : Int) := by omega
  have g2 : ss.length ≤ 10 := by omega
  clear h1
  go_wp2
  go_loopw [17] (fun i wr => ∃ k : Nat, k ≤ ss.length ∧ lnTo n ss k ∧ i = .int .i64 k ∧ Below w.heap.size w wr) (fun i _ => ss.length - (intOf i).toNat)
  case atStart => exact ⟨0, Nat.zero_le _, lnTo_zero _ _, rfl, Below.refl _ _⟩
  case round =>
    obtain ⟨k, hk, ho, rfl, hb⟩ := hrel
    have Ho := Lib.hid ho
    have Hb := Lib.hid hb
    clear ho hb
    by_cases hlt : k < ss.length
    · obtain ⟨b, off, rfl, _, hbw, hc0, hc1, hc2⟩ := (HA.out.go Hb.out).rd.at_ hlt
      have hyes := fun h => lnTo_succ Ho.out hlt h
      have hno := fun h => lnTo_not (n := n) hlt h
      obtain ⟨s, hs⟩ : ∃ s, linAt ss k = s := ⟨_, rfl⟩
      rw [hs] at hc0 hc1 hc2 hyes hno
      have Hyes := Lib.hid hyes
      have Hno := Lib.hid hno
      clear hs hyes hno
      have g3 : (k : Int) < (ss.length : Int) := by omega
      go_wp2_with fail
      refine (two_c _ _ _ _ n2 n6).mono ?_
      rintro e w' ⟨rfl, rfl⟩
      cases e1 : twoB n s.a s.b
      · have Hn := Lib.hid (Hno.out (lnOk_no1 e1))
        clear e1
        go_wp2
        go_ret
        exact ⟨by rw [Hn.out] <;> rfl, Hb.out.alloc Hb.out.size _⟩
      have E1 := Lib.hid e1
      clear e1
      go_wp2_with fail
      refine (inRange_c _ _ _ _).mono ?_
      rintro e w' ⟨rfl, rfl⟩
      cases e2 : inB s.c 1 9
      · have Hn := Lib.hid (Hno.out (lnOk_no2 e2))
        clear e2
        go_wp2
        go_ret
        exact ⟨by rw [Hn.out] <;> rfl, Hb.out.alloc Hb.out.size _⟩
      have Hn := Lib.hid (Hyes.out (lnOk_yes E1.out e2))
      clear e2
      go_wp2
      go_roundw
      case rel => exact ⟨k + 1, by omega, Hn.out, by go_num, Hb.out.alloc Hb.out.size _⟩
      case measure => simp [intOf]; omega
    · obtain rfl : k = ss.length := by omega
      have Hv := Lib.hid (lnTo_all Ho.out)
      go_wp2
      go_ret
      exact ⟨by rw [Hv.out, E1.out, decide_eq_true g2] <;> rfl, Hb.out⟩

set_option maxRecDepth 100000 in
set_option maxHeartbeats 1000000 in
theorem ends_c (n f t : Int) (A : Option Addr) (c : Nat) (ss : List Lin) (w : World) (ha : ArgL w A c ss) :
    Calls Try.prog 28 #[.int .i64 n, .slice A ss.length c, .int .i64 f, .int .i64 t] w (RetB (.bool (endB n ss f t)) w) := by
  have HA := Lib.hid ha
  have hv : endB n ss f t = (netB n ss && twoB n f t) := rfl
  have HV := Lib.hid hv
  clear ha hv
  go_enter Try.func28, Try.ntmps28
  go_wp2_with fail
  refine (implNetValid_b _ _ _ _ _ HA.out).mono ?_
  rintro e w1 ⟨rfl, hb⟩
  have Hb := Lib.hid hb
  clear hb
  cases e1 : netB n ss
  · have E1 := Lib.hid e1
    clear e1
    go_wp2
    go_ret
    exact ⟨by rw [HV.out, E1.out] <;> rfl, Hb.out⟩
  have h26 := (netB_true.1 e1).1
  have E1 := Lib.hid e1
  clear e1
  go_wp2_with fail
  refine (two_c _ _ _ _ h26.1 h26.2).mono ?_
  rintro e w' ⟨rfl, rfl⟩
  go_wp2
  go_ret
  exact ⟨by rw [HV.out, E1.out]; simp, Hb.out⟩

/-! ### the model -/
set_option maxRecDepth 100000 in
set_option maxHeartbeats 2000000 in
theorem specNetValid_b (n : Int) (A : Option Addr) (c : Nat) (ss : List Lin) (w : World) (ha : ArgL w A c ss) :
    Calls Try.prog 42 #[.int .i64 n, .slice A ss.length c] w (RetB (.bool (netB n ss)) w) := by
  have hl := ha.len
  have HA := Lib.hid ha
  clear ha
  cases e0 : inB n 2 6
  · have Hv := Lib.hid (net_out (N := ss) e0)
    have E0 := Lib.hid e0
    obtain ⟨X, hX⟩ : ∃ X, IntKind.i64.wrap (n - 1) = X := ⟨_, rfl⟩
    clear e0
    go_enter Try.func42, Try.ntmps42
    go_wp2
    go_loopw [5] (fun i wr => ∃ k : Nat, k ≤ ss.length ∧ i = .int .i64 k ∧ Below w.heap.size w wr) (fun i _ => ss.length - (intOf i).toNat)
    case atStart => exact ⟨0, Nat.zero_le _, rfl, Below.refl _ _⟩
    case round =>
      obtain ⟨k, hk, rfl, hb⟩ := hrel
      have Hb := Lib.hid hb
      clear hb
      by_cases hlt : k < ss.length
      · obtain ⟨b, off, rfl, _, hbw, hc0, hc1, hc2⟩ := (HA.out.go Hb.out).rd.at_ hlt
        obtain ⟨s, hs⟩ : ∃ s, linAt ss k = s := ⟨_, rfl⟩
        rw [hs] at hc0 hc1 hc2
        clear hs
        have g3 : (k : Int) < (ss.length : Int) := by omega
        go_wp2_with fail
        refine (l6In_c _ _ _ _).mono ?_
        rintro e w' ⟨rfl, rfl⟩
        cases e1 : inB s.a 0 X
        · clear e1
          go_wp2
          go_ret
          exact ⟨by rw [Hv.out] <;> rfl, Hb.out.alloc Hb.out.size _⟩
        clear e1
        go_wp2_with fail
        refine (l6In_c _ _ _ _).mono ?_
        rintro e w' ⟨rfl, rfl⟩
        cases e1 : inB s.b 0 X
        · clear e1
          go_wp2
          go_ret
          exact ⟨by rw [Hv.out] <;> rfl, Hb.out.alloc Hb.out.size _⟩
        clear e1
        by_cases e1 : s.a = s.b
        · have e2 : (s.a == s.b) = true := by simp [e1]
          clear e1
          go_wp2
          go_ret
          exact ⟨by rw [Hv.out] <;> rfl, Hb.out.alloc Hb.out.size _⟩
        have e2 : (s.a == s.b) = false := by simp [e1]
        clear e1
        go_wp2_with fail
        refine (l6In_c _ _ _ _).mono ?_
        rintro e w' ⟨rfl, rfl⟩
        cases e3 : inB s.c 1 9
        · clear e3
          go_wp2
          go_ret
          exact ⟨by rw [Hv.out] <;> rfl, Hb.out.alloc Hb.out.size _⟩
        clear e3
        go_wp2
        go_roundw
        case rel => exact ⟨k + 1, by omega, by go_num, Hb.out.alloc Hb.out.size _⟩
        case measure => simp [intOf]; omega
      · obtain rfl : k = ss.length := by omega
        go_wp2_with fail
        refine (l6In_c _ _ _ _).mono ?_
        rintro e w' ⟨rfl, rfl⟩
        have e0 := E0.out
        go_wp2
        go_ret
        exact ⟨by rw [Hv.out] <;> rfl, Hb.out⟩
  have E0 := Lib.hid e0
  obtain ⟨n2, n6⟩ := inB_true.1 e0
  clear e0
  go_enter Try.func42, Try.ntmps42
  go_wp2
  go_loopw [5] (fun i wr => ∃ k : Nat, k ≤ ss.length ∧ lnTo n ss k ∧ i = .int .i64 k ∧ Below w.heap.size w wr) (fun i _ => ss.length - (intOf i).toNat)
  case atStart => exact ⟨0, Nat.zero_le _, lnTo_zero _ _, rfl, Below.refl _ _⟩
  case round =>
    obtain ⟨k, hk, ho, rfl, hb⟩ := hrel
    have Ho := Lib.hid ho
    have Hb := Lib.hid hb
    clear ho hb
    by_cases hlt : k < ss.length
    · obtain ⟨b, off, rfl, _, hbw, hc0, hc1, hc2⟩ := (HA.out.go Hb.out).rd.at_ hlt
      have hyes := fun h => lnTo_succ Ho.out hlt h
      have hno := fun h => lnTo_not (n := n) hlt h
      obtain ⟨s, hs⟩ : ∃ s, linAt ss k = s := ⟨_, rfl⟩
      rw [hs] at hc0 hc1 hc2 hyes hno
      have Hyes := Lib.hid hyes
      have Hno := Lib.hid hno
      clear hs hyes hno
      have g3 : (k : Int) < (ss.length : Int) := by omega
      go_wp2_with fail
      refine (l6In_c _ _ _ _).mono ?_
      rintro e w' ⟨rfl, rfl⟩
      cases e1 : inB s.a 0 (n - 1)
      · have Hn := Lib.hid (Hno.out (lnOk_no1 (two_no1 e1)))
        clear e1
        go_wp2
        go_ret
        exact ⟨by rw [Hn.out] <;> rfl, Hb.out.alloc Hb.out.size _⟩
      have E1 := Lib.hid e1
      clear e1
      go_wp2_with fail
      refine (l6In_c _ _ _ _).mono ?_
      rintro e w' ⟨rfl, rfl⟩
      cases e1 : inB s.b 0 (n - 1)
      · have Hn := Lib.hid (Hno.out (lnOk_no1 (two_no2 e1)))
        clear e1
        go_wp2
        go_ret
        exact ⟨by rw [Hn.out] <;> rfl, Hb.out.alloc Hb.out.size _⟩
      have E2 := Lib.hid e1
      clear e1
      by_cases e1 : s.a = s.b
      · have e2 : (s.a == s.b) = true := by simp [e1]
        have Hn := Lib.hid (Hno.out (lnOk_no1 (two_no3 e1)))
        clear e1
        go_wp2
        go_ret
        exact ⟨by rw [Hn.out] <;> rfl, Hb.out.alloc Hb.out.size _⟩
      have e2 : (s.a == s.b) = false := by simp [e1]
      have E3 := Lib.hid e1
      clear e1
      go_wp2_with fail
      refine (l6In_c _ _ _ _).mono ?_
      rintro e w' ⟨rfl, rfl⟩
      cases e3 : inB s.c 1 9
      · have Hn := Lib.hid (Hno.out (lnOk_no2 e3))
        clear e3
        go_wp2
        go_ret
        exact ⟨by rw [Hn.out] <;> rfl, Hb.out.alloc Hb.out.size _⟩
      have Hn := Lib.hid (Hyes.out (lnOk_yes (two_yes E1.out E2.out E3.out) e3))
      clear e3
      go_wp2
      go_roundw
      case rel => exact ⟨k + 1, by omega, Hn.out, by go_num, Hb.out.alloc Hb.out.size _⟩
      case measure => simp [intOf]; omega
    · obtain rfl : k = ss.length := by omega
      have Hv := Lib.hid (lnTo_all Ho.out)
      go_wp2_with fail
      refine (l6In_c _ _ _ _).mono ?_
      rintro e w' ⟨rfl, rfl⟩
      have e0 := E0.out
      have Hd : Hid (decide (ss.length ≤ 10) = decide ((ss.length : Int) ≤ 10)) := Lib.hid (by simp only [decide_eq_decide]; omega)
      go_wp2
      go_ret
      exact ⟨by rw [Hv.out, Hd.out, E0.out] <;> rfl, Hb.out⟩

set_option maxRecDepth 100000 in
set_option maxHeartbeats 1000000 in
theorem l7Two_c (n f t : Int) (A : Option Addr) (c : Nat) (ss : List Lin) (w : World) (ha : ArgL w A c ss) :
    Calls Try.prog 25 #[.int .i64 n, .slice A ss.length c, .int .i64 f, .int .i64 t] w (RetB (.bool (endB n ss f t)) w) := by
  have HA := Lib.hid ha
  have hv : endB n ss f t = (netB n ss && twoB n f t) := rfl
  have HV := Lib.hid hv
  clear ha hv
  go_enter Try.func25, Try.ntmps25
  go_wp2_with fail
  refine (specNetValid_b _ _ _ _ _ HA.out).mono ?_
  rintro e w1 ⟨rfl, hb⟩
  have Hb := Lib.hid hb
  clear hb
  cases e1 : netB n ss
  · have E1 := Lib.hid e1
    clear e1
    go_wp2
    go_ret
    exact ⟨by rw [HV.out, E1.out] <;> rfl, Hb.out⟩
  obtain ⟨n2, n6⟩ := (netB_true.1 e1).1
  have E1 := Lib.hid e1
  clear e1
  go_wp2_with fail
  refine (l6In_c _ _ _ _).mono ?_
  rintro e w' ⟨rfl, rfl⟩
  cases e1 : inB f 0 (n - 1)
  · have Hv := Lib.hid (two_no1 (b := t) e1)
    clear e1
    go_wp2
    go_ret
    exact ⟨by rw [HV.out, Hv.out, Bool.and_false] <;> rfl, Hb.out⟩
  have E2 := Lib.hid e1
  clear e1
  go_wp2_with fail
  refine (l6In_c _ _ _ _).mono ?_
  rintro e w' ⟨rfl, rfl⟩
  cases e1 : inB t 0 (n - 1)
  · have Hv := Lib.hid (two_no2 (a := f) e1)
    clear e1
    go_wp2
    go_ret
    exact ⟨by rw [HV.out, Hv.out, Bool.and_false] <;> rfl, Hb.out⟩
  have E3 := Lib.hid e1
  clear e1
  by_cases h3 : f = t
  · have Hv := Lib.hid (two_no3 (n := n) h3)
    have g : (f != t) = false := by simp [h3]
    clear h3
    go_wp2
    go_ret
    exact ⟨by rw [HV.out, Hv.out, Bool.and_false] <;> rfl, Hb.out⟩
  · have Hv := Lib.hid (two_yes E2.out E3.out h3)
    have g : (f != t) = true := by simp [h3]
    clear h3
    go_wp2
    go_ret
    exact ⟨by rw [HV.out, Hv.out, E1.out] <;> rfl, Hb.out⟩

end Go.Proofs.Ytnekjhpocfdpnaa
