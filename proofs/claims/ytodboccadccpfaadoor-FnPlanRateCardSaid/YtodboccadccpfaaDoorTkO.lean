/-
  OrdersValid of both.
-/
import Derived.Test.YtodboccadccpfaaDoorTkM
import Derived.BigQuiet
import Derived.Deep.RegionHeld3
namespace Go.Proofs.YtodboccadccpfaaDoor
open Go.RowKit

set_option maxRecDepth 100000 in
set_option maxHeartbeats 1000000 in
theorem implOrdersValid_b (A0 : Option Addr) (c0 : Nat) (z0 : List Int) (w : World) (h0 : Arg w A0 c0 z0) :
    Calls Tryd.prog 28 #[.slice A0 z0.length c0] w (RetB (.bool (ordB z0)) w) := by
  have hl0 := h0.len
  have H0 := Lib.hid h0
  clear h0
  go_enter Tryd.func28, Tryd.ntmps28
  by_cases hlen : 10 < z0.length
  · have g0 : (10 : Int) < (z0.length : Int) := by omega
    have Hl := Lib.hid (ordI_long hlen)
    go_wp2
    go_ret
    exact ⟨by rw [Hl.out]; rfl, Below.refl _ _⟩
  have g0 : ¬ (10 : Int) < (z0.length : Int) := by omega
  have Hl := Lib.hid (ordI_all (L := z0) (by omega))
  clear hlen
  go_wp2
  go_loopw [9] (fun i wr => ∃ k : Nat, k ≤ z0.length ∧ i = .int .i64 k ∧ (∀ j : Nat, j < k → (j : Int) ∈ z0) ∧ Below w.heap.size w wr) (fun i _ => z0.length - (intOf i).toNat)
  case atStart => exact ⟨0, Nat.zero_le _, rfl, fun j hj => absurd hj (by omega), Below.refl _ _⟩
  case round =>
    obtain ⟨k, hk, rfl, ho, hb⟩ := hrel
    have Ho := Lib.hid ho
    have Hb := Lib.hid hb
    clear ho hb
    by_cases hlt : k < z0.length
    · have Hno := Lib.hid (ordI_not (L := z0) hlt)
      have g1 : (k : Int) < (z0.length : Int) := by omega
      go_wp2_with fail
      refine (contains_c A0 c0 z0 (k : Int) _ (H0.out.go Hb.out)).mono ?_
      rintro e w2 ⟨rfl, hb2⟩
      have Hb2 := Lib.hid hb2
      clear hb2
      by_cases hm : (k : Int) ∈ z0
      · have Hm := Lib.hid hm
        rw [decide_eq_true hm]
        clear hm
        go_wp2
        go_roundw
        case rel =>
          refine ⟨k + 1, by omega, by go_num, fun j hj => ?_, below_step Hb.out Hb2.out⟩
          rcases Nat.lt_or_ge j k with h1 | h1
          · exact Ho.out j h1
          · obtain rfl : j = k := by omega
            exact Hm.out
        case measure => simp [intOf]; omega
      · rw [decide_eq_false hm]
        have Hn := Lib.hid (Hno.out hm)
        clear hm
        go_wp2
        go_ret
        exact ⟨by rw [Hn.out]; rfl, below_step Hb.out Hb2.out⟩
    · obtain rfl : k = z0.length := by omega
      go_wp2
      go_ret
      exact ⟨by rw [Hl.out Ho.out]; rfl, Hb.out⟩

set_option maxRecDepth 100000 in
set_option maxHeartbeats 1000000 in
theorem specOrdersValid_q (A0 : Option Addr) (c0 : Nat) (z0 : List Int) (w : World) (h0 : Arg w A0 c0 z0) :
    Calls Tryd.prog 30 #[.slice A0 z0.length c0] w (RetQ (.bool (ordB z0)) w) := by
  have hl0 := h0.len
  have hcap := h0.2.1
  have hcm := h0.2.2.1
  have H0 := Lib.hid h0
  clear h0
  go_enter Tryd.func30, Tryd.ntmps30
  go_wp2
  go_loopw [3] (fun i wr => ∃ k : Nat, k ≤ z0.length ∧ i = .int .i64 k ∧ ordTo z0 k ∧ ∃ m, wr = w.drewN m) (fun i _ => z0.length - (intOf i).toNat)
  case atStart => exact ⟨0, Nat.zero_le _, rfl, ordTo_zero _, 0, rfl⟩
  case round =>
    obtain ⟨k, hk, rfl, ho, hw⟩ := hrel
    have Ho := Lib.hid ho
    have Hb : Hid (Below w.heap.size w wr) := Lib.hid (by obtain ⟨m, rfl⟩ := hw; exact below_drewN (Below.refl _ _) m)
    have Hw := Lib.hid (fun (n : Nat) => (show ∃ m, wr.drewN n = w.drewN m by obtain ⟨m, rfl⟩ := hw; exact ⟨m + n, World.drewN_drewN _ _ _⟩))
    clear ho hw
    by_cases hlt : k < z0.length
    · have a0 : Arg wr A0 c0 z0 := H0.out.go Hb.out
      obtain ⟨b, off, rfl, _, hbw, hc0⟩ := a0.rd.at_ hlt
      have Hno := Lib.hid (ordTo_not (L := z0) hlt)
      have Hyes := Lib.hid (ordTo_succ Ho.out)
      have htk := take_len hk
      have Hhas := Lib.hid (fun (x : Int) (W : World) (hb : Below wr.heap.size wr W) => l4Has_c (some ⟨b, off, none⟩) c0 (z0.take k) x W ((a0.go hb).take k))
      rw [htk] at Hhas
      obtain ⟨y, hy⟩ : ∃ y, z0[k]?.getD 0 = y := ⟨_, rfl⟩
      rw [hy] at hc0 Hno Hyes
      have g1 : (k : Int) < (z0.length : Int) := by omega
      have g4 : (0 : Int) ≤ (k : Int) := by omega
      have g5 : (k : Int) ≤ (c0 : Int) := by omega
      have g6 : (k : Int) ≤ (z0.length : Int) := by omega
      have Hwr := Lib.hid (show IntKind.i64.wrap ((z0.length : Int) - 1) = (z0.length : Int) - 1 from IntWalk.i64_in _ (by omega))
      clear hy htk a0
      cases e1 : inB y 0 ((z0.length : Int) - 1)
      · have Hn := Lib.hid (Hno.out (.inl e1))
        have E1 := Lib.hid e1
        clear e1
        go_wp2
        go_quiet (first
          | (go_at_call 50; refine Calls.quiet_of_same (v := .bool false) ((l6In_c _ _ _ _).mono ?_); rintro e w' ⟨rfl, rfl⟩; exact ⟨by first | rw [E1.out] | rw [Hwr.out, E1.out], rfl⟩)
          | fail)
        all_goals
          go_wp2
          go_ret
          exact ⟨by rw [Hn.out]; rfl, Hw.out nq⟩
      have E1 := Lib.hid e1
      clear e1
      by_cases hm : y ∈ z0.take k
      · have Hm := Lib.hid (decide_eq_true hm)
        have Hn := Lib.hid (Hno.out (.inr hm))
        clear hm
        go_wp2
        go_quiet (first
          | (go_at_call 50; refine Calls.quiet_of_same (v := .bool true) ((l6In_c _ _ _ _).mono ?_); rintro e w' ⟨rfl, rfl⟩; exact ⟨by first | rw [E1.out] | rw [Hwr.out, E1.out], rfl⟩)
          | (go_at_call 51; refine Calls.quiet_of_same (v := .bool true) ((Hhas.out _ _ (below_drewN (Below.refl _ _) _)).mono ?_); rintro e w' ⟨rfl, rfl⟩; exact ⟨by rw [Hm.out], rfl⟩)
          | fail)
        all_goals
          go_wp2
          go_ret
          exact ⟨by rw [Hn.out]; rfl, Hw.out nq⟩
      · have Hm := Lib.hid (decide_eq_false hm)
        have Hn := Lib.hid (Hyes.out E1.out hm)
        clear hm
        go_wp2
        go_quiet (first
          | (go_at_call 50; refine Calls.quiet_of_same (v := .bool true) ((l6In_c _ _ _ _).mono ?_); rintro e w' ⟨rfl, rfl⟩; exact ⟨by first | rw [E1.out] | rw [Hwr.out, E1.out], rfl⟩)
          | (go_at_call 51; refine Calls.quiet_of_same (v := .bool false) ((Hhas.out _ _ (below_drewN (Below.refl _ _) _)).mono ?_); rintro e w' ⟨rfl, rfl⟩; exact ⟨by rw [Hm.out], rfl⟩)
          | fail)
        all_goals
          go_wp2
          go_roundw
          case rel => exact ⟨k + 1, by omega, by go_num, Hn.out, Hw.out nq⟩
          case measure => simp [intOf]; omega
    · obtain rfl : k = z0.length := by omega
      have Hv := Lib.hid (ordTo_all Ho.out)
      by_cases g0 : z0.length ≤ 10
      · have g1 : (z0.length : Int) ≤ 10 := by omega
        go_wp2
        go_ret
        exact ⟨by rw [Hv.out, decide_eq_true g0]; rfl, Hw.out 0⟩
      · have g1 : ¬ (z0.length : Int) ≤ 10 := by omega
        go_wp2
        go_ret
        exact ⟨by rw [Hv.out, decide_eq_false g0]; rfl, Hw.out 0⟩
theorem specOrdersValid_b (A0 : Option Addr) (c0 : Nat) (z0 : List Int) (w : World) (h0 : Arg w A0 c0 z0) :
    Calls Tryd.prog 30 #[.slice A0 z0.length c0] w (RetB (.bool (ordB z0)) w) := (specOrdersValid_q A0 c0 z0 w h0).mono fun _ _ h => h.toB

end Go.Proofs.YtodboccadccpfaaDoor
