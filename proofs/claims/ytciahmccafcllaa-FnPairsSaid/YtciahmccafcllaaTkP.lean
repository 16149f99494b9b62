/-
  OrdersPairs of both.
-/
import Derived.Test.YtciahmccafcllaaTkA
namespace Go.Proofs.Ytciahmccafcllaa
open Go.RowKit

theorem prs_no {L : List Int} (h : ordB L = false) : prsI L = -1 := by unfold prsI; rw [h]; rfl
theorem prs_yes {L : List Int} (h : ordB L = true) : prsI L = totP L L.length := by unfold prsI; rw [h]; rfl

set_option maxHeartbeats 1000000 in
theorem implOrdersPairs_b (A0 : Option Addr) (c0 : Nat) (z0 : List Int) (w : World) (h0 : Arg w A0 c0 z0) :
    Calls Try.prog 24 #[.slice A0 z0.length c0] w (RetB (.int .i64 (prsI z0)) w) := by
  have hl0 := h0.len
  have H0 := Lib.hid h0
  clear h0
  go_enter Try.func24, Try.ntmps24
  go_wp2_with fail
  refine (implOrdersValid_b A0 c0 z0 _ H0.out).mono ?_
  rintro e w1 ⟨rfl, hb1⟩
  have Hb1 := Lib.hid hb1
  replace H0 := Lib.hid (H0.out.go hb1)
  clear hb1
  cases hv : ordB z0
  · have Hn := Lib.hid (prs_no hv)
    clear hv
    go_wp2
    go_ret
    exact ⟨by rw [Hn.out]; rfl, Hb1.out⟩
  have Hn := Lib.hid (prs_yes hv)
  have h10 := ord_len hv
  clear hv
  go_wp2
  go_loopw [3, 11] (fun n i wr => ∃ k : Nat, k ≤ z0.length ∧ i = .int .i64 k ∧ n = .int .i64 (totP z0 k) ∧ Below w1.heap.size w1 wr) (fun _ i _ => z0.length - (intOf i).toNat)
  case atStart => exact ⟨0, Nat.zero_le _, rfl, rfl, Below.refl _ _⟩
  case round =>
    obtain ⟨k, hk, rfl, rfl, hb⟩ := hrel
    have Hb := Lib.hid hb
    clear hb
    have q1 := totP_le z0 k (by omega)
    by_cases hlt : k < z0.length
    · have g1 : (k : Int) < (z0.length : Int) := by omega
      go_wp2
      go_loopw [3, 15] (fun n i wq => ∃ j : Nat, j ≤ k ∧ i = .int .i64 j ∧ n = .int .i64 ((totP z0 k + rowP z0 k j : Nat) : Int) ∧ Below w1.heap.size w1 wq) (fun _ i _ => k - (intOf i).toNat)
      case atStart => exact ⟨0, Nat.zero_le _, rfl, rfl, Hb.out⟩
      case round =>
        obtain ⟨j, hj, rfl, rfl, hb2⟩ := hrel
        have Hb2 := Lib.hid hb2
        clear hb2
        have q2 := rowP_le z0 k j
        by_cases hjk : j < k
        · have g2 : (j : Int) < (k : Int) := by omega
          have Hs := Lib.hid (show rowP z0 k (j + 1) = rowP z0 k j + if agrB z0 (j : Int) (k : Int) then 0 else 1 from rfl)
          obtain ⟨u, hu⟩ : ∃ u, totP z0 k = u := ⟨_, rfl⟩
          obtain ⟨v, hvv⟩ : ∃ v, rowP z0 k j = v := ⟨_, rfl⟩
          rw [hvv] at Hs
          rw [hu] at q1
          rw [hvv] at q2
          rw [hu, hvv]
          go_wp2_with fail
          refine (implOrdersAgree_b A0 c0 z0 (j : Int) (k : Int) _ (H0.out.go Hb2.out)).mono ?_
          rintro e w3 ⟨rfl, hb3⟩
          have Hb3 := Lib.hid hb3
          clear hb3
          cases ha : agrB z0 (j : Int) (k : Int)
          · rw [ha] at Hs
            clear ha hu hvv
            go_wp2
            go_roundw
            case rel => exact ⟨j + 1, by omega, by go_num, by rw [Hs.out]; go_num, below_step Hb2.out Hb3.out⟩
            case measure => simp [intOf]; omega
          · rw [ha] at Hs
            clear ha hu hvv
            go_wp2
            go_roundw
            case rel => exact ⟨j + 1, by omega, by go_num, by rw [Hs.out]; go_num, below_step Hb2.out Hb3.out⟩
            case measure => simp [intOf]; omega
        · obtain rfl : j = k := by omega
          go_wp2
          go_roundw
          case rel => exact ⟨j + 1, by omega, by go_num, rfl, Hb2.out⟩
          case measure => simp [intOf]; omega
    · obtain rfl : k = z0.length := by omega
      go_wp2
      go_ret
      exact ⟨by rw [Hn.out]; rfl, below_step Hb1.out Hb.out⟩

set_option maxHeartbeats 1000000 in
theorem specOrdersPairs_b (A0 : Option Addr) (c0 : Nat) (z0 : List Int) (w : World) (h0 : Arg w A0 c0 z0) :
    Calls Try.prog 25 #[.slice A0 z0.length c0] w (RetB (.int .i64 (prsI z0)) w) := by
  have hl0 := h0.len
  have H0 := Lib.hid h0
  clear h0
  go_enter Try.func25, Try.ntmps25
  go_wp2_with fail
  refine (specOrdersValid_b A0 c0 z0 _ H0.out).mono ?_
  rintro e w1 ⟨rfl, hb1⟩
  have Hb1 := Lib.hid hb1
  replace H0 := Lib.hid (H0.out.go hb1)
  clear hb1
  cases hv : ordB z0
  · have Hn := Lib.hid (prs_no hv)
    clear hv
    go_wp2
    go_ret
    exact ⟨by rw [Hn.out]; rfl, Hb1.out⟩
  have Hn := Lib.hid (prs_yes hv)
  have h10 := ord_len hv
  clear hv
  go_wp2
  go_loopw [3, 4] (fun n i wr => ∃ k : Nat, k ≤ z0.length ∧ i = .int .i64 k ∧ n = .int .i64 (totP z0 k) ∧ Below w1.heap.size w1 wr) (fun _ i _ => z0.length - (intOf i).toNat)
  case atStart => exact ⟨0, Nat.zero_le _, rfl, rfl, Below.refl _ _⟩
  case round =>
    obtain ⟨k, hk, rfl, rfl, hb⟩ := hrel
    have Hb := Lib.hid hb
    clear hb
    have q1 := totP_le z0 k (by omega)
    by_cases hlt : k < z0.length
    · have g1 : (k : Int) < (z0.length : Int) := by omega
      go_wp2
      go_loopw [3, 5] (fun n i wq => ∃ j : Nat, j ≤ k ∧ i = .int .i64 j ∧ n = .int .i64 ((totP z0 k + rowP z0 k j : Nat) : Int) ∧ Below w1.heap.size w1 wq) (fun _ i _ => k - (intOf i).toNat)
      case atStart => exact ⟨0, Nat.zero_le _, rfl, rfl, Hb.out⟩
      case round =>
        obtain ⟨j, hj, rfl, rfl, hb2⟩ := hrel
        have Hb2 := Lib.hid hb2
        clear hb2
        have q2 := rowP_le z0 k j
        by_cases hjk : j < k
        · have g2 : (j : Int) < (k : Int) := by omega
          have Hs := Lib.hid (show rowP z0 k (j + 1) = rowP z0 k j + if agrB z0 (k : Int) (j : Int) then 0 else 1 by rw [agrB_symm]; rfl)
          obtain ⟨u, hu⟩ : ∃ u, totP z0 k = u := ⟨_, rfl⟩
          obtain ⟨v, hvv⟩ : ∃ v, rowP z0 k j = v := ⟨_, rfl⟩
          rw [hvv] at Hs
          rw [hu] at q1
          rw [hvv] at q2
          rw [hu, hvv]
          go_wp2_with fail
          refine (specOrdersAgree_b A0 c0 z0 (k : Int) (j : Int) _ (H0.out.go Hb2.out)).mono ?_
          rintro e w3 ⟨rfl, hb3⟩
          have Hb3 := Lib.hid hb3
          clear hb3
          cases ha : agrB z0 (k : Int) (j : Int)
          · rw [ha] at Hs
            clear ha hu hvv
            go_wp2
            go_roundw
            case rel => exact ⟨j + 1, by omega, by go_num, by rw [Hs.out]; go_num, below_step Hb2.out Hb3.out⟩
            case measure => simp [intOf]; omega
          · rw [ha] at Hs
            clear ha hu hvv
            go_wp2
            go_roundw
            case rel => exact ⟨j + 1, by omega, by go_num, by rw [Hs.out]; go_num, below_step Hb2.out Hb3.out⟩
            case measure => simp [intOf]; omega
        · obtain rfl : j = k := by omega
          go_wp2
          go_roundw
          case rel => exact ⟨j + 1, by omega, by go_num, rfl, Hb2.out⟩
          case measure => simp [intOf]; omega
    · obtain rfl : k = z0.length := by omega
      go_wp2
      go_ret
      exact ⟨by rw [Hn.out]; rfl, below_step Hb1.out Hb.out⟩

end Go.Proofs.Ytciahmccafcllaa
