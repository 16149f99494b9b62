/-
  The model's StowageTanks and StowageMost.
-/
import Derived.Test.YthdbbppahloapaaOutV
import Derived.Test.YthdbbppahloapaaCntI
namespace Go.Proofs.Ythdbbppahloapaa
open Go.RowKit

set_option maxHeartbeats 2000000 in
theorem specStowageTanks_b (A0 : Option Addr) (c0 : Nat) (z0 : List Int) (A1 : Option Addr) (c1 : Nat) (z1 : List Int) (w : World) (h0 : Arg w A0 c0 z0) (h1 : Arg w A1 c1 z1) :
    Calls Try.prog 22 #[.slice A0 z0.length c0, .slice A1 z1.length c1] w (RetB (.int .i64 (tnkI z0 z1)) w) := by
  have hl1 := h1.len
  have hcap := h1.2.1
  have hcm := h1.2.2.1
  have H0 := Lib.hid h0
  have H1 := Lib.hid h1
  clear h0 h1
  go_enter Try.func22, Try.ntmps22
  go_wp2_with fail
  refine (specStowageValid_b A0 c0 z0 A1 c1 z1 _ H0.out H1.out).mono ?_
  rintro e w1 ⟨rfl, hb1⟩
  have Hb1 := Lib.hid hb1
  replace H1 := Lib.hid (H1.out.go hb1)
  clear hb1
  cases hs : stowB z0 z1
  · have Hn := Lib.hid (tnk_no hs)
    clear hs
    go_wp2
    go_ret
    exact ⟨by rw [Hn.out]; rfl, Hb1.out⟩
  have Hy := Lib.hid ((tnk_yes hs).trans (congrArg (fun n : Nat => (n : Int)) (used_new (stow_tanks hs) z1.length (Nat.le_refl _))))
  clear hs
  go_wp2
  go_loopw [5, 6] (fun n i wr => ∃ k : Nat, k ≤ z1.length ∧ i = .int .i64 k ∧ n = .int .i64 (newK z1 k) ∧ ∃ m, wr = w1.drewN m) (fun _ i _ => z1.length - (intOf i).toNat)
  case atStart => exact ⟨0, Nat.zero_le _, rfl, rfl, 0, rfl⟩
  case round =>
    obtain ⟨k, hk, rfl, rfl, hw⟩ := hrel
    have hbq : Below w1.heap.size w1 wr := by obtain ⟨m, rfl⟩ := hw; exact below_drewN (Below.refl _ _) m
    have Hw := Lib.hid (fun (n : Nat) => (show ∃ m, wr.drewN n = w1.drewN m by obtain ⟨m, rfl⟩ := hw; exact ⟨m + n, World.drewN_drewN _ _ _⟩))
    have Hb := Lib.hid (below_step Hb1.out hbq)
    have hnk := newK_le z1 k
    have a1 := H1.out.go hbq
    clear hw hbq
    by_cases hlt : k < z1.length
    · obtain ⟨b, off, rfl, _, hbw, hc0⟩ := a1.rd.at_ hlt
      have Hs := Lib.hid (show newK z1 (k + 1) = newK z1 k + if z1[k]?.getD 0 ∈ z1.take k then 0 else 1 from rfl)
      have htk := take_len hk
      have Hhas := Lib.hid (fun (x : Int) (W : World) (hb : Below wr.heap.size wr W) => l4Has_c (some ⟨b, off, none⟩) c1 (z1.take k) x W ((a1.go hb).take k))
      rw [htk] at Hhas
      obtain ⟨y, hy⟩ : ∃ y, z1[k]?.getD 0 = y := ⟨_, rfl⟩
      obtain ⟨u, hu⟩ : ∃ u, newK z1 k = u := ⟨_, rfl⟩
      rw [hy] at hc0 Hs
      rw [hu] at Hs hnk ⊢
      have g1 : (k : Int) < (z1.length : Int) := by omega
      have g4 : (0 : Int) ≤ (k : Int) := by omega
      have g5 : (k : Int) ≤ (c1 : Int) := by omega
      have g6 : (k : Int) ≤ (z1.length : Int) := by omega
      clear hy hu htk a1
      by_cases hm : y ∈ z1.take k
      · have Hm := Lib.hid (decide_eq_true hm)
        rw [if_pos hm] at Hs
        clear hm
        go_wp2
        go_quiet (first
          | (go_at_call 49; refine Calls.quiet_of_same (v := .bool true) ((Hhas.out _ _ (below_drewN (Below.refl _ _) _)).mono ?_); rintro e w' ⟨rfl, rfl⟩; exact ⟨by rw [Hm.out], rfl⟩)
          | fail)
        all_goals
          go_wp2
          go_roundw
          case rel => exact ⟨k + 1, by omega, by go_num, by rw [Hs.out]; rfl, Hw.out nq⟩
          case measure => simp [intOf]; omega
      · have Hm := Lib.hid (decide_eq_false hm)
        rw [if_neg hm] at Hs
        clear hm
        go_wp2
        go_quiet (first
          | (go_at_call 49; refine Calls.quiet_of_same (v := .bool false) ((Hhas.out _ _ (below_drewN (Below.refl _ _) _)).mono ?_); rintro e w' ⟨rfl, rfl⟩; exact ⟨by rw [Hm.out], rfl⟩)
          | fail)
        all_goals
          go_wp2
          go_roundw
          case rel => exact ⟨k + 1, by omega, by go_num, by rw [Hs.out]; go_num, Hw.out nq⟩
          case measure => simp [intOf]; omega
    · obtain rfl : k = z1.length := by omega
      clear a1
      go_wp2
      go_ret
      exact ⟨by rw [Hy.out]; rfl, Hb.out⟩

set_option maxHeartbeats 2000000 in
theorem specStowageMost_b (A0 : Option Addr) (c0 : Nat) (z0 : List Int) (A1 : Option Addr) (c1 : Nat) (z1 : List Int) (w : World) (h0 : Arg w A0 c0 z0) (h1 : Arg w A1 c1 z1) :
    Calls Try.prog 34 #[.slice A0 z0.length c0, .slice A1 z1.length c1] w (RetB (.int .i64 (mstI z0 z1)) w) := by
  have hl1 := h1.len
  have H0 := Lib.hid h0
  have H1 := Lib.hid h1
  clear h0 h1
  go_enter Try.func34, Try.ntmps34
  go_wp2_with fail
  refine (specStowageValid_b A0 c0 z0 A1 c1 z1 _ H0.out H1.out).mono ?_
  rintro e w1 ⟨rfl, hb1⟩
  have Hb1 := Lib.hid hb1
  replace H1 := Lib.hid (H1.out.go hb1)
  clear hb1
  cases hs : stowB z0 z1
  · have Hn := Lib.hid (mst_no hs)
    clear hs
    go_wp2
    go_ret
    exact ⟨by rw [Hn.out]; rfl, Hb1.out⟩
  have Hy := Lib.hid (mst_yes hs)
  clear hs
  go_wp2
  go_loopw [5, 6] (fun n i wr => ∃ k : Nat, k ≤ 5 ∧ i = .int .i64 k ∧ n = .int .i64 (mostK z1 k) ∧ w1 = wr) (fun _ i _ => 5 - (intOf i).toNat)
  case atStart => exact ⟨0, Nat.zero_le _, rfl, rfl, rfl⟩
  case round =>
    obtain ⟨k, hk, rfl, rfl, rfl⟩ := hrel
    have hmk := mostK_le z1 k
    by_cases hlt : k < 5
    · have Hs := Lib.hid (show mostK z1 (k + 1) = max (mostK z1 k) (cnt z1 k z1.length) from rfl)
      obtain ⟨u, hu⟩ : ∃ u, mostK z1 k = u := ⟨_, rfl⟩
      rw [hu] at Hs hmk ⊢
      have g2 : (k : Int) < 5 := by omega
      clear hu
      go_wp2
      go_loopw [7, 8] (fun n i wr => ∃ j : Nat, j ≤ z1.length ∧ i = .int .i64 j ∧ n = .int .i64 (cnt z1 k j) ∧ w1 = wr) (fun _ i _ => z1.length - (intOf i).toNat)
      case atStart => exact ⟨0, Nat.zero_le _, rfl, rfl, rfl⟩
      case round =>
        obtain ⟨j, hj, rfl, rfl, rfl⟩ := hrel
        have hcj := cnt_leK z1 k j
        by_cases hjl : j < z1.length
        · obtain ⟨b, off, rfl, _, hbw, hc0⟩ := H1.out.rd.at_ hjl
          have Hc := Lib.hid (show cnt z1 k (j + 1) = cnt z1 k j + if z1[j]?.getD 0 = k then 1 else 0 from rfl)
          obtain ⟨y, hy⟩ : ∃ y, z1[j]?.getD 0 = y := ⟨_, rfl⟩
          obtain ⟨v, hv⟩ : ∃ v, cnt z1 k j = v := ⟨_, rfl⟩
          rw [hy] at hc0 Hc
          rw [hv] at Hc hcj ⊢
          have g3 : (j : Int) < (z1.length : Int) := by omega
          clear hy hv
          by_cases hyk : y = (k : Int)
          · rw [if_pos hyk] at Hc
            go_wp2
            go_roundw
            case rel => exact ⟨j + 1, by omega, by go_num, by rw [Hc.out]; go_num, trivial⟩
            case measure => simp [intOf]; omega
          · rw [if_neg hyk] at Hc
            go_wp2
            go_roundw
            case rel => exact ⟨j + 1, by omega, by go_num, by rw [Hc.out]; rfl, trivial⟩
            case measure => simp [intOf]; omega
        · obtain rfl : j = z1.length := by omega
          obtain ⟨v, hv⟩ : ∃ v, cnt z1 k z1.length = v := ⟨_, rfl⟩
          rw [hv] at Hs hcj ⊢
          clear hv
          by_cases huv : u < v
          · rw [show max u v = v by omega] at Hs
            have g4 : (u : Int) < (v : Int) := by omega
            go_wp2
            go_roundw
            case rel => exact ⟨k + 1, by omega, by go_num, by rw [Hs.out], trivial⟩
            case measure => simp [intOf]; omega
          · rw [show max u v = u by omega] at Hs
            have g4 : ((u : Int) < (v : Int)) = False := eq_false (by omega)
            go_wp2
            go_roundw
            case rel => exact ⟨k + 1, by omega, by go_num, by rw [Hs.out], trivial⟩
            case measure => simp [intOf]; omega
    · obtain rfl : k = 5 := by omega
      go_wp2
      go_ret
      exact ⟨by rw [Hy.out]; rfl, Hb1.out⟩

end Go.Proofs.Ythdbbppahloapaa
