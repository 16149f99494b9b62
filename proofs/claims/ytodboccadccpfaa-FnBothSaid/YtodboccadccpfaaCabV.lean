/-
  CableValid of both.
-/
import Derived.Test.YtodboccadccpfaaRng
namespace Go.Proofs.Ytodboccadccpfaa
open Go.RowKit

set_option maxRecDepth 100000 in
set_option maxHeartbeats 1000000 in
theorem implCableValid_c (A : Option Addr) (c : Nat) (ss : List Sec) (w : World) (ha : ArgC w A c ss) :
    Calls Try.prog 103 #[.slice A ss.length c] w (RetB (.bool (cabB ss)) w) := by
  have hl := ha.len
  have HA := Lib.hid ha
  clear ha
  cases h1 : inB (ss.length : Int) 1 8
  all_goals
    have H1 := Lib.hid h1
    clear h1
    go_enter Try.func103, Try.ntmps103
    go_wp2_with fail
    refine (inRange_c _ _ _ _).mono ?_
    rintro e w' ⟨rfl, rfl⟩
    rw [H1.out]
  · go_wp2
    go_ret
    exact ⟨by rw [cabB_len H1.out]; rfl, Below.refl _ _⟩
  · go_wp2
    go_loopw [11] (fun i wr => ∃ k : Nat, k ≤ ss.length ∧ okTo ss k ∧ i = .int .i64 k ∧ Below w.heap.size w wr) (fun i _ => ss.length - (intOf i).toNat)
    case atStart => exact ⟨0, Nat.zero_le _, okTo_zero _, rfl, Below.refl _ _⟩
    case round =>
      obtain ⟨k, hk, ho, rfl, hb⟩ := hrel
      have Ho := Lib.hid ho
      have Hb := Lib.hid hb
      clear ho hb
      by_cases hlt : k < ss.length
      · obtain ⟨b, off, rfl, _, hbw, hc0, hc1, hc2⟩ := (HA.out.go Hb.out).rd.at_ hlt
        obtain ⟨s, hs⟩ : ∃ s, secAt ss k = s := ⟨_, rfl⟩
        rw [hs] at hc0 hc1 hc2
        have Hs := Lib.hid hs
        clear hs
        have g1 : (k : Int) < (ss.length : Int) := by omega
        go_wp2_with fail
        refine (inRange_c _ _ _ _).mono ?_
        rintro e w' ⟨rfl, rfl⟩
        cases e1 : inB s.m 1 50
        · have Hn := Lib.hid (allOk_not hlt (by rw [Hs.out]; exact secOk_false1 e1))
          clear e1
          go_wp2
          go_ret
          exact ⟨by rw [cabB_no Hn.out]; rfl, Hb.out.alloc Hb.out.size _⟩
        have E1 := Lib.hid e1
        clear e1
        go_wp2_with fail
        refine (inRange_c _ _ _ _).mono ?_
        rintro e w' ⟨rfl, rfl⟩
        cases e2 : inB s.k 0 3
        · have Hn := Lib.hid (allOk_not hlt (by rw [Hs.out]; exact secOk_false2 e2))
          clear e2
          go_wp2
          go_ret
          exact ⟨by rw [cabB_no Hn.out]; rfl, Hb.out.alloc Hb.out.size _⟩
        have E2 := Lib.hid e2
        clear e2
        go_wp2_with fail
        refine (inRange_c _ _ _ _).mono ?_
        rintro e w' ⟨rfl, rfl⟩
        cases e3 : inB s.o 1 20
        · have Hn := Lib.hid (allOk_not hlt (by rw [Hs.out]; exact secOk_false3 e3))
          clear e3
          go_wp2
          go_ret
          exact ⟨by rw [cabB_no Hn.out]; rfl, Hb.out.alloc Hb.out.size _⟩
        have Hn := Lib.hid (okTo_succ Ho.out (by rw [Hs.out]; exact secOk_all E1.out E2.out e3))
        clear e3
        go_wp2
        go_roundw
        case rel => exact ⟨k + 1, by omega, Hn.out, by go_num, Hb.out.alloc Hb.out.size _⟩
        case measure => simp [intOf]; omega
      · obtain rfl : k = ss.length := by omega
        go_wp2
        go_ret
        exact ⟨by rw [cabB_yes H1.out (allOk_of_to Ho.out)]; rfl, Hb.out⟩

set_option maxRecDepth 100000 in
set_option maxHeartbeats 1000000 in
theorem specCableValid_c (A : Option Addr) (c : Nat) (ss : List Sec) (w : World) (ha : ArgC w A c ss) :
    Calls Try.prog 64 #[.slice A ss.length c] w (RetB (.bool (cabB ss)) w) := by
  have hl := ha.len
  have HA := Lib.hid ha
  clear ha
  go_enter Try.func64, Try.ntmps64
  go_wp2
  go_loopw [3] (fun i wr => ∃ k : Nat, k ≤ ss.length ∧ okTo ss k ∧ i = .int .i64 k ∧ Below w.heap.size w wr) (fun i _ => ss.length - (intOf i).toNat)
  case atStart => exact ⟨0, Nat.zero_le _, okTo_zero _, rfl, Below.refl _ _⟩
  case round =>
    obtain ⟨k, hk, ho, rfl, hb⟩ := hrel
    have Ho := Lib.hid ho
    have Hb := Lib.hid hb
    clear ho hb
    by_cases hlt : k < ss.length
    · obtain ⟨b, off, rfl, _, hbw, hc0, hc1, hc2⟩ := (HA.out.go Hb.out).rd.at_ hlt
      obtain ⟨s, hs⟩ : ∃ s, secAt ss k = s := ⟨_, rfl⟩
      rw [hs] at hc0 hc1 hc2
      have Hs := Lib.hid hs
      clear hs
      have g1 : (k : Int) < (ss.length : Int) := by omega
      go_wp2_with fail
      refine (l6In_c _ _ _ _).mono ?_
      rintro e w' ⟨rfl, rfl⟩
      cases e1 : inB s.m 1 50
      · have Hn := Lib.hid (allOk_not hlt (by rw [Hs.out]; exact secOk_false1 e1))
        clear e1
        go_wp2
        go_ret
        exact ⟨by rw [cabB_no Hn.out]; rfl, Hb.out.alloc Hb.out.size _⟩
      have E1 := Lib.hid e1
      clear e1
      go_wp2_with fail
      refine (l6In_c _ _ _ _).mono ?_
      rintro e w' ⟨rfl, rfl⟩
      cases e2 : inB s.k 0 3
      · have Hn := Lib.hid (allOk_not hlt (by rw [Hs.out]; exact secOk_false2 e2))
        clear e2
        go_wp2
        go_ret
        exact ⟨by rw [cabB_no Hn.out]; rfl, Hb.out.alloc Hb.out.size _⟩
      have E2 := Lib.hid e2
      clear e2
      go_wp2_with fail
      refine (l6In_c _ _ _ _).mono ?_
      rintro e w' ⟨rfl, rfl⟩
      cases e3 : inB s.o 1 20
      · have Hn := Lib.hid (allOk_not hlt (by rw [Hs.out]; exact secOk_false3 e3))
        clear e3
        go_wp2
        go_ret
        exact ⟨by rw [cabB_no Hn.out]; rfl, Hb.out.alloc Hb.out.size _⟩
      have Hn := Lib.hid (okTo_succ Ho.out (by rw [Hs.out]; exact secOk_all E1.out E2.out e3))
      clear e3
      go_wp2
      go_roundw
      case rel => exact ⟨k + 1, by omega, Hn.out, by go_num, Hb.out.alloc Hb.out.size _⟩
      case measure => simp [intOf]; omega
    · obtain rfl : k = ss.length := by omega
      go_wp2_with fail
      refine (l6In_c _ _ _ _).mono ?_
      rintro e w' ⟨rfl, rfl⟩
      go_wp2
      go_ret
      exact ⟨by unfold cabB; rw [allOk_of_to Ho.out]; simp, Hb.out⟩

end Go.Proofs.Ytodboccadccpfaa
