/-
  Contracts of the laws' own small functions over lists of ints: sameInts.
-/
import Derived.Test.YtnekjhpocfdpnaaBase0
namespace Go.Proofs.Ytnekjhpocfdpnaa
open Go.RowKit

/-! ### sameInts: of the package laws -/
set_option maxRecDepth 100000 in
set_option maxHeartbeats 400000 in
theorem sameInts_c (A B : Option Addr) (c d : Nat) (xs ys : List Int) (w : World) (ha1 : Arg w A c xs) (ha2 : Arg w B d ys) :
    Calls Try.prog 18 #[.slice A xs.length c, .slice B ys.length d] w (RetQ (.bool (decide (xs = ys))) w) := by
  obtain ⟨hx, _, _, r1⟩ := ha1
  obtain ⟨hy, _, _, r2⟩ := ha2
  by_cases hl : xs.length = ys.length
  · have hl1 : ((xs.length : Int) != (ys.length : Int)) = false := by simp [hl]
    have HL := Lib.hid hl
    clear hl
    go_enter Try.func18, Try.ntmps18
    go_wp2
    go_loopw [5] (fun i wr => ∃ k n : Nat, k ≤ xs.length ∧ eqTo xs ys k ∧ i = .int .i64 k ∧ wr = w.drewN n) (fun i _ => xs.length - (intOf i).toNat)
    case atStart => exact ⟨0, 0, Nat.zero_le _, eqTo_zero _ _, rfl, rfl⟩
    case round =>
      obtain ⟨k, n, hk, ha, rfl, rfl⟩ := hrel
      have Ha := Lib.hid ha
      clear ha
      by_cases hlt : k < xs.length
      · have hlt2 : k < ys.length := by have := HL.out; omega
        obtain ⟨b, off, rfl, _, _, hc⟩ := r1.at_ hlt
        obtain ⟨b', off', rfl, _, _, hc'⟩ := r2.at_ hlt2
        have R1 := Lib.hid r1
        have R2 := Lib.hid r2
        clear r1 r2
        have e0 : xs[k]?.getD 0 = xs[k] := by simp [hlt]
        have e1 : ys[k]?.getD 0 = ys[k] := by simp [hlt2]
        rw [e0] at hc
        rw [e1] at hc'
        have E0 := Lib.hid e0
        have E1 := Lib.hid e1
        clear e0 e1
        have g1 : (k : Int) < (xs.length : Int) := by omega
        have g2 : (k : Int) < (ys.length : Int) := by omega
        by_cases hne : xs[k] = ys[k]
        · have hb : (xs[k] != ys[k]) = false := by simp [hne]
          have Hne := Lib.hid hne
          clear hne
          go_wp2
          go_quiet (fail)
          go_wp2
          go_roundw
          case rel => exact ⟨k + 1, _, by omega, eqTo_succ Ha.out (by rw [E0.out, E1.out]; exact Hne.out), by go_num, by first | exact World.drewN_drewN _ _ _ | rfl⟩
          case measure => simp [intOf]; omega
        · have hb : (xs[k] != ys[k]) = true := by simp [hne]
          have Hne := Lib.hid hne
          clear hne
          go_wp2
          go_quiet (fail)
          go_wp2
          go_ret
          refine ⟨?_, _, by first | exact World.drewN_drewN _ _ _ | rfl⟩
          have hn : xs ≠ ys := by
            intro e
            subst e
            exact Hne.out rfl
          simp [hn]
      · obtain rfl : k = xs.length := by omega
        go_wp2
        go_ret
        refine ⟨?_, n, rfl⟩
        have := eq_of_to HL.out Ha.out
        simp [this]
  · have hl1 : ((xs.length : Int) != (ys.length : Int)) = true := by simp; omega
    have hn : xs ≠ ys := fun e => hl (by rw [e])
    have HN := Lib.hid hn
    clear hl hn
    go_enter Try.func18, Try.ntmps18
    go_wp2
    go_ret
    exact ⟨by simp [HN.out], 0, rfl⟩

end Go.Proofs.Ytnekjhpocfdpnaa
