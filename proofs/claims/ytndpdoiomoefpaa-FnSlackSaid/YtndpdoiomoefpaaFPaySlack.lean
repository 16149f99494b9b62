/-
  PaySlack of the model.
-/
import Derived.Test.YtndpdoiomoefpaaSlack
namespace Go.Proofs.Ytndpdoiomoefpaa
open Go.RowKit

theorem l1Need_s (A : Option Addr) (c : Nat) (zs : List Int) (k : Nat) (w : World) (ha : Arg w A c zs) (hv : validB zs = true) (h1 : k + 1 < zs.length) :
    Calls Try.prog 90 #[.slice A zs.length c, .int .i64 (k : Int)] w (RetQ (.int .i64 (needAt zs k)) w) := by
  have := l1Need_c A c zs (k : Int) w ha hv (by omega) (by omega)
  rwa [Int.toNat_natCast] at this

set_option maxRecDepth 100000 in
set_option maxHeartbeats 1000000 in
theorem specPaySlack_b (A : Option Addr) (c : Nat) (zs : List Int) (B : Option Addr) (d : Nat) (ps : List Int) (w : World) (ha : Arg w A c zs) (hb : Arg w B d ps) :
    Calls Try.prog 39 #[.slice A zs.length c, .slice B ps.length d] w (RetB (.int .i64 (paySlackI zs ps)) w) := by
  have hl := ha.len
  have hl2 := hb.len
  have Ha := Lib.hid ha
  have Hb := Lib.hid hb
  clear ha hb
  cases hp : payB zs ps
  · have Hh := Lib.hid (show paySlackI zs ps = -1 by unfold paySlackI; rw [hp]; rfl)
    have Hp := Lib.hid hp
    clear hp
    go_enter Try.func39, Try.ntmps39
    go_wp2_with fail
    refine (specPayValid_c A c zs B d ps _ Ha.out Hb.out).mono ?_
    rintro e w' ⟨rfl, rfl⟩
    rw [Hp.out]
    go_wp2
    go_ret
    exact ⟨by rw [Hh.out]; rfl, Below.refl _ _⟩
  · have Hh := Lib.hid (show paySlackI zs ps = slackTo zs ps ps.length by unfold paySlackI; rw [hp]; rfl)
    obtain ⟨hv, hlen, hall⟩ := payB_true hp
    have h2 := (validB_true hv).1
    have h16 := (validB_true hv).2.1
    have Hv := Lib.hid hv
    have Hp := Lib.hid hp
    have Hall := Lib.hid hall
    have hle : ps.length + 1 ≤ zs.length := by omega
    clear hp hv hlen hall
    go_enter Try.func39, Try.ntmps39
    go_wp2_with fail
    refine (specPayValid_c A c zs B d ps _ Ha.out Hb.out).mono ?_
    rintro e w' ⟨rfl, rfl⟩
    rw [Hp.out]
    go_wp2
    go_loopw [5, 6] (fun q i wr => ∃ (k : Nat), k ≤ ps.length ∧ i = .int .i64 k ∧ q = .int .i64 (slackTo zs ps k) ∧ Below w.heap.size w wr) (fun _ i _ => ps.length - (intOf i).toNat)
    case atStart => exact ⟨0, Nat.zero_le _, rfl, by rw [slackTo_zero], Below.refl _ _⟩
    case round =>
      obtain ⟨k, hk, rfl, rfl, hbk⟩ := hrel
      have Ha2 := Lib.hid (Ha.out.go hbk)
      have Hb2 := Lib.hid (Hb.out.go hbk)
      have hsb := slackTo_bd Hp.out k hk
      by_cases hlt : k < ps.length
      · obtain ⟨b, off, rfl, _, _, hc⟩ := Hb2.out.rd.at_ hlt
        have e0 : ps[k]?.getD 0 = ps[k] := by simp [hlt]
        have Hsa := Lib.hid (show slackAt zs ps k = max (ps[k] - needAt zs k) 0 by unfold slackAt; rw [e0])
        have hb1 := allB_true.1 Hall.out k hlt
        have hb2 := needAt_bd Hv.out (i := k) (by omega)
        rw [e0] at hc hb1
        have Hs := Lib.hid (slackTo_succ zs ps k)
        clear e0
        have g2 : (k : Int) < (ps.length : Int) := by omega
        have q1 : IntKind.i64.wrap (ps[k] - needAt zs k) = ps[k] - needAt zs k := IntWalk.i64_in _ (by omega)
        by_cases hle : ps[k] - needAt zs k ≤ 0
        · have Hw := Lib.hid (show slackTo zs ps (k + 1) = slackTo zs ps k by rw [Hs.out, Hsa.out, Int.max_eq_right hle, Int.add_zero])
          have q2 : IntKind.i64.wrap (slackTo zs ps k) = slackTo zs ps k := IntWalk.i64_in _ (by omega)
          go_wp2
          go_quiet ((go_at_call 90; exact Calls.quiet_of (l1Need_s A c zs k _ (Ha2.out.go (below_drewN (Below.refl _ _) _)) Hv.out (by omega))))
          clear q1 q2
          go_wp2
          go_roundw
          case rel => exact ⟨k + 1, by omega, by go_num, by rw [Hw.out], below_drewN hbk nq⟩
          case measure => simp [intOf]; omega
        · have Hw := Lib.hid (show slackTo zs ps (k + 1) = slackTo zs ps k + (ps[k] - needAt zs k) by rw [Hs.out, Hsa.out, Int.max_eq_left (by omega)])
          have q2 : IntKind.i64.wrap (slackTo zs ps k + (ps[k] - needAt zs k)) = slackTo zs ps k + (ps[k] - needAt zs k) := IntWalk.i64_in _ (by omega)
          go_wp2
          go_quiet ((go_at_call 90; exact Calls.quiet_of (l1Need_s A c zs k _ (Ha2.out.go (below_drewN (Below.refl _ _) _)) Hv.out (by omega))))
          clear q1 q2
          go_wp2
          go_roundw
          case rel => exact ⟨k + 1, by omega, by go_num, by rw [Hw.out], below_drewN hbk nq⟩
          case measure => simp [intOf]; omega
      · obtain rfl : k = ps.length := by omega
        go_wp2
        go_ret
        exact ⟨by rw [Hh.out]; rfl, hbk⟩

end Go.Proofs.Ytndpdoiomoefpaa
