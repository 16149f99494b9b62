/-
  ServeWaste of both.
-/
import Derived.Test.YtmbdggakahbciaaSvV
namespace Go.Proofs.Ytmbdggakahbciaa
open Go.RowKit

theorem wasteZ_no {L Nd : List Spr} {x : List Int} (h : servB L Nd x = false) : wasteZ L Nd x = -1 := by unfold wasteZ; rw [h]; rfl
theorem wasteZ_yes {L Nd : List Spr} {x : List Int} (h : servB L Nd x = true) : wasteZ L Nd x = wsTo L Nd x x.length := by unfold wasteZ; rw [h]; rfl

set_option maxHeartbeats 2000000 in
theorem implServeWaste_b (A0 : Option Addr) (c0 : Nat) (z0 : List Spr) (A1 : Option Addr) (c1 : Nat) (z1 : List Spr) (A2 : Option Addr) (c2 : Nat) (z2 : List Int) (w : World) (h0 : ArgZ w A0 c0 z0) (h1 : ArgZ w A1 c1 z1) (h2 : Arg w A2 c2 z2) :
    Calls Try.prog 31 #[.slice A0 z0.length c0, .slice A1 z1.length c1, .slice A2 z2.length c2] w (RetB (.int .i64 (wasteZ z0 z1 z2)) w) := by
  have hl0 := h0.len
  have hl1 := h1.len
  have hl2 := h2.len
  have H0 := Lib.hid h0
  have H1 := Lib.hid h1
  have H2 := Lib.hid h2
  clear h0 h1 h2
  go_enter Try.func31, Try.ntmps31
  go_wp2_with fail
  refine (implServeValid_b A0 c0 z0 A1 c1 z1 A2 c2 z2 _ H0.out H1.out H2.out).mono ?_
  rintro e w1 ⟨rfl, hb1⟩
  have Hb1 := Lib.hid hb1
  replace H0 := Lib.hid (H0.out.go hb1)
  replace H1 := Lib.hid (H1.out.go hb1)
  replace H2 := Lib.hid (H2.out.go hb1)
  clear hb1
  cases hv : servB z0 z1 z2
  · have Hv := Lib.hid hv
    clear hv
    go_wp2
    go_ret
    exact ⟨by rw [wasteZ_no Hv.out]; rfl, Hb1.out⟩
  have Hv := Lib.hid hv
  have hlen := (servB_true hv).2.1
  have hsml : z1.length ≤ 5 := (sprB_true.1 (bothB_true.1 (servB_true hv).1).2).1
  clear hv
  go_wp2
  go_loopw [7, 17] (fun q i wr => ∃ k : Nat, k ≤ z2.length ∧ i = .int .i64 k ∧ q = .int .i64 (wsTo z0 z1 z2 k) ∧ Below w1.heap.size w1 wr) (fun _ i _ => z2.length - (intOf i).toNat)
  case atStart => exact ⟨0, Nat.zero_le _, rfl, by rw [wsTo_zero], Below.refl _ _⟩
  case round =>
    obtain ⟨k, hk, rfl, rfl, hb⟩ := hrel
    have Hb := Lib.hid hb
    clear hb
    by_cases hlt : k < z2.length
    · obtain ⟨b, off, rfl, _, hbw, hc0⟩ := (H2.out.go Hb.out).rd.at_ hlt
      obtain ⟨b1, off1, rfl, _, hbw1, hd0, hd1⟩ := (H1.out.go Hb.out).rd.at_ (show k < z1.length by omega)
      have hy := ((servB_true Hv.out).2.2 k hlt).1
      have Hn := Lib.hid (wsTo_succ (L := z0) (Nd := z1) hlt (by omega))
      have hbd := wsTo_bd Hv.out (k := k) hk
      have hdm := (sprB_at (bothB_true.1 (servB_true Hv.out).1).2 (k := k) (by omega)).1
      obtain ⟨y, hy2⟩ : ∃ y, z2[k]?.getD 0 = y := ⟨_, rfl⟩
      obtain ⟨d, hd⟩ : ∃ d, sprAt z1 k = d := ⟨_, rfl⟩
      obtain ⟨q, hq⟩ : ∃ q, wsTo z0 z1 z2 k = q := ⟨_, rfl⟩
      rw [hy2] at hc0 hy Hn
      rw [hd] at hd0 hd1 Hn hdm
      rw [hq] at Hn hbd ⊢
      obtain ⟨j, rfl⟩ := Int.eq_ofNat_of_zero_le hy.1
      rw [Int.toNat_natCast] at Hn
      have hj : j < z0.length := by omega
      obtain ⟨b0, off0, rfl, _, hbw0, he0, he1⟩ := (H0.out.go Hb.out).rd.at_ hj
      have hsm := (sprB_at (bothB_true.1 (servB_true Hv.out).1).1 hj).1
      obtain ⟨s, hs⟩ : ∃ s, sprAt z0 j = s := ⟨_, rfl⟩
      rw [hs] at he0 he1 Hn hsm
      have g1 : (k : Int) < (z2.length : Int) := by omega
      have g2 : (k : Int) < (z1.length : Int) := by omega
      have g3 : (j : Int) < (z0.length : Int) := by omega
      obtain ⟨q1, q2⟩ := hbd
      have q3 : q ≤ 250 := by omega
      have Hev := Lib.hid (show q + (s.m - d.m) = q + s.m - d.m by omega)
      clear hy2 hd hq hs hy
      go_wp2
      go_quiet (fail)
      go_wp2
      go_roundw
      case rel => exact ⟨k + 1, by omega, by go_num, by rw [Hn.out, ← Hev.out], below_drewN Hb.out nq⟩
      case measure => simp [intOf]; omega
    · obtain rfl : k = z2.length := by omega
      go_wp2
      go_ret
      exact ⟨by rw [wasteZ_yes Hv.out]; rfl, below_step Hb1.out Hb.out⟩

end Go.Proofs.Ytmbdggakahbciaa
