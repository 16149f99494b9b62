/-
  PlanLoss of both.
-/
import Derived.Test.YtodboccadccpfaaDoorPlE
namespace Go.Proofs.YtodboccadccpfaaDoor
open Go.RowKit

theorem lossV_no {L : List UInt8} {J : List Jbs} {p : List Int} (h : planB L J p = false) : lossV L J p = -1 := by unfold lossV; rw [h]; rfl
theorem lossV_yes {L : List UInt8} {J : List Jbs} {p : List Int} (h : planB L J p = true) : lossV L J p = lossT J (endsL L J p) J.length := by unfold lossV; rw [if_pos h, ends_yes h]
/-- what a walk over the ends asks at a place -/
theorem loss_at {L : List UInt8} {J : List Jbs} {p : List Int} (h : planB L J p = true) (k : Nat) (hk : k < J.length) : lossT J (endsL L J p) (k + 1) = lossT J (endsL L J p) k + (jbsAt J k).g * (endsL L J p)[k]?.getD 0 ∧ 0 ≤ lossT J (endsL L J p) k ∧ lossT J (endsL L J p) k ≤ 1620 ∧ 0 ≤ (jbsAt J k).g * (endsL L J p)[k]?.getD 0 ∧ (jbsAt J k).g * (endsL L J p)[k]?.getD 0 ≤ 270 := by
  obtain ⟨h1, h2, h3⟩ := planB_true.1 h
  obtain ⟨h4, h5, h6⟩ := timeB_true.1 h1
  have h7 := endT_bd h4 J p p.length
  rw [← ends_yes h] at h7
  have h8 := lossT_bd h5 h7 k
  have h9 := jbB_any h5 k
  have h10 := mul_bd h9.2.1 h9.2.2 (h7 k).1 (h7 k).2
  have h11 := (jbB_true.1 h5).1
  exact ⟨rfl, h8.1, by omega, h10.1, h10.2⟩

set_option maxRecDepth 100000 in
set_option maxHeartbeats 2000000 in
theorem implPlanLoss_b (s : ByteArray) (A : Option Addr) (c : Nat) (J : List Jbs) (A2 : Option Addr) (c2 : Nat) (p : List Int) (w : World) (hs : s.size ≤ 2097152) (ha : ArgJ w A c J) (hp : Arg w A2 c2 p) (hT : Tab w) :
    Calls Tryd.prog 14 #[.string s, .slice A J.length c, .slice A2 p.length c2] w (RetB (.int .i64 (lossV (byL s) J p)) w) := by
  have hjl := ha.len
  have HA := Lib.hid ha
  have HP := Lib.hid hp
  have HT := Lib.hid hT
  clear ha hp hT
  go_enter Tryd.func14, Tryd.ntmps14
  go_wp2_with fail
  refine (implPlanEnds_b s A c J A2 c2 p _ hs HA.out HP.out HT.out).mono ?_
  rintro e w1 ⟨B, d, rfl, hra, hro, hb1⟩
  dsimp only
  have Hb1 := Lib.hid hb1
  clear hb1 hro
  cases hv : planB (byL s) J p
  · have Hn := Lib.hid (lossV_no hv)
    clear hv
    go_wp2
    go_ret
    exact ⟨by rw [Hn.out]; rfl, Hb1.out⟩
  have Hy := Lib.hid (lossV_yes hv)
  have Hat := Lib.hid (loss_at hv)
  have hel : (endsL (byL s) J p).length = J.length := by rw [ends_yes hv, endT_len]
  have hj6 := (plan_len hv).2
  obtain ⟨E, hE⟩ : ∃ E, endsL (byL s) J p = E := ⟨_, rfl⟩
  rw [hE] at Hy Hat hra hel ⊢
  have he1 : E.length ≤ J.length := by omega
  have he2 : J.length ≤ E.length := by omega
  have HR := Lib.hid hra
  have Hel := Lib.hid hel
  clear hv hE hra hel
  go_wp2
  go_loopw [9, 23] (fun q i wr => ∃ k : Nat, k ≤ J.length ∧ i = .int .i64 k ∧ q = .int .i64 (lossT J E k) ∧ Below w1.heap.size w1 wr) (fun _ i _ => J.length - (intOf i).toNat)
  case atStart => exact ⟨0, Nat.zero_le _, rfl, rfl, Below.refl _ _⟩
  case round =>
    obtain ⟨k, hk, rfl, rfl, hb⟩ := hrel
    by_cases hlt : k < J.length
    · obtain ⟨hn, b1, b2, b3, b4⟩ := Hat.out k hlt
      have hb2 := below_step Hb1.out hb
      obtain ⟨b', off', rfl, _, hbw', hd0, hd1⟩ := (HA.out.go hb2).rd.at_ hlt
      obtain ⟨b, off, rfl, _, hbw, hc0⟩ := (HR.out.go hb).rd.at_ (show k < E.length by omega)
      obtain ⟨x, hx⟩ : ∃ x, lossT J E k = x := ⟨_, rfl⟩
      obtain ⟨y, hy⟩ : ∃ y, jbsAt J k = y := ⟨_, rfl⟩
      obtain ⟨v, hv⟩ : ∃ v, E[k]?.getD 0 = v := ⟨_, rfl⟩
      rw [hx] at hn b1 b2 ⊢
      rw [hy] at hn b3 b4 hd0 hd1
      rw [hv] at hn b3 b4 hc0
      have q1 : IntKind.i64.wrap (y.g * v) = y.g * v := IntWalk.i64_in _ (by omega)
      obtain ⟨m, hm⟩ : ∃ m, y.g * v = m := ⟨_, rfl⟩
      rw [hm] at hn b3 b4
      have q2 : IntKind.i64.wrap (x + m) = x + m := IntWalk.i64_in _ (by omega)
      have q0 : IntKind.i64.wrap (y.g * v) = m := by rw [q1, hm]
      have Hn := Lib.hid hn
      have Hb := Lib.hid hb
      have g1 : (k : Int) < (J.length : Int) := by omega
      have g2 : (k : Int) < (E.length : Int) := by omega
      have g3 : (0 : Int) ≤ (k : Int) := by omega
      clear hn hx hy hv hb q1 hm hb2
      go_wp2
      go_quiet (fail)
      go_wp2
      go_roundw
      case rel => exact ⟨k + 1, by omega, by go_num, by rw [Hn.out], below_drewN (Hb.out.alloc Hb.out.size _) nq⟩
      case measure => simp [intOf]; omega
    · obtain rfl : k = J.length := by omega
      have Hb := Lib.hid hb
      clear hb
      go_wp2
      go_ret
      exact ⟨by rw [Hy.out]; rfl, below_step Hb1.out Hb.out⟩

end Go.Proofs.YtodboccadccpfaaDoor
