/-
  What the laws of forecasts lean on.
-/
import Derived.Test.YtbcgglkgdjafiaaDoorFcC
namespace Go.Proofs.YtbcgglkgdjafiaaDoor
open Go.RowKit

theorem open_at {L : List UInt8} (h : fcB L = true) {D : Nat} (hD : D ≤ L.length) : opV L (D : Int) = (opT L D : Int) := opV_in h hD
theorem open_off {L : List UInt8} {d : Int} (h : ¬ (fcB L = true ∧ 0 ≤ d ∧ d ≤ (L.length : Int))) : opV L d = -1 := by
  cases hf : fcB L with
  | false => exact opV_no1 hf d
  | true =>
    refine opV_no2 ?_
    cases hi : inB d 0 (L.length : Int) with
    | false => rfl
    | true => exact absurd ⟨hf, inB_true.1 hi⟩ h
theorem day_at {L : List UInt8} (h : fcB L = true) {D : Nat} (hD : D ≤ L.length) : ∃ y : Nat, dyV L (opT L D : Int) = (y : Int) ∧ y ≤ D ∧ opT L D ≤ y := by
  have h1 := opT_mono L hD
  refine ⟨dyL L (opT L D), ?_, ?_, ?_⟩
  · rw [dyV_yes h (inB_true.2 (by omega)), Int.toNat_natCast]
  · have := dyL_lt L (opT L D) D h1
    omega
  · have h2 := opT_dy L (opT L D) h1
    have h3 := opT_le L (dyL L (opT L D))
    omega
theorem day_off {L : List UInt8} {d : Int} (h : ¬ (fcB L = true ∧ 0 ≤ d ∧ d ≤ (opT L L.length : Int))) : dyV L d = -1 := by
  cases hf : fcB L with
  | false => exact dyV_no1 hf d
  | true =>
    refine dyV_no2 ?_
    cases hi : inB d 0 (opT L L.length : Int) with
    | false => rfl
    | true => exact absurd ⟨hf, inB_true.1 hi⟩ h
theorem day_on {L : List UInt8} (h : fcB L = true) {W : Nat} (hW : W ≤ opT L L.length) : dyV L (W : Int) = (dyL L W : Int) := by
  rw [dyV_yes h (inB_true.2 (by omega)), Int.toNat_natCast]
theorem win_off {L : List UInt8} {n : Int} (h : ¬ (fcB L = true ∧ 1 ≤ n ∧ n ≤ 30)) : wiV L n = -1 := by
  cases hf : fcB L with
  | false => exact wiV_no1 hf n
  | true =>
    refine wiV_no2 ?_
    cases hi : inB n 1 30 with
    | false => rfl
    | true => exact absurd ⟨hf, inB_true.1 hi⟩ h
theorem win_on {L : List UInt8} (h : fcB L = true) {n : Nat} (h1 : 1 ≤ n) (h2 : n ≤ 30) : wiV L (n : Int) = wiN L n := by
  rw [wiV_yes h (inB_true.2 (by omega)), Int.toNat_natCast]
theorem lg_at {L : List UInt8} (h : fcB L = true) {v : Nat} (hv : lgT L = v) (h0 : 0 < v) : ∃ d : Nat, wiV L (v : Int) = (d : Int) := by
  have h1 := fc_l30 h
  have h2 := lgT_le L
  have h3 := (lgT_win L v h0).1 (by omega)
  rw [win_on h h0 (by omega)]
  cases hw : winF L v with
  | none => rw [hw] at h3; cases h3
  | some d => exact ⟨d, wiN_some hw⟩
theorem lg_next {L : List UInt8} (h : fcB L = true) {v : Nat} (hv : lgT L = v) : wiV L ((v : Int) + 1) = -1 := by
  by_cases h30 : v + 1 ≤ 30
  · have h3 : ¬ (winF L (v + 1)).isSome = true := fun h4 => by have := (lgT_win L (v + 1) (by omega)).2 h4; omega
    have e : ((v : Int) + 1) = ((v + 1 : Nat) : Int) := by omega
    rw [e, win_on h (by omega) h30]
    cases hw : winF L (v + 1) with
    | none => exact wiN_none hw
    | some d => rw [hw] at h3; exact absurd rfl h3
  · exact win_off (fun h2 => by omega)
theorem win_less {L : List UInt8} (h : fcB L = true) {n D : Nat} (h2 : 2 ≤ n) (h3 : n ≤ 30) (hw : winB L n D = true) : ∃ d : Nat, wiV L ((n : Int) - 1) = (d : Int) ∧ d ≤ D := by
  have e : ((n : Int) - 1) = ((n - 1 : Nat) : Int) := by omega
  have hl := winB_less hw (show n - 1 ≤ n by omega)
  rw [e, win_on h (by omega) (by omega)]
  cases hf : winF L (n - 1) with
  | none => rw [winF_none hf D] at hl; cases hl
  | some d =>
    refine ⟨d, wiN_some hf, ?_⟩
    rcases Nat.lt_or_ge D d with hd | hd
    · rw [(winF_some hf).2 D hd] at hl; cases hl
    · exact hd

end Go.Proofs.YtbcgglkgdjafiaaDoor
