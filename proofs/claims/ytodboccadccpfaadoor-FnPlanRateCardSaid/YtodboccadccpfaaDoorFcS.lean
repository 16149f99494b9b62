/-
  ForecastDay of the model.
-/
import Derived.Test.YtodboccadccpfaaDoorFcA
import Derived.Lib.TrailingZeros
namespace Go.Proofs.YtodboccadccpfaaDoor
open Go.RowKit

/-- the value of ForecastDay -/
def dyV (L : List UInt8) (d : Int) : Int := if fcB L && inB d 0 (opT L L.length) then (dyL L d.toNat : Int) else -1
theorem dyV_yes {L : List UInt8} {d : Int} (h : fcB L = true) (h2 : inB d 0 (opT L L.length) = true) : dyV L d = (dyL L d.toNat : Int) := by unfold dyV; rw [h, h2]; rfl
theorem dyV_no1 {L : List UInt8} (h : fcB L = false) (d : Int) : dyV L d = -1 := by unfold dyV; rw [h]; rfl
theorem dyV_no2 {L : List UInt8} {d : Int} (h : inB d 0 (opT L L.length) = false) : dyV L d = -1 := by unfold dyV; rw [h]; simp
theorem fc_l30 {L : List UInt8} (h : fcB L = true) : L.length ≤ 30 := by unfold fcB at h; simp at h; exact h.2
theorem opV_in {L : List UInt8} (h : fcB L = true) {k : Nat} (hk : k ≤ L.length) : opV L (k : Int) = (opT L k : Int) := by
  rw [opV_yes h (inB_true.2 (by omega)), Int.toNat_natCast]

set_option maxRecDepth 100000 in
set_option maxHeartbeats 1000000 in
theorem specForecastDay_c (s : ByteArray) (hs : s.size ≤ 2097152) (d : Int) (w : World) :
    Calls Tryd.prog 38 #[.string s, .int .i64 d] w fun e w' => e = .returned (.int .i64 (dyV (byL s) d)) ∧ w = w' := by
  go_enter Tryd.func38, Tryd.ntmps38
  go_wp2_with fail
  refine (specForecastValid_c s hs w).mono ?_
  rintro e w1 ⟨rfl, rfl⟩
  cases hv : fcB (byL s)
  · have Hn := Lib.hid (dyV_no1 hv d)
    clear hv
    go_wp2
    go_ret
    exact ⟨by rw [Hn.out]; rfl, rfl⟩
  have hl := fc_l30 hv
  have hop := opT_all (byL s)
  have Hyes := Lib.hid (fun h => dyV_yes hv (d := d) h)
  have Hno := Lib.hid (fun h => dyV_no2 (L := byL s) (d := d) h)
  have Hin := Lib.hid (fun (k : Nat) (hk : k ≤ (byL s).length) => opV_in hv hk)
  have hall := opV_in hv (Nat.le_refl (byL s).length)
  have Hlt := Lib.hid (fun (m k : Nat) => dyL_lt (byL s) m k)
  have hdle := fun m => dyL_le (byL s) m
  have hlen := byL_len s
  rw [hlen] at hl hop Hyes Hno Hin hall Hlt hdle
  obtain ⟨t, ht⟩ : ∃ t, opT (byL s) s.size = t := ⟨_, rfl⟩
  rw [ht] at hop Hyes Hno hall Hlt
  have Hdle := Lib.hid hdle
  have Hop := Lib.hid (specForecastOpen_c s hs (s.size : Int) w)
  rw [hall] at Hop
  clear hv ht hall hlen hdle
  go_wp2_with fail
  refine Hop.out.mono ?_
  rintro e w1 ⟨rfl, rfl⟩
  cases hr : inB d 0 (t : Int)
  · have Hn := Lib.hid (Hno.out hr)
    have Hr := Lib.hid hr
    clear hr
    go_wp2_with fail
    refine (l6In_c d 0 (t : Int) _).mono ?_
    rintro e w2 ⟨rfl, rfl⟩
    rw [Hr.out]
    go_wp2
    go_ret
    exact ⟨by rw [Hn.out]; rfl, rfl⟩
  have hy := Hyes.out hr
  obtain ⟨h0, h1⟩ := inB_true.1 hr
  obtain ⟨m, rfl⟩ := Int.eq_ofNat_of_zero_le h0
  rw [Int.toNat_natCast] at hy
  have hdm := Hdle.out m
  obtain ⟨D, hD⟩ : ∃ D, dyL (byL s) m = D := ⟨_, rfl⟩
  have hlt2 := fun k => Hlt.out m k (by omega)
  rw [hD] at hy hlt2 hdm
  have Hlt2 := Lib.hid hlt2
  have Hy := Lib.hid hy
  have Hr := Lib.hid hr
  clear hy hr hD hlt2
  go_wp2_with fail
  refine (l6In_c (m : Int) 0 (t : Int) _).mono ?_
  rintro e w2 ⟨rfl, rfl⟩
  rw [Hr.out]
  go_wp2
  go_loop [5] (fun i => ∃ k : Nat, k ≤ D ∧ i = .int .i64 k) (fun i => D - (intOf i).toNat)
  case atStart => exact ⟨0, Nat.zero_le _, rfl⟩
  case round =>
    obtain ⟨k, hk, rfl⟩ := hrel
    have hin := Hin.out k (by omega)
    have hiff := Hlt2.out k
    have hc := specForecastOpen_c s hs (k : Int) w
    rw [hin] at hc
    obtain ⟨x, hx⟩ : ∃ x, opT (byL s) k = x := ⟨_, rfl⟩
    rw [hx] at hc hiff
    have Hc := Lib.hid hc
    clear hin hc hx
    by_cases hlt : k < D
    · have g1 : (x : Int) < (m : Int) := by have := hiff.2 hlt; omega
      clear hiff
      go_wp2_with fail
      refine Hc.out.mono ?_
      rintro e w2 ⟨rfl, rfl⟩
      go_wp2
      go_round
      case rel => exact ⟨k + 1, by omega, by go_num⟩
      case measure => simp [intOf]; omega
    · have g1 : ¬ (x : Int) < (m : Int) := fun h => hlt (hiff.1 (by omega))
      obtain rfl : k = D := by omega
      clear hiff
      go_wp2_with fail
      refine Hc.out.mono ?_
      rintro e w2 ⟨rfl, rfl⟩
      go_wp2
      go_ret
      exact ⟨by rw [Hy.out]; rfl, rfl⟩

end Go.Proofs.YtodboccadccpfaaDoor
