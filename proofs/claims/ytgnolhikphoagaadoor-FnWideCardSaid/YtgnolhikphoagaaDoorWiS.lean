/-
  SignalWide of the model.
-/
import Derived.Test.YtgnolhikphoagaaDoorDrS
import Derived.Test.YtgnolhikphoagaaDoorSgW
namespace Go.Proofs.YtgnolhikphoagaaDoor
open Go.RowKit

set_option maxHeartbeats 2000000 in
theorem specSignalWide_b (s : ByteArray) (w : World) (hs : s.size ≤ 1048576) : Calls Tryd.prog 26 #[.string s] w (RetB (.int .i64 (widV (byL s))) w) := by
  have HS := Lib.hid (fun w => specSignalValid_c s w (by omega))
  cases h1 : sigB (byL s)
  · have HV := Lib.hid (widV_no h1)
    rw [h1] at HS
    clear h1
    go_enter Tryd.func26, Tryd.ntmps26
    go_wp2_with fail
    refine (HS.out _).mono ?_
    rintro e w1 ⟨rfl, rfl⟩
    go_wp2
    go_ret
    exact ⟨by rw [HV.out]; rfl, Below.refl _ _⟩
  · have h80 := sigB_len h1
    have HD := Lib.hid (fun w => l8Drift_b s w h80)
    have HV := Lib.hid (widV_yes h1)
    rw [h1] at HS
    clear h1
    go_enter Tryd.func26, Tryd.ntmps26
    go_wp2_with fail
    refine (HS.out _).mono ?_
    rintro e w1 ⟨rfl, rfl⟩
    go_wp2_with fail
    refine (HD.out _).mono ?_
    rintro e w2 ⟨A, c, rfl, ha, ho, hb⟩
    have hrd := ha.2.2.2
    have hL := dr0_len (byL s) s.size
    have hbd := dr0_le (byL s) s.size (by rw [byL_len]; exact h80)
    rw [byL_len] at HV
    obtain ⟨L, hLL⟩ : ∃ L, dr0 (byL s) s.size = L := ⟨_, rfl⟩
    rw [hLL] at hrd hL hbd HV
    rw [hLL]
    have HR := Lib.hid hrd
    have Hb := Lib.hid hb
    have Hbd := Lib.hid hbd
    clear hLL hrd ha ho hb hbd
    have hN : L.length ≤ 81 := by omega
    have HL := Lib.hid hL
    clear hL
    go_wp2
    go_loop [4, 5, 6] (fun lo hi i => ∃ k : Nat, k ≤ L.length ∧ i = .int .i64 k ∧ lo = .int .i64 (lowT L k) ∧ hi = .int .i64 (highT L k)) (fun _ _ i => L.length - (intOf i).toNat)
    case atStart => exact ⟨0, Nat.zero_le _, rfl, rfl, rfl⟩
    case round =>
      obtain ⟨k, hk, rfl, rfl, rfl⟩ := hrel
      have hlb := lowT_le L k (fun x hx => Hbd.out x hx)
      have hhb := highT_le L k (fun x hx => Hbd.out x hx)
      by_cases hlt : k < L.length
      · obtain ⟨b, off, rfl, _, _, hc⟩ := HR.out.at_ hlt
        have hxb := Hbd.out (L[k]'hlt) (List.getElem_mem hlt)
        have hls := lowT_succ L hlt
        have hhs := highT_succ L hlt
        rw [List.getElem?_eq_getElem hlt] at hc
        simp only [Option.getD_some] at hc
        obtain ⟨x, hx⟩ : ∃ x, L[k]'hlt = x := ⟨_, rfl⟩
        rw [hx] at hc hxb hls hhs
        have Hls := Lib.hid hls
        have Hhs := Lib.hid hhs
        obtain ⟨p, hp⟩ : ∃ p, lowT L k = p := ⟨_, rfl⟩
        obtain ⟨q, hq⟩ : ∃ q, highT L k = q := ⟨_, rfl⟩
        rw [hp] at hlb Hls
        rw [hq] at hhb Hhs
        rw [hp, hq]
        have g1 : (k : Int) < (L.length : Int) := by omega
        clear hx hp hq hls hhs
        go_wp2
        go_round
        case rel => exact ⟨k + 1, by omega, by go_num, by rw [Hls.out, ← if_min], by rw [Hhs.out, ← if_max]⟩
        case measure => simp [intOf]; omega
      · obtain rfl : k = L.length := by omega
        obtain ⟨p, hp⟩ : ∃ p, lowT L L.length = p := ⟨_, rfl⟩
        obtain ⟨q, hq⟩ : ∃ q, highT L L.length = q := ⟨_, rfl⟩
        rw [hp] at hlb HV
        rw [hq] at hhb HV
        rw [hp, hq]
        clear hp hq
        go_wp2
        go_ret
        exact ⟨by rw [HV.out]; rfl, Hb.out⟩

end Go.Proofs.YtgnolhikphoagaaDoor
