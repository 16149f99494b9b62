/-
  sumOf of the laws.
-/
import Derived.Test.YtndpdoiomoefpaaBase0
namespace Go.Proofs.Ytndpdoiomoefpaa
open Go.RowKit

def sumTo (zs : List Int) (k : Nat) : Int := (zs.take k).sum
theorem sumTo_zero (zs : List Int) : sumTo zs 0 = 0 := by simp [sumTo]
theorem sumTo_succ (zs : List Int) {k : Nat} (h : k < zs.length) : sumTo zs (k + 1) = sumTo zs k + zs[k] := by
  unfold sumTo
  rw [List.take_succ_eq_append_getElem h, List.sum_append]
  simp
theorem sumTo_all (zs : List Int) : sumTo zs zs.length = zs.sum := by simp [sumTo]
/-- every number is from 0 to 1000 -/
def Small (zs : List Int) : Prop := ∀ z ∈ zs, 0 ≤ z ∧ z ≤ 1000
theorem sumTo_bd {zs : List Int} (hs : Small zs) : ∀ k, k ≤ zs.length → 0 ≤ sumTo zs k ∧ sumTo zs k ≤ 1000 * (k : Int)
  | 0, _ => by rw [sumTo_zero]; omega
  | k + 1, h => by
    have ih := sumTo_bd hs k (by omega)
    rw [sumTo_succ zs (by omega)]
    have := hs zs[k] (List.getElem_mem _)
    omega
theorem Small.sum {zs : List Int} (hs : Small zs) : 0 ≤ zs.sum ∧ zs.sum ≤ 1000 * (zs.length : Int) := by
  have := sumTo_bd hs zs.length (Nat.le_refl _)
  rwa [sumTo_all] at this

set_option maxRecDepth 100000 in
set_option maxHeartbeats 400000 in
theorem sumOf_c (A : Option Addr) (c : Nat) (zs : List Int) (w : World) (hs : Small zs) (ha : Arg w A c zs) :
    Calls Try.prog 40 #[.slice A zs.length c] w fun e w' => e = .returned (.int .i64 zs.sum) ∧ w = w' := by
  obtain ⟨hl, _, _, hr⟩ := ha
  have Hs := Lib.hid hs
  clear hs
  go_enter Try.func40, Try.ntmps40
  go_wp2
  go_loop [3, 4] (fun q i => ∃ k : Nat, k ≤ zs.length ∧ i = .int .i64 k ∧ q = .int .i64 (sumTo zs k)) (fun _ i => zs.length - (intOf i).toNat)
  case atStart => exact ⟨0, Nat.zero_le _, rfl, by rw [sumTo_zero]⟩
  case round =>
    obtain ⟨k, hk, rfl, rfl⟩ := hrel
    by_cases hlt : k < zs.length
    · obtain ⟨b, off, rfl, _, _, hc⟩ := hr.at_ hlt
      have Hr := Lib.hid hr
      clear hr
      have e0 : zs[k]?.getD 0 = zs[k] := by simp [hlt]
      rw [e0] at hc
      have hb := sumTo_bd Hs.out k hk
      have hz := Hs.out zs[k] (List.getElem_mem _)
      have hsu := sumTo_succ zs hlt
      have Hsu := Lib.hid hsu
      clear hsu e0
      go_wp2
      go_round
      case rel => exact ⟨k + 1, by omega, by go_num, by rw [Hsu.out]⟩
      case measure => simp [intOf]; omega
    · obtain rfl : k = zs.length := by omega
      go_wp2
      go_ret
      exact ⟨by rw [← sumTo_all]; rfl, rfl⟩

end Go.Proofs.Ytndpdoiomoefpaa
