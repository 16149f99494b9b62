/-
  Contracts of the laws' own small functions over lists of ints: hasInt.
-/
import Derived.Test.YtndpdoiomoefpaaBase0
namespace Go.Proofs.Ytndpdoiomoefpaa
open Go.RowKit

/-- no number of the first k is n -/
def noneTo (zs : List Int) (n : Int) (k : Nat) : Prop := ∀ j (h : j < zs.length), j < k → zs[j] ≠ n
theorem noneTo_all {zs : List Int} {n : Int} (h : noneTo zs n zs.length) : n ∉ zs := fun hm => by
  obtain ⟨j, hj, e⟩ := List.mem_iff_getElem.1 hm
  exact h j hj hj e
set_option maxRecDepth 100000 in
set_option maxHeartbeats 400000 in
theorem hasInt_c (A : Option Addr) (c : Nat) (zs : List Int) (n : Int) (w : World) (ha : Arg w A c zs) :
    Calls Try.prog 37 #[.slice A zs.length c, .int .i64 n] w fun e w' => e = .returned (.bool (decide (n ∈ zs))) ∧ w = w' := by
  obtain ⟨hl, _, _, hr⟩ := ha
  go_enter Try.func37, Try.ntmps37
  go_wp2
  go_loop [5] (fun i => ∃ k : Nat, k ≤ zs.length ∧ noneTo zs n k ∧ i = .int .i64 k) (fun i => zs.length - (intOf i).toNat)
  case atStart => exact ⟨0, Nat.zero_le _, fun j _ hj => absurd hj (by omega), rfl⟩
  case round =>
    obtain ⟨k, hk, hno, rfl⟩ := hrel
    have Hno := Lib.hid hno
    clear hno
    by_cases hlt : k < zs.length
    · obtain ⟨b, off, rfl, _, _, hc⟩ := hr.at_ hlt
      have Hr := Lib.hid hr
      clear hr
      have e0 : zs[k]?.getD 0 = zs[k] := by simp [hlt]
      rw [e0] at hc
      clear e0
      by_cases he : zs[k] = n
      · have hb : (zs[k] == n) = true := by simp [he]
        have hm : decide (n ∈ zs) = true := by simp; exact he ▸ List.getElem_mem _
        have Hm := Lib.hid hm
        clear he hm
        go_wp2
        go_ret
        exact ⟨by rw [Hm.out]; rfl, rfl⟩
      · have hb : (zs[k] == n) = false := by simp [he]
        have He := Lib.hid he
        clear he
        go_wp2
        go_round
        case rel => exact ⟨k + 1, by omega, fun j h1 h2 => by
          rcases Nat.lt_or_ge j k with h3 | h3
          · exact Hno.out j h1 h3
          · obtain rfl : j = k := by omega
            exact He.out, by go_num⟩
        case measure => simp [intOf]; omega
    · obtain rfl : k = zs.length := by omega
      have hm : decide (n ∈ zs) = false := by simp; exact noneTo_all Hno.out
      have Hm := Lib.hid hm
      clear hm
      go_wp2
      go_ret
      exact ⟨by rw [Hm.out]; rfl, rfl⟩

end Go.Proofs.Ytndpdoiomoefpaa
