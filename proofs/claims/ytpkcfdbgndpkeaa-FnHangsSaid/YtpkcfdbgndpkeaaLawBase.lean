/-
  Contracts of the laws' own small functions over lists of ints: sameInts, sumOf, hasInt.
-/
import Derived.Test.YtpkcfdbgndpkeaaBase
namespace Go.Proofs.Ytpkcfdbgndpkeaa
open Go.RowKit

/-! ### sameInts, sumOf, hasInt: of the package laws -/
set_option maxHeartbeats 400000 in
theorem sameInts_c (A B : Option Addr) (c d : Nat) (xs ys : List Int) (w : World) (ha1 : Arg w A c xs) (ha2 : Arg w B d ys) :
    Calls Try.prog 18 #[.slice A xs.length c, .slice B ys.length d] w (RetQ (.bool (decide (xs = ys))) w) := by
  obtain ⟨hx, _, _, r1⟩ := ha1
  obtain ⟨hy, _, _, r2⟩ := ha2
  by_cases hl : xs.length = ys.length
  · have hl1 : ((xs.length : Int) != (ys.length : Int)) = false := by simp [hl]
    have HL := Lib.hid hl
    clear hl
    go_enter Try.func18, Try.ntmps18
    go_wp2
    go_loopw [5] (fun i wr => ∃ k n : Nat, k ≤ xs.length ∧ eqTo xs ys k ∧ i = .int .i64 k ∧ wr = w.drewN n) (fun i _ => xs.length - (intOf i).toNat)
    case atStart => exact ⟨0, 0, Nat.zero_le _, eqTo_zero _ _, rfl, rfl⟩
    case round =>
      obtain ⟨k, n, hk, ha, rfl, rfl⟩ := hrel
      have Ha := Lib.hid ha
      clear ha
      by_cases hlt : k < xs.length
      · have hlt2 : k < ys.length := by have := HL.out; omega
        obtain ⟨b, off, rfl, _, _, hc⟩ := r1.at_ hlt
        obtain ⟨b', off', rfl, _, _, hc'⟩ := r2.at_ hlt2
        have R1 := Lib.hid r1
        have R2 := Lib.hid r2
        clear r1 r2
        have e0 : xs[k]?.getD 0 = xs[k] := by simp [hlt]
        have e1 : ys[k]?.getD 0 = ys[k] := by simp [hlt2]
        rw [e0] at hc
        rw [e1] at hc'
        have E0 := Lib.hid e0
        have E1 := Lib.hid e1
        clear e0 e1
        have g1 : (k : Int) < (xs.length : Int) := by omega
        have g2 : (k : Int) < (ys.length : Int) := by omega
        by_cases hne : xs[k] = ys[k]
        · have hb : (xs[k] != ys[k]) = false := by simp [hne]
          have Hne := Lib.hid hne
          clear hne
          go_wp2
          go_quiet (fail)
          go_wp2
          go_roundw
          case rel => exact ⟨k + 1, _, by omega, eqTo_succ Ha.out (by rw [E0.out, E1.out]; exact Hne.out), by go_num, by first | exact World.drewN_drewN _ _ _ | rfl⟩
          case measure => simp [intOf]; omega
        · have hb : (xs[k] != ys[k]) = true := by simp [hne]
          have Hne := Lib.hid hne
          clear hne
          go_wp2
          go_quiet (fail)
          go_wp2
          go_ret
          refine ⟨?_, _, by first | exact World.drewN_drewN _ _ _ | rfl⟩
          have hn : xs ≠ ys := by
            intro e
            subst e
            exact Hne.out rfl
          simp [hn]
      · obtain rfl : k = xs.length := by omega
        go_wp2
        go_ret
        refine ⟨?_, n, rfl⟩
        have := eq_of_to HL.out Ha.out
        simp [this]
  · have hl1 : ((xs.length : Int) != (ys.length : Int)) = true := by simp; omega
    have hn : xs ≠ ys := fun e => hl (by rw [e])
    have HN := Lib.hid hn
    clear hl hn
    go_enter Try.func18, Try.ntmps18
    go_wp2
    go_ret
    exact ⟨by simp [HN.out], 0, rfl⟩

def sumTo (zs : List Int) (k : Nat) : Int := (zs.take k).sum
theorem sumTo_zero (zs : List Int) : sumTo zs 0 = 0 := by simp [sumTo]
theorem sumTo_succ (zs : List Int) {k : Nat} (h : k < zs.length) : sumTo zs (k + 1) = sumTo zs k + zs[k] := by
  unfold sumTo
  rw [List.take_succ_eq_append_getElem h, List.sum_append]
  simp
theorem sumTo_all (zs : List Int) : sumTo zs zs.length = zs.sum := by simp [sumTo]
/-- every number is from 0 to 1000 -/
def Small (zs : List Int) : Prop := ∀ z ∈ zs, 0 ≤ z ∧ z ≤ 1000
theorem sumTo_bd {zs : List Int} (hs : Small zs) : ∀ k, k ≤ zs.length → 0 ≤ sumTo zs k ∧ sumTo zs k ≤ 1000 * (k : Int)
  | 0, _ => by rw [sumTo_zero]; omega
  | k + 1, h => by
    have ih := sumTo_bd hs k (by omega)
    rw [sumTo_succ zs (by omega)]
    have := hs zs[k] (List.getElem_mem _)
    omega
theorem Small.sum {zs : List Int} (hs : Small zs) : 0 ≤ zs.sum ∧ zs.sum ≤ 1000 * (zs.length : Int) := by
  have := sumTo_bd hs zs.length (Nat.le_refl _)
  rwa [sumTo_all] at this

set_option maxHeartbeats 400000 in
theorem sumOf_c (A : Option Addr) (c : Nat) (zs : List Int) (w : World) (hs : Small zs) (ha : Arg w A c zs) :
    Calls Try.prog 19 #[.slice A zs.length c] w fun e w' => e = .returned (.int .i64 zs.sum) ∧ w = w' := by
  obtain ⟨hl, _, _, hr⟩ := ha
  have Hs := Lib.hid hs
  clear hs
  go_enter Try.func19, Try.ntmps19
  go_wp2
  go_loop [3, 4] (fun q i => ∃ k : Nat, k ≤ zs.length ∧ i = .int .i64 k ∧ q = .int .i64 (sumTo zs k)) (fun _ i => zs.length - (intOf i).toNat)
  case atStart => exact ⟨0, Nat.zero_le _, rfl, by rw [sumTo_zero]⟩
  case round =>
    obtain ⟨k, hk, rfl, rfl⟩ := hrel
    by_cases hlt : k < zs.length
    · obtain ⟨b, off, rfl, _, _, hc⟩ := hr.at_ hlt
      have Hr := Lib.hid hr
      clear hr
      have e0 : zs[k]?.getD 0 = zs[k] := by simp [hlt]
      rw [e0] at hc
      have hb := sumTo_bd Hs.out k hk
      have hz := Hs.out zs[k] (List.getElem_mem _)
      have hsu := sumTo_succ zs hlt
      have Hsu := Lib.hid hsu
      clear hsu e0
      go_wp2
      go_round
      case rel => exact ⟨k + 1, by omega, by go_num, by rw [Hsu.out]⟩
      case measure => simp [intOf]; omega
    · obtain rfl : k = zs.length := by omega
      go_wp2
      go_ret
      exact ⟨by rw [← sumTo_all]; rfl, rfl⟩

/-- no number of the first k is n -/
def noneTo (zs : List Int) (n : Int) (k : Nat) : Prop := ∀ j (h : j < zs.length), j < k → zs[j] ≠ n
theorem noneTo_all {zs : List Int} {n : Int} (h : noneTo zs n zs.length) : n ∉ zs := fun hm => by
  obtain ⟨j, hj, e⟩ := List.mem_iff_getElem.1 hm
  exact h j hj hj e
set_option maxHeartbeats 400000 in
theorem hasInt_c (A : Option Addr) (c : Nat) (zs : List Int) (n : Int) (w : World) (ha : Arg w A c zs) :
    Calls Try.prog 34 #[.slice A zs.length c, .int .i64 n] w fun e w' => e = .returned (.bool (decide (n ∈ zs))) ∧ w = w' := by
  obtain ⟨hl, _, _, hr⟩ := ha
  go_enter Try.func34, Try.ntmps34
  go_wp2
  go_loop [5] (fun i => ∃ k : Nat, k ≤ zs.length ∧ noneTo zs n k ∧ i = .int .i64 k) (fun i => zs.length - (intOf i).toNat)
  case atStart => exact ⟨0, Nat.zero_le _, fun j _ hj => absurd hj (by omega), rfl⟩
  case round =>
    obtain ⟨k, hk, hno, rfl⟩ := hrel
    have Hno := Lib.hid hno
    clear hno
    by_cases hlt : k < zs.length
    · obtain ⟨b, off, rfl, _, _, hc⟩ := hr.at_ hlt
      have Hr := Lib.hid hr
      clear hr
      have e0 : zs[k]?.getD 0 = zs[k] := by simp [hlt]
      rw [e0] at hc
      clear e0
      by_cases he : zs[k] = n
      · have hb : (zs[k] == n) = true := by simp [he]
        have hm : decide (n ∈ zs) = true := by simp; exact he ▸ List.getElem_mem _
        have Hm := Lib.hid hm
        clear he hm
        go_wp2
        go_ret
        exact ⟨by rw [Hm.out]; rfl, rfl⟩
      · have hb : (zs[k] == n) = false := by simp [he]
        have He := Lib.hid he
        clear he
        go_wp2
        go_round
        case rel => exact ⟨k + 1, by omega, fun j h1 h2 => by
          rcases Nat.lt_or_ge j k with h3 | h3
          · exact Hno.out j h1 h3
          · obtain rfl : j = k := by omega
            exact He.out, by go_num⟩
        case measure => simp [intOf]; omega
    · obtain rfl : k = zs.length := by omega
      have hm : decide (n ∈ zs) = false := by simp; exact noneTo_all Hno.out
      have Hm := Lib.hid hm
      clear hm
      go_wp2
      go_ret
      exact ⟨by rw [Hm.out]; rfl, rfl⟩

end Go.Proofs.Ytpkcfdbgndpkeaa
