/-
  The first index of the greatest number: slices.Max, slices.Index, l1First of the model; FloorDeepest of both.
-/
import Derived.Test.YtndpdoiomoefpaaNeed
namespace Go.Proofs.Ytndpdoiomoefpaa
open Go.RowKit

def at0 (zs : List Int) (j : Nat) : Int := zs[j]?.getD 0
theorem at0_get {zs : List Int} {j : Nat} (h : j < zs.length) : at0 zs j = zs[j] := by simp [at0, h]
/-- the first index of the greatest of the first k numbers -/
def firstTo (zs : List Int) : Nat → Nat
  | 0 => 0
  | k + 1 => if at0 zs (firstTo zs k) < at0 zs k then k else firstTo zs k
theorem firstTo_prop (zs : List Int) : ∀ k, 1 ≤ k → firstTo zs k < k ∧ (∀ j, j < k → at0 zs j ≤ at0 zs (firstTo zs k)) ∧ (∀ j, j < firstTo zs k → at0 zs j < at0 zs (firstTo zs k))
  | 0, h => absurd h (by omega)
  | 1, _ => by
    have h0 : firstTo zs 1 = 0 := by simp [firstTo]
    rw [h0]
    exact ⟨by omega, fun j hj => by obtain rfl : j = 0 := by omega
                                    exact Int.le_refl _, fun j hj => absurd hj (by omega)⟩
  | k + 2, _ => by
    obtain ⟨h1, h2, h3⟩ := firstTo_prop zs (k + 1) (by omega)
    by_cases h : at0 zs (firstTo zs (k + 1)) < at0 zs (k + 1)
    · have e : firstTo zs (k + 2) = k + 1 := by rw [firstTo, if_pos h]
      rw [e]
      refine ⟨by omega, fun j hj => ?_, fun j hj => ?_⟩
      · rcases Nat.lt_or_ge j (k + 1) with h4 | h4
        · have := h2 j h4; omega
        · obtain rfl : j = k + 1 := by omega
          exact Int.le_refl _
      · have := h2 j hj; omega
    · have e : firstTo zs (k + 2) = firstTo zs (k + 1) := by rw [firstTo, if_neg h]
      rw [e]
      refine ⟨by omega, fun j hj => ?_, h3⟩
      rcases Nat.lt_or_ge j (k + 1) with h4 | h4
      · exact h2 j h4
      · obtain rfl : j = k + 1 := by omega
        omega
theorem firstTo_succ_at (zs : List Int) (k : Nat) : at0 zs (firstTo zs (k + 1)) = if at0 zs k ≤ at0 zs (firstTo zs k) then at0 zs (firstTo zs k) else at0 zs k := by
  rw [firstTo]
  by_cases h : at0 zs (firstTo zs k) < at0 zs k
  · rw [if_pos h, if_neg (by omega)]
  · rw [if_neg h, if_pos (by omega)]

set_option maxRecDepth 100000 in
set_option maxHeartbeats 400000 in
theorem max_c (A : Option Addr) (c : Nat) (zs : List Int) (w : World) (ha : Arg w A c zs) (hn : 1 ≤ zs.length) :
    Calls Try.prog 91 #[.slice A zs.length c] w fun e w' => e = .returned (.int .i64 (at0 zs (firstTo zs zs.length))) ∧ w = w' := by
  obtain ⟨hl, _, _, hr⟩ := ha
  have h1 : at0 zs (firstTo zs 1) = at0 zs 0 := by simp [firstTo]
  obtain ⟨b, off, rfl, _, _, hc0⟩ := hr.at_ (k := 0) (by omega)
  have e0 : zs[0]?.getD 0 = at0 zs 0 := rfl
  rw [e0] at hc0
  rw [Nat.add_zero] at hc0
  have H1 := Lib.hid h1
  have hlt0 : (0 : Int) < (zs.length : Int) := by omega
  have hge : ¬ ((zs.length : Int) < 1) := by omega
  clear h1 e0
  go_enter Try.func91, Try.ntmps91
  go_wp2
  go_loop [3, 4] (fun m i => ∃ k : Nat, 1 ≤ k ∧ k ≤ zs.length ∧ i = .int .i64 k ∧ m = .int .i64 (at0 zs (firstTo zs k))) (fun _ i => zs.length - (intOf i).toNat)
  case atStart => exact ⟨1, by omega, by omega, rfl, by rw [H1.out]⟩
  case round =>
    obtain ⟨k, hk1, hk, rfl, rfl⟩ := hrel
    by_cases hlt : k < zs.length
    · obtain ⟨b', off', e, _, _, hc⟩ := hr.at_ hlt
      injection e with e
      injection e with e1 e2 e3
      subst e1; subst e2
      have e0 : zs[k]?.getD 0 = at0 zs k := rfl
      rw [e0] at hc
      have Hr := Lib.hid hr
      have Hs := Lib.hid (firstTo_succ_at zs k)
      clear hr e0 e3
      by_cases hle : at0 zs k ≤ at0 zs (firstTo zs k)
      · have hf : at0 zs (firstTo zs (k + 1)) = at0 zs (firstTo zs k) := by rw [Hs.out, if_pos hle]
        have Hf := Lib.hid hf
        clear hf
        go_wp2
        go_round
        case rel => exact ⟨k + 1, by omega, by omega, by go_num, by rw [Hf.out]⟩
        case measure => simp [intOf]; omega
      · have hf : at0 zs (firstTo zs (k + 1)) = at0 zs k := by rw [Hs.out, if_neg hle]
        have Hf := Lib.hid hf
        clear hf
        go_wp2
        go_round
        case rel => exact ⟨k + 1, by omega, by omega, by go_num, by rw [Hf.out]⟩
        case measure => simp [intOf]; omega
    · obtain rfl : k = zs.length := by omega
      go_wp2
      go_ret
      exact ⟨rfl, rfl⟩

set_option maxRecDepth 100000 in
set_option maxHeartbeats 400000 in
theorem l1First_c (A : Option Addr) (c : Nat) (zs : List Int) (w : World) (ha : Arg w A c zs) :
    Calls Try.prog 113 #[.slice A zs.length c] w (RetQ (.int .i64 (firstTo zs zs.length)) w) := by
  obtain ⟨hl, _, _, hr⟩ := ha
  go_enter Try.func113, Try.ntmps113
  go_wp2
  go_loopw [3, 4] (fun m i wr => ∃ k n : Nat, k ≤ zs.length ∧ i = .int .i64 k ∧ m = .int .i64 (firstTo zs k) ∧ wr = w.drewN n) (fun _ i _ => zs.length - (intOf i).toNat)
  case atStart => exact ⟨0, 0, by omega, rfl, rfl, rfl⟩
  case round =>
    obtain ⟨k, n, hk, rfl, rfl, rfl⟩ := hrel
    by_cases hlt : k < zs.length
    · obtain ⟨b, off, rfl, _, _, hc⟩ := hr.at_ hlt
      have hf : firstTo zs k < zs.length := by
        rcases Nat.eq_zero_or_pos k with h0 | h0
        · subst h0; simp [firstTo]; omega
        · have := (firstTo_prop zs k h0).1; omega
      obtain ⟨b', off', e, _, _, hc'⟩ := hr.at_ hf
      injection e with e
      injection e with e1 e2 e3
      subst e1; subst e2
      have e0 : zs[k]?.getD 0 = at0 zs k := rfl
      have e4 : zs[firstTo zs k]?.getD 0 = at0 zs (firstTo zs k) := rfl
      rw [e0] at hc
      rw [e4] at hc'
      have Hr := Lib.hid hr
      have Hs : Hid (firstTo zs (k + 1) = if at0 zs (firstTo zs k) < at0 zs k then k else firstTo zs k) := by rw [firstTo]; rfl
      clear hr e0 e3 e4
      have g1 : (k : Int) < (zs.length : Int) := by omega
      have g2 : (firstTo zs k : Int) < (zs.length : Int) := by omega
      by_cases hlt2 : at0 zs (firstTo zs k) < at0 zs k
      · have hf2 : firstTo zs (k + 1) = k := by rw [Hs.out, if_pos hlt2]
        have Hf := Lib.hid hf2
        clear hf2
        go_wp2
        go_quiet (fail)
        go_wp2
        go_roundw
        case rel => exact ⟨k + 1, _, by omega, by go_num, by rw [Hf.out], by first | exact World.drewN_drewN _ _ _ | rfl⟩
        case measure => simp [intOf]; omega
      · have hf2 : firstTo zs (k + 1) = firstTo zs k := by rw [Hs.out, if_neg hlt2]
        have Hf := Lib.hid hf2
        clear hf2
        go_wp2
        go_quiet (fail)
        go_wp2
        go_roundw
        case rel => exact ⟨k + 1, _, by omega, by go_num, by rw [Hf.out], by first | exact World.drewN_drewN _ _ _ | rfl⟩
        case measure => simp [intOf]; omega
    · obtain rfl : k = zs.length := by omega
      go_wp2
      go_ret
      exact ⟨rfl, n, rfl⟩

/-- what FloorDeepest hands back -/
def deepestI (zs : List Int) : Int := if validB zs then firstTo zs zs.length else -1
end Go.Proofs.Ytndpdoiomoefpaa
