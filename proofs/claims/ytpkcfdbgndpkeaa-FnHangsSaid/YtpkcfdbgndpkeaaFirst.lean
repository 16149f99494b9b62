/-
  The first index of the greatest number: slices.Max, slices.Index, l1First of the model; FloorDeepest of both.
-/
import Derived.Test.YtpkcfdbgndpkeaaNeed
namespace Go.Proofs.Ytpkcfdbgndpkeaa
open Go.RowKit

def at0 (zs : List Int) (j : Nat) : Int := zs[j]?.getD 0
theorem at0_get {zs : List Int} {j : Nat} (h : j < zs.length) : at0 zs j = zs[j] := by simp [at0, h]
/-- the first index of the greatest of the first k numbers -/
def firstTo (zs : List Int) : Nat → Nat
  | 0 => 0
  | k + 1 => if at0 zs (firstTo zs k) < at0 zs k then k else firstTo zs k
theorem firstTo_prop (zs : List Int) : ∀ k, 1 ≤ k → firstTo zs k < k ∧ (∀ j, j < k → at0 zs j ≤ at0 zs (firstTo zs k)) ∧ (∀ j, j < firstTo zs k → at0 zs j < at0 zs (firstTo zs k))
  | 0, h => absurd h (by omega)
  | 1, _ => by
    have h0 : firstTo zs 1 = 0 := by simp [firstTo]
    rw [h0]
    exact ⟨by omega, fun j hj => by obtain rfl : j = 0 := by omega
                                    exact Int.le_refl _, fun j hj => absurd hj (by omega)⟩
  | k + 2, _ => by
    obtain ⟨h1, h2, h3⟩ := firstTo_prop zs (k + 1) (by omega)
    by_cases h : at0 zs (firstTo zs (k + 1)) < at0 zs (k + 1)
    · have e : firstTo zs (k + 2) = k + 1 := by rw [firstTo, if_pos h]
      rw [e]
      refine ⟨by omega, fun j hj => ?_, fun j hj => ?_⟩
      · rcases Nat.lt_or_ge j (k + 1) with h4 | h4
        · have := h2 j h4; omega
        · obtain rfl : j = k + 1 := by omega
          exact Int.le_refl _
      · have := h2 j hj; omega
    · have e : firstTo zs (k + 2) = firstTo zs (k + 1) := by rw [firstTo, if_neg h]
      rw [e]
      refine ⟨by omega, fun j hj => ?_, h3⟩
      rcases Nat.lt_or_ge j (k + 1) with h4 | h4
      · exact h2 j h4
      · obtain rfl : j = k + 1 := by omega
        omega
theorem firstTo_succ_at (zs : List Int) (k : Nat) : at0 zs (firstTo zs (k + 1)) = if at0 zs k ≤ at0 zs (firstTo zs k) then at0 zs (firstTo zs k) else at0 zs k := by
  rw [firstTo]
  by_cases h : at0 zs (firstTo zs k) < at0 zs k
  · rw [if_pos h, if_neg (by omega)]
  · rw [if_neg h, if_pos (by omega)]

set_option maxHeartbeats 400000 in
theorem max_c (A : Option Addr) (c : Nat) (zs : List Int) (w : World) (ha : Arg w A c zs) (hn : 1 ≤ zs.length) :
    Calls Try.prog 59 #[.slice A zs.length c] w fun e w' => e = .returned (.int .i64 (at0 zs (firstTo zs zs.length))) ∧ w = w' := by
  obtain ⟨hl, _, _, hr⟩ := ha
  have h1 : at0 zs (firstTo zs 1) = at0 zs 0 := by simp [firstTo]
  obtain ⟨b, off, rfl, _, _, hc0⟩ := hr.at_ (k := 0) (by omega)
  have e0 : zs[0]?.getD 0 = at0 zs 0 := rfl
  rw [e0] at hc0
  rw [Nat.add_zero] at hc0
  have H1 := Lib.hid h1
  have hlt0 : (0 : Int) < (zs.length : Int) := by omega
  have hge : ¬ ((zs.length : Int) < 1) := by omega
  clear h1 e0
  go_enter Try.func59, Try.ntmps59
  go_wp2
  go_loop [3, 4] (fun m i => ∃ k : Nat, 1 ≤ k ∧ k ≤ zs.length ∧ i = .int .i64 k ∧ m = .int .i64 (at0 zs (firstTo zs k))) (fun _ i => zs.length - (intOf i).toNat)
  case atStart => exact ⟨1, by omega, by omega, rfl, by rw [H1.out]⟩
  case round =>
    obtain ⟨k, hk1, hk, rfl, rfl⟩ := hrel
    by_cases hlt : k < zs.length
    · obtain ⟨b', off', e, _, _, hc⟩ := hr.at_ hlt
      injection e with e
      injection e with e1 e2 e3
      subst e1; subst e2
      have e0 : zs[k]?.getD 0 = at0 zs k := rfl
      rw [e0] at hc
      have Hr := Lib.hid hr
      have Hs := Lib.hid (firstTo_succ_at zs k)
      clear hr e0 e3
      by_cases hle : at0 zs k ≤ at0 zs (firstTo zs k)
      · have hf : at0 zs (firstTo zs (k + 1)) = at0 zs (firstTo zs k) := by rw [Hs.out, if_pos hle]
        have Hf := Lib.hid hf
        clear hf
        go_wp2
        go_round
        case rel => exact ⟨k + 1, by omega, by omega, by go_num, by rw [Hf.out]⟩
        case measure => simp [intOf]; omega
      · have hf : at0 zs (firstTo zs (k + 1)) = at0 zs k := by rw [Hs.out, if_neg hle]
        have Hf := Lib.hid hf
        clear hf
        go_wp2
        go_round
        case rel => exact ⟨k + 1, by omega, by omega, by go_num, by rw [Hf.out]⟩
        case measure => simp [intOf]; omega
    · obtain rfl : k = zs.length := by omega
      go_wp2
      go_ret
      exact ⟨rfl, rfl⟩

set_option maxHeartbeats 400000 in
theorem index_c (A : Option Addr) (c : Nat) (zs : List Int) (p : Nat) (w : World) (ha : Arg w A c zs) (hp : p < zs.length) (hfirst : ∀ j, j < p → at0 zs j < at0 zs p) :
    Calls Try.prog 58 #[.slice A zs.length c, .int .i64 (at0 zs p)] w fun e w' => e = .returned (.int .i64 p) ∧ w = w' := by
  obtain ⟨hl, _, _, hr⟩ := ha
  have Hf := Lib.hid hfirst
  clear hfirst
  go_enter Try.func58, Try.ntmps58
  go_wp2
  go_loop [8] (fun i => ∃ k : Nat, k ≤ p ∧ i = .int .i64 k) (fun i => zs.length - (intOf i).toNat)
  case atStart => exact ⟨0, by omega, rfl⟩
  case round =>
    obtain ⟨k, hk, rfl⟩ := hrel
    have hlt : k < zs.length := by omega
    obtain ⟨b, off, rfl, _, _, hc⟩ := hr.at_ hlt
    have e0 : zs[k]?.getD 0 = at0 zs k := rfl
    rw [e0] at hc
    have Hr := Lib.hid hr
    clear hr e0
    by_cases hkp : k = p
    · subst hkp
      have hb : (at0 zs k == at0 zs k) = true := by simp
      go_wp2
      go_ret
      exact ⟨rfl, rfl⟩
    · have hlt2 := Hf.out k (by omega)
      have hb : (at0 zs p == at0 zs k) = false := by rw [beq_eq_false_iff_ne]; omega
      go_wp2
      go_round
      case rel => exact ⟨k + 1, by omega, by go_num⟩
      case measure => simp [intOf]; omega

set_option maxHeartbeats 400000 in
theorem l1First_c (A : Option Addr) (c : Nat) (zs : List Int) (w : World) (ha : Arg w A c zs) :
    Calls Try.prog 60 #[.slice A zs.length c] w (RetQ (.int .i64 (firstTo zs zs.length)) w) := by
  obtain ⟨hl, _, _, hr⟩ := ha
  go_enter Try.func60, Try.ntmps60
  go_wp2
  go_loopw [3, 4] (fun m i wr => ∃ k n : Nat, k ≤ zs.length ∧ i = .int .i64 k ∧ m = .int .i64 (firstTo zs k) ∧ wr = w.drewN n) (fun _ i _ => zs.length - (intOf i).toNat)
  case atStart => exact ⟨0, 0, by omega, rfl, rfl, rfl⟩
  case round =>
    obtain ⟨k, n, hk, rfl, rfl, rfl⟩ := hrel
    by_cases hlt : k < zs.length
    · obtain ⟨b, off, rfl, _, _, hc⟩ := hr.at_ hlt
      have hf : firstTo zs k < zs.length := by
        rcases Nat.eq_zero_or_pos k with h0 | h0
        · subst h0; simp [firstTo]; omega
        · have := (firstTo_prop zs k h0).1; omega
      obtain ⟨b', off', e, _, _, hc'⟩ := hr.at_ hf
      injection e with e
      injection e with e1 e2 e3
      subst e1; subst e2
      have e0 : zs[k]?.getD 0 = at0 zs k := rfl
      have e4 : zs[firstTo zs k]?.getD 0 = at0 zs (firstTo zs k) := rfl
      rw [e0] at hc
      rw [e4] at hc'
      have Hr := Lib.hid hr
      have Hs : Hid (firstTo zs (k + 1) = if at0 zs (firstTo zs k) < at0 zs k then k else firstTo zs k) := by rw [firstTo]; rfl
      clear hr e0 e3 e4
      have g1 : (k : Int) < (zs.length : Int) := by omega
      have g2 : (firstTo zs k : Int) < (zs.length : Int) := by omega
      by_cases hlt2 : at0 zs (firstTo zs k) < at0 zs k
      · have hf2 : firstTo zs (k + 1) = k := by rw [Hs.out, if_pos hlt2]
        have Hf := Lib.hid hf2
        clear hf2
        go_wp2
        go_quiet (fail)
        go_wp2
        go_roundw
        case rel => exact ⟨k + 1, _, by omega, by go_num, by rw [Hf.out], by first | exact World.drewN_drewN _ _ _ | rfl⟩
        case measure => simp [intOf]; omega
      · have hf2 : firstTo zs (k + 1) = firstTo zs k := by rw [Hs.out, if_neg hlt2]
        have Hf := Lib.hid hf2
        clear hf2
        go_wp2
        go_quiet (fail)
        go_wp2
        go_roundw
        case rel => exact ⟨k + 1, _, by omega, by go_num, by rw [Hf.out], by first | exact World.drewN_drewN _ _ _ | rfl⟩
        case measure => simp [intOf]; omega
    · obtain rfl : k = zs.length := by omega
      go_wp2
      go_ret
      exact ⟨rfl, n, rfl⟩

/-- what FloorDeepest hands back -/
def deepestI (zs : List Int) : Int := if validB zs then firstTo zs zs.length else -1
theorem implFloorDeepest_b (A : Option Addr) (c : Nat) (zs : List Int) (w : World) (ha : Arg w A c zs) :
    Calls Try.prog 26 #[.slice A zs.length c] w (RetB (.int .i64 (deepestI zs)) w) := by
  have Ha := Lib.hid ha
  clear ha
  cases hv : validB zs
  · have Hd := Lib.hid (show deepestI zs = -1 by unfold deepestI; rw [hv]; rfl)
    have Hv := Lib.hid hv
    clear hv
    go_enter Try.func26, Try.ntmps26
    go_wp2_with fail
    refine (implFloorValid_c A c zs _ Ha.out).mono ?_
    rintro e w' ⟨rfl, rfl⟩
    rw [Hv.out]
    go_wp2
    go_ret
    exact ⟨by rw [Hd.out]; rfl, Below.refl _ _⟩
  · have Hd := Lib.hid (show deepestI zs = firstTo zs zs.length by unfold deepestI; rw [hv]; rfl)
    have hn := (validB_true hv).1
    have Hv := Lib.hid hv
    have Hp := Lib.hid (firstTo_prop zs zs.length (by omega))
    clear hv
    go_enter Try.func26, Try.ntmps26
    go_wp2_with fail
    refine (implFloorValid_c A c zs _ Ha.out).mono ?_
    rintro e w' ⟨rfl, rfl⟩
    rw [Hv.out]
    go_wp2_with fail
    refine (max_c A c zs _ Ha.out (by omega)).mono ?_
    rintro e w' ⟨rfl, rfl⟩
    go_wp2_with fail
    refine (index_c A c zs _ _ Ha.out Hp.out.1 Hp.out.2.2).mono ?_
    rintro e w' ⟨rfl, rfl⟩
    go_wp2
    go_ret
    exact ⟨by rw [Hd.out]; rfl, Below.refl _ _⟩
theorem specFloorDeepest_b (A : Option Addr) (c : Nat) (zs : List Int) (w : World) (ha : Arg w A c zs) :
    Calls Try.prog 27 #[.slice A zs.length c] w (RetB (.int .i64 (deepestI zs)) w) := by
  have Ha := Lib.hid ha
  clear ha
  cases hv : validB zs
  · have Hd := Lib.hid (show deepestI zs = -1 by unfold deepestI; rw [hv]; rfl)
    have Hv := Lib.hid hv
    clear hv
    go_enter Try.func27, Try.ntmps27
    go_wp2_with fail
    refine (specFloorValid_c A c zs _ Ha.out).mono ?_
    rintro e w' ⟨rfl, rfl⟩
    rw [Hv.out]
    go_wp2
    go_ret
    exact ⟨by rw [Hd.out]; rfl, Below.refl _ _⟩
  · have Hd := Lib.hid (show deepestI zs = firstTo zs zs.length by unfold deepestI; rw [hv]; rfl)
    have Hv := Lib.hid hv
    clear hv
    go_enter Try.func27, Try.ntmps27
    go_wp2_with fail
    refine (specFloorValid_c A c zs _ Ha.out).mono ?_
    rintro e w' ⟨rfl, rfl⟩
    rw [Hv.out]
    go_wp2_with fail
    refine ((l1First_c A c zs _ Ha.out).mono (fun _ _ h => h.toB)).mono ?_
    rintro e w' ⟨rfl, hb⟩
    go_wp2
    go_ret
    exact ⟨by rw [Hd.out]; rfl, hb⟩

end Go.Proofs.Ytpkcfdbgndpkeaa
