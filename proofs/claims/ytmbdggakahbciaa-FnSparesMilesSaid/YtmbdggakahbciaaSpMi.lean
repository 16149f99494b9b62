/-
  SparesMiles of both.
-/
import Derived.Test.YtmbdggakahbciaaSpV
namespace Go.Proofs.Ytmbdggakahbciaa
open Go.RowKit

def milesK (L : List Spr) (kind : Int) : Int := if sprB 10 L then kindZ L kind else -1
theorem milesK_no {L : List Spr} (h : sprB 10 L = false) (kind : Int) : milesK L kind = -1 := by unfold milesK; rw [h]; rfl
theorem milesK_yes {L : List Spr} (h : sprB 10 L = true) (kind : Int) : milesK L kind = kindZ L kind := by unfold milesK; rw [h]; rfl
theorem kindZ_succ {L : List Spr} {k : Nat} (h : k < L.length) (kind : Int) : kindZ (L.take (k + 1)) kind = kindZ (L.take k) kind + (if (sprAt L k).k = kind then (sprAt L k).m else 0) := by
  unfold kindZ
  rw [List.take_succ_eq_append_getElem h, List.filter_append, milesZ_append, sprAt_lt h]
  by_cases h1 : L[k].k = kind
  · rw [if_pos h1]; simp [ofKind, h1, milesZ]
  · rw [if_neg h1]; simp [ofKind, h1, milesZ]
theorem kindZ_same {L : List Spr} {k : Nat} (h : k < L.length) {kind : Int} (h1 : (sprAt L k).k = kind) : kindZ (L.take (k + 1)) kind = kindZ (L.take k) kind + (sprAt L k).m := by rw [kindZ_succ h, if_pos h1]
theorem kindZ_other {L : List Spr} {k : Nat} (h : k < L.length) {kind : Int} (h1 : ¬ (sprAt L k).k = kind) : kindZ (L.take (k + 1)) kind = kindZ (L.take k) kind := by rw [kindZ_succ h, if_neg h1]; omega
theorem kindZ_bd {L : List Spr} (h : sprB 10 L = true) (kind : Int) : ∀ k, k ≤ L.length → 0 ≤ kindZ (L.take k) kind ∧ kindZ (L.take k) kind ≤ 50 * k
  | 0, _ => by simp [kindZ, milesZ]
  | k + 1, hk => by
    have h1 := kindZ_bd h kind k (by omega)
    have h2 := sprB_at h (k := k) (by omega)
    rw [kindZ_succ (by omega)]
    split <;> omega

set_option maxHeartbeats 1000000 in
theorem implSparesMiles_b (A : Option Addr) (c : Nat) (ss : List Spr) (kind : Int) (w : World) (ha : ArgZ w A c ss) :
    Calls Try.prog 12 #[.slice A ss.length c, .int .i64 kind] w (RetB (.int .i64 (milesK ss kind)) w) := by
  have HA := Lib.hid ha
  clear ha
  go_enter Try.func12, Try.ntmps12
  go_wp2_with fail
  refine (implSparesValid_b A c ss _ HA.out).mono ?_
  rintro e w1 ⟨rfl, hb⟩
  have Hb := Lib.hid hb
  have HA1 := Lib.hid (HA.out.go hb)
  clear hb HA
  cases hv : sprB 10 ss
  · have Hv := Lib.hid hv
    clear hv
    go_wp2
    go_ret
    exact ⟨by rw [milesK_no Hv.out]; rfl, Hb.out⟩
  · have Hv := Lib.hid hv
    have hl := (sprB_true.1 hv).1
    clear hv
    go_wp2
    go_loopw [5, 13] (fun q i wr => ∃ k : Nat, k ≤ ss.length ∧ i = .int .i64 k ∧ q = .int .i64 (kindZ (ss.take k) kind) ∧ Below w1.heap.size w1 wr) (fun _ i _ => ss.length - (intOf i).toNat)
    case atStart => exact ⟨0, Nat.zero_le _, rfl, rfl, Below.refl _ _⟩
    case round =>
      obtain ⟨k, hk, rfl, rfl, hb⟩ := hrel
      have Hb2 := Lib.hid hb
      clear hb
      by_cases hlt : k < ss.length
      · obtain ⟨b, off, rfl, _, hbw, hc0, hc1⟩ := (HA1.out.go Hb2.out).rd.at_ hlt
        obtain ⟨b1, b2⟩ := kindZ_bd Hv.out kind k hk
        obtain ⟨b3, _⟩ := sprB_at Hv.out hlt
        have Hs := Lib.hid (kindZ_same (L := ss) hlt (kind := kind))
        have Ho := Lib.hid (kindZ_other (L := ss) hlt (kind := kind))
        obtain ⟨s, hs⟩ : ∃ s, sprAt ss k = s := ⟨_, rfl⟩
        obtain ⟨q, hq⟩ : ∃ q, kindZ (ss.take k) kind = q := ⟨_, rfl⟩
        rw [hs] at hc0 hc1 b3 Hs Ho
        rw [hq] at b1 b2 Hs Ho ⊢
        have g1 : (k : Int) < (ss.length : Int) := by omega
        clear hs hq
        by_cases hk2 : s.k = kind
        · go_wp2
          go_roundw
          case rel => exact ⟨k + 1, by omega, by go_num, by rw [Hs.out hk2], Hb2.out.alloc Hb2.out.size _⟩
          case measure => simp [intOf]; omega
        · go_wp2
          go_roundw
          case rel => exact ⟨k + 1, by omega, by go_num, by rw [Ho.out hk2], Hb2.out.alloc Hb2.out.size _⟩
          case measure => simp [intOf]; omega
      · obtain rfl : k = ss.length := by omega
        rw [List.take_length]
        go_wp2
        go_ret
        exact ⟨by rw [milesK_yes Hv.out]; rfl, below_step Hb.out Hb2.out⟩

set_option maxHeartbeats 1000000 in
theorem specSparesMiles_b (A : Option Addr) (c : Nat) (ss : List Spr) (kind : Int) (w : World) (ha : ArgZ w A c ss) :
    Calls Try.prog 13 #[.slice A ss.length c, .int .i64 kind] w (RetB (.int .i64 (milesK ss kind)) w) := by
  have HA := Lib.hid ha
  clear ha
  go_enter Try.func13, Try.ntmps13
  go_wp2_with fail
  refine (specSparesValid_b A c ss _ HA.out).mono ?_
  rintro e w1 ⟨rfl, hb⟩
  have Hb := Lib.hid hb
  have HA1 := Lib.hid (HA.out.go hb)
  clear hb HA
  cases hv : sprB 10 ss
  · have Hv := Lib.hid hv
    clear hv
    go_wp2
    go_ret
    exact ⟨by rw [milesK_no Hv.out]; rfl, Hb.out⟩
  · have Hv := Lib.hid hv
    have hl := (sprB_true.1 hv).1
    clear hv
    go_wp2
    go_loopw [5, 6] (fun q i wr => ∃ k : Nat, k ≤ ss.length ∧ i = .int .i64 k ∧ q = .int .i64 (kindZ (ss.take k) kind) ∧ Below w1.heap.size w1 wr) (fun _ i _ => ss.length - (intOf i).toNat)
    case atStart => exact ⟨0, Nat.zero_le _, rfl, rfl, Below.refl _ _⟩
    case round =>
      obtain ⟨k, hk, rfl, rfl, hb⟩ := hrel
      have Hb2 := Lib.hid hb
      clear hb
      by_cases hlt : k < ss.length
      · obtain ⟨b, off, rfl, _, hbw, hc0, hc1⟩ := (HA1.out.go Hb2.out).rd.at_ hlt
        obtain ⟨b1, b2⟩ := kindZ_bd Hv.out kind k hk
        obtain ⟨b3, _⟩ := sprB_at Hv.out hlt
        have Hs := Lib.hid (kindZ_same (L := ss) hlt (kind := kind))
        have Ho := Lib.hid (kindZ_other (L := ss) hlt (kind := kind))
        obtain ⟨s, hs⟩ : ∃ s, sprAt ss k = s := ⟨_, rfl⟩
        obtain ⟨q, hq⟩ : ∃ q, kindZ (ss.take k) kind = q := ⟨_, rfl⟩
        rw [hs] at hc0 hc1 b3 Hs Ho
        rw [hq] at b1 b2 Hs Ho ⊢
        have g1 : (k : Int) < (ss.length : Int) := by omega
        clear hs hq
        by_cases hk2 : s.k = kind
        · go_wp2
          go_roundw
          case rel => exact ⟨k + 1, by omega, by go_num, by rw [Hs.out hk2], (by first | exact Hb2.out | exact Hb2.out.alloc Hb2.out.size _)⟩
          case measure => simp [intOf]; omega
        · go_wp2
          go_roundw
          case rel => exact ⟨k + 1, by omega, by go_num, by rw [Ho.out hk2], (by first | exact Hb2.out | exact Hb2.out.alloc Hb2.out.size _)⟩
          case measure => simp [intOf]; omega
      · obtain rfl : k = ss.length := by omega
        rw [List.take_length]
        go_wp2
        go_ret
        exact ⟨by rw [milesK_yes Hv.out]; rfl, below_step Hb.out Hb2.out⟩

end Go.Proofs.Ytmbdggakahbciaa
