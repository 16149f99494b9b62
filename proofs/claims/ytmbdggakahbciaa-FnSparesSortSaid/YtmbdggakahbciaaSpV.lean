/-
  SparesValid of both.
-/
import Derived.Test.YtmbdggakahbciaaRng
import Derived.Test.YtmbdggakahbciaaSprM
namespace Go.Proofs.Ytmbdggakahbciaa
open Go.RowKit

theorem sprOk_false1 {s : Spr} (h : inB s.m 1 50 = false) : sprOk s = false := by
  have h2 : (decide (1 ≤ s.m) && decide (s.m ≤ 50)) = false := h
  unfold sprOk; rw [h2]; rfl
theorem sprOk_false2 {s : Spr} (h : inB s.k 0 3 = false) : sprOk s = false := by
  have h2 : (decide (0 ≤ s.k) && decide (s.k ≤ 3)) = false := h
  unfold sprOk; rw [h2]; simp
theorem sprOk_all {s : Spr} (h1 : inB s.m 1 50 = true) (h2 : inB s.k 0 3 = true) : sprOk s = true := by
  have g1 : (decide (1 ≤ s.m) && decide (s.m ≤ 50)) = true := h1
  have g2 : (decide (0 ≤ s.k) && decide (s.k ≤ 3)) = true := h2
  unfold sprOk; rw [g1, g2]; rfl
theorem all_snoc {α : Type} {p : α → Bool} {L : List α} {k : Nat} (h : (L.take k).all p = true) (hk : k < L.length) (hp : p L[k] = true) : (L.take (k + 1)).all p = true := by
  rw [List.take_succ_eq_append_getElem hk, List.all_append, h]; simp [hp]
theorem all_not {α : Type} {p : α → Bool} {L : List α} {k : Nat} (hk : k < L.length) (hp : p L[k] = false) : L.all p = false := by
  apply Bool.eq_false_iff.2
  intro h
  rw [List.all_eq_true] at h
  have := h _ (List.getElem_mem hk)
  rw [hp] at this; cases this

set_option maxHeartbeats 1000000 in
theorem lengthsValid_c (A : Option Addr) (c : Nat) (ss : List Spr) (n : Nat) (w : World) (ha : ArgZ w A c ss) :
    Calls Try.prog 65 #[.slice A ss.length c, .int .i64 n] w (RetB (.bool (sprB n ss)) w) := by
  have hl := ha.len
  have HA := Lib.hid ha
  clear ha
  by_cases h1 : n < ss.length
  · have g1 : (n : Int) < (ss.length : Int) := by omega
    go_enter Try.func65, Try.ntmps65
    go_wp2
    go_ret
    exact ⟨by unfold sprB; rw [decide_eq_false (by omega)]; rfl, Below.refl _ _⟩
  · have g1 : ¬ (n : Int) < (ss.length : Int) := by omega
    have H1 := Lib.hid h1
    clear h1
    go_enter Try.func65, Try.ntmps65
    go_wp2
    go_loopw [13] (fun i wr => ∃ k : Nat, k ≤ ss.length ∧ (ss.take k).all sprOk = true ∧ i = .int .i64 k ∧ Below w.heap.size w wr) (fun i _ => ss.length - (intOf i).toNat)
    case atStart => exact ⟨0, Nat.zero_le _, rfl, rfl, Below.refl _ _⟩
    case round =>
      obtain ⟨k, hk, ho, rfl, hb⟩ := hrel
      have Ho := Lib.hid ho
      have Hb := Lib.hid hb
      clear ho hb
      by_cases hlt : k < ss.length
      · obtain ⟨b, off, rfl, _, hbw, hc0, hc1⟩ := (HA.out.go Hb.out).rd.at_ hlt
        rw [sprAt_lt hlt] at hc0 hc1
        obtain ⟨s, hs⟩ : ∃ s, ss[k] = s := ⟨_, rfl⟩
        rw [hs] at hc0 hc1
        have Hs := Lib.hid hs
        clear hs
        have g1 : (k : Int) < (ss.length : Int) := by omega
        go_wp2_with fail
        refine (inRange_c _ _ _ _).mono ?_
        rintro e w' ⟨rfl, rfl⟩
        cases e1 : inB s.m 1 50
        · have Hn := Lib.hid (all_not (p := sprOk) hlt (by rw [Hs.out]; exact sprOk_false1 e1))
          clear e1
          go_wp2
          go_ret
          exact ⟨by unfold sprB; rw [Hn.out]; simp, Hb.out.alloc Hb.out.size _⟩
        have E1 := Lib.hid e1
        clear e1
        go_wp2_with fail
        refine (inRange_c _ _ _ _).mono ?_
        rintro e w' ⟨rfl, rfl⟩
        cases e2 : inB s.k 0 3
        · have Hn := Lib.hid (all_not (p := sprOk) hlt (by rw [Hs.out]; exact sprOk_false2 e2))
          clear e2
          go_wp2
          go_ret
          exact ⟨by unfold sprB; rw [Hn.out]; simp, Hb.out.alloc Hb.out.size _⟩
        have Hn := Lib.hid (all_snoc (p := sprOk) Ho.out hlt (by rw [Hs.out]; exact sprOk_all E1.out e2))
        clear e2
        go_wp2
        go_roundw
        case rel => exact ⟨k + 1, by omega, Hn.out, by go_num, Hb.out.alloc Hb.out.size _⟩
        case measure => simp [intOf]; omega
      · obtain rfl : k = ss.length := by omega
        go_wp2
        go_ret
        have Ho2 := Ho.out
        rw [List.take_length] at Ho2
        exact ⟨by unfold sprB; rw [Ho2, decide_eq_true (by have := H1.out; omega)]; rfl, Hb.out⟩

theorem implSparesValid_b (A : Option Addr) (c : Nat) (ss : List Spr) (w : World) (ha : ArgZ w A c ss) :
    Calls Try.prog 40 #[.slice A ss.length c] w (RetB (.bool (sprB 10 ss)) w) := by
  have hl := ha.len
  have HA := Lib.hid ha
  clear ha
  go_enter Try.func40, Try.ntmps40
  go_wp2_with fail
  refine (lengthsValid_c A c ss 10 _ HA.out).mono ?_
  rintro e w' ⟨rfl, hb⟩
  go_wp2
  go_ret
  exact ⟨rfl, hb⟩

set_option maxHeartbeats 1000000 in
theorem specSparesValid_b (A : Option Addr) (c : Nat) (ss : List Spr) (w : World) (ha : ArgZ w A c ss) :
    Calls Try.prog 41 #[.slice A ss.length c] w (RetB (.bool (sprB 10 ss)) w) := by
  have hl := ha.len
  have HA := Lib.hid ha
  clear ha
  go_enter Try.func41, Try.ntmps41
  go_wp2
  go_loopw [3] (fun i wr => ∃ k : Nat, k ≤ ss.length ∧ (ss.take k).all sprOk = true ∧ i = .int .i64 k ∧ Below w.heap.size w wr) (fun i _ => ss.length - (intOf i).toNat)
  case atStart => exact ⟨0, Nat.zero_le _, rfl, rfl, Below.refl _ _⟩
  case round =>
    obtain ⟨k, hk, ho, rfl, hb⟩ := hrel
    have Ho := Lib.hid ho
    have Hb := Lib.hid hb
    clear ho hb
    by_cases hlt : k < ss.length
    · obtain ⟨b, off, rfl, _, hbw, hc0, hc1⟩ := (HA.out.go Hb.out).rd.at_ hlt
      rw [sprAt_lt hlt] at hc0 hc1
      obtain ⟨s, hs⟩ : ∃ s, ss[k] = s := ⟨_, rfl⟩
      rw [hs] at hc0 hc1
      have Hs := Lib.hid hs
      clear hs
      have g1 : (k : Int) < (ss.length : Int) := by omega
      go_wp2_with fail
      refine (l6In_c _ _ _ _).mono ?_
      rintro e w' ⟨rfl, rfl⟩
      cases e1 : inB s.m 1 50
      · have Hn := Lib.hid (all_not (p := sprOk) hlt (by rw [Hs.out]; exact sprOk_false1 e1))
        clear e1
        go_wp2
        go_ret
        exact ⟨by unfold sprB; rw [Hn.out]; simp, Hb.out⟩
      have E1 := Lib.hid e1
      clear e1
      go_wp2_with fail
      refine (l6In_c _ _ _ _).mono ?_
      rintro e w' ⟨rfl, rfl⟩
      cases e2 : inB s.k 0 3
      · have Hn := Lib.hid (all_not (p := sprOk) hlt (by rw [Hs.out]; exact sprOk_false2 e2))
        clear e2
        go_wp2
        go_ret
        exact ⟨by unfold sprB; rw [Hn.out]; simp, Hb.out⟩
      have Hn := Lib.hid (all_snoc (p := sprOk) Ho.out hlt (by rw [Hs.out]; exact sprOk_all E1.out e2))
      clear e2
      go_wp2
      go_roundw
      case rel => exact ⟨k + 1, by omega, Hn.out, by go_num, Hb.out⟩
      case measure => simp [intOf]; omega
    · obtain rfl : k = ss.length := by omega
      have Ho2 := Ho.out
      rw [List.take_length] at Ho2
      have H2 := Lib.hid Ho2
      clear Ho2
      by_cases h1 : ss.length ≤ 10
      · have g1 : (ss.length : Int) ≤ 10 := by omega
        go_wp2
        go_ret
        exact ⟨by unfold sprB; rw [H2.out]; simp [h1], Hb.out⟩
      · have g1 : ¬ (ss.length : Int) ≤ 10 := by omega
        go_wp2
        go_ret
        exact ⟨by unfold sprB; rw [H2.out]; simp [h1], Hb.out⟩

end Go.Proofs.Ytmbdggakahbciaa
