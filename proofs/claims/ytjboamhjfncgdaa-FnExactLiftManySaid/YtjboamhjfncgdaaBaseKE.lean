/-
  Contracts of the laws' own small functions over lists of rots: eqRouteS.
-/
import Derived.Test.YtjboamhjfncgdaaMemK
import Derived.Test.YtjboamhjfncgdaaProg
import Derived.RegionTactic
import Derived.StillTailTactics
namespace Go.Proofs.Ytjboamhjfncgdaa
open Go.RowKit

/-! ### two rots compared -/
theorem eqRoute_yes (s : Rot) (w : World) :
    Calls Try.prog 90 #[.agg #[.int .i64 s.a, .int .i64 s.b, .int .i64 s.c, .int .i64 s.d], .agg #[.int .i64 s.a, .int .i64 s.b, .int .i64 s.c, .int .i64 s.d]] w fun e w' => e = .returned (.bool true) ∧ Below w.heap.size w w' := by
  have g0 : (s.a != s.a) = false := by simp
  have g1 : (s.b != s.b) = false := by simp
  have g2 : (s.c != s.c) = false := by simp
  have g3 : (s.d != s.d) = false := by simp
  go_enter Try.func90, Try.ntmps90
  go_wp2
  go_ret
  exact ⟨rfl, ((Below.refl _ _).alloc (Nat.le_refl _) _).alloc (by simp) _⟩

theorem eqRoute_no (s t : Rot) (w : World) (hn : s ≠ t) :
    Calls Try.prog 90 #[.agg #[.int .i64 s.a, .int .i64 s.b, .int .i64 s.c, .int .i64 s.d], .agg #[.int .i64 t.a, .int .i64 t.b, .int .i64 t.c, .int .i64 t.d]] w fun e w' => e = .returned (.bool false) ∧ Below w.heap.size w w' := by
  by_cases h0 : s.a = t.a
  · have g0 : (s.a != t.a) = false := by simp [h0]
    by_cases h1 : s.b = t.b
    · have g1 : (s.b != t.b) = false := by simp [h1]
      by_cases h2 : s.c = t.c
      · have g2 : (s.c != t.c) = false := by simp [h2]
        have g3 : (s.d != t.d) = true := by
          simp only [bne_iff_ne, ne_eq]
          exact fun h3 => hn (Rot.ext_ h0 h1 h2 h3)
        clear h0 h1 h2 hn
        go_enter Try.func90, Try.ntmps90
        go_wp2
        go_ret
        exact ⟨rfl, ((Below.refl _ _).alloc (Nat.le_refl _) _).alloc (by simp) _⟩
      · have g2 : (s.c != t.c) = true := by simp [h2]
        clear h0 h1 h2 hn
        go_enter Try.func90, Try.ntmps90
        go_wp2
        go_ret
        exact ⟨rfl, ((Below.refl _ _).alloc (Nat.le_refl _) _).alloc (by simp) _⟩
    · have g1 : (s.b != t.b) = true := by simp [h1]
      clear h0 h1 hn
      go_enter Try.func90, Try.ntmps90
      go_wp2
      go_ret
      exact ⟨rfl, ((Below.refl _ _).alloc (Nat.le_refl _) _).alloc (by simp) _⟩
  · have g0 : (s.a != t.a) = true := by simp [h0]
    clear h0 hn
    go_enter Try.func90, Try.ntmps90
    go_wp2
    go_ret
    exact ⟨rfl, ((Below.refl _ _).alloc (Nat.le_refl _) _).alloc (by simp) _⟩

/-- the first k rots are equal -/
def eqToK (xs ys : List Rot) (k : Nat) : Prop := ∀ j, j < k → rotAt xs j = rotAt ys j
theorem eqToK_zero (xs ys : List Rot) : eqToK xs ys 0 := fun j hj => absurd hj (by omega)
theorem eqToK_succ {xs ys : List Rot} {k : Nat} (h : eqToK xs ys k) (hk : rotAt xs k = rotAt ys k) : eqToK xs ys (k + 1) := fun j hj => by
  rcases Nat.lt_or_ge j k with h1 | h1
  · exact h j h1
  · obtain rfl : j = k := by omega
    exact hk
theorem eqK_of_to {xs ys : List Rot} (hl : xs.length = ys.length) (h : eqToK xs ys xs.length) : xs = ys := by
  apply List.ext_getElem hl
  intro i h1 h2
  have := h i h1
  rwa [rotAt_lt h1, rotAt_lt h2] at this

set_option maxRecDepth 100000 in
set_option maxHeartbeats 1000000 in
theorem eqRouteS_c (A B : Option Addr) (c d : Nat) (xs ys : List Rot) (w : World) (ha1 : ArgK w A c xs) (ha2 : ArgK w B d ys) :
    Calls Try.prog 39 #[.slice A xs.length c, .slice B ys.length d] w (RetB (.bool (decide (xs = ys))) w) := by
  have H1 := Lib.hid ha1
  have H2 := Lib.hid ha2
  have hx := ha1.len
  have hy := ha2.len
  clear ha1 ha2
  by_cases hl : xs.length = ys.length
  · have hl1 : ((xs.length : Int) != (ys.length : Int)) = false := by simp [hl]
    have HL := Lib.hid hl
    clear hl
    go_enter Try.func39, Try.ntmps39
    go_wp2
    go_loopw [5] (fun i wr => ∃ k : Nat, k ≤ xs.length ∧ eqToK xs ys k ∧ i = .int .i64 k ∧ Below w.heap.size w wr) (fun i _ => xs.length - (intOf i).toNat)
    case atStart => exact ⟨0, Nat.zero_le _, eqToK_zero _ _, rfl, Below.refl _ _⟩
    case round =>
      obtain ⟨k, hk, ha, rfl, hb⟩ := hrel
      have Ha := Lib.hid ha
      have Hb := Lib.hid hb
      clear ha hb
      by_cases hlt : k < xs.length
      · have hlt2 : k < ys.length := by have := HL.out; omega
        obtain ⟨b, off, rfl, _, _, hc0, hc1, hc2, hc3⟩ := (H1.out.go Hb.out).rd.at_ hlt
        obtain ⟨b', off', rfl, _, _, hd0, hd1, hd2, hd3⟩ := (H2.out.go Hb.out).rd.at_ hlt2
        obtain ⟨s, hs⟩ : ∃ s, rotAt xs k = s := ⟨_, rfl⟩
        obtain ⟨t, ht⟩ : ∃ t, rotAt ys k = t := ⟨_, rfl⟩
        rw [hs] at hc0 hc1 hc2 hc3
        rw [ht] at hd0 hd1 hd2 hd3
        have Hs := Lib.hid hs
        have Ht := Lib.hid ht
        clear hs ht
        have g1 : (k : Int) < (xs.length : Int) := by omega
        have g2 : (k : Int) < (ys.length : Int) := by omega
        by_cases hne : s = t
        · have Hst := Lib.hid (show rotAt xs k = rotAt ys k by rw [Hs.out, Ht.out, hne])
          have Hne := Lib.hid hne
          clear hne
          go_wp2
          go_still_tail 8, (by kernel_rfl)
          rw [← Hne.out]
          go_wp2_with fail
          refine (eqRoute_yes s _).mono ?_
          rintro e w2 ⟨rfl, hb2⟩
          have Hb2 := Lib.hid ((below_drewN Hb.out 1).trans (hb2.mono (by have := Hb.out.size; simp; omega)))
          clear hb2
          go_wp2
          go_roundw
          case rel => exact ⟨k + 1, by omega, eqToK_succ Ha.out Hst.out, by go_num, Hb2.out⟩
          case measure => simp [intOf]; omega
        · have Hn := Lib.hid (show xs ≠ ys by rintro rfl; exact hne (by rw [← Hs.out, ← Ht.out]))
          have Hne := Lib.hid hne
          clear hne
          go_wp2
          go_still_tail 8, (by kernel_rfl)
          go_wp2_with fail
          refine (eqRoute_no s t _ Hne.out).mono ?_
          rintro e w2 ⟨rfl, hb2⟩
          have Hb2 := Lib.hid ((below_drewN Hb.out 1).trans (hb2.mono (by have := Hb.out.size; simp; omega)))
          clear hb2
          go_wp2
          go_ret
          exact ⟨by have := Hn.out; simp [this], Hb2.out⟩
      · obtain rfl : k = xs.length := by omega
        go_wp2
        go_ret
        have := eqK_of_to HL.out Ha.out
        exact ⟨by simp [this], Hb.out⟩
  · have hl1 : ((xs.length : Int) != (ys.length : Int)) = true := by simp; omega
    have hn : xs ≠ ys := fun e => hl (by rw [e])
    have HN := Lib.hid hn
    clear hl hn
    go_enter Try.func39, Try.ntmps39
    go_wp2
    go_ret
    exact ⟨by have := HN.out; simp [this], Below.refl _ _⟩

theorem rotCells_set4 (xs ys : List Rot) (s t : Rot) {k : Nat} (hk : xs.length = k) :
    ((((rotCells (xs ++ s :: ys)).set (k * 4) (.int .i64 t.a)).set (k * 4 + 1) (.int .i64 t.b)).set (k * 4 + 2) (.int .i64 t.c)).set (k * 4 + 3) (.int .i64 t.d) = rotCells (xs ++ t :: ys) := by
  have hl : (rotCells xs).length = k * 4 := by rw [rotCells_length, hk]
  rw [rotCells_append, rotCells_cons, rotCells_append, rotCells_cons]
  rw [List.set_append_right _ _ (by omega), List.set_append_right _ _ (by omega), List.set_append_right _ _ (by omega), List.set_append_right _ _ (by omega), hl]
  rw [show k * 4 - k * 4 = 0 by omega, show k * 4 + 1 - k * 4 = 1 by omega, show k * 4 + 2 - k * 4 = 2 by omega, show k * 4 + 3 - k * 4 = 3 by omega]
  rfl

end Go.Proofs.Ytjboamhjfncgdaa
