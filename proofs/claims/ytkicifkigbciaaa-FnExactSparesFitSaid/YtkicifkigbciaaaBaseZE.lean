/-
  Contracts of the laws' own small functions over lists of sprs: eqSpareS.
-/
import Derived.Test.YtkicifkigbciaaaMemZ
import Derived.Test.YtkicifkigbciaaaProg
import Derived.RegionTactic
import Derived.StillTailTactics
namespace Go.Proofs.Ytkicifkigbciaaa
open Go.RowKit

/-! ### two sprs compared -/
theorem eqSpare_yes (s : Spr) (w : World) :
    Calls Try.prog 81 #[.agg #[.int .i64 s.m, .int .i64 s.k], .agg #[.int .i64 s.m, .int .i64 s.k]] w fun e w' => e = .returned (.bool true) ∧ Below w.heap.size w w' := by
  have g0 : (s.m != s.m) = false := by simp
  have g1 : (s.k != s.k) = false := by simp
  go_enter Try.func81, Try.ntmps81
  go_wp2
  go_ret
  exact ⟨rfl, ((Below.refl _ _).alloc (Nat.le_refl _) _).alloc (by simp) _⟩

theorem eqSpare_no (s t : Spr) (w : World) (hn : s ≠ t) :
    Calls Try.prog 81 #[.agg #[.int .i64 s.m, .int .i64 s.k], .agg #[.int .i64 t.m, .int .i64 t.k]] w fun e w' => e = .returned (.bool false) ∧ Below w.heap.size w w' := by
  by_cases h0 : s.m = t.m
  · have g0 : (s.m != t.m) = false := by simp [h0]
    have g1 : (s.k != t.k) = true := by
      simp only [bne_iff_ne, ne_eq]
      exact fun h1 => hn (Spr.ext_ h0 h1)
    clear h0 hn
    go_enter Try.func81, Try.ntmps81
    go_wp2
    go_ret
    exact ⟨rfl, ((Below.refl _ _).alloc (Nat.le_refl _) _).alloc (by simp) _⟩
  · have g0 : (s.m != t.m) = true := by simp [h0]
    clear h0 hn
    go_enter Try.func81, Try.ntmps81
    go_wp2
    go_ret
    exact ⟨rfl, ((Below.refl _ _).alloc (Nat.le_refl _) _).alloc (by simp) _⟩

/-- the first k sprs are equal -/
def eqToZ (xs ys : List Spr) (k : Nat) : Prop := ∀ j, j < k → sprAt xs j = sprAt ys j
theorem eqToZ_zero (xs ys : List Spr) : eqToZ xs ys 0 := fun j hj => absurd hj (by omega)
theorem eqToZ_succ {xs ys : List Spr} {k : Nat} (h : eqToZ xs ys k) (hk : sprAt xs k = sprAt ys k) : eqToZ xs ys (k + 1) := fun j hj => by
  rcases Nat.lt_or_ge j k with h1 | h1
  · exact h j h1
  · obtain rfl : j = k := by omega
    exact hk
theorem eqZ_of_to {xs ys : List Spr} (hl : xs.length = ys.length) (h : eqToZ xs ys xs.length) : xs = ys := by
  apply List.ext_getElem hl
  intro i h1 h2
  have := h i h1
  rwa [sprAt_lt h1, sprAt_lt h2] at this

set_option maxRecDepth 100000 in
set_option maxHeartbeats 1000000 in
theorem eqSpareS_c (A B : Option Addr) (c d : Nat) (xs ys : List Spr) (w : World) (ha1 : ArgZ w A c xs) (ha2 : ArgZ w B d ys) :
    Calls Try.prog 38 #[.slice A xs.length c, .slice B ys.length d] w (RetB (.bool (decide (xs = ys))) w) := by
  have H1 := Lib.hid ha1
  have H2 := Lib.hid ha2
  have hx := ha1.len
  have hy := ha2.len
  clear ha1 ha2
  by_cases hl : xs.length = ys.length
  · have hl1 : ((xs.length : Int) != (ys.length : Int)) = false := by simp [hl]
    have HL := Lib.hid hl
    clear hl
    go_enter Try.func38, Try.ntmps38
    go_wp2
    go_loopw [5] (fun i wr => ∃ k : Nat, k ≤ xs.length ∧ eqToZ xs ys k ∧ i = .int .i64 k ∧ Below w.heap.size w wr) (fun i _ => xs.length - (intOf i).toNat)
    case atStart => exact ⟨0, Nat.zero_le _, eqToZ_zero _ _, rfl, Below.refl _ _⟩
    case round =>
      obtain ⟨k, hk, ha, rfl, hb⟩ := hrel
      have Ha := Lib.hid ha
      have Hb := Lib.hid hb
      clear ha hb
      by_cases hlt : k < xs.length
      · have hlt2 : k < ys.length := by have := HL.out; omega
        obtain ⟨b, off, rfl, _, _, hc0, hc1⟩ := (H1.out.go Hb.out).rd.at_ hlt
        obtain ⟨b', off', rfl, _, _, hd0, hd1⟩ := (H2.out.go Hb.out).rd.at_ hlt2
        obtain ⟨s, hs⟩ : ∃ s, sprAt xs k = s := ⟨_, rfl⟩
        obtain ⟨t, ht⟩ : ∃ t, sprAt ys k = t := ⟨_, rfl⟩
        rw [hs] at hc0 hc1
        rw [ht] at hd0 hd1
        have Hs := Lib.hid hs
        have Ht := Lib.hid ht
        clear hs ht
        have g1 : (k : Int) < (xs.length : Int) := by omega
        have g2 : (k : Int) < (ys.length : Int) := by omega
        by_cases hne : s = t
        · have Hst := Lib.hid (show sprAt xs k = sprAt ys k by rw [Hs.out, Ht.out, hne])
          have Hne := Lib.hid hne
          clear hne
          go_wp2
          go_still_tail 8, (by kernel_rfl)
          rw [← Hne.out]
          go_wp2_with fail
          refine (eqSpare_yes s _).mono ?_
          rintro e w2 ⟨rfl, hb2⟩
          have Hb2 := Lib.hid ((below_drewN Hb.out 1).trans (hb2.mono (by have := Hb.out.size; simp; omega)))
          clear hb2
          go_wp2
          go_roundw
          case rel => exact ⟨k + 1, by omega, eqToZ_succ Ha.out Hst.out, by go_num, Hb2.out⟩
          case measure => simp [intOf]; omega
        · have Hn := Lib.hid (show xs ≠ ys by rintro rfl; exact hne (by rw [← Hs.out, ← Ht.out]))
          have Hne := Lib.hid hne
          clear hne
          go_wp2
          go_still_tail 8, (by kernel_rfl)
          go_wp2_with fail
          refine (eqSpare_no s t _ Hne.out).mono ?_
          rintro e w2 ⟨rfl, hb2⟩
          have Hb2 := Lib.hid ((below_drewN Hb.out 1).trans (hb2.mono (by have := Hb.out.size; simp; omega)))
          clear hb2
          go_wp2
          go_ret
          exact ⟨by have := Hn.out; simp [this], Hb2.out⟩
      · obtain rfl : k = xs.length := by omega
        go_wp2
        go_ret
        have := eqZ_of_to HL.out Ha.out
        exact ⟨by simp [this], Hb.out⟩
  · have hl1 : ((xs.length : Int) != (ys.length : Int)) = true := by simp; omega
    have hn : xs ≠ ys := fun e => hl (by rw [e])
    have HN := Lib.hid hn
    clear hl hn
    go_enter Try.func38, Try.ntmps38
    go_wp2
    go_ret
    exact ⟨by have := HN.out; simp [this], Below.refl _ _⟩

theorem sprCells_set2 (xs ys : List Spr) (s t : Spr) {k : Nat} (hk : xs.length = k) :
    ((sprCells (xs ++ s :: ys)).set (k * 2) (.int .i64 t.m)).set (k * 2 + 1) (.int .i64 t.k) = sprCells (xs ++ t :: ys) := by
  have hl : (sprCells xs).length = k * 2 := by rw [sprCells_length, hk]
  rw [sprCells_append, sprCells_cons, sprCells_append, sprCells_cons]
  rw [List.set_append_right _ _ (by omega), List.set_append_right _ _ (by omega), hl]
  rw [show k * 2 - k * 2 = 0 by omega, show k * 2 + 1 - k * 2 = 1 by omega]
  rfl

end Go.Proofs.Ytkicifkigbciaaa
