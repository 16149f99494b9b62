/-
  Contracts of the laws' own small functions over lists of jbss: eqJobS.
-/
import Derived.Test.YtbcgglkgdjafiaaDoorMemJ
import Derived.Test.YtbcgglkgdjafiaaDoorProg
import Derived.RegionTactic
import Derived.StillTailTactics
namespace Go.Proofs.YtbcgglkgdjafiaaDoor
open Go.RowKit

/-! ### two jbss compared -/
theorem eqJob_yes (s : Jbs) (w : World) :
    Calls Tryd.prog 74 #[.agg #[.int .i64 s.d, .int .i64 s.g], .agg #[.int .i64 s.d, .int .i64 s.g]] w fun e w' => e = .returned (.bool true) ∧ Below w.heap.size w w' := by
  have g0 : (s.d != s.d) = false := by simp
  have g1 : (s.g != s.g) = false := by simp
  go_enter Tryd.func74, Tryd.ntmps74
  go_wp2
  go_ret
  exact ⟨rfl, ((Below.refl _ _).alloc (Nat.le_refl _) _).alloc (by simp) _⟩

theorem eqJob_no (s t : Jbs) (w : World) (hn : s ≠ t) :
    Calls Tryd.prog 74 #[.agg #[.int .i64 s.d, .int .i64 s.g], .agg #[.int .i64 t.d, .int .i64 t.g]] w fun e w' => e = .returned (.bool false) ∧ Below w.heap.size w w' := by
  by_cases h0 : s.d = t.d
  · have g0 : (s.d != t.d) = false := by simp [h0]
    have g1 : (s.g != t.g) = true := by
      simp only [bne_iff_ne, ne_eq]
      exact fun h1 => hn (Jbs.ext_ h0 h1)
    clear h0 hn
    go_enter Tryd.func74, Tryd.ntmps74
    go_wp2
    go_ret
    exact ⟨rfl, ((Below.refl _ _).alloc (Nat.le_refl _) _).alloc (by simp) _⟩
  · have g0 : (s.d != t.d) = true := by simp [h0]
    clear h0 hn
    go_enter Tryd.func74, Tryd.ntmps74
    go_wp2
    go_ret
    exact ⟨rfl, ((Below.refl _ _).alloc (Nat.le_refl _) _).alloc (by simp) _⟩

/-- the first k jbss are equal -/
def eqToJ (xs ys : List Jbs) (k : Nat) : Prop := ∀ j, j < k → jbsAt xs j = jbsAt ys j
theorem eqToJ_zero (xs ys : List Jbs) : eqToJ xs ys 0 := fun j hj => absurd hj (by omega)
theorem eqToJ_succ {xs ys : List Jbs} {k : Nat} (h : eqToJ xs ys k) (hk : jbsAt xs k = jbsAt ys k) : eqToJ xs ys (k + 1) := fun j hj => by
  rcases Nat.lt_or_ge j k with h1 | h1
  · exact h j h1
  · obtain rfl : j = k := by omega
    exact hk
theorem eqJ_of_to {xs ys : List Jbs} (hl : xs.length = ys.length) (h : eqToJ xs ys xs.length) : xs = ys := by
  apply List.ext_getElem hl
  intro i h1 h2
  have := h i h1
  rwa [jbsAt_lt h1, jbsAt_lt h2] at this

set_option maxRecDepth 100000 in
set_option maxHeartbeats 1000000 in
theorem eqJobS_c (A B : Option Addr) (c d : Nat) (xs ys : List Jbs) (w : World) (ha1 : ArgJ w A c xs) (ha2 : ArgJ w B d ys) :
    Calls Tryd.prog 42 #[.slice A xs.length c, .slice B ys.length d] w (RetB (.bool (decide (xs = ys))) w) := by
  have H1 := Lib.hid ha1
  have H2 := Lib.hid ha2
  have hx := ha1.len
  have hy := ha2.len
  clear ha1 ha2
  by_cases hl : xs.length = ys.length
  · have hl1 : ((xs.length : Int) != (ys.length : Int)) = false := by simp [hl]
    have HL := Lib.hid hl
    clear hl
    go_enter Tryd.func42, Tryd.ntmps42
    go_wp2
    go_loopw [5] (fun i wr => ∃ k : Nat, k ≤ xs.length ∧ eqToJ xs ys k ∧ i = .int .i64 k ∧ Below w.heap.size w wr) (fun i _ => xs.length - (intOf i).toNat)
    case atStart => exact ⟨0, Nat.zero_le _, eqToJ_zero _ _, rfl, Below.refl _ _⟩
    case round =>
      obtain ⟨k, hk, ha, rfl, hb⟩ := hrel
      have Ha := Lib.hid ha
      have Hb := Lib.hid hb
      clear ha hb
      by_cases hlt : k < xs.length
      · have hlt2 : k < ys.length := by have := HL.out; omega
        obtain ⟨b, off, rfl, _, _, hc0, hc1⟩ := (H1.out.go Hb.out).rd.at_ hlt
        obtain ⟨b', off', rfl, _, _, hd0, hd1⟩ := (H2.out.go Hb.out).rd.at_ hlt2
        obtain ⟨s, hs⟩ : ∃ s, jbsAt xs k = s := ⟨_, rfl⟩
        obtain ⟨t, ht⟩ : ∃ t, jbsAt ys k = t := ⟨_, rfl⟩
        rw [hs] at hc0 hc1
        rw [ht] at hd0 hd1
        have Hs := Lib.hid hs
        have Ht := Lib.hid ht
        clear hs ht
        have g1 : (k : Int) < (xs.length : Int) := by omega
        have g2 : (k : Int) < (ys.length : Int) := by omega
        by_cases hne : s = t
        · have Hst := Lib.hid (show jbsAt xs k = jbsAt ys k by rw [Hs.out, Ht.out, hne])
          have Hne := Lib.hid hne
          clear hne
          go_wp2
          go_still_tail 8, (by kernel_rfl)
          rw [← Hne.out]
          go_wp2_with fail
          refine (eqJob_yes s _).mono ?_
          rintro e w2 ⟨rfl, hb2⟩
          have Hb2 := Lib.hid ((below_drewN Hb.out 1).trans (hb2.mono (by have := Hb.out.size; simp; omega)))
          clear hb2
          go_wp2
          go_roundw
          case rel => exact ⟨k + 1, by omega, eqToJ_succ Ha.out Hst.out, by go_num, Hb2.out⟩
          case measure => simp [intOf]; omega
        · have Hn := Lib.hid (show xs ≠ ys by rintro rfl; exact hne (by rw [← Hs.out, ← Ht.out]))
          have Hne := Lib.hid hne
          clear hne
          go_wp2
          go_still_tail 8, (by kernel_rfl)
          go_wp2_with fail
          refine (eqJob_no s t _ Hne.out).mono ?_
          rintro e w2 ⟨rfl, hb2⟩
          have Hb2 := Lib.hid ((below_drewN Hb.out 1).trans (hb2.mono (by have := Hb.out.size; simp; omega)))
          clear hb2
          go_wp2
          go_ret
          exact ⟨by have := Hn.out; simp [this], Hb2.out⟩
      · obtain rfl : k = xs.length := by omega
        go_wp2
        go_ret
        have := eqJ_of_to HL.out Ha.out
        exact ⟨by simp [this], Hb.out⟩
  · have hl1 : ((xs.length : Int) != (ys.length : Int)) = true := by simp; omega
    have hn : xs ≠ ys := fun e => hl (by rw [e])
    have HN := Lib.hid hn
    clear hl hn
    go_enter Tryd.func42, Tryd.ntmps42
    go_wp2
    go_ret
    exact ⟨by have := HN.out; simp [this], Below.refl _ _⟩

theorem jbsCells_set2 (xs ys : List Jbs) (s t : Jbs) {k : Nat} (hk : xs.length = k) :
    ((jbsCells (xs ++ s :: ys)).set (k * 2) (.int .i64 t.d)).set (k * 2 + 1) (.int .i64 t.g) = jbsCells (xs ++ t :: ys) := by
  have hl : (jbsCells xs).length = k * 2 := by rw [jbsCells_length, hk]
  rw [jbsCells_append, jbsCells_cons, jbsCells_append, jbsCells_cons]
  rw [List.set_append_right _ _ (by omega), List.set_append_right _ _ (by omega), hl]
  rw [show k * 2 - k * 2 = 0 by omega, show k * 2 + 1 - k * 2 = 1 by omega]
  rfl

end Go.Proofs.YtbcgglkgdjafiaaDoor
