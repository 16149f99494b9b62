/-
  Contracts of the laws' own small functions over lists of lins: eqLineS.
-/
import Derived.Test.YtbnpglljloaclaaMemL
import Derived.Test.YtbnpglljloaclaaProg
import Derived.RegionTactic
import Derived.StillTailTactics
namespace Go.Proofs.Ytbnpglljloaclaa
open Go.RowKit

/-! ### two lins compared -/
theorem eqLine_yes (s : Lin) (w : World) :
    Calls Try.prog 68 #[.agg #[.int .i64 s.a, .int .i64 s.b, .int .i64 s.c], .agg #[.int .i64 s.a, .int .i64 s.b, .int .i64 s.c]] w fun e w' => e = .returned (.bool true) ∧ Below w.heap.size w w' := by
  have g0 : (s.a != s.a) = false := by simp
  have g1 : (s.b != s.b) = false := by simp
  have g2 : (s.c != s.c) = false := by simp
  go_enter Try.func68, Try.ntmps68
  go_wp2
  go_ret
  exact ⟨rfl, ((Below.refl _ _).alloc (Nat.le_refl _) _).alloc (by simp) _⟩

theorem eqLine_no (s t : Lin) (w : World) (hn : s ≠ t) :
    Calls Try.prog 68 #[.agg #[.int .i64 s.a, .int .i64 s.b, .int .i64 s.c], .agg #[.int .i64 t.a, .int .i64 t.b, .int .i64 t.c]] w fun e w' => e = .returned (.bool false) ∧ Below w.heap.size w w' := by
  by_cases h0 : s.a = t.a
  · have g0 : (s.a != t.a) = false := by simp [h0]
    by_cases h1 : s.b = t.b
    · have g1 : (s.b != t.b) = false := by simp [h1]
      have g2 : (s.c != t.c) = true := by
        simp only [bne_iff_ne, ne_eq]
        exact fun h2 => hn (Lin.ext_ h0 h1 h2)
      clear h0 h1 hn
      go_enter Try.func68, Try.ntmps68
      go_wp2
      go_ret
      exact ⟨rfl, ((Below.refl _ _).alloc (Nat.le_refl _) _).alloc (by simp) _⟩
    · have g1 : (s.b != t.b) = true := by simp [h1]
      clear h0 h1 hn
      go_enter Try.func68, Try.ntmps68
      go_wp2
      go_ret
      exact ⟨rfl, ((Below.refl _ _).alloc (Nat.le_refl _) _).alloc (by simp) _⟩
  · have g0 : (s.a != t.a) = true := by simp [h0]
    clear h0 hn
    go_enter Try.func68, Try.ntmps68
    go_wp2
    go_ret
    exact ⟨rfl, ((Below.refl _ _).alloc (Nat.le_refl _) _).alloc (by simp) _⟩

/-- the first k lins are equal -/
def eqToL (xs ys : List Lin) (k : Nat) : Prop := ∀ j, j < k → linAt xs j = linAt ys j
theorem eqToL_zero (xs ys : List Lin) : eqToL xs ys 0 := fun j hj => absurd hj (by omega)
theorem eqToL_succ {xs ys : List Lin} {k : Nat} (h : eqToL xs ys k) (hk : linAt xs k = linAt ys k) : eqToL xs ys (k + 1) := fun j hj => by
  rcases Nat.lt_or_ge j k with h1 | h1
  · exact h j h1
  · obtain rfl : j = k := by omega
    exact hk
theorem eqL_of_to {xs ys : List Lin} (hl : xs.length = ys.length) (h : eqToL xs ys xs.length) : xs = ys := by
  apply List.ext_getElem hl
  intro i h1 h2
  have := h i h1
  rwa [linAt_lt h1, linAt_lt h2] at this

set_option maxRecDepth 100000 in
set_option maxHeartbeats 1000000 in
theorem eqLineS_c (A B : Option Addr) (c d : Nat) (xs ys : List Lin) (w : World) (ha1 : ArgL w A c xs) (ha2 : ArgL w B d ys) :
    Calls Try.prog 33 #[.slice A xs.length c, .slice B ys.length d] w (RetB (.bool (decide (xs = ys))) w) := by
  have H1 := Lib.hid ha1
  have H2 := Lib.hid ha2
  have hx := ha1.len
  have hy := ha2.len
  clear ha1 ha2
  by_cases hl : xs.length = ys.length
  · have hl1 : ((xs.length : Int) != (ys.length : Int)) = false := by simp [hl]
    have HL := Lib.hid hl
    clear hl
    go_enter Try.func33, Try.ntmps33
    go_wp2
    go_loopw [5] (fun i wr => ∃ k : Nat, k ≤ xs.length ∧ eqToL xs ys k ∧ i = .int .i64 k ∧ Below w.heap.size w wr) (fun i _ => xs.length - (intOf i).toNat)
    case atStart => exact ⟨0, Nat.zero_le _, eqToL_zero _ _, rfl, Below.refl _ _⟩
    case round =>
      obtain ⟨k, hk, ha, rfl, hb⟩ := hrel
      have Ha := Lib.hid ha
      have Hb := Lib.hid hb
      clear ha hb
      by_cases hlt : k < xs.length
      · have hlt2 : k < ys.length := by have := HL.out; omega
        obtain ⟨b, off, rfl, _, _, hc0, hc1, hc2⟩ := (H1.out.go Hb.out).rd.at_ hlt
        obtain ⟨b', off', rfl, _, _, hd0, hd1, hd2⟩ := (H2.out.go Hb.out).rd.at_ hlt2
        obtain ⟨s, hs⟩ : ∃ s, linAt xs k = s := ⟨_, rfl⟩
        obtain ⟨t, ht⟩ : ∃ t, linAt ys k = t := ⟨_, rfl⟩
        rw [hs] at hc0 hc1 hc2
        rw [ht] at hd0 hd1 hd2
        have Hs := Lib.hid hs
        have Ht := Lib.hid ht
        clear hs ht
        have g1 : (k : Int) < (xs.length : Int) := by omega
        have g2 : (k : Int) < (ys.length : Int) := by omega
        by_cases hne : s = t
        · have Hst := Lib.hid (show linAt xs k = linAt ys k by rw [Hs.out, Ht.out, hne])
          have Hne := Lib.hid hne
          clear hne
          go_wp2
          go_still_tail 8, (by kernel_rfl)
          rw [← Hne.out]
          go_wp2_with fail
          refine (eqLine_yes s _).mono ?_
          rintro e w2 ⟨rfl, hb2⟩
          have Hb2 := Lib.hid ((below_drewN Hb.out 1).trans (hb2.mono (by have := Hb.out.size; simp; omega)))
          clear hb2
          go_wp2
          go_roundw
          case rel => exact ⟨k + 1, by omega, eqToL_succ Ha.out Hst.out, by go_num, Hb2.out⟩
          case measure => simp [intOf]; omega
        · have Hn := Lib.hid (show xs ≠ ys by rintro rfl; exact hne (by rw [← Hs.out, ← Ht.out]))
          have Hne := Lib.hid hne
          clear hne
          go_wp2
          go_still_tail 8, (by kernel_rfl)
          go_wp2_with fail
          refine (eqLine_no s t _ Hne.out).mono ?_
          rintro e w2 ⟨rfl, hb2⟩
          have Hb2 := Lib.hid ((below_drewN Hb.out 1).trans (hb2.mono (by have := Hb.out.size; simp; omega)))
          clear hb2
          go_wp2
          go_ret
          exact ⟨by have := Hn.out; simp [this], Hb2.out⟩
      · obtain rfl : k = xs.length := by omega
        go_wp2
        go_ret
        have := eqL_of_to HL.out Ha.out
        exact ⟨by simp [this], Hb.out⟩
  · have hl1 : ((xs.length : Int) != (ys.length : Int)) = true := by simp; omega
    have hn : xs ≠ ys := fun e => hl (by rw [e])
    have HN := Lib.hid hn
    clear hl hn
    go_enter Try.func33, Try.ntmps33
    go_wp2
    go_ret
    exact ⟨by have := HN.out; simp [this], Below.refl _ _⟩

theorem linCells_set3 (xs ys : List Lin) (s t : Lin) {k : Nat} (hk : xs.length = k) :
    (((linCells (xs ++ s :: ys)).set (k * 3) (.int .i64 t.a)).set (k * 3 + 1) (.int .i64 t.b)).set (k * 3 + 2) (.int .i64 t.c) = linCells (xs ++ t :: ys) := by
  have hl : (linCells xs).length = k * 3 := by rw [linCells_length, hk]
  rw [linCells_append, linCells_cons, linCells_append, linCells_cons]
  rw [List.set_append_right _ _ (by omega), List.set_append_right _ _ (by omega), List.set_append_right _ _ (by omega), hl]
  rw [show k * 3 - k * 3 = 0 by omega, show k * 3 + 1 - k * 3 = 1 by omega, show k * 3 + 2 - k * 3 = 2 by omega]
  rfl

end Go.Proofs.Ytbnpglljloaclaa
