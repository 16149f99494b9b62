/-
  Contracts of the laws' own small functions over lists of texts: sameTexts.
-/
import Derived.Test.YtgnolhikphoagaaDoorMemX
import Derived.Test.YtgnolhikphoagaaDoorBase0
import Derived.Laws.Concat
namespace Go.Proofs.YtgnolhikphoagaaDoor
open Go.RowKit

/-- the first k texts are equal -/
def eqToX (xs ys : List (List UInt8)) (k : Nat) : Prop := ∀ j, j < k → xs[j]?.getD [] = ys[j]?.getD []
theorem eqToX_zero (xs ys : List (List UInt8)) : eqToX xs ys 0 := fun j hj => absurd hj (by omega)
theorem eqToX_succ {xs ys : List (List UInt8)} {k : Nat} (h : eqToX xs ys k) (hk : xs[k]?.getD [] = ys[k]?.getD []) : eqToX xs ys (k + 1) := fun j hj => by
  rcases Nat.lt_or_ge j k with h1 | h1
  · exact h j h1
  · obtain rfl : j = k := by omega
    exact hk
theorem eq_of_toX {xs ys : List (List UInt8)} (hl : xs.length = ys.length) (h : eqToX xs ys xs.length) : xs = ys := by
  apply List.ext_getElem hl
  intro i h1 h2
  have := h i h1
  simpa [h1, h2] using this

set_option maxHeartbeats 1000000 in
theorem sameTexts_c (A B : Option Addr) (c d : Nat) (xs ys : List (List UInt8)) (w : World) (ha1 : ArgX w A c xs) (ha2 : ArgX w B d ys) :
    Calls Tryd.prog 35 #[.slice A xs.length c, .slice B ys.length d] w (RetQ (.bool (decide (xs = ys))) w) := by
  obtain ⟨hx, _, _, r1⟩ := ha1
  obtain ⟨hy, _, _, r2⟩ := ha2
  by_cases hl : xs.length = ys.length
  · have hl1 : ((xs.length : Int) != (ys.length : Int)) = false := by simp [hl]
    have HL := Lib.hid hl
    clear hl
    go_enter Tryd.func35, Tryd.ntmps35
    go_wp2
    go_loopw [5] (fun i wr => ∃ k n : Nat, k ≤ xs.length ∧ eqToX xs ys k ∧ i = .int .i64 k ∧ wr = w.drewN n) (fun i _ => xs.length - (intOf i).toNat)
    case atStart => exact ⟨0, 0, Nat.zero_le _, eqToX_zero _ _, rfl, rfl⟩
    case round =>
      obtain ⟨k, n, hk, ha, rfl, rfl⟩ := hrel
      have Ha := Lib.hid ha
      clear ha
      by_cases hlt : k < xs.length
      · have hlt2 : k < ys.length := by have := HL.out; omega
        obtain ⟨b, off, rfl, _, _, hc⟩ := r1.at_ hlt
        obtain ⟨b', off', rfl, _, _, hc'⟩ := r2.at_ hlt2
        have R1 := Lib.hid r1
        have R2 := Lib.hid r2
        clear r1 r2
        obtain ⟨p, hp⟩ : ∃ p, xs[k]?.getD [] = p := ⟨_, rfl⟩
        obtain ⟨q, hq⟩ : ∃ q, ys[k]?.getD [] = q := ⟨_, rfl⟩
        rw [hp] at hc
        rw [hq] at hc'
        have E0 := Lib.hid hp
        have E1 := Lib.hid hq
        clear hp hq
        have g1 : (k : Int) < (xs.length : Int) := by omega
        have g2 : (k : Int) < (ys.length : Int) := by omega
        by_cases hne : p = q
        · have hb : ((str p).toList == (str q).toList) = true := by rw [hne]; exact beq_self_eq_true _
          have hb2 : ((str p).toList != (str q).toList) = false := by rw [hne]; exact bne_self_eq_false _
          obtain ⟨X, hX⟩ : ∃ X, str p = X := ⟨_, rfl⟩
          obtain ⟨Y, hY⟩ : ∃ Y, str q = Y := ⟨_, rfl⟩
          rw [hX] at hc hb hb2
          rw [hY] at hc' hb hb2
          have Hne := Lib.hid hne
          clear hne hX hY
          go_wp2
          go_quiet (fail)
          go_wp2
          go_roundw
          case rel => exact ⟨k + 1, _, by omega, eqToX_succ Ha.out (by rw [E0.out, E1.out]; exact Hne.out), by go_num, by first | exact World.drewN_drewN _ _ _ | rfl⟩
          case measure => simp [intOf]; omega
        · have hn2 : (str p).toList ≠ (str q).toList := by rw [str_list, str_list]; exact hne
          have hb : ((str p).toList == (str q).toList) = false := beq_eq_false_iff_ne.2 hn2
          have hb2 : ((str p).toList != (str q).toList) = true := bne_iff_ne.2 hn2
          obtain ⟨X, hX⟩ : ∃ X, str p = X := ⟨_, rfl⟩
          obtain ⟨Y, hY⟩ : ∃ Y, str q = Y := ⟨_, rfl⟩
          rw [hX] at hc hb hb2
          rw [hY] at hc' hb hb2
          have Hne := Lib.hid hne
          clear hne hX hY hn2
          go_wp2
          go_quiet (fail)
          go_wp2
          go_ret
          refine ⟨?_, _, by first | exact World.drewN_drewN _ _ _ | rfl⟩
          have hn : xs ≠ ys := by
            intro e
            subst e
            exact Hne.out (E0.out.symm.trans E1.out)
          simp [hn]
      · obtain rfl : k = xs.length := by omega
        go_wp2
        go_ret
        refine ⟨?_, n, rfl⟩
        have := eq_of_toX HL.out Ha.out
        simp [this]
  · have hl1 : ((xs.length : Int) != (ys.length : Int)) = true := by simp; omega
    have hn : xs ≠ ys := fun e => hl (by rw [e])
    have HN := Lib.hid hn
    clear hl hn
    go_enter Tryd.func35, Tryd.ntmps35
    go_wp2
    go_ret
    exact ⟨by simp [HN.out], 0, rfl⟩

theorem sameTexts_self (A B : Option Addr) (c d : Nat) (xs : List (List UInt8)) (w : World) (ha1 : ArgX w A c xs) (ha2 : ArgX w B d xs) :
    Calls Tryd.prog 35 #[.slice A xs.length c, .slice B xs.length d] w (RetB (.bool true) w) :=
  (sameTexts_c A B c d xs xs w ha1 ha2).mono fun e w' h => by
    have h2 := h.toB
    rw [decide_eq_true rfl] at h2
    exact h2
end Go.Proofs.YtgnolhikphoagaaDoor
