/-
  Contracts of the laws' own small functions over lists of faults: sameFaults.
-/
import Derived.Test.YtodboccadccpfaaStrF
import Derived.RegionTactic
import Derived.StillTailTactics
import Derived.BigQuiet
namespace Go.Proofs.Ytodboccadccpfaa
open Go.RowKit

def eqToY (xs ys : List Flt) (k : Nat) : Prop := ∀ j, j < k → fltAt xs j = fltAt ys j
theorem eqY_of_to {xs ys : List Flt} (hl : xs.length = ys.length) (h : eqToY xs ys xs.length) : xs = ys := by
  apply List.ext_getElem hl
  intro i h1 h2
  have := h i h1
  rwa [fltAt_lt h1, fltAt_lt h2] at this

set_option maxRecDepth 100000 in
set_option maxHeartbeats 1000000 in
theorem sameFaults_c (A B : Option Addr) (c d : Nat) (xs ys : List Flt) (w : World) (ha1 : ArgF w A c xs) (ha2 : ArgF w B d ys) :
    Calls Try.prog 21 #[.slice A xs.length c, .slice B ys.length d] w (RetB (.bool (decide (xs = ys))) w) := by
  have H1 := Lib.hid ha1
  have H2 := Lib.hid ha2
  have hx := ha1.len
  have hy := ha2.len
  clear ha1 ha2
  by_cases hl : xs.length = ys.length
  · have hl1 : ((xs.length : Int) != (ys.length : Int)) = false := by simp [hl]
    have HL := Lib.hid hl
    clear hl
    go_enter Try.func21, Try.ntmps21
    go_wp2
    go_loopw [5] (fun i wr => ∃ k : Nat, k ≤ xs.length ∧ eqToY xs ys k ∧ i = .int .i64 k ∧ Below w.heap.size w wr) (fun i _ => xs.length - (intOf i).toNat)
    case atStart => exact ⟨0, Nat.zero_le _, fun j hj => absurd hj (by omega), rfl, Below.refl _ _⟩
    case round =>
      obtain ⟨k, hk, ha, rfl, hb⟩ := hrel
      have Ha := Lib.hid ha
      have Hb := Lib.hid hb
      clear ha hb
      by_cases hlt : k < xs.length
      · have hlt2 : k < ys.length := by have := HL.out; omega
        obtain ⟨b, off, rfl, _, _, hc0, hc1⟩ := (H1.out.go Hb.out).rd.at_ hlt
        obtain ⟨b', off', rfl, _, _, hd0, hd1⟩ := (H2.out.go Hb.out).rd.at_ hlt2
        obtain ⟨s, hs⟩ : ∃ s, fltAt xs k = s := ⟨_, rfl⟩
        obtain ⟨t, ht⟩ : ∃ t, fltAt ys k = t := ⟨_, rfl⟩
        rw [hs] at hc0 hc1
        rw [ht] at hd0 hd1
        have Hs := Lib.hid hs
        have Ht := Lib.hid ht
        clear hs ht
        have g1 : (k : Int) < (xs.length : Int) := by omega
        have g2 : (k : Int) < (ys.length : Int) := by omega
        have hgd := guardFlt
        by_cases hne : s = t
        · have he : ∀ w, (Op.equalIn 10000 44 (.agg #[.int .i64 s.m, .int .i64 s.o]) (.agg #[.int .i64 t.m, .int .i64 t.o])).run Try.prog w = .ok true w := fun w => by rw [eqFlts, decide_eq_true hne]
          have Hst := Lib.hid (show fltAt xs k = fltAt ys k by rw [Hs.out, Ht.out, hne])
          clear hne
          go_wp2
          go_quiet (fail)
          go_wp2
          go_roundw
          case rel => exact ⟨k + 1, by omega, fun j hj => by
            rcases Nat.lt_or_ge j k with h1 | h1
            · exact Ha.out j h1
            · obtain rfl : j = k := by omega
              exact Hst.out, by go_num, below_drewN Hb.out _⟩
          case measure => simp [intOf]; omega
        · have he : ∀ w, (Op.equalIn 10000 44 (.agg #[.int .i64 s.m, .int .i64 s.o]) (.agg #[.int .i64 t.m, .int .i64 t.o])).run Try.prog w = .ok false w := fun w => by rw [eqFlts, decide_eq_false hne]
          have Hn := Lib.hid (show xs ≠ ys by rintro rfl; exact hne (by rw [← Hs.out, ← Ht.out]))
          clear hne
          go_wp2
          go_quiet (fail)
          go_wp2
          go_ret
          exact ⟨by have := Hn.out; simp [this], below_drewN Hb.out _⟩
      · obtain rfl : k = xs.length := by omega
        go_wp2
        go_ret
        have := eqY_of_to HL.out Ha.out
        exact ⟨by simp [this], Hb.out⟩
  · have hl1 : ((xs.length : Int) != (ys.length : Int)) = true := by simp; omega
    have hn : xs ≠ ys := fun e => hl (by rw [e])
    have HN := Lib.hid hn
    clear hl hn
    go_enter Try.func21, Try.ntmps21
    go_wp2
    go_ret
    exact ⟨by have := HN.out; simp [this], Below.refl _ _⟩

end Go.Proofs.Ytodboccadccpfaa
