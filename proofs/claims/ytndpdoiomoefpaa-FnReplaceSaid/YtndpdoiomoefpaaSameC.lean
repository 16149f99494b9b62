/-
  Contracts of the laws' own small functions over lists of sections: sameSections; == at sections.
-/
import Derived.Test.YtndpdoiomoefpaaMemC
import Derived.Test.YtndpdoiomoefpaaMem
import Derived.Test.YtndpdoiomoefpaaProg
import Derived.Laws.StructEq
import Derived.RegionTactic
import Derived.StillTailTactics
import Derived.BigQuiet
namespace Go.Proofs.Ytndpdoiomoefpaa
open Go.RowKit

theorem eqSec_run (s t : Sec) (w : World) : (Op.equalIn 10000 54 (.agg #[.int .i64 s.m, .int .i64 s.k, .int .i64 s.o]) (.agg #[.int .i64 t.m, .int .i64 t.k, .int .i64 t.o])).run Try.prog w = .ok ((decide (s.m = t.m) && decide (s.k = t.k)) && decide (s.o = t.o)) w := by
  rw [run_equalIn_struct w 9999 _ _ _ (by kernel_rfl) (by kernel_rfl)]
  simp only [Program.fieldsOf, Try.underlying54]
  go_simp
  by_cases h1 : s.m = t.m <;> by_cases h2 : s.k = t.k <;> by_cases h3 : s.o = t.o <;> simp [h1, h2, h3]
theorem eqSec_is (s t : Sec) : ((decide (s.m = t.m) && decide (s.k = t.k)) && decide (s.o = t.o)) = decide (s = t) := by
  obtain ⟨a, b, c⟩ := s
  obtain ⟨a2, b2, c2⟩ := t
  by_cases h1 : a = a2 <;> by_cases h2 : b = b2 <;> by_cases h3 : c = c2 <;> simp [h1, h2, h3]
theorem eqSecs (s t : Sec) (w : World) : (Op.equalIn 10000 54 (.agg #[.int .i64 s.m, .int .i64 s.k, .int .i64 s.o]) (.agg #[.int .i64 t.m, .int .i64 t.k, .int .i64 t.o])).run Try.prog w = .ok (decide (s = t)) w := by
  rw [eqSec_run, eqSec_is]
theorem guardSec : Try.prog.eqGuardType Try.prog.depth 54 = false := by kernel_rfl

def eqToC (xs ys : List Sec) (k : Nat) : Prop := ∀ j, j < k → secAt xs j = secAt ys j
theorem eqC_of_to {xs ys : List Sec} (hl : xs.length = ys.length) (h : eqToC xs ys xs.length) : xs = ys := by
  apply List.ext_getElem hl
  intro i h1 h2
  have := h i h1
  rwa [secAt_lt h1, secAt_lt h2] at this

set_option maxRecDepth 100000 in
set_option maxHeartbeats 1000000 in
theorem sameSections_c (A B : Option Addr) (c d : Nat) (xs ys : List Sec) (w : World) (ha1 : ArgC w A c xs) (ha2 : ArgC w B d ys) :
    Calls Try.prog 64 #[.slice A xs.length c, .slice B ys.length d] w (RetB (.bool (decide (xs = ys))) w) := by
  have H1 := Lib.hid ha1
  have H2 := Lib.hid ha2
  have hx := ha1.len
  have hy := ha2.len
  clear ha1 ha2
  by_cases hl : xs.length = ys.length
  · have hl1 : ((xs.length : Int) != (ys.length : Int)) = false := by simp [hl]
    have HL := Lib.hid hl
    clear hl
    go_enter Try.func64, Try.ntmps64
    go_wp2
    go_loopw [5] (fun i wr => ∃ k : Nat, k ≤ xs.length ∧ eqToC xs ys k ∧ i = .int .i64 k ∧ Below w.heap.size w wr) (fun i _ => xs.length - (intOf i).toNat)
    case atStart => exact ⟨0, Nat.zero_le _, fun j hj => absurd hj (by omega), rfl, Below.refl _ _⟩
    case round =>
      obtain ⟨k, hk, ha, rfl, hb⟩ := hrel
      have Ha := Lib.hid ha
      have Hb := Lib.hid hb
      clear ha hb
      by_cases hlt : k < xs.length
      · have hlt2 : k < ys.length := by have := HL.out; omega
        obtain ⟨b, off, rfl, _, _, hc0, hc1, hc2⟩ := (H1.out.go Hb.out).rd.at_ hlt
        obtain ⟨b', off', rfl, _, _, hd0, hd1, hd2⟩ := (H2.out.go Hb.out).rd.at_ hlt2
        obtain ⟨s, hs⟩ : ∃ s, secAt xs k = s := ⟨_, rfl⟩
        obtain ⟨t, ht⟩ : ∃ t, secAt ys k = t := ⟨_, rfl⟩
        rw [hs] at hc0 hc1 hc2
        rw [ht] at hd0 hd1 hd2
        have Hs := Lib.hid hs
        have Ht := Lib.hid ht
        clear hs ht
        have g1 : (k : Int) < (xs.length : Int) := by omega
        have g2 : (k : Int) < (ys.length : Int) := by omega
        have hgd := guardSec
        by_cases hne : s = t
        · have he : ∀ w, (Op.equalIn 10000 54 (.agg #[.int .i64 s.m, .int .i64 s.k, .int .i64 s.o]) (.agg #[.int .i64 t.m, .int .i64 t.k, .int .i64 t.o])).run Try.prog w = .ok true w := fun w => by rw [eqSecs, decide_eq_true hne]
          have Hst := Lib.hid (show secAt xs k = secAt ys k by rw [Hs.out, Ht.out, hne])
          clear hne
          go_wp2
          go_quiet (fail)
          go_wp2
          go_roundw
          case rel => exact ⟨k + 1, by omega, fun j hj => by
            rcases Nat.lt_or_ge j k with h1 | h1
            · exact Ha.out j h1
            · obtain rfl : j = k := by omega
              exact Hst.out, by go_num, below_drewN Hb.out _⟩
          case measure => simp [intOf]; omega
        · have he : ∀ w, (Op.equalIn 10000 54 (.agg #[.int .i64 s.m, .int .i64 s.k, .int .i64 s.o]) (.agg #[.int .i64 t.m, .int .i64 t.k, .int .i64 t.o])).run Try.prog w = .ok false w := fun w => by rw [eqSecs, decide_eq_false hne]
          have Hn := Lib.hid (show xs ≠ ys by rintro rfl; exact hne (by rw [← Hs.out, ← Ht.out]))
          clear hne
          go_wp2
          go_quiet (fail)
          go_wp2
          go_ret
          exact ⟨by have := Hn.out; simp [this], below_drewN Hb.out _⟩
      · obtain rfl : k = xs.length := by omega
        go_wp2
        go_ret
        have := eqC_of_to HL.out Ha.out
        exact ⟨by simp [this], Hb.out⟩
  · have hl1 : ((xs.length : Int) != (ys.length : Int)) = true := by simp; omega
    have hn : xs ≠ ys := fun e => hl (by rw [e])
    have HN := Lib.hid hn
    clear hl hn
    go_enter Try.func64, Try.ntmps64
    go_wp2
    go_ret
    exact ⟨by have := HN.out; simp [this], Below.refl _ _⟩

end Go.Proofs.Ytndpdoiomoefpaa
