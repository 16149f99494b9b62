/-
  Contracts of the laws' own small functions over lists of faults: hasFault.
-/
import Derived.Test.YtodboccadccpfaaStrF
import Derived.Test.YtodboccadccpfaaTwoK
import Derived.RegionTactic
import Derived.StillTailTactics
import Derived.BigQuiet
namespace Go.Proofs.Ytodboccadccpfaa
open Go.RowKit

def noneToF (zs : List Flt) (f : Flt) (k : Nat) : Prop := ∀ j (h : j < zs.length), j < k → zs[j] ≠ f
theorem noneF_all {zs : List Flt} {f : Flt} (h : noneToF zs f zs.length) : f ∉ zs := fun hm => by
  obtain ⟨j, hj, e⟩ := List.mem_iff_getElem.1 hm
  exact h j hj hj e
set_option maxRecDepth 100000 in
set_option maxHeartbeats 1000000 in
theorem hasFault_c (A : Option Addr) (c : Nat) (zs : List Flt) (f : Flt) (w : World) (ha : ArgF w A c zs) :
    Calls Try.prog 29 #[.slice A zs.length c, .agg #[.int .i64 f.m, .int .i64 f.o]] w (RetB (.bool (decide (f ∈ zs))) w) := by
  have hl := ha.len
  have H1 := Lib.hid ha
  have hx := TwoAt.new 44 w f.m f.o
  have HX := Lib.hid hx
  have HB := Lib.hid (show Below w.heap.size w (w.alloc (.cells #[.int .i64 f.m, .int .i64 f.o] 44)) from (Below.refl _ _).alloc (Nat.le_refl _) _)
  clear ha hx
  go_enter Try.func29, Try.ntmps29
  go_wp2
  go_loopw [5] (fun i wr => ∃ k : Nat, k ≤ zs.length ∧ noneToF zs f k ∧ i = .int .i64 k ∧ Below w.heap.size w wr ∧ TwoAt 44 wr w.heap.size f.m f.o) (fun i _ => zs.length - (intOf i).toNat)
  case atStart => exact ⟨0, Nat.zero_le _, fun j _ hj => absurd hj (by omega), rfl, HB.out, HX.out⟩
  case round =>
    obtain ⟨k, hk, hno, rfl, hb, hx⟩ := hrel
    have Hno := Lib.hid hno
    have Hb := Lib.hid hb
    have HX2 := Lib.hid hx
    clear hno hb
    by_cases hlt : k < zs.length
    · obtain ⟨b, off, rfl, _, _, hc0, hc1⟩ := (H1.out.go Hb.out).rd.at_ hlt
      have hz := fltAt_lt hlt
      obtain ⟨s, hs⟩ : ∃ s, fltAt zs k = s := ⟨_, rfl⟩
      rw [hs] at hc0 hc1 hz
      have Hz := Lib.hid hz
      have g1 : (k : Int) < (zs.length : Int) := by omega
      have cx0 := hx.c0
      have cx1 := hx.c1
      have hgd := guardFlt
      clear hs hz hx
      by_cases hne : s = f
      · have he : ∀ w, (Op.equalIn 10000 44 (.agg #[.int .i64 s.m, .int .i64 s.o]) (.agg #[.int .i64 f.m, .int .i64 f.o])).run Try.prog w = .ok true w := fun w => by rw [eqFlts, decide_eq_true hne]
        have hm : decide (f ∈ zs) = true := decide_eq_true (by rw [← hne, Hz.out]; exact List.getElem_mem _)
        have Hm := Lib.hid hm
        clear hne hm
        go_wp2
        go_quiet (fail)
        go_wp2
        go_ret
        exact ⟨by rw [Hm.out]; rfl, below_drewN Hb.out _⟩
      · have he : ∀ w, (Op.equalIn 10000 44 (.agg #[.int .i64 s.m, .int .i64 s.o]) (.agg #[.int .i64 f.m, .int .i64 f.o])).run Try.prog w = .ok false w := fun w => by rw [eqFlts, decide_eq_false hne]
        have Hn := Lib.hid hne
        clear hne
        go_wp2
        go_quiet (fail)
        go_wp2
        go_roundw
        case rel => exact ⟨k + 1, by omega, fun j h1 h2 => by
          rcases Nat.lt_or_ge j k with h3 | h3
          · exact Hno.out j h1 h3
          · obtain rfl : j = k := by omega
            rw [← Hz.out]
            exact Hn.out, by go_num, below_drewN Hb.out _, HX2.out⟩
        case measure => simp [intOf]; omega
    · obtain rfl : k = zs.length := by omega
      have hm : decide (f ∈ zs) = false := decide_eq_false (noneF_all Hno.out)
      have Hm := Lib.hid hm
      clear hm hx
      go_wp2
      go_ret
      exact ⟨by rw [Hm.out]; rfl, Hb.out⟩

end Go.Proofs.Ytodboccadccpfaa
