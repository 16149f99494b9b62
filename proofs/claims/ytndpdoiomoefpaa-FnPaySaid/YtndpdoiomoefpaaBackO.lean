/-
  A list from its other end: backOf of the laws.
-/
import Derived.Test.YtndpdoiomoefpaaNeed
namespace Go.Proofs.Ytndpdoiomoefpaa
open Go.RowKit

/-- the last k, the last one first -/
def lastTo (zs : List Int) (k : Nat) : List Int := (List.range k).map fun j => zs[zs.length - 1 - j]?.getD 0
theorem lastTo_zero (zs : List Int) : lastTo zs 0 = [] := by simp [lastTo]
theorem lastTo_succ (zs : List Int) (k : Nat) : lastTo zs (k + 1) = lastTo zs k ++ [zs[zs.length - 1 - k]?.getD 0] := by simp [lastTo, List.range_succ]
theorem lastTo_all (zs : List Int) : lastTo zs zs.length = zs.reverse := by
  apply List.ext_getElem
  · simp [lastTo]
  · intro i h1 h2
    have h3 : i < zs.length := by simpa [lastTo] using h1
    have h4 : zs.length - 1 - i < zs.length := by omega
    simp [lastTo, h4]

set_option maxRecDepth 100000 in
set_option maxHeartbeats 1000000 in
theorem backOf_c (A : Option Addr) (c : Nat) (zs : List Int) (w : World) (ha : Arg w A c zs) :
    Calls Try.prog 31 #[.slice A zs.length c] w (RetS 3 id zs.reverse w) := by
  obtain ⟨i0, hi, hz0, hz1, hz2⟩ := info_parts int_info
  have hl := ha.len
  have HA := Lib.hid ha
  have q0 : IntKind.i64.wrap ((zs.length : Int) - 1) = (zs.length : Int) - 1 := IntWalk.i64_in _ (by omega)
  clear ha
  go_enter Try.func31, Try.ntmps31
  go_wp2
  go_loopw [3, 4] (fun o i wr => ∃ (k : Nat) (v : Value), k ≤ zs.length ∧ i = .int .i64 ((zs.length : Int) - 1 - (k : Int)) ∧ v = o ∧ wr.ownsRow w.heap.size 3 1 v k ((lastTo zs k).map (Value.int .i64)) ∧ Below w.heap.size w wr) (fun _ i _ => (intOf i + 1).toNat)
  case atStart => exact ⟨0, _, Nat.zero_le _, by simp, rfl, World.ownsRow_made w #[] 0 (Nat.le_refl _) (by simp) rfl, (Below.refl _ _).alloc (Nat.le_refl _) _⟩
  case round =>
    obtain ⟨k, v, hk, rfl, rfl, hok, hbk⟩ := hrel
    have Ha := Lib.hid (HA.out.go hbk)
    have Hbk := Lib.hid hbk
    by_cases hlt : k < zs.length
    · have hix : zs.length - 1 - k < zs.length := by omega
      obtain ⟨b, off, rfl, _, _, hc⟩ := Ha.out.rd.at_ hix
      have Hs := Lib.hid (lastTo_succ zs k)
      obtain ⟨y, hy⟩ : ∃ y, zs[zs.length - 1 - k]?.getD 0 = y := ⟨_, rfl⟩
      rw [hy] at hc
      have Hy := Lib.hid hy
      clear hy
      obtain ⟨p, hp⟩ : ∃ p, zs.length - 1 - k = p := ⟨_, rfl⟩
      rw [hp] at hc
      have hpi : (zs.length : Int) - 1 - (k : Int) = (p : Int) := by omega
      have hpl : p < zs.length := by omega
      have Hp := Lib.hid hp
      have Hpi := Lib.hid hpi
      have Hok := Lib.hid hok
      clear hp hok hbk
      rw [hpi]
      clear hpi
      have g1 : (0 : Int) ≤ (p : Int) := by omega
      have g2 : (p : Int) < (zs.length : Int) := by omega
      go_wp2_with (at_builtin; refine wpList_append_own _ rfl _ _ 23 rfl w.heap.size 3 i0 (.int .i64 0) 1 8 Try.underlying23 hi hz0 hz1 hz2 rfl (by decide) v k _ rfl (Hok.out.alloc _) ⟨wr.heap.size, 0, none⟩ 1 1 [.int .i64 y] rfl rfl (one_new _ _ _) (by simp [Value.oneCell']) (by unfold maxLen; omega) (by omega) (by have := Hbk.out.size; simp; omega) ?_; intro v' w3 hown3 hg3 _; have Hown3 := Lib.hid hown3; have Hb3 := Lib.hid ((Hbk.out.alloc Hbk.out.size _).grown hg3 (by have := Hbk.out.size; simp; omega) (fun r e => (Hok.out.lt r e).1)); clear hown3 hg3)
      go_roundw
      case rel => exact ⟨k + 1, v', by omega, by have := Hpi.out; simp; omega, rfl, by rw [Hs.out, Hy.out, List.map_append]; exact Hown3.out, Hb3.out⟩
      case measure => simp [intOf]
    · obtain rfl : k = zs.length := by omega
      rw [lastTo_all] at hok
      have Hok := Lib.hid hok
      clear hok hbk
      have g1 : ¬ ((0 : Int) ≤ (zs.length : Int) - 1 - (zs.length : Int)) := by omega
      go_wp2
      go_ret
      exact RetS.mk (f := id) (by simpa using hl) (by rw [List.length_reverse]; exact Hok.out) Hbk.out

end Go.Proofs.Ytndpdoiomoefpaa
