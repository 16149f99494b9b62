/-
  Plain mathematics of SignalVote. Nothing here speaks of the program.
-/
import Derived.Test.YthhckijoilphiaaDoorSgV
namespace Go.Proofs.YthhckijoilphiaaDoor

def voP (x y z : UInt8) : UInt8 := if x = y ∨ x = z then x else if y = z then y else 48
theorem voP_first {x y z : UInt8} (h : x = y ∨ x = z) : voP x y z = x := by unfold voP; rw [if_pos h]
theorem voP_second {x y z : UInt8} (h : ¬ x = y) (h2 : ¬ x = z) (h3 : y = z) : voP x y z = y := by unfold voP; rw [if_neg (by simp [h, h2]), if_pos h3]
theorem voP_none {x y z : UInt8} (h : ¬ x = y) (h2 : ¬ x = z) (h3 : ¬ y = z) : voP x y z = 48 := by unfold voP; rw [if_neg (by simp [h, h2]), if_neg h3]
/-- what the first k pulses vote for -/
def voT (a b c : List UInt8) (k : Nat) : List UInt8 := (List.range k).map fun i => voP (a[i]?.getD 0) (b[i]?.getD 0) (c[i]?.getD 0)
theorem voT_len (a b c : List UInt8) (k : Nat) : (voT a b c k).length = k := by simp [voT]
theorem voT_succ {a b c : ByteArray} {k : Nat} (h1 : k < a.size) (h2 : k < b.size) (h3 : k < c.size) : voT (byL a) (byL b) (byL c) (k + 1) = voT (byL a) (byL b) (byL c) k ++ [voP a[k] b[k] c[k]] := by
  unfold voT
  rw [List.range_succ, List.map_append, List.map_singleton, byL_at a k h1, byL_at b k h2, byL_at c k h3]
  rfl
/-- three signals of as many pulses -/
def voB (a b c : List UInt8) : Bool := twoB a b && twoB b c
def voV (a b c : List UInt8) : List UInt8 := if voB a b c then voT a b c a.length else []
theorem voV_yes {a b c : List UInt8} (h : voB a b c = true) : voV a b c = voT a b c a.length := by unfold voV; rw [if_pos h]
theorem voV_no {a b c : List UInt8} (h : voB a b c = false) : voV a b c = [] := by unfold voV; rw [h]; rfl
theorem voB_ac {a b c : List UInt8} (h : twoB a b = true) : voB a b c = twoB a c := by
  obtain ⟨h1, h2, h3⟩ := twoB_true.1 h
  unfold voB
  rw [h, Bool.true_and]
  unfold twoB
  rw [h1, h2, h3]
theorem far_neg {a b : List UInt8} (h : twoB a b = false) : farV a b < 0 := by rw [farV_no h]; decide
theorem far_pos {a b : List UInt8} (h : twoB a b = true) : ¬ farV a b < 0 := by rw [farV_yes h]; omega

end Go.Proofs.YthhckijoilphiaaDoor
