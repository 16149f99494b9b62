/-
  Plain mathematics of SignalLevel. Nothing here speaks of the program.
-/
import Derived.Test.YtgnolhikphoagaaDoorSgW
import Derived.Lib.Repeat
namespace Go.Proofs.YtgnolhikphoagaaDoor

theorem rep_L (c : UInt8) : ∀ n, Lib.repeatL [c] n = List.replicate n c
  | 0 => rfl
  | n + 1 => by
    show [c] ++ Lib.repeatL [c] n = _
    rw [rep_L c n]
    rfl
/-- the signal made level -/
def levV (l : List UInt8) : List UInt8 := if driV l = 0 then l else l ++ [48] ++ List.replicate (driV l).toNat 45 ++ List.replicate (-(driV l)).toNat 43
def levB (l : List UInt8) : Bool := sigB l && sigB (levV l)
def levR (l : List UInt8) : List UInt8 := if levB l then levV l else []
theorem levV_same {l : List UInt8} (h : driV l = 0) : levV l = l := by unfold levV; rw [if_pos h]
theorem levV_more {l : List UInt8} (h : ¬ driV l = 0) : levV l = l ++ [48] ++ List.replicate (driV l).toNat 45 ++ List.replicate (-(driV l)).toNat 43 := by unfold levV; rw [if_neg h]
theorem levR_yes {l : List UInt8} (h : levB l = true) : levR l = levV l := by unfold levR; rw [if_pos h]
theorem levR_no {l : List UInt8} (h : levB l = false) : levR l = [] := by unfold levR; rw [h]; rfl
theorem dr0_last (l : List UInt8) : (dr0 l l.length)[l.length]?.getD 0 = driV l := by
  unfold dr0
  cases h : l.length with
  | zero =>
    have : l = [] := List.length_eq_zero_iff.1 h
    subst this
    rfl
  | succ n =>
    rw [List.getElem?_cons_succ]
    unfold driT
    rw [List.getElem?_map, List.getElem?_range (Nat.lt_succ_self n)]
    simp only [Option.map_some, Option.getD_some]
    rw [List.take_of_length_le (by omega)]

end Go.Proofs.YtgnolhikphoagaaDoor
