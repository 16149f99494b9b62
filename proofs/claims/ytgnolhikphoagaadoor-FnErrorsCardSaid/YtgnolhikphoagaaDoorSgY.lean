/-
  Plain mathematics of SignalBack. Nothing here speaks of the program.
-/
import Derived.Test.YtgnolhikphoagaaDoorSgV
import Derived.Lib.MapLaws
import Derived.Lib.TrimAscii
namespace Go.Proofs.YtgnolhikphoagaaDoor

def turnP (c : UInt8) : UInt8 := if c.toNat = 45 then 43 else if c.toNat = 43 then 45 else 48
def turnF (r : Int) : Int := if r = 45 then 43 else if r = 43 then 45 else r
def tuV (l : List UInt8) : List UInt8 := if sigB l then l.map turnP else []
theorem tuV_yes {l : List UInt8} (h : sigB l = true) : tuV l = l.map turnP := by unfold tuV; rw [if_pos h]
theorem tuV_no {l : List UInt8} (h : sigB l = false) : tuV l = [] := by unfold tuV; rw [h]; rfl
theorem pul_cases {c : UInt8} (h : isPul c = true) : c = 45 ∨ c = 43 ∨ c = 48 := by
  unfold isPul at h
  simp only [Bool.or_eq_true, decide_eq_true_eq] at h
  rcases h with (h | h) | h
  · exact .inl (UInt8.toNat_inj.1 h)
  · exact .inr (.inl (UInt8.toNat_inj.1 h))
  · exact .inr (.inr (UInt8.toNat_inj.1 h))
theorem turn_code {c : UInt8} (h : isPul c = true) : 0 ≤ turnF c.toNat ∧ Lib.encodeRune (turnF c.toNat) = [turnP c] := by
  rcases pul_cases h with rfl | rfl | rfl <;> decide
theorem pul_ascii {c : UInt8} (h : isPul c = true) : c.toNat < 128 := by
  rcases pul_cases h with rfl | rfl | rfl <;> decide
theorem map_turn : ∀ l : List UInt8, l.all isPul = true → Lib.mapD turnF l = l.map turnP
  | [], _ => rfl
  | c :: l, h => by
    rw [List.all_cons, Bool.and_eq_true] at h
    have ht := turn_code h.1
    rw [Lib.mapD_step _ _ (by simp), Lib.decodeL_ascii c l (pul_ascii h.1), if_pos ht.1, ht.2]
    show [turnP c] ++ Lib.mapD turnF l = _
    rw [map_turn l h.2]
    rfl
theorem turn_range (x : Nat) (h : x ≤ 1114111) : 0 ≤ turnF x ∧ turnF x ≤ 2147483647 := by
  unfold turnF
  split
  · omega
  · split <;> omega
theorem turn_take {s : ByteArray} {k : Nat} (h : k < s.size) : ((byL s).take (k + 1)).map turnP = ((byL s).take k).map turnP ++ [turnP s[k]] := by
  rw [byL_take s k h]; simp

end Go.Proofs.YtgnolhikphoagaaDoor
