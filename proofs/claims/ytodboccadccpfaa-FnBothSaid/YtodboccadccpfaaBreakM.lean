/-
  Plain mathematics: where a cable can be broken.
-/
import Derived.Test.YtodboccadccpfaaBreak
namespace Go.Proofs.Ytodboccadccpfaa

/-- the places that are found rise -/
theorem rgTo_bd {r : Nat → Int} {a e : Int} : ∀ {k : Nat} {x : Nat × Nat}, rgTo r a e k = some x → x.1 < k ∧ x.2 < k := by
  intro k
  induction k with
  | zero => intro x h; cases h
  | succ k ih =>
    intro x h
    cases hin : inB (a - r k) 0 e
    · rw [rgTo_no hin] at h
      have := ih h
      omega
    · rw [rgTo_yes hin] at h
      cases ho : rgTo r a e k with
      | none => rw [ho] at h; cases h; simp
      | some y => rw [ho] at h; cases h; have := ih ho; simp; omega

end Go.Proofs.Ytodboccadccpfaa
