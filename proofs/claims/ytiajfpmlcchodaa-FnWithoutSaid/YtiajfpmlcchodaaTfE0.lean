/-
  Mathematics of traffic: the traffics that are left without each line. Nothing here speaks of the program.
-/
import Derived.Test.YtiajfpmlcchodaaTfC
import Derived.Test.YtiajfpmlcchodaaTfN
namespace Go.Proofs.Ytiajfpmlcchodaa

def at0 (zs : List Int) (j : Nat) : Int := zs[j]?.getD 0
/-- the first index of the least of the first k numbers -/
def leastTo (zs : List Int) : Nat → Nat
  | 0 => 0
  | k + 1 => if at0 zs k < at0 zs (leastTo zs k) then k else leastTo zs k
theorem leastTo_prop (zs : List Int) : ∀ k, 1 ≤ k → leastTo zs k < k ∧ (∀ j, j < k → at0 zs (leastTo zs k) ≤ at0 zs j) ∧ (∀ j, j < leastTo zs k → at0 zs (leastTo zs k) < at0 zs j)
  | 0, h => absurd h (by omega)
  | 1, _ => by
    have h0 : leastTo zs 1 = 0 := by simp [leastTo]
    rw [h0]
    exact ⟨by omega, fun j hj => by obtain rfl : j = 0 := by omega
                                    exact Int.le_refl _, fun j hj => absurd hj (by omega)⟩
  | k + 2, _ => by
    obtain ⟨h1, h2, h3⟩ := leastTo_prop zs (k + 1) (by omega)
    by_cases h : at0 zs (k + 1) < at0 zs (leastTo zs (k + 1))
    · have e : leastTo zs (k + 2) = k + 1 := by rw [leastTo, if_pos h]
      rw [e]
      refine ⟨by omega, fun j hj => ?_, fun j hj => ?_⟩
      · rcases Nat.lt_or_ge j (k + 1) with h4 | h4
        · have := h2 j h4; omega
        · obtain rfl : j = k + 1 := by omega
          exact Int.le_refl _
      · have := h2 j hj; omega
    · have e : leastTo zs (k + 2) = leastTo zs (k + 1) := by rw [leastTo, if_neg h]
      rw [e]
      refine ⟨by omega, fun j hj => ?_, h3⟩
      rcases Nat.lt_or_ge j (k + 1) with h4 | h4
      · exact h2 j h4
      · obtain rfl : j = k + 1 := by omega
        omega
theorem leastTo_succ_at (zs : List Int) (k : Nat) : at0 zs (leastTo zs (k + 1)) = if at0 zs k < at0 zs (leastTo zs k) then at0 zs k else at0 zs (leastTo zs k) := by
  rw [leastTo]
  by_cases h : at0 zs k < at0 zs (leastTo zs k)
  · rw [if_pos h, if_pos h]
  · rw [if_neg h, if_neg h]

section
variable {n : Int} {N : List Lin} {f t : Int}
theorem most_bd (n : Int) (N : List Lin) (f t : Int) : -1 ≤ mostV n N f t ∧ mostV n N f t ≤ 90 := by
  cases h : endB n N f t
  · unfold mostV; rw [h]; simp
  · obtain ⟨S, _, h2⟩ := most_cut h
    have := cutC_bd (S := S) (endB_true.1 h).1
    omega
theorem dropN_end (k : Nat) (h : endB n N f t = true) : endB n (dropN N k) f t = true := by
  obtain ⟨h1, h2⟩ := endB_true.1 h
  exact endB_true.2 ⟨dropN_net k h1, h2⟩
/-- what is left without each line -/
def lfL (n : Int) (N : List Lin) (f t : Int) : List Int := if endB n N f t then (List.range N.length).map (fun k => mostV n (dropN N k) f t) else []
def lfTo (n : Int) (N : List Lin) (f t : Int) (k : Nat) : List Int := (List.range k).map (fun k => mostV n (dropN N k) f t)
theorem lfTo_succ (k : Nat) : lfTo n N f t (k + 1) = lfTo n N f t k ++ [mostV n (dropN N k) f t] := by unfold lfTo; rw [List.range_succ, List.map_append]; rfl
theorem lfTo_len (k : Nat) : (lfTo n N f t k).length = k := by simp [lfTo]
theorem lf_no (h : endB n N f t = false) : lfL n N f t = [] := by unfold lfL; rw [h]; rfl
theorem lf_yes (h : endB n N f t = true) : lfL n N f t = lfTo n N f t N.length := by unfold lfL; rw [h]; rfl
theorem lf_len (h : endB n N f t = true) : (lfL n N f t).length = N.length := by rw [lf_yes h, lfTo_len]
theorem lf_at (h : endB n N f t = true) {k : Nat} (hk : k < N.length) : at0 (lfL n N f t) k = mostV n (dropN N k) f t := by
  rw [lf_yes h]
  simp [at0, lfTo, hk]
theorem lf_le : (lfL n N f t).length ≤ 10 := by
  cases h : endB n N f t
  · rw [lf_no h]; simp
  · rw [lf_len h]; exact (netB_true.1 (endB_true.1 h).1).2.1
/-- THE WEAKEST LINE -/
def wkB (n : Int) (N : List Lin) (f t : Int) : Bool := decide (0 < (lfL n N f t).length)
def wkI (n : Int) (N : List Lin) (f t : Int) : Nat := leastTo (lfL n N f t) (lfL n N f t).length
/-- THE LINES THAT ARE NEEDED -/
def ndTo (zs : List Int) (M : Int) : Nat → List Int
  | 0 => []
  | k + 1 => if at0 zs k < M then ndTo zs M k ++ [(k : Int)] else ndTo zs M k
def ndV (n : Int) (N : List Lin) (f t : Int) : List Int := ndTo (lfL n N f t) (mostV n N f t) (lfL n N f t).length
theorem ndTo_len (zs : List Int) (M : Int) : ∀ k, (ndTo zs M k).length ≤ k
  | 0 => by simp [ndTo]
  | k + 1 => by
    have := ndTo_len zs M k
    rw [ndTo]
    split
    · simp; exact this
    · omega
end
end Go.Proofs.Ytiajfpmlcchodaa
