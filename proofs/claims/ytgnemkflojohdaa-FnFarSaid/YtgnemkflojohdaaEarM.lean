/-
  Plain mathematics: what is measured earthed lies between the resistance up to the fault and what is measured open.
-/
import Derived.Test.YtgnemkflojohdaaRevM
namespace Go.Proofs.Ytgnemkflojohdaa

theorem earR_bd {r s f : Int} (hs : 0 ≤ s) (hf : 0 ≤ f) :
    1 ≤ (earR r s f).l ∧ r * (earR r s f).l ≤ (earR r s f).t ∧ (earR r s f).t ≤ (r + f) * (earR r s f).l ∧ (earR r s f).t ≤ (r + s) * (earR r s f).l := by
  by_cases h : f + s = 0
  · rw [earR_zero h]
    have h1 : f = 0 := by omega
    have h2 : s = 0 := by omega
    subst h1
    subst h2
    simp
  · rw [earR_some h]
    have hfs := Int.mul_nonneg hf hs
    have hb := lowR_bd hfs (show 1 ≤ f + s by omega)
    have hg := gcdI_pos (a := f * s) (b := f + s) (by omega)
    obtain ⟨x, hx⟩ := gcdI_dvd1 (f * s) (f + s)
    obtain ⟨y, hy⟩ := gcdI_dvd2 (f * s) (f + s)
    have e1 : (lowR (f * s) (f + s)).t = x := by
      unfold lowR
      dsimp only
      rw [Int.tdiv_eq_ediv_of_nonneg hfs]
      exact Int.ediv_eq_of_eq_mul_right (by omega) hx
    have e2 : (lowR (f * s) (f + s)).l = y := by
      unfold lowR
      dsimp only
      rw [Int.tdiv_eq_ediv_of_nonneg (show 0 ≤ f + s by omega)]
      exact Int.ediv_eq_of_eq_mul_right (by omega) hy
    rw [e1, e2] at hb ⊢
    generalize gcdI (f * s) (f + s) = g at hg hx hy
    -- x * g = f * s, y * g = f + s: x ≤ f * y and x ≤ s * y
    have k1 : x * (g * y) = f * s * y := by rw [hx]; rw [Int.mul_comm g y, ← Int.mul_assoc, Int.mul_comm x y, Int.mul_assoc, Int.mul_comm x g, Int.mul_comm y]
    rw [← hy] at k1
    have m1 : x ≤ f * y := by
      have h5 : x * (f + s) ≤ f * y * (f + s) := by
        rw [k1, Int.mul_add, Int.mul_assoc, Int.mul_comm s y, ← Int.mul_assoc]
        have := Int.mul_nonneg (Int.mul_nonneg hf (show 0 ≤ y by omega)) hf
        omega
      exact Int.le_of_mul_le_mul_right h5 (by omega)
    have m2 : x ≤ s * y := by
      have h5 : x * (f + s) ≤ s * y * (f + s) := by
        rw [k1, Int.mul_add, Int.mul_comm f s, Int.mul_assoc, Int.mul_comm f y, ← Int.mul_assoc]
        have := Int.mul_nonneg (Int.mul_nonneg hs (show 0 ≤ y by omega)) hs
        omega
      exact Int.le_of_mul_le_mul_right h5 (by omega)
    dsimp only
    rw [Int.add_mul, Int.add_mul]
    have := hb.1
    omega
theorem earR_low_bd {r s f : Int} (hs : 0 ≤ s ∧ s ≤ 8000) (hf : 0 ≤ f ∧ f ≤ 1000) : (earR r s f).l ≤ 9000 := by
  by_cases h : f + s = 0
  · rw [earR_zero h]
    simp
  · rw [earR_some h]
    have hb := lowR_bd (Int.mul_nonneg hf.1 hs.1) (show 1 ≤ f + s by omega)
    dsimp only
    omega
theorem mul_small {a l : Int} (ha : 0 ≤ a ∧ a ≤ 9000) (hl : 1 ≤ l ∧ l ≤ 9000) : IntKind.i64.wrap (a * l) = a * l := by
  have h1 := Int.mul_nonneg ha.1 (show 0 ≤ l by omega)
  have h2 : a * l ≤ 9000 * 9000 := Int.mul_le_mul ha.2 hl.2 (by omega) (by omega)
  exact IntWalk.i64_in _ (by omega)
theorem bk_earth {ss : List Sec} {f : Flt} (h : faultB ss f = true) : farV ss.reverse (bk ss f) = earthV ss f := by
  rw [farV_yes (bk_valid h), earthV_yes h, (bk_sides h).1, (bk_sides h).2]
  rfl

end Go.Proofs.Ytgnemkflojohdaa
