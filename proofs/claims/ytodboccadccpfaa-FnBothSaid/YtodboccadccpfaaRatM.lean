/-
  Plain mathematics: a ratio in lowest terms stays as it is, twice both is the same, the products across are the same.
-/
import Derived.Test.YtodboccadccpfaaFltM
namespace Go.Proofs.Ytodboccadccpfaa

theorem lowR_parts {t l : Int} (ht : 0 ≤ t) (hl : 1 ≤ l) : ∃ x y g, gcdI t l = g ∧ 1 ≤ g ∧ t = g * x ∧ l = g * y ∧ lowR t l = ⟨x, y⟩ := by
  have hg := gcdI_pos (a := t) hl
  obtain ⟨x, hx⟩ := gcdI_dvd1 t l
  obtain ⟨y, hy⟩ := gcdI_dvd2 t l
  refine ⟨x, y, gcdI t l, rfl, hg, hx, hy, ?_⟩
  unfold lowR
  rw [Int.tdiv_eq_ediv_of_nonneg ht, Int.tdiv_eq_ediv_of_nonneg (show 0 ≤ l by omega), Int.ediv_eq_of_eq_mul_right (by omega) hx, Int.ediv_eq_of_eq_mul_right (by omega) hy]

theorem lowR_cross {t l : Int} (ht : 0 ≤ t) (hl : 1 ≤ l) : (lowR t l).t * l = t * (lowR t l).l := by
  obtain ⟨x, y, g, _, _, h1, h2, h3⟩ := lowR_parts ht hl
  rw [h3, h1, h2]
  show x * (g * y) = g * x * y
  rw [← Int.mul_assoc, Int.mul_comm x g]

theorem gcdI_twice (t l : Int) : gcdI (2 * t) (2 * l) = 2 * gcdI t l := by
  unfold gcdI
  rw [Int.gcd_mul_left]
  simp

theorem lowR_twice {t l : Int} (ht : 0 ≤ t) (hl : 1 ≤ l) : lowR (2 * t) (2 * l) = lowR t l := by
  obtain ⟨x, y, g, hg, g1, h1, h2, h3⟩ := lowR_parts ht hl
  rw [h3]
  unfold lowR
  rw [gcdI_twice, hg, Int.tdiv_eq_ediv_of_nonneg (by omega), Int.tdiv_eq_ediv_of_nonneg (by omega), Int.ediv_eq_of_eq_mul_right (show 2 * g ≠ 0 by omega) (show 2 * t = 2 * g * x by rw [h1, Int.mul_assoc]), Int.ediv_eq_of_eq_mul_right (show 2 * g ≠ 0 by omega) (show 2 * l = 2 * g * y by rw [h2, Int.mul_assoc])]

theorem lowR_low {t l : Int} (ht : 0 ≤ t) (hl : 1 ≤ l) : lowR (lowR t l).t (lowR t l).l = lowR t l := by
  obtain ⟨x, y, g, hg, g1, h1, h2, h3⟩ := lowR_parts ht hl
  have hb := lowR_bd ht hl
  rw [h3] at hb ⊢
  dsimp only at hb ⊢
  have e : gcdI t l = g * gcdI x y := by
    rw [h1, h2]
    unfold gcdI
    rw [Int.gcd_mul_left, Int.natCast_mul, Int.natAbs_of_nonneg (by omega)]
  rw [hg] at e
  have e1 : gcdI x y = 1 := by
    have h5 : g * gcdI x y = g * 1 := by omega
    exact Int.eq_of_mul_eq_mul_left (by omega) h5
  unfold lowR
  rw [e1]
  simp

end Go.Proofs.Ytodboccadccpfaa
