/-
  Mathematics of PayReach.
-/
import Derived.Test.YtndpdoiomoefpaaCarry
import Derived.Test.YtndpdoiomoefpaaHangs
namespace Go.Proofs.Ytndpdoiomoefpaa
open Go.RowKit Go.Shelf

attribute [local go_sem] Oper.semAt_some

/-- how many miles the length is enough for: the first mile that gets less than it needs, or all -/
def reachTo (zs : List Int) (ab : Int) (N : Nat) : Nat := ((List.range N).find? fun i => hangB zs (carryTo zs ab N) i).getD N
/-- what PayReach hands back -/
def payReachI (zs : List Int) (ab : Int) : Int := if carryB zs ab then reachTo zs ab (zs.length - 1) else -1

theorem carryTo_at (zs : List Int) (ab : Int) {N i : Nat} (h : i < N) : (carryTo zs ab N)[i]?.getD 0 = min (leftTo zs ab i) (needAt zs i) := by simp [carryTo, h]
theorem hang_carry (zs : List Int) (ab : Int) {N i : Nat} (h : i < N) : hangB zs (carryTo zs ab N) i = decide (leftTo zs ab i < needAt zs i) := by
  unfold hangB
  rw [carryTo_at zs ab h]
  rw [Bool.eq_iff_iff]
  simp
  omega
/-- behind a mile that hangs all hang -/
theorem left_after {zs : List Int} (hv : validB zs = true) {ab : Int} (h0 : 0 ≤ ab) (h1 : ab ≤ 1000) {i : Nat} (hi : leftTo zs ab i < needAt zs i) : ∀ j, i < j → j + 1 < zs.length → leftTo zs ab j < needAt zs j
  | 0, h, _ => absurd h (by omega)
  | j + 1, h, hj => by
    have hb := leftTo_bd hv h0 h1 j (by omega)
    have hn := needAt_bd hv (i := j + 1) hj
    have hl : leftTo zs ab (j + 1) = leftTo zs ab j - min (leftTo zs ab j) (needAt zs j) := by rw [leftTo]
    have hlt : leftTo zs ab j < needAt zs j := by
      rcases Nat.lt_or_ge i j with h2 | h2
      · exact left_after hv h0 h1 hi j h2 (by omega)
      · obtain rfl : j = i := by omega
        exact hi
    omega
theorem reach_some {zs : List Int} {ab : Int} {N p : Nat} (hp : p < N) (h : hangB zs (carryTo zs ab N) p = true) (hn : ∀ j, j < p → hangB zs (carryTo zs ab N) j = false) : reachTo zs ab N = p := by
  unfold reachTo
  have : (List.range N).find? (fun i => hangB zs (carryTo zs ab N) i) = some p := by
    rw [List.find?_range_eq_some]
    exact ⟨h, by simpa using hp, fun j hj => by simp [hn j hj]⟩
  rw [this]
  rfl
theorem reach_none {zs : List Int} {ab : Int} {N : Nat} (hn : ∀ j, j < N → hangB zs (carryTo zs ab N) j = false) : reachTo zs ab N = N := by
  unfold reachTo
  have : (List.range N).find? (fun i => hangB zs (carryTo zs ab N) i) = none := by
    rw [List.find?_eq_none]
    intro j hj
    rw [List.mem_range] at hj
    simp [hn j hj]
  rw [this]
  rfl
theorem reach_cases {zs : List Int} {ab : Int} (N : Nat) : (∃ p, p < N ∧ hangB zs (carryTo zs ab N) p = true ∧ (∀ j, j < p → hangB zs (carryTo zs ab N) j = false) ∧ reachTo zs ab N = p) ∨ ((∀ j, j < N → hangB zs (carryTo zs ab N) j = false) ∧ reachTo zs ab N = N) := by
  have aux : ∀ k, k ≤ N → (∃ p, p < k ∧ hangB zs (carryTo zs ab N) p = true ∧ ∀ j, j < p → hangB zs (carryTo zs ab N) j = false) ∨ (∀ j, j < k → hangB zs (carryTo zs ab N) j = false) := by
    intro k
    induction k with
    | zero => exact fun _ => .inr fun j hj => absurd hj (by omega)
    | succ k ih =>
      intro hk
      rcases ih (by omega) with ⟨p, h1, h2, h3⟩ | h
      · exact .inl ⟨p, by omega, h2, h3⟩
      · cases hb : hangB zs (carryTo zs ab N) k
        · exact .inr fun j hj => by
            rcases Nat.lt_or_ge j k with h4 | h4
            · exact h j h4
            · obtain rfl : j = k := by omega
              exact hb
        · exact .inl ⟨k, by omega, hb, h⟩
  rcases aux N (Nat.le_refl _) with ⟨p, h1, h2, h3⟩ | h
  · exact .inl ⟨p, h1, h2, h3, reach_some h1 h2 h3⟩
  · exact .inr ⟨h, reach_none h⟩

/-- the carried pay-out is a pay-out -/
theorem carry_pay {zs : List Int} {ab : Int} (h : carryB zs ab = true) : payB zs (carryTo zs ab (zs.length - 1)) = true := by
  obtain ⟨hv, h0, h1⟩ := carryB_true h
  unfold payB
  rw [hv, carryTo_length]
  simp only [decide_true, Bool.and_true, Bool.true_and]
  rw [allB_true]
  intro j hj
  rw [carryTo_length] at hj
  rw [carryTo_at zs ab hj]
  have hb := leftTo_bd hv h0 h1 j (by omega)
  have hn := needAt_bd hv (i := j) (by omega)
  omega
/-- so many miles hang -/
theorem hangs_count {zs : List Int} {ab : Int} (h : carryB zs ab = true) : (hangsTo zs (carryTo zs ab (zs.length - 1)) (zs.length - 1)).length = zs.length - 1 - reachTo zs ab (zs.length - 1) := by
  obtain ⟨hv, h0, h1⟩ := carryB_true h
  obtain ⟨N, hN⟩ : ∃ N, zs.length - 1 = N := ⟨_, rfl⟩
  rw [hN]
  have key : ∀ k, k ≤ N → (hangsTo zs (carryTo zs ab N) k).length = k - reachTo zs ab N := by
    intro k
    induction k with
    | zero => intro _; rw [hangsTo_zero]; simp
    | succ k ih =>
      intro hk
      have ih := ih (by omega)
      rcases reach_cases (zs := zs) (ab := ab) N with ⟨p, hp1, hp2, hp3, he⟩ | ⟨hno, he⟩
      · rw [he] at ih ⊢
        rcases Nat.lt_or_ge k p with h2 | h2
        · rw [hangsTo_no (hp3 k h2), ih]; omega
        · have hk2 : hangB zs (carryTo zs ab N) k = true := by
            rcases Nat.lt_or_ge p k with h3 | h3
            · rw [hang_carry zs ab (by omega)] at hp2 ⊢
              simp only [decide_eq_true_eq] at hp2 ⊢
              exact left_after hv h0 h1 hp2 k h3 (by omega)
            · obtain rfl : k = p := by omega
              exact hp2
          rw [hangsTo_yes hk2, List.length_append, ih]
          simp
          omega
      · rw [he] at ih ⊢
        rw [hangsTo_no (hno k (by omega)), ih]
        omega
  exact key N (Nat.le_refl _)

end Go.Proofs.Ytndpdoiomoefpaa
