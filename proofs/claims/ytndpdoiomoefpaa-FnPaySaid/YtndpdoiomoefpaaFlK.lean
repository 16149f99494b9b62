/-
  Mathematics of the laws of pays: slack, level, what is on board, one mile more.
-/
import Derived.Test.YtndpdoiomoefpaaFlJ
import Derived.Test.YtndpdoiomoefpaaSlack
import Derived.Test.YtndpdoiomoefpaaReach0
import Derived.Test.YtndpdoiomoefpaaSteep
import Derived.Test.YtndpdoiomoefpaaSumO
namespace Go.Proofs.Ytndpdoiomoefpaa
open Go.RowKit

theorem sum_reverse (l : List Int) : l.reverse.sum = l.sum := by
  induction l with
  | nil => rfl
  | cons a l ih => simp [List.sum_append, ih]; omega
theorem sum_rev (f : Nat → Int) (N : Nat) : ((List.range N).map fun i => f (N - 1 - i)).sum = ((List.range N).map f).sum := by
  rw [← sum_reverse ((List.range N).map f)]
  congr 1
  apply List.ext_getElem
  · simp
  · intro i h1 h2
    have h3 : i < N := by simpa using h1
    simp
theorem payB_of {zs ps : List Int} (hv : validB zs = true) (hl : ps.length = zs.length - 1) (h : ∀ j, j < ps.length → 0 ≤ ps[j]?.getD 0 ∧ ps[j]?.getD 0 ≤ 60) : payB zs ps = true := by
  unfold payB
  rw [hv, allB_true.2 h, decide_eq_true hl]
  rfl
theorem pay_at {zs ps : List Int} (h : payB zs ps = true) : ∀ j, j < ps.length → 0 ≤ ps[j]?.getD 0 ∧ ps[j]?.getD 0 ≤ 60 := allB_true.1 (payB_true h).2.2
theorem pay_back {zs ps : List Int} (h : payB zs ps = true) : payB zs.reverse ps.reverse = true := by
  obtain ⟨hv, hl, _⟩ := payB_true h
  have hp := pay_at h
  refine payB_of (back_valid hv) (by simpa using hl) fun j hj => ?_
  rw [List.length_reverse] at hj
  rw [rev_at hj]
  exact hp _ (by omega)
theorem slack_back {zs ps : List Int} (h : payB zs ps = true) : paySlackI zs.reverse ps.reverse = paySlackI zs ps := by
  obtain ⟨hv, hl, _⟩ := payB_true h
  unfold paySlackI
  rw [if_pos h, if_pos (pay_back h), List.length_reverse]
  unfold slackTo
  rw [← sum_rev (slackAt zs ps) ps.length]
  congr 1
  apply List.map_congr_left
  intro i hi
  rw [List.mem_range] at hi
  have := (validB_true hv).1
  unfold slackAt
  rw [rev_at hi, back_need (by omega), show zs.length - 2 - i = ps.length - 1 - i by omega]
theorem slack_yes {zs ps : List Int} (h : payB zs ps = true) : paySlackI zs ps = slackTo zs ps ps.length := by unfold paySlackI; rw [if_pos h]
theorem hangs_yes {zs ps : List Int} (h : payB zs ps = true) : payHangsL zs ps = hangsTo zs ps ps.length := by unfold payHangsL; rw [if_pos h]
theorem hangs_mem {zs ps : List Int} {k : Nat} {x : Int} : x ∈ hangsTo zs ps k ↔ ∃ i : Nat, i < k ∧ hangB zs ps i = true ∧ x = (i : Int) := by
  unfold hangsTo
  simp only [List.mem_map, List.mem_filter, List.mem_range]
  constructor
  · rintro ⟨i, ⟨h1, h2⟩, rfl⟩; exact ⟨i, h1, h2, rfl⟩
  · rintro ⟨i, h1, h2, rfl⟩; exact ⟨i, ⟨h1, h2⟩, rfl⟩
theorem slack_no_hang {zs ps : List Int} : ∀ k, k ≤ ps.length → (∀ i, i < k → hangB zs ps i = false) → slackTo zs ps k = sumTo ps k - lenTo zs 0 k
  | 0, _, _ => by simp [slackTo_zero, sumTo_zero, lenTo_zero]
  | k + 1, hk, h => by
    rw [slackTo_succ, slack_no_hang k (by omega) (fun i hi => h i (by omega)), sumTo_succ _ (by omega), lenTo_succ, Nat.zero_add]
    have := of_decide_eq_false (h k (by omega))
    rw [List.getElem?_eq_getElem (by omega), Option.getD_some] at this
    unfold slackAt
    rw [List.getElem?_eq_getElem (by omega), Option.getD_some]
    omega
theorem slack_all {zs ps : List Int} (h : payB zs ps = true) (hh : payHangsL zs ps = []) : paySlackI zs ps = ps.sum - floorLengthI zs 0 ((zs.length : Int) - 1) := by
  obtain ⟨hv, hl, _⟩ := payB_true h
  have h2 := (validB_true hv).1
  rw [slack_yes h]
  rw [hangs_yes h] at hh
  rw [slack_no_hang ps.length (Nat.le_refl _) (fun i hi => ?_), sumTo_all, lenI_of hv (Int.le_refl 0) (by omega) (by omega)]
  · congr 2
    omega
  · cases hb : hangB zs ps i
    · rfl
    · have := hangs_mem.2 ⟨i, hi, hb, rfl⟩
      rw [hh] at this
      cases this
theorem pay_small {zs ps : List Int} (h : payB zs ps = true) : Small ps := fun z hz => by
  obtain ⟨i, hi, rfl⟩ := List.mem_iff_getElem.1 hz
  have := pay_at h i hi
  rw [List.getElem?_eq_getElem hi] at this
  simp at this
  omega
theorem slack_bd {zs ps : List Int} (h : payB zs ps = true) : 0 ≤ paySlackI zs ps ∧ paySlackI zs ps ≤ 960 := by
  obtain ⟨hv, hl, _⟩ := payB_true h
  have := slackTo_bd h ps.length (Nat.le_refl _)
  have := (validB_true hv).2.1
  rw [slack_yes h]
  omega

/-! ### the level -/
theorem needs_at {zs : List Int} {j : Nat} (h : j + 1 < zs.length) : at0 (needsL zs) j = needAt zs j := by
  unfold at0 needsL needsTo
  rw [List.getElem?_map, List.getElem?_range (by omega)]
  rfl
theorem level_facts {zs : List Int} (hv : validB zs = true) : 10 ≤ levelI zs ∧ levelI zs ≤ 50 ∧ (∀ j, j + 1 < zs.length → needAt zs j ≤ levelI zs) ∧ ∃ j, j + 1 < zs.length ∧ needAt zs j = levelI zs := by
  have h2 := (validB_true hv).1
  have e : levelI zs = at0 (needsL zs) (firstTo (needsL zs) (needsL zs).length) := by unfold levelI; rw [if_pos hv]
  have hp := firstTo_prop (needsL zs) (needsL zs).length (by rw [needsL_length]; omega)
  rw [needsL_length] at hp e
  obtain ⟨p1, p2, _⟩ := hp
  obtain ⟨p, hp⟩ : ∃ p, firstTo (needsL zs) (zs.length - 1) = p := ⟨_, rfl⟩
  rw [hp] at p1 p2 e
  rw [needs_at (by omega)] at e
  have hb := needAt_bd hv (i := p) (by omega)
  refine ⟨by omega, by omega, fun j hj => ?_, p, by omega, e.symm⟩
  have := p2 j (by omega)
  rw [needs_at (by omega), needs_at (by omega)] at this
  omega
theorem rep_at {N : Nat} {x : Int} {j : Nat} (h : j < N) : (List.replicate N x)[j]?.getD 0 = x := by
  rw [List.getElem?_replicate, if_pos h]
  rfl
theorem level_rep {zs : List Int} (hv : validB zs = true) {x : Int} (h0 : 0 ≤ x) (h1 : x ≤ 60) : payB zs (List.replicate (zs.length - 1) x) = true :=
  payB_of hv (by simp) fun j hj => by
    rw [List.length_replicate] at hj
    rw [rep_at hj]
    exact ⟨h0, h1⟩
theorem level_enough {zs : List Int} (hv : validB zs = true) : payB zs (List.replicate (zs.length - 1) (levelI zs)) = true ∧ payHangsL zs (List.replicate (zs.length - 1) (levelI zs)) = [] ∧ (0 : Int) < ((payHangsL zs (List.replicate (zs.length - 1) (levelI zs - 1))).length : Int) := by
  obtain ⟨h0, h1, h2, j, hj, ej⟩ := level_facts hv
  have p1 := level_rep hv (x := levelI zs) (by omega) (by omega)
  have p2 := level_rep hv (x := levelI zs - 1) (by omega) (by omega)
  refine ⟨p1, ?_, ?_⟩
  · rw [hangs_yes p1, List.length_replicate]
    apply List.eq_nil_iff_forall_not_mem.2
    intro x hx
    obtain ⟨i, hi, hb, _⟩ := hangs_mem.1 hx
    have := of_decide_eq_true hb
    rw [rep_at hi] at this
    have := h2 i (by omega)
    omega
  · rw [hangs_yes p2, List.length_replicate]
    have : (j : Int) ∈ hangsTo zs (List.replicate (zs.length - 1) (levelI zs - 1)) (zs.length - 1) :=
      hangs_mem.2 ⟨j, by omega, decide_eq_true (by rw [rep_at (by omega)]; omega), rfl⟩
    have := List.length_pos_of_mem this
    omega

/-! ### one mile's pay is one more -/
theorem set_at {ps : List Int} {k i : Nat} (hk : k < ps.length) (y : Int) : (ps.set k y)[i]?.getD 0 = if i = k then y else ps[i]?.getD 0 := by
  rw [List.getElem?_set]
  by_cases h : k = i
  · subst h
    simp [hk]
  · rw [if_neg h, if_neg (fun e => h e.symm)]
theorem pay_set {zs ps : List Int} (h : payB zs ps = true) {k : Nat} {y : Int} (h0 : 0 ≤ y) (h1 : y ≤ 60) : payB zs (ps.set k y) = true := by
  obtain ⟨hv, hl, _⟩ := payB_true h
  have hp := pay_at h
  refine payB_of hv (by rw [List.length_set]; exact hl) fun j hj => ?_
  rw [List.length_set] at hj
  rw [List.getElem?_set]
  by_cases hkj : k = j
  · subst hkj
    simp [hj]
    omega
  · rw [if_neg hkj]
    exact hp j hj
theorem slack_more {zs ps : List Int} {k : Nat} (hk : k < ps.length) : ∀ n, n ≤ ps.length → ∃ d : Int, (d = 0 ∨ (d = 1 ∧ k < n)) ∧ slackTo zs (ps.set k (ps[k]?.getD 0 + 1)) n = slackTo zs ps n + d
  | 0, _ => ⟨0, .inl rfl, by simp [slackTo_zero]⟩
  | n + 1, hn => by
    obtain ⟨d, hd, e⟩ := slack_more (zs := zs) hk n (by omega)
    rw [slackTo_succ, slackTo_succ, e]
    unfold slackAt
    rw [set_at hk]
    by_cases hnk : n = k
    · subst hnk
      rw [if_pos rfl]
      have hd0 : d = 0 := by omega
      subst hd0
      rcases Int.lt_or_le (ps[n]?.getD 0) (needAt zs n) with h | h
      · exact ⟨0, .inl rfl, by omega⟩
      · exact ⟨1, .inr ⟨rfl, by omega⟩, by omega⟩
    · rw [if_neg hnk]
      exact ⟨d, by omega, by omega⟩
theorem hangs_less {zs ps : List Int} (h : payB zs ps = true) {k : Nat} (hk : k < ps.length) {x : Int} (hx : x ∈ payHangsL zs (ps.set k (ps[k]?.getD 0 + 1))) : x ∈ payHangsL zs ps := by
  cases h2 : payB zs (ps.set k (ps[k]?.getD 0 + 1))
  · unfold payHangsL at hx
    rw [h2] at hx
    cases hx
  · rw [hangs_yes h2, List.length_set] at hx
    rw [hangs_yes h]
    obtain ⟨i, hi, hb, rfl⟩ := hangs_mem.1 hx
    refine hangs_mem.2 ⟨i, hi, ?_, rfl⟩
    have := of_decide_eq_true hb
    rw [set_at hk] at this
    refine decide_eq_true ?_
    split at this
    · next e => subst e; omega
    · exact this
theorem slack_one {zs ps : List Int} (h : payB zs ps = true) {k : Nat} (hk : k < ps.length) (hy : ps[k]?.getD 0 + 1 ≤ 60) :
    paySlackI zs (ps.set k (ps[k]?.getD 0 + 1)) - paySlackI zs ps = 0 ∨ paySlackI zs (ps.set k (ps[k]?.getD 0 + 1)) - paySlackI zs ps = 1 := by
  have hp := pay_at h k hk
  have h2 := pay_set h (k := k) (y := ps[k]?.getD 0 + 1) (by omega) hy
  rw [slack_yes h, slack_yes h2, List.length_set]
  obtain ⟨d, hd, e⟩ := slack_more (zs := zs) hk ps.length (Nat.le_refl _)
  rw [e]
  omega
theorem slack_wide (zs ps : List Int) : -1 ≤ paySlackI zs ps ∧ paySlackI zs ps ≤ 960 := by
  cases h : payB zs ps
  · have : paySlackI zs ps = -1 := by unfold paySlackI; rw [h]; rfl
    omega
  · have := slack_bd h; omega

/-! ### what is on board -/
theorem carry_left {zs : List Int} (hv : validB zs = true) {ab : Int} (h0 : 0 ≤ ab) : ∀ k, k + 1 ≤ zs.length → leftTo zs ab k = max 0 (ab - lenTo zs 0 k)
  | 0, _ => by simp [leftTo, lenTo_zero]; omega
  | k + 1, h => by
    have := needAt_bd hv (i := k) (by omega)
    have hb := lenTo_bd hv 0 k (by omega)
    rw [leftTo, carry_left hv h0 k (by omega), lenTo_succ, Nat.zero_add]
    omega
theorem carry_sum {zs : List Int} {ab : Int} : ∀ k, (carryTo zs ab k).sum = ab - leftTo zs ab k
  | 0 => by simp [carryTo_zero, leftTo]
  | k + 1 => by
    rw [carryTo_succ, List.sum_append, carry_sum k, leftTo]
    simp
    omega
theorem carry_yes {zs : List Int} {ab : Int} (h : carryB zs ab = true) : payCarryL zs ab = carryTo zs ab (zs.length - 1) := by unfold payCarryL; rw [if_pos h]
theorem carry_paid {zs : List Int} {ab : Int} (h : carryB zs ab = true) : payB zs (payCarryL zs ab) = true ∧ paySlackI zs (payCarryL zs ab) = 0 ∧ (payCarryL zs ab).sum = min ab (floorLengthI zs 0 ((zs.length : Int) - 1)) := by
  obtain ⟨hv, h0, h1⟩ := carryB_true h
  have h2 := (validB_true hv).1
  rw [carry_yes h]
  have hp : payB zs (carryTo zs ab (zs.length - 1)) = true := payB_of hv (carryTo_length _ _ _) fun j hj => by
    rw [carryTo_length] at hj
    rw [carryTo_at _ _ hj]
    have := needAt_bd hv (i := j) (by omega)
    have := leftTo_bd hv h0 h1 j (by omega)
    omega
  refine ⟨hp, ?_, ?_⟩
  · rw [slack_yes hp, carryTo_length]
    have : ∀ k, k ≤ zs.length - 1 → slackTo zs (carryTo zs ab (zs.length - 1)) k = 0 := by
      intro k
      induction k with
      | zero => intro _; exact slackTo_zero _ _
      | succ k ih =>
        intro hk
        rw [slackTo_succ, ih (by omega)]
        unfold slackAt
        rw [carryTo_at _ _ (by omega)]
        omega
    exact this _ (Nat.le_refl _)
  · rw [carry_sum, carry_left hv h0 _ (by omega), lenI_of hv (Int.le_refl 0) (by omega) (by omega), show ((zs.length : Int) - 1).toNat - (0 : Int).toNat = zs.length - 1 by omega, show (0 : Int).toNat = 0 from rfl]
    have := lenTo_bd hv 0 (zs.length - 1) (by omega)
    omega
/-- the miles that hang are the last ones; only the first of them has cable -/
theorem carry_hangs {zs : List Int} {ab : Int} (h : carryB zs ab = true) : ∃ p, p + (payHangsL zs (payCarryL zs ab)).length = zs.length - 1 ∧
    (∀ i, i < (payHangsL zs (payCarryL zs ab)).length → (payHangsL zs (payCarryL zs ab))[i]?.getD 0 = ((p + i : Nat) : Int)) ∧
    (∀ i, p < i → i < zs.length - 1 → (payCarryL zs ab)[i]?.getD 0 = 0) := by
  obtain ⟨hv, h0, h1⟩ := carryB_true h
  have h2 := (validB_true hv).1
  rw [hangs_yes (carry_paid h).1, carry_yes h, carryTo_length]
  obtain ⟨N, hN⟩ : ∃ N, zs.length - 1 = N := ⟨_, rfl⟩
  rw [hN]
  have hbd := fun j (hj : j < N) => leftTo_bd hv h0 h1 j (by omega)
  have main : ∀ p, p ≤ N → (∀ j, j < p → hangB zs (carryTo zs ab N) j = false) → (∀ j, p ≤ j → j < N → hangB zs (carryTo zs ab N) j = true) →
      ∀ k, k ≤ N → hangsTo zs (carryTo zs ab N) k = (List.range (k - p)).map fun i => ((p + i : Nat) : Int) := by
    intro p hp a1 a2 k
    induction k with
    | zero => intro _; rw [hangsTo_zero, Nat.zero_sub]; rfl
    | succ k ih =>
      intro hk
      rcases Nat.lt_or_ge k p with hlt | hge
      · rw [hangsTo_no (a1 k hlt), ih (by omega), show k + 1 - p = 0 by omega, show k - p = 0 by omega]
      · rw [hangsTo_yes (a2 k hge (by omega)), ih (by omega), show k + 1 - p = (k - p) + 1 by omega, List.range_succ, List.map_append]
        simp
        omega
  have fin : ∀ p, p ≤ N → (∀ j, j < p → hangB zs (carryTo zs ab N) j = false) → (∀ j, p ≤ j → j < N → hangB zs (carryTo zs ab N) j = true) → (∀ i, p < i → i < N → (carryTo zs ab N)[i]?.getD 0 = 0) →
      ∃ p, p + (hangsTo zs (carryTo zs ab N) N).length = N ∧ (∀ i, i < (hangsTo zs (carryTo zs ab N) N).length → (hangsTo zs (carryTo zs ab N) N)[i]?.getD 0 = ((p + i : Nat) : Int)) ∧ (∀ i, p < i → i < N → (carryTo zs ab N)[i]?.getD 0 = 0) := by
    intro p hp a1 a2 a3
    have hl : (hangsTo zs (carryTo zs ab N) N).length = N - p := by rw [main p hp a1 a2 N (Nat.le_refl _)]; simp
    refine ⟨p, by omega, fun i hi => ?_, a3⟩
    rw [hl] at hi
    rw [main p hp a1 a2 N (Nat.le_refl _), List.getElem?_map, List.getElem?_range hi]
    rfl
  rcases reach_cases (zs := zs) (ab := ab) N with ⟨p, hp, b1, b2, _⟩ | ⟨b2, _⟩
  · rw [hang_carry zs ab hp] at b1
    have b1 := of_decide_eq_true b1
    have b3 := left_after hv h0 h1 b1
    refine fin p (by omega) b2 (fun j hj hjN => ?_) (fun i hi hiN => ?_)
    · rw [hang_carry zs ab hjN]
      rcases Nat.lt_or_ge p j with h3 | h3
      · exact decide_eq_true (b3 j h3 (by omega))
      · obtain rfl : j = p := by omega
        exact decide_eq_true b1
    · rw [carryTo_at zs ab hiN]
      obtain ⟨i, rfl⟩ : ∃ k, i = k + 1 := ⟨i - 1, by omega⟩
      have hlt : leftTo zs ab i < needAt zs i := by
        rcases Nat.lt_or_ge p i with h3 | h3
        · exact b3 i h3 (by omega)
        · obtain rfl : i = p := by omega
          exact b1
      have e : leftTo zs ab (i + 1) = leftTo zs ab i - min (leftTo zs ab i) (needAt zs i) := by rw [leftTo]
      have := needAt_bd hv (i := i + 1) (by omega)
      omega
  · exact fin N (Nat.le_refl _) b2 (fun j hj hjN => absurd hj (by omega)) (fun i hi hiN => absurd hi (by omega))
end Go.Proofs.Ytndpdoiomoefpaa
