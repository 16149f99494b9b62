/-
  Mathematics of the laws of floors: a part of a part, two joined floors, a floor from its other end, slack.
-/
import Derived.Test.YtndpdoiomoefpaaFFloorLength
import Derived.Test.YtndpdoiomoefpaaPart
import Derived.Test.YtndpdoiomoefpaaJoin
import Derived.Test.YtndpdoiomoefpaaBack
namespace Go.Proofs.Ytndpdoiomoefpaa
open Go.RowKit

theorem partB_true {zs : List Int} {x y : Int} (h : partB zs x y = true) : validB zs = true ∧ 0 ≤ x ∧ x < y ∧ y < zs.length := by
  simp only [partB, twoB, Bool.and_eq_true, Bool.not_eq_true', decide_eq_false_iff_not] at h
  obtain ⟨⟨h1, h2⟩, h3⟩ := h
  have := ptsB_true h2
  exact ⟨h1, by omega, by omega, by omega⟩
theorem partB_of {zs : List Int} {x y : Int} (hv : validB zs = true) (h0 : 0 ≤ x) (h1 : x < y) (h2 : y < zs.length) : partB zs x y = true := by
  simp only [partB, twoB, ptsB, Bool.and_eq_true, Bool.not_eq_true', decide_eq_false_iff_not, decide_eq_true_eq]
  exact ⟨⟨hv, ⟨h0, by omega⟩, h2⟩, by omega⟩
theorem valid_of {zs : List Int} (h1 : 2 ≤ zs.length) (h2 : zs.length ≤ 16) (h : ∀ j, j < zs.length → 0 ≤ zs[j]?.getD 0 ∧ zs[j]?.getD 0 ≤ 40) : validB zs = true := by
  unfold validB
  rw [Bool.and_eq_true, inB_true, allB_true]
  exact ⟨by omega, h⟩
theorem part_yes {zs : List Int} {x y : Int} (h : partB zs x y = true) : floorPartL zs x y = subL zs x.toNat y.toNat := by unfold floorPartL; rw [if_pos h]
theorem part_len {zs : List Int} {x y : Int} (h : partB zs x y = true) : ((floorPartL zs x y).length : Int) = y - x + 1 := by
  obtain ⟨_, h0, h1, h2⟩ := partB_true h
  rw [part_yes h, subL_length (by omega) (by omega)]
  omega
theorem part_valid {zs : List Int} {x y : Int} (h : partB zs x y = true) : validB (floorPartL zs x y) = true := by
  obtain ⟨hv, h0, h1, h2⟩ := partB_true h
  have hl := part_len h
  have := validB_true hv
  refine valid_of (by omega) (by omega) ?_
  rw [part_yes h]
  rw [part_yes h] at hl
  exact depths_sub (validB_depths hv) (by omega) (by omega)
theorem sub_sub {zs : List Int} {f t k : Nat} (h1 : f ≤ t) (_ : t < zs.length) (hk : k ≤ t - f) : subL (subL zs f t) 0 k = subL zs f (f + k) := by
  unfold subL
  rw [List.drop_zero, List.take_take]
  congr 1
  omega
theorem part_part {zs : List Int} {x y : Int} (h : partB zs x y = true) {k : Int} (h1 : 1 ≤ k) (h2 : k ≤ y - x) :
    partB (floorPartL zs x y) 0 k = true ∧ partB zs x (x + k) = true ∧ floorPartL (floorPartL zs x y) 0 k = floorPartL zs x (x + k) := by
  obtain ⟨hv, g0, g1, g2⟩ := partB_true h
  have hl := part_len h
  have e1 := partB_of (part_valid h) (Int.le_refl 0) (y := k) (by omega) (by omega)
  have e2 := partB_of hv g0 (y := x + k) (by omega) (by omega)
  refine ⟨e1, e2, ?_⟩
  rw [part_yes e1, part_yes e2, part_yes h, show (0 : Int).toNat = 0 from rfl, sub_sub (by omega) (by omega) (by omega)]
  congr 1
  omega
theorem lenTo_sub {zs : List Int} {f t : Nat} : ∀ k, k ≤ t - f → lenTo (subL zs f t) 0 k = lenTo zs f k
  | 0, _ => by simp [lenTo_zero]
  | k + 1, h => by rw [lenTo_succ, lenTo_succ, lenTo_sub k (by omega), Nat.zero_add, needAt_sub (by omega)]
theorem lenI_of {zs : List Int} {x y : Int} (hv : validB zs = true) (h0 : 0 ≤ x) (h1 : x ≤ y) (h2 : y < zs.length) : floorLengthI zs x y = lenTo zs x.toNat (y.toNat - x.toNat) := by
  unfold floorLengthI twoB ptsB
  rw [hv]
  simp
  omega
theorem part_lenI {zs : List Int} {x y : Int} (h : partB zs x y = true) : floorLengthI (floorPartL zs x y) 0 (((floorPartL zs x y).length : Int) - 1) = floorLengthI zs x y := by
  obtain ⟨hv, g0, g1, g2⟩ := partB_true h
  have hl := part_len h
  rw [lenI_of (part_valid h) (Int.le_refl 0) (by omega) (by omega), lenI_of hv g0 (by omega) g2, hl, part_yes h, show (0 : Int).toNat = 0 from rfl, Nat.sub_zero, lenTo_sub _ (by omega)]
  congr 1
  omega

/-! ### two joined floors -/
theorem joinB_true {xs ys : List Int} (h : joinB xs ys = true) : validB xs = true ∧ validB ys = true ∧ xs[xs.length - 1]?.getD 0 = ys[0]?.getD 0 ∧ validB (xs ++ ys.tail) = true := by
  simp only [joinB, seamB, Bool.and_eq_true, decide_eq_true_eq] at h
  exact ⟨h.1.1.1, h.1.1.2, h.1.2, h.2⟩
theorem join_yes {xs ys : List Int} (h : joinB xs ys = true) : floorJoinL xs ys = xs ++ ys.tail := by unfold floorJoinL; rw [if_pos h]
theorem list_eq_at {a b : List Int} (hl : a.length = b.length) (h : ∀ j, j < b.length → a[j]?.getD 0 = b[j]?.getD 0) : a = b := by
  apply List.ext_getElem hl
  intro i h1 h2
  have := h i h2
  simpa [h1, h2] using this
theorem join_at {xs ys : List Int} (hs : xs[xs.length - 1]?.getD 0 = ys[0]?.getD 0) (hx : 1 ≤ xs.length) {j : Nat} : (xs ++ ys.tail)[xs.length - 1 + j]?.getD 0 = ys[j]?.getD 0 := by
  rcases Nat.eq_zero_or_pos j with h | h
  · subst h
    rw [Nat.add_zero, List.getElem?_append_left (by omega), hs]
  · rw [List.getElem?_append_right (by omega), tail_at]
    congr 2
    omega
theorem join_facts {xs ys : List Int} (h : joinB xs ys = true) :
    partB (floorJoinL xs ys) 0 ((xs.length : Int) - 1) = true ∧ floorPartL (floorJoinL xs ys) 0 ((xs.length : Int) - 1) = xs ∧
    partB (floorJoinL xs ys) ((xs.length : Int) - 1) ((xs.length : Int) - 1 + ((ys.length : Int) - 1)) = true ∧ floorPartL (floorJoinL xs ys) ((xs.length : Int) - 1) ((xs.length : Int) - 1 + ((ys.length : Int) - 1)) = ys ∧
    floorLengthI (floorJoinL xs ys) 0 ((xs.length : Int) - 1 + ((ys.length : Int) - 1)) = floorLengthI xs 0 ((xs.length : Int) - 1) + floorLengthI ys 0 ((ys.length : Int) - 1) := by
  obtain ⟨hx, hy, hs, hj⟩ := joinB_true h
  rw [join_yes h]
  have vx := validB_true hx
  have vy := validB_true hy
  have hl : (xs ++ ys.tail).length = xs.length + (ys.length - 1) := by simp
  have p1 := partB_of hj (Int.le_refl 0) (y := (xs.length : Int) - 1) (by omega) (by omega)
  have p2 := partB_of hj (x := (xs.length : Int) - 1) (y := (xs.length : Int) - 1 + ((ys.length : Int) - 1)) (by omega) (by omega) (by omega)
  have e1 : floorPartL (xs ++ ys.tail) 0 ((xs.length : Int) - 1) = xs := by
    rw [part_yes p1]
    apply list_eq_at
    · rw [subL_length (by omega) (by omega)]; omega
    · intro j hj2
      rw [subL_at (by omega), show (0 : Int).toNat + j = j by simp, List.getElem?_append_left hj2]
  have e2 : floorPartL (xs ++ ys.tail) ((xs.length : Int) - 1) ((xs.length : Int) - 1 + ((ys.length : Int) - 1)) = ys := by
    rw [part_yes p2]
    apply list_eq_at
    · rw [subL_length (by omega) (by omega)]; omega
    · intro j hj2
      rw [subL_at (by omega), show ((xs.length : Int) - 1).toNat + j = xs.length - 1 + j by omega, join_at hs (by omega)]
  refine ⟨p1, e1, p2, e2, ?_⟩
  have f1 := part_lenI p1
  have f2 := part_lenI p2
  rw [e1] at f1
  rw [e2] at f2
  rw [f1, f2, lenI_of hj (Int.le_refl 0) (by omega) (by omega), lenI_of hj (Int.le_refl 0) (by omega) (by omega), lenI_of hj (by omega) (by omega) (by omega)]
  rw [show (0 : Int).toNat = 0 from rfl, Nat.sub_zero, Nat.sub_zero]
  obtain ⟨m, hm⟩ : ∃ m, xs.length = m + 1 := ⟨xs.length - 1, by omega⟩
  obtain ⟨n, hn⟩ : ∃ n, ys.length = n + 1 := ⟨ys.length - 1, by omega⟩
  rw [hm, hn, show ((m + 1 : Nat) : Int) - 1 = (m : Int) by omega, show ((n + 1 : Nat) : Int) - 1 = (n : Int) by omega, show ((m : Int) + (n : Int)).toNat = m + n by omega, show (m : Int).toNat = m by omega, show m + n - m = n by omega]
  have : ∀ b, lenTo (xs ++ ys.tail) 0 (m + b) = lenTo (xs ++ ys.tail) 0 m + lenTo (xs ++ ys.tail) m b := by
    intro b
    induction b with
    | zero => simp [lenTo_zero]
    | succ b ih => rw [show m + (b + 1) = (m + b) + 1 by omega, lenTo_succ, lenTo_succ, ih, Nat.zero_add]; omega
  exact this n
theorem lenI_bd {zs : List Int} (hv : validB zs = true) {x y : Int} (h0 : 0 ≤ x) (h1 : x ≤ y) (h2 : y < zs.length) : 0 ≤ floorLengthI zs x y ∧ floorLengthI zs x y ≤ 1000 := by
  rw [lenI_of hv h0 h1 h2]
  have := lenTo_bd hv x.toNat (y.toNat - x.toNat) (by omega)
  have := validB_true hv
  omega

/-! ### a floor from its other end -/
theorem back_yes {zs : List Int} (h : validB zs = true) : floorBackL zs = zs.reverse := by unfold floorBackL; rw [if_pos h]
theorem rev_at {zs : List Int} {j : Nat} (h : j < zs.length) : zs.reverse[j]?.getD 0 = zs[zs.length - 1 - j]?.getD 0 := by
  rw [List.getElem?_reverse h]
theorem back_valid {zs : List Int} (h : validB zs = true) : validB zs.reverse = true := by
  have hv := validB_true h
  refine valid_of (by rw [List.length_reverse]; omega) (by rw [List.length_reverse]; omega) fun j hj => ?_
  rw [List.length_reverse] at hj
  rw [rev_at hj]
  exact hv.2.2 _ (by omega)
theorem back_need {zs : List Int} {j : Nat} (h : j + 1 < zs.length) : needAt zs.reverse j = needAt zs (zs.length - 2 - j) := by
  unfold needAt
  rw [rev_at (by omega), rev_at (by omega), show zs.length - 1 - (j + 1) = zs.length - 2 - j by omega, show zs.length - 1 - j = zs.length - 2 - j + 1 by omega]
  omega
theorem back_needs {zs : List Int} (h : validB zs = true) : floorNeedsL zs.reverse = (floorNeedsL zs).reverse := by
  unfold floorNeedsL
  rw [if_pos h, if_pos (back_valid h)]
  unfold needsL
  apply list_eq_at
  · rw [needsTo_length, List.length_reverse, List.length_reverse, needsTo_length]
  · intro j hj
    rw [List.length_reverse, needsTo_length] at hj
    rw [List.length_reverse, List.getElem?_reverse (by rw [needsTo_length]; omega), needsTo_length]
    unfold needsTo
    simp only [List.getElem?_map, List.getElem?_range (show j < zs.length - 1 by omega), List.getElem?_range (show zs.length - 1 - 1 - j < zs.length - 1 by omega), Option.map_some, Option.getD_some]
    rw [back_need (by omega)]
    congr 1
end Go.Proofs.Ytndpdoiomoefpaa
