/-
  Mathematics of traffic: all sides in the order of their numbers, the first one with the least cut. Nothing here speaks of the program.
-/
import Derived.Test.YtnekjhpocfdpnaaTfC
namespace Go.Proofs.Ytnekjhpocfdpnaa

/-- the last digits of a number in the binary system, the units first -/
def digs (m num : Nat) : List Int := (List.range m).map (fun p => ((num / 2 ^ p % 2 : Nat) : Int))
theorem digs_len (m num : Nat) : (digs m num).length = m := by simp [digs]
theorem digs_at {m num p : Nat} (h : p < m) : (digs m num)[p]? = some ((num / 2 ^ p % 2 : Nat) : Int) := by simp [digs, h]
theorem digs_01 {m num : Nat} : ∀ x ∈ digs m num, x = 0 ∨ x = 1 := by
  intro x hx
  unfold digs at hx
  obtain ⟨p, _, rfl⟩ := List.mem_map.1 hx
  omega
theorem digs_succ (m num : Nat) : digs (m + 1) num = ((num % 2 : Nat) : Int) :: digs m (num / 2) := by
  unfold digs
  rw [List.range_succ_eq_map, List.map_cons, List.map_map]
  congr 1
  · simp
  · apply List.map_congr_left
    intro p _
    simp only [Function.comp, Nat.succ_eq_add_one, Nat.pow_succ]
    rw [Nat.mul_comm (2 ^ p) 2, Nat.div_div_eq_div_mul]
theorem digs_take {m num k : Nat} (h : k < m) : (digs m num).take (k + 1) = (digs m num).take k ++ [((num / 2 ^ k % 2 : Nat) : Int)] := by
  have hk : k < (digs m num).length := by rw [digs_len]; exact h
  rw [List.take_succ_eq_append_getElem hk]
  congr 1
  have := digs_at (num := num) h
  rw [List.getElem?_eq_getElem hk] at this
  rw [Option.some.inj this]
/-- each side has its number -/
theorem digs_all : ∀ (m : Nat) (S : List Int), S.length = m → (∀ x ∈ S, x = 0 ∨ x = 1) → ∃ num, num < 2 ^ m ∧ digs m num = S
  | 0, S, hl, _ => ⟨0, by simp, by rw [List.length_eq_zero_iff.1 hl]; rfl⟩
  | m + 1, [], hl, _ => by simp at hl
  | m + 1, s :: S, hl, h => by
    obtain ⟨num, h1, h2⟩ := digs_all m S (by simpa using hl) (fun x hx => h x (by simp [hx]))
    rcases h s (by simp) with rfl | rfl
    · refine ⟨2 * num, by rw [Nat.pow_succ]; omega, ?_⟩
      rw [digs_succ, show 2 * num % 2 = 0 by omega, show 2 * num / 2 = num by omega, h2]; rfl
    · refine ⟨2 * num + 1, by rw [Nat.pow_succ]; omega, ?_⟩
      rw [digs_succ, show (2 * num + 1) % 2 = 1 by omega, show (2 * num + 1) / 2 = num by omega, h2]; rfl
set_option maxRecDepth 100000 in
theorem first_side : ∀ m : Fin 7, ∀ f : Fin 6, ∀ t : Fin 6, f.val < m.val → t.val < m.val → f ≠ t → sideB (m.val : Int) (f.val : Int) (t.val : Int) (digs m.val (2 ^ f.val)) = true := by decide +kernel

/-- the sides of the first k numbers -/
def lcTo (n : Int) (N : List Lin) (f t : Int) (m k : Nat) : List (List Int) := ((List.range k).map (digs m)).filter (fun S => decide (0 ≤ cutV n N f t S))
theorem lcTo_zero (n : Int) (N : List Lin) (f t : Int) (m : Nat) : lcTo n N f t m 0 = [] := rfl
theorem lcTo_yes {n : Int} {N : List Lin} {f t : Int} {m k : Nat} (h : 0 ≤ cutV n N f t (digs m k)) : lcTo n N f t m (k + 1) = lcTo n N f t m k ++ [digs m k] := by
  unfold lcTo
  rw [List.range_succ, List.map_append, List.filter_append]
  simp [h]
theorem lcTo_no {n : Int} {N : List Lin} {f t : Int} {m k : Nat} (h : ¬ 0 ≤ cutV n N f t (digs m k)) : lcTo n N f t m (k + 1) = lcTo n N f t m k := by
  unfold lcTo
  rw [List.range_succ, List.map_append, List.filter_append]
  simp [h]
/-- THE LEAST CUT -/
def lcV (n : Int) (N : List Lin) (f t : Int) : List Int := if endB n N f t then (bst (cutV n N f t) (lcTo n N f t n.toNat (2 ^ n.toNat))).getD [] else []
section
variable {n : Int} {N : List Lin} {f t : Int}
theorem lcV_no (h : endB n N f t = false) : lcV n N f t = [] := by unfold lcV; rw [h]; rfl
theorem lc_some (h : endB n N f t = true) : ∃ x, bst (cutV n N f t) (lcTo n N f t n.toNat (2 ^ n.toNat)) = some x := by
  obtain ⟨m, rfl, hm, hf, ht, hft⟩ := ends_nat h
  rw [Int.toNat_natCast]
  apply bst_some
  intro e
  have h1 := first_side ⟨m, by omega⟩ ⟨f.toNat, by omega⟩ ⟨t.toNat, by omega⟩ (by simp only; omega) (by simp only; omega) (by simp only [ne_eq, Fin.mk.injEq]; omega)
  simp only [Int.toNat_of_nonneg hf.1, Int.toNat_of_nonneg ht.1] at h1
  have h2 : digs m (2 ^ f.toNat) ∈ lcTo (m : Int) N f t m (2 ^ m) := by
    unfold lcTo
    refine List.mem_filter.2 ⟨List.mem_map.2 ⟨2 ^ f.toNat, List.mem_range.2 (Nat.pow_lt_pow_right (by omega) (by omega)), rfl⟩, ?_⟩
    rw [decide_eq_true_eq, cutV_nonneg]
    exact ⟨h, h1⟩
  rw [e] at h2
  simp at h2
theorem lcV_bst (h : endB n N f t = true) {x : List Int} (hx : bst (cutV n N f t) (lcTo n N f t n.toNat (2 ^ n.toNat)) = some x) : lcV n N f t = x := by unfold lcV; rw [if_pos h, hx]; rfl
theorem lc_mem {m k : Nat} {x : List Int} (h : x ∈ lcTo n N f t m k) : x.length = m ∧ 0 ≤ cutV n N f t x := by
  unfold lcTo at h
  obtain ⟨h1, h2⟩ := List.mem_filter.1 h
  obtain ⟨num, _, rfl⟩ := List.mem_map.1 h1
  exact ⟨digs_len _ _, of_decide_eq_true h2⟩
/-- it is a side -/
theorem lcV_side (h : endB n N f t = true) : sideB n f t (lcV n N f t) = true ∧ 0 ≤ cutV n N f t (lcV n N f t) := by
  obtain ⟨x, hx⟩ := lc_some h
  rw [lcV_bst h hx]
  have h1 := (lc_mem (bst_mem hx)).2
  exact ⟨(cutV_nonneg.1 h1).2, h1⟩
theorem lcV_len (n : Int) (N : List Lin) (f t : Int) : (lcV n N f t).length ≤ 6 := by
  cases h : endB n N f t
  · rw [lcV_no h]; simp
  · obtain ⟨m, rfl, hm, _⟩ := ends_nat h
    have := (sideB_true.1 (lcV_side h).1).1
    omega
/-- NO SIDE HAS A LESSER CUT -/
theorem lcV_le (h : endB n N f t = true) {S : List Int} (hS : 0 ≤ cutV n N f t S) : cutV n N f t (lcV n N f t) ≤ cutV n N f t S := by
  obtain ⟨x, hx⟩ := lc_some h
  rw [lcV_bst h hx]
  refine bst_le hx S ?_
  have h1 := (cutV_nonneg.1 hS).2
  obtain ⟨h2, h3, _, _⟩ := sideB_true.1 h1
  obtain ⟨num, h4, h5⟩ := digs_all n.toNat S (by omega) h3
  unfold lcTo
  exact List.mem_filter.2 ⟨List.mem_map.2 ⟨num, List.mem_range.2 h4, h5⟩, decide_eq_true hS⟩
end

end Go.Proofs.Ytnekjhpocfdpnaa
