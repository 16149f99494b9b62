/-
  The other ship's least tanks, used tanks, the most in one tank: the mathematics of P53, P56 and P59. Nothing here speaks of the program.
-/
import Derived.Test.YtodboccadccpfaaTkL
namespace Go.Proofs.Ytodboccadccpfaa
open Go.RowKit

/-- a row of coils of which no two agree needs as many tanks -/
theorem chain_le {L : List Int} (h : ordB L = true) {c : List Nat} (hc : c.Pairwise fun a b => a < b ∧ L[a]?.getD 0 < L[b]?.getD 0) (hl : ∀ x ∈ c, x < L.length) : c.length ≤ cntN L := by
  have h2 := nodup_len (A := c.map fun j => (stN L j : Int)) (B := (List.range (cntN L)).map fun (j : Nat) => (j : Int)) (by
      unfold List.Nodup
      rw [List.pairwise_map]
      refine List.Pairwise.imp_of_mem ?_ hc
      intro a b ha hb hab e
      have := st_lt h hab.1 (hl b hb) hab.2
      omega) (fun x hx => by
      obtain ⟨j, hj, rfl⟩ := List.mem_map.1 hx
      exact List.mem_map.2 ⟨stN L j, List.mem_range.2 (st_max h (hl j hj)), rfl⟩)
  simpa using h2
theorem back_at {L : List Int} (h : ordB L = true) {i : Nat} (hi : i < L.length) {p : Nat} (hp : (L.length : Int) - 1 - L[i]?.getD 0 = p) : (backL L)[p]?.getD 0 = (L.length : Int) - 1 - i := by
  have h1 := ord_at h hi
  rw [backL_at L (by omega), inv_of h hi (k := L.length - 1 - p) (by omega) (by omega)]
/-- BACK AND BACK IS AS IT WAS -/
theorem back_back {L : List Int} (h : ordB L = true) : backL (backL L) = L := by
  apply List.ext_getElem (by rw [backL_len, backL_len])
  intro k h1 h2
  have h4 : (backL (backL L))[k]?.getD 0 = L[k]?.getD 0 := by
    have h3 := ord_at h h2
    obtain ⟨p, hp⟩ : ∃ p : Nat, (L.length : Int) - 1 - L[k]?.getD 0 = p := ⟨((L.length : Int) - 1 - L[k]?.getD 0).toNat, by omega⟩
    rw [backL_at _ (by rw [backL_len]; exact h2), backL_len,
      inv_of (back_ord h) (j := p) (k := L.length - 1 - k) (by rw [backL_len]; omega) (by rw [backL_len]; omega) (by rw [back_at h h2 hp]; omega)]
    omega
  rw [getD_at h1, getD_at h2] at h4
  exact h4
theorem back_cnt_le {L : List Int} (h : ordB L = true) : cntN L ≤ cntN (backL L) := by
  obtain ⟨h1, _⟩ := lgO_chain (L := L) L.length (Nat.le_refl _)
  have h2 := chain_le (back_ord h) (c := ((lgO L L.length).map fun i => L.length - 1 - (L[i]?.getD 0).toNat).reverse) (by
    rw [List.pairwise_reverse, List.pairwise_map]
    refine List.Pairwise.imp_of_mem ?_ h1
    intro a b ha hb hab
    have la := lgO_lt L _ a ha
    have lb := lgO_lt L _ b hb
    have ea := ord_at h la
    have eb := ord_at h lb
    rw [back_at h la (p := L.length - 1 - (L[a]?.getD 0).toNat) (by omega), back_at h lb (p := L.length - 1 - (L[b]?.getD 0).toNat) (by omega)]
    omega) (fun x hx => by
      rw [List.mem_reverse] at hx
      obtain ⟨i, hi, rfl⟩ := List.mem_map.1 hx
      have := ord_at h (lgO_lt L _ i hi)
      rw [backL_len]
      omega)
  rw [List.length_reverse, List.length_map, lgO_full h] at h2
  exact h2
/-- THE OTHER SHIP NEEDS AS MANY TANKS -/
theorem back_cnt {L : List Int} (h : ordB L = true) : cntN (backL L) = cntN L :=
  Nat.le_antisymm (by have := back_cnt_le (back_ord h); rw [back_back h] at this; exact this) (back_cnt_le h)

/-! ### used tanks -/
theorem usedK_filter (T : List Int) (k : Nat) : ∀ m, usedK T k m = ((List.range m).filter fun t => decide (0 < cnt T (t : Nat) k)).length
  | 0 => rfl
  | m + 1 => by
    rw [usedK, usedK_filter T k m, List.range_succ, List.filter_append, List.length_append]
    by_cases h : 0 < cnt T m k
    · rw [if_pos h, List.filter_cons_of_pos (by simpa using h)]
      rfl
    · rw [if_neg h, List.filter_cons_of_neg (by simpa using h)]
      rfl
theorem used_least {L T : List Int} (h : stowB L T = true) : cntN L ≤ usedK T T.length 5 := by
  have ho := stow_ord h
  have hlen := stow_len h
  obtain ⟨h1, _⟩ := lgO_chain (L := L) L.length (Nat.le_refl _)
  have h2 := nodup_len (A := (lgO L L.length).map fun j => T[j]?.getD 0) (B := ((List.range 5).filter fun t => decide (0 < cnt T (t : Nat) T.length)).map fun (j : Nat) => (j : Int)) (by
      unfold List.Nodup
      rw [List.pairwise_map]
      refine List.Pairwise.imp_of_mem ?_ h1
      intro a b ha hb hab e
      have := (stowB_true.1 h).2 b (lgO_lt L _ b hb) a hab.1 e.symm
      omega) (fun x hx => by
      obtain ⟨j, hj, rfl⟩ := List.mem_map.1 hx
      have hjl := lgO_lt L _ j hj
      have h3 := stow_at h hjl
      refine List.mem_map.2 ⟨(T[j]?.getD 0).toNat, List.mem_filter.2 ⟨List.mem_range.2 (by omega), decide_eq_true ?_⟩, by omega⟩
      exact (cnt_pos T _ _).2 ⟨j, by omega, by omega⟩)
  rw [List.length_map, List.length_map, ← usedK_filter, lgO_full ho] at h2
  exact h2
theorem most_ge (T : List Int) : ∀ m t : Nat, t < m → cnt T t T.length ≤ mostK T m
  | 0, _, h => absurd h (by omega)
  | m + 1, t, h => by
    rw [mostK]
    rcases Nat.lt_or_ge t m with h1 | h1
    · have := most_ge T m t h1
      omega
    · obtain rfl : t = m := by omega
      omega
theorem sum_one {x : Int} (h0 : 0 ≤ x) (h4 : x ≤ 4) : sumN (fun t : Nat => if x = (t : Int) then 1 else 0) 5 = 1 := by
  rcases (show x = 0 ∨ x = 1 ∨ x = 2 ∨ x = 3 ∨ x = 4 by omega) with rfl | rfl | rfl | rfl | rfl <;> decide
theorem sum_cnt {T : List Int} (h : ∀ j, j < T.length → 0 ≤ T[j]?.getD 0 ∧ T[j]?.getD 0 ≤ 4) : ∀ k, k ≤ T.length → sumN (fun t => cnt T (t : Nat) k) 5 = k
  | 0, _ => sumN_zero 5
  | k + 1, hk => by
    have h1 := h k (by omega)
    have h2 := sum_cnt h k (by omega)
    rw [show (fun t : Nat => cnt T (t : Nat) (k + 1)) = fun t : Nat => cnt T (t : Nat) k + (if T[k]?.getD 0 = (t : Int) then 1 else 0) from rfl, sumN_add, h2, sum_one h1.1 h1.2]
theorem sum_used (T : List Int) (M : Nat) : ∀ m, (∀ t : Nat, t < m → cnt T t T.length ≤ M) → sumN (fun t => cnt T (t : Nat) T.length) m ≤ usedK T T.length m * M
  | 0, _ => Nat.zero_le _
  | m + 1, h => by
    have h1 := sum_used T M m (fun t ht => h t (by omega))
    have h2 := h m (by omega)
    rw [sumN, usedK, Nat.add_mul]
    split
    · omega
    · omega
/-- AS MANY COILS AS THE TANKS THAT ARE USED HOLD AT THE MOST -/
theorem used_most {L T : List Int} (h : stowB L T = true) : L.length ≤ usedK T T.length 5 * mostK T 5 := by
  have hlen := stow_len h
  have h1 := sum_cnt (T := T) (fun j hj => stow_at h (by omega)) T.length (Nat.le_refl _)
  have h2 := sum_used T (mostK T 5) 5 (fun t ht => most_ge T 5 t ht)
  omega
theorem most_zero {L T : List Int} (h : stowB L T = true) : mostK T 5 = 0 ↔ L.length = 0 := by
  have h1 := used_most h
  have h2 := mostK_le T 5
  have h3 := stow_len h
  constructor
  · intro e
    rw [e] at h1
    omega
  · intro e
    omega

end Go.Proofs.Ytodboccadccpfaa
