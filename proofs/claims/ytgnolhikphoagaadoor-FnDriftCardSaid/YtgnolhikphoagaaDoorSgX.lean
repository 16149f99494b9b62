/-
  Plain mathematics of SignalWide by the greatest and the least of a list. Nothing here speaks of the program.
-/
import Derived.Test.YtgnolhikphoagaaDoorSgW
import Derived.Lib.Slices
namespace Go.Proofs.YtgnolhikphoagaaDoor

theorem foldl_max (a b : Int) : ∀ X : List Int, X.foldl max (max a b) = max a (X.foldl max b)
  | [] => rfl
  | x :: X => by
    show X.foldl max (max (max a b) x) = max a (X.foldl max (max b x))
    rw [← foldl_max a (max b x) X]
    congr 1
    omega
theorem foldl_min (a b : Int) : ∀ X : List Int, X.foldl min (min a b) = min a (X.foldl min b)
  | [] => rfl
  | x :: X => by
    show X.foldl min (min (min a b) x) = min a (X.foldl min (min b x))
    rw [← foldl_min a (min b x) X]
    congr 1
    omega
theorem highT_fold (L : List Int) : ∀ k, k ≤ L.length → highT L k = (L.take k).foldl max 0
  | 0, _ => rfl
  | k + 1, h => by
    rw [highT_succ L (by omega), highT_fold L k (by omega), List.take_succ_eq_append_getElem (by omega), List.foldl_append]
    rfl
theorem lowT_fold (L : List Int) : ∀ k, k ≤ L.length → lowT L k = (L.take k).foldl min 0
  | 0, _ => rfl
  | k + 1, h => by
    rw [lowT_succ L (by omega), lowT_fold L k (by omega), List.take_succ_eq_append_getElem (by omega), List.foldl_append]
    rfl
theorem maxOf_zero (X : List Int) : Lib.maxOf (X ++ [0]) = X.foldl max 0 := by
  unfold Lib.maxOf
  rw [List.foldl_append]
  cases X with
  | nil => rfl
  | cons x X =>
    show max (X.foldl max (max x x)) 0 = X.foldl max (max 0 x)
    rw [foldl_max 0 x X, Int.max_self, Int.max_comm]
theorem minOf_zero (X : List Int) : Lib.minOf (X ++ [0]) = X.foldl min 0 := by
  unfold Lib.minOf
  rw [List.foldl_append]
  cases X with
  | nil => rfl
  | cons x X =>
    show min (X.foldl min (min x x)) 0 = X.foldl min (min 0 x)
    rw [foldl_min 0 x X, Int.min_self, Int.min_comm]
theorem widV_max {l : List UInt8} (h : sigB l = true) : widV l = Lib.maxOf (driT l l.length ++ [0]) - Lib.minOf (driT l l.length ++ [0]) := by
  rw [widV_yes h, highT_fold _ _ (Nat.le_refl _), lowT_fold _ _ (Nat.le_refl _), List.take_length, maxOf_zero, minOf_zero]
  rfl
theorem fold_max_le (X : List Int) (h : ∀ x ∈ X, -80 ≤ x ∧ x ≤ 80) : ∀ a, 0 ≤ a → a ≤ 80 → 0 ≤ X.foldl max a ∧ X.foldl max a ≤ 80 := by
  induction X with
  | nil => intro a h0 h1; exact ⟨h0, h1⟩
  | cons x X ih =>
    intro a h0 h1
    have hx := h x (List.mem_cons_self ..)
    exact ih (fun y hy => h y (List.mem_cons_of_mem _ hy)) (max a x) (by omega) (by omega)
theorem fold_min_le (X : List Int) (h : ∀ x ∈ X, -80 ≤ x ∧ x ≤ 80) : ∀ a, -80 ≤ a → a ≤ 0 → -80 ≤ X.foldl min a ∧ X.foldl min a ≤ 0 := by
  induction X with
  | nil => intro a h0 h1; exact ⟨h0, h1⟩
  | cons x X ih =>
    intro a h0 h1
    have hx := h x (List.mem_cons_self ..)
    exact ih (fun y hy => h y (List.mem_cons_of_mem _ hy)) (min a x) (by omega) (by omega)
theorem maxOf_le (X : List Int) (h : ∀ x ∈ X, -80 ≤ x ∧ x ≤ 80) : 0 ≤ Lib.maxOf (X ++ [0]) ∧ Lib.maxOf (X ++ [0]) ≤ 80 := by
  rw [maxOf_zero]; exact fold_max_le X h 0 (by decide) (by decide)
theorem minOf_le (X : List Int) (h : ∀ x ∈ X, -80 ≤ x ∧ x ≤ 80) : -80 ≤ Lib.minOf (X ++ [0]) ∧ Lib.minOf (X ++ [0]) ≤ 0 := by
  rw [minOf_zero]; exact fold_min_le X h 0 (by decide) (by decide)

end Go.Proofs.YtgnolhikphoagaaDoor
