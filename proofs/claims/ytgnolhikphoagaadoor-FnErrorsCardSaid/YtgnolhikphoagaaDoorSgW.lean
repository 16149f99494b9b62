/-
  Plain mathematics of SignalWide. Nothing here speaks of the program.
-/
import Derived.Test.YtgnolhikphoagaaDoorSgV
namespace Go.Proofs.YtgnolhikphoagaaDoor

/-- the least and the greatest of the first k numbers and 0 -/
def lowT (L : List Int) : Nat → Int
  | 0 => 0
  | k + 1 => min (lowT L k) (L[k]?.getD 0)
def highT (L : List Int) : Nat → Int
  | 0 => 0
  | k + 1 => max (highT L k) (L[k]?.getD 0)
theorem lowT_succ (L : List Int) {k : Nat} (h : k < L.length) : lowT L (k + 1) = min (lowT L k) L[k] := by
  show min _ _ = _
  rw [List.getElem?_eq_getElem h]; rfl
theorem highT_succ (L : List Int) {k : Nat} (h : k < L.length) : highT L (k + 1) = max (highT L k) L[k] := by
  show max _ _ = _
  rw [List.getElem?_eq_getElem h]; rfl
theorem lowT_le (L : List Int) (k : Nat) (h : ∀ x ∈ L, -80 ≤ x ∧ x ≤ 80) : -80 ≤ lowT L k ∧ lowT L k ≤ 0 := by
  induction k with
  | zero => exact ⟨by show (-80 : Int) ≤ 0; omega, Int.le_refl _⟩
  | succ k ih =>
    show -80 ≤ min (lowT L k) (L[k]?.getD 0) ∧ min (lowT L k) (L[k]?.getD 0) ≤ 0
    cases hx : L[k]? with
    | none => simp only [Option.getD_none]; omega
    | some x =>
      have := h x (List.mem_of_getElem? hx)
      simp only [Option.getD_some]
      omega
theorem highT_le (L : List Int) (k : Nat) (h : ∀ x ∈ L, -80 ≤ x ∧ x ≤ 80) : 0 ≤ highT L k ∧ highT L k ≤ 80 := by
  induction k with
  | zero => exact ⟨Int.le_refl _, by show (0 : Int) ≤ 80; omega⟩
  | succ k ih =>
    show 0 ≤ max (highT L k) (L[k]?.getD 0) ∧ max (highT L k) (L[k]?.getD 0) ≤ 80
    cases hx : L[k]? with
    | none => simp only [Option.getD_none]; omega
    | some x =>
      have := h x (List.mem_of_getElem? hx)
      simp only [Option.getD_some]
      omega
/-- the drifts behind the first k pulses, that of none ahead -/
def dr0 (l : List UInt8) (k : Nat) : List Int := 0 :: driT l k
theorem dr0_len (l : List UInt8) (k : Nat) : (dr0 l k).length = k + 1 := by simp [dr0, driT_len]
theorem dr0_succ (l : List UInt8) (k : Nat) : dr0 l (k + 1) = dr0 l k ++ [driV (l.take (k + 1))] := by simp [dr0, driT_succ]
theorem driT_le (l : List UInt8) (k : Nat) (h : l.length ≤ 80) : ∀ x ∈ driT l k, -80 ≤ x ∧ x ≤ 80 := by
  intro x hx
  unfold driT at hx
  obtain ⟨i, _, rfl⟩ := List.mem_map.1 hx
  have h1 := driV_le (l.take (i + 1))
  have h2 : (l.take (i + 1)).length ≤ l.length := List.length_take_le' _ _
  omega
theorem dr0_le (l : List UInt8) (k : Nat) (h : l.length ≤ 80) : ∀ x ∈ dr0 l k, -80 ≤ x ∧ x ≤ 80 := by
  intro x hx
  rcases List.mem_cons.1 hx with rfl | hx
  · omega
  · exact driT_le l k h x hx
def widV (l : List UInt8) : Int := if sigB l then highT (dr0 l l.length) (dr0 l l.length).length - lowT (dr0 l l.length) (dr0 l l.length).length else -1
theorem widV_no {l : List UInt8} (h : sigB l = false) : widV l = -1 := by unfold widV; rw [h]; rfl
theorem widV_yes {l : List UInt8} (h : sigB l = true) : widV l = highT (dr0 l l.length) (dr0 l l.length).length - lowT (dr0 l l.length) (dr0 l l.length).length := by unfold widV; rw [if_pos h]
theorem lowT_app (L M : List Int) : ∀ k, k ≤ L.length → lowT (L ++ M) k = lowT L k
  | 0, _ => rfl
  | k + 1, h => by
    show min (lowT (L ++ M) k) ((L ++ M)[k]?.getD 0) = min (lowT L k) (L[k]?.getD 0)
    rw [lowT_app L M k (by omega), List.getElem?_append_left (by omega)]
theorem highT_app (L M : List Int) : ∀ k, k ≤ L.length → highT (L ++ M) k = highT L k
  | 0, _ => rfl
  | k + 1, h => by
    show max (highT (L ++ M) k) ((L ++ M)[k]?.getD 0) = max (highT L k) (L[k]?.getD 0)
    rw [highT_app L M k (by omega), List.getElem?_append_left (by omega)]
theorem if_min (p x : Int) : (if x < p then x else p) = min p x := by
  rw [Int.min_def]; split <;> split <;> omega
theorem if_max (p x : Int) : (if p < x then x else p) = max p x := by
  rw [Int.max_def]; split <;> split <;> omega

end Go.Proofs.YtgnolhikphoagaaDoor
