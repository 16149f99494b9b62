/-
  Strings and own slices of strings.
-/
import Derived.Test.YtgnolhikphoagaaDoorSgM
import Derived.Test.YtgnolhikphoagaaDoorMem
import Derived.Test.YtgnolhikphoagaaDoorProg
import Derived.OwnWalk
import Derived.Laws.AppendOwn
namespace Go.Proofs.YtgnolhikphoagaaDoor
open Go.RowKit

theorem str_info : (Tryd.prog.info? 9).map (fun i => (i.zero, i.size, i.bytes)) = some (some (.string ByteArray.empty), 1, 16) := by kernel_rfl
/-- the cells of a slice of texts -/
def txCells (xs : List (List UInt8)) : List Value := xs.map fun c => Value.string (str c)
theorem txCells_len (xs : List (List UInt8)) : (txCells xs).length = xs.length := by simp [txCells]
theorem txCells_snoc (xs : List (List UInt8)) (y : List UInt8) : txCells (xs ++ [y]) = txCells xs ++ [.string (str y)] := by simp [txCells]
theorem txCells_at (xs : List (List UInt8)) (j : Nat) : (txCells xs)[j]? = (xs[j]?).map fun c => Value.string (str c) := by simp [txCells]
theorem one_str (w : World) (t : TypeId) (x : Value) : ∀ j u, [x][j]? = some u → (w.alloc (.cells #[x] t)).cell? ((⟨w.heap.size, 0, none⟩ : Addr).add j) = some u := by
  intro j u hu
  cases j with
  | zero =>
    simp at hu
    subst hu
    have h : (w.alloc (.cells #[x] t)).heap[w.heap.size]? = some (.cells #[x] t) := heap_alloc_new w _
    rw [show (⟨w.heap.size, 0, none⟩ : Addr).add 0 = ⟨w.heap.size, 0, none⟩ from rfl]
    exact cell_of_row _ _ 0 #[x] t (0, 0) h
  | succ j => simp at hu
/-- an own slice of texts, written out -/
theorem ownT_form {W : World} {base : Nat} {e : TypeId} {v : Value} {n : Nat} {xs : List (List UInt8)} (h : W.ownsRow base e 1 v n (txCells xs)) (hn : n = xs.length) :
    (v = .slice none 0 0 ∧ xs = []) ∨ ∃ g cap, v = .slice (some ⟨g, 0, none⟩) xs.length cap ∧ base ≤ g ∧ g < W.heap.size ∧ xs.length ≤ cap ∧ cap ≤ maxLen ∧ ∀ j x, xs[j]? = some x → W.cell? ⟨g, j, none⟩ = some (.string (str x)) := by
  subst hn
  rcases h.2 with ⟨h0, h1⟩ | ⟨g, cap, cur, rfl, hbg, hgg, hnc, hcm, hcs, ht⟩
  · exact .inl ⟨h0, List.length_eq_zero_iff.1 h1⟩
  · refine .inr ⟨g, cap, rfl, hbg, (h.lt g rfl).2, hnc, hcm, fun j x hx => ?_⟩
    have := h.cells (g := g) rfl j (.string (str x)) (by rw [txCells_at, hx]; rfl)
    rwa [show (⟨g, 0, none⟩ : Addr).add j = ⟨g, j, none⟩ by unfold Addr.add; split <;> simp_all] at this
theorem str_empty : (str []).toList.isEmpty = true := by rw [str_list]; rfl
theorem str_full {l : List UInt8} (h : l ≠ []) : (str l).toList.isEmpty = false := by
  rw [str_list]
  cases l with
  | nil => exact absurd rfl h
  | cons x r => rfl
theorem byL_ne (s : ByteArray) (k : Nat) (h : k < s.size) (hk : k ≠ 0) : (byL s).take k ≠ [] := by
  intro e
  have := congrArg List.length e
  rw [List.length_take, byL_len, List.length_nil] at this
  omega
theorem str_data (xs : List (List UInt8)) : (xs.map str).map (·.data.toList) = xs := by
  rw [List.map_map]
  conv => rhs; rw [← List.map_id xs]
  apply List.map_congr_left
  intro x _
  show (str x).data.toList = x
  simp [str]

end Go.Proofs.YtgnolhikphoagaaDoor
