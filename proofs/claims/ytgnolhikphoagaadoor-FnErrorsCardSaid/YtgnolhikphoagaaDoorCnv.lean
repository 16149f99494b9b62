/-
  string([]byte{x}).
-/
import Derived.Test.YtgnolhikphoagaaDoorSgM
import Derived.Test.YtgnolhikphoagaaDoorMem
import Derived.Test.YtgnolhikphoagaaDoorProg
import Derived.Laws.IdiomStrings
namespace Go.Proofs.YtgnolhikphoagaaDoor
open Go.RowKit

theorem conv1 (W : World) (b c : Nat) (d : Int) (h0 : 0 ≤ d) (h1 : d ≤ 255) (hc : W.cell? ⟨b, 0, none⟩ = some (.int .u8 d)) :
    (convert 22 9 (.slice (some ⟨b, 0, none⟩) 1 c)).run Tryd.prog W = .ok (.string (str [UInt8.ofNat d.toNat])) W := by
  refine run_convert_bytes_back W _ _ 5 ⟨b, 0, none⟩ c [UInt8.ofNat d.toNat] Tryd.underlying22 Tryd.underlying5 Tryd.underlying9 ?_
  intro j hj
  have hj0 : j = 0 := by simpa using hj
  subst hj0
  rw [show (⟨b, 0, none⟩ : Addr).add 0 = ⟨b, 0, none⟩ by unfold Addr.add; split <;> simp_all, hc]
  have e : (UInt8.ofNat d.toNat).toNat = d.toNat := by simp; omega
  simp only [List.getElem_cons_zero, e]
  congr 2
  omega
theorem conv_new (W : World) (d : Int) (h0 : 0 ≤ d) (h1 : d ≤ 255) :
    (convert 22 9 (.slice (some ⟨W.heap.size, 0, none⟩) 1 1)).run Tryd.prog (W.alloc (.cells #[.int .u8 d] 5)) = .ok (.string (str [UInt8.ofNat d.toNat])) (W.alloc (.cells #[.int .u8 d] 5)) :=
  conv1 _ _ _ d h0 h1 (cell_of_row _ _ 0 _ _ _ (heap_alloc_new W _))

end Go.Proofs.YtgnolhikphoagaaDoor
