/-
  l6Open boxes a reader; frames that grow.
-/
import Derived.Test.YtnekjhpocfdpnaaDrawPick
namespace Go.Proofs.Ytnekjhpocfdpnaa
open Go.RowKit

theorem grown_alloc {a w : World} {row : Option Nat} (h : a.grownBy w row) (o : Obj) : a.grownBy (w.alloc o) row :=
  ⟨h.os, h.tape, h.output, Nat.le_trans h.size (by simp), fun i hi hne => (Below.heap_alloc w o i (Nat.lt_of_lt_of_le hi h.size)).trans (h.block i hi hne)⟩
theorem grown_new {a b c : World} {row row' : Option Nat} (h : a.grownBy b row) (k : b.grownBy c row') (hr : ∀ r, row' = some r → a.heap.size ≤ r) : a.grownBy c row :=
  ⟨k.os.trans h.os, k.tape.trans h.tape, k.output.trans h.output, Nat.le_trans h.size k.size, fun i hi hne => (k.block i (Nat.lt_of_lt_of_le hi h.size) (fun e => by have := hr i e.symm; omega)).trans (h.block i hi hne)⟩

set_option maxRecDepth 100000 in
/-- l6Open boxes a reader at the code's beginning. -/
theorem l6Open_c (A : Option Addr) (n c : Nat) (w : World) (hn : n ≤ 9223372036854775807) (hnc : n ≤ c) (hb : Bytes w.heap.size w A n) :
    Calls Try.prog 24 #[.slice A n c] w fun e w' => ∃ n' c', e = .returned (.pointer (some ⟨w.heap.size, 0, none⟩)) ∧ Reader w' w.heap.size A n' c' 0 ∧ Below w.heap.size w w' ∧ w.heap.size < w'.heap.size := by
  by_cases h : 2000 < n
  · obtain ⟨b, off, rfl, hbw, hc⟩ := hb (by omega)
    have g1 : (2000 : Int) ≤ (c : Int) := by omega
    have hbl : Below w.heap.size w (w.alloc (.cells #[.slice (some ⟨b, off, none⟩) 2000 c, .int .i64 0] 66)) := (Below.refl _ _).alloc (Nat.le_refl _) _
    have HC := Lib.hid hc
    clear hc hb
    go_enter Try.func24, Try.ntmps24
    go_wp2
    go_ret
    refine ⟨2000, c, rfl, ⟨heap_alloc_new w _, by omega, fun _ => ⟨b, off, rfl, hbw, fun j hj => ?_⟩⟩, hbl, by simp⟩
    obtain ⟨v, h0, h1, h2⟩ := HC.out j (by omega)
    exact ⟨v, h0, h1, (hbl.cell (p := ⟨b, off + j, none⟩) hbw).trans h2⟩
  · have HB := Lib.hid hb
    clear hb
    go_enter Try.func24, Try.ntmps24
    go_wp2
    go_ret
    refine ⟨n, c, rfl, ⟨heap_alloc_new w _, by omega, fun hn0 => ?_⟩, (Below.refl _ _).alloc (Nat.le_refl _) _, by simp⟩
    obtain ⟨b, off, rfl, hbw, hc⟩ := HB.out hn0
    refine ⟨b, off, rfl, hbw, fun j hj => ?_⟩
    obtain ⟨v, h0, h1, h2⟩ := hc j hj
    exact ⟨v, h0, h1, (((Below.refl w.heap.size w).alloc (Nat.le_refl _) _).cell (p := ⟨b, off + j, none⟩) hbw).trans h2⟩

end Go.Proofs.Ytnekjhpocfdpnaa
