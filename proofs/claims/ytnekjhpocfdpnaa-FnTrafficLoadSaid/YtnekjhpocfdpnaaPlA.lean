/-
  A plan in its own block.
-/
import Derived.Test.YtnekjhpocfdpnaaKeep
import Derived.Test.YtnekjhpocfdpnaaProg
import Derived.RegionTactic
import Derived.BigQuiet
import Derived.Deep.QuietTactic
import Derived.Test.YtnekjhpocfdpnaaMade
namespace Go.Proofs.Ytnekjhpocfdpnaa
open Go.RowKit

/-- A PLAN IN ITS OWN BLOCK -/
def PlAt (W : World) (b : Nat) (p : List Int) : Prop := W.heap[b]? = some (.cells (p.map (Value.int .i64)).toArray 3 (0, 0))
section
variable {W W' : World} {b : Nat} {p : List Int}
theorem PlAt.lt (h : PlAt W b p) : b < W.heap.size := (Array.getElem?_eq_some_iff.1 h).1
theorem PlAt.cell (h : PlAt W b p) {k : Nat} (hk : k < p.length) : W.cell? ⟨b, k, none⟩ = some (.int .i64 (p[k]?.getD 0)) := by
  have := cell_of_row W b k _ _ _ h
  rw [this]
  simp [hk]
theorem PlAt.frozen (h : PlAt W b p) (o : Nat) : W.frozen? ⟨b, o, none⟩ = false := by simp [World.frozen?, show W.heap[b]? = _ from h]
theorem PlAt.set (h : PlAt W b p) (k : Nat) (x : Int) : PlAt (W.setCell ⟨b, k, none⟩ (.int .i64 x)) b (p.set k x) := by
  obtain ⟨hlt, hk⟩ := Array.getElem?_eq_some_iff.1 h
  show (W.heap.modify b _)[b]? = _
  rw [Array.getElem?_eq_getElem (by rw [Array.size_modify]; exact hlt), Array.getElem_modify_self, hk]
  simp only [Option.some.injEq, List.map_set]
  congr 1
  simp
theorem PlAt.keep {P : Nat → Prop} (h : PlAt W b p) (hk : KeepBut P W W') (hp : ¬ P b) : PlAt W' b p := (hk.block b h.lt hp).trans h
theorem PlAt.drewN (h : PlAt W b p) (n : Nat) : PlAt (W.drewN n) b p := h
theorem PlAt.go (h : PlAt W b p) (hb : Below W.heap.size W W') : PlAt W' b p := (hb.block b h.lt).trans h
theorem PlAt.rd (h : PlAt W b p) : Rd 0 W.heap.size W (some ⟨b, 0, none⟩) p := fun _ => ⟨b, 0, rfl, Nat.zero_le _, h.lt, fun j hj => by rw [Nat.zero_add]; exact h.cell hj⟩
theorem PlAt.arg (h : PlAt W b p) (hl : p.length ≤ 2097152) : Arg W (some ⟨b, 0, none⟩) p.length p := ⟨hl, Nat.le_refl _, by unfold maxLen; omega, h.rd⟩
theorem PlAt.of_own {lo n : Nat} (h : W.ownsRow lo 3 1 (.slice (some ⟨b, 0, none⟩) n n) n (p.map (Value.int .i64))) : PlAt W b p ∧ lo ≤ b := by
  rcases h.2 with ⟨h3, _⟩ | ⟨g, cap, cur, e, hg, hgg, hc, hm, hs, ht⟩
  · cases h3
  · injection e with e1 e2 e3
    injection e1 with e1
    injection e1 with e1
    subst e1; subst e3
    refine ⟨?_, hg⟩
    unfold PlAt
    rw [hgg]
    congr 1
    congr 1
    apply Array.toList_inj.1
    rw [← ht, List.take_of_length_le (by simp; omega)]
end
theorem keep_set (W : World) (b o : Nat) (v : Value) : KeepBut (fun x => x = b) W (W.setCell ⟨b, o, none⟩ v) :=
  ⟨rfl, rfl, rfl, by show W.heap.size ≤ (W.heap.modify b _).size; simp, fun k _ hk => Below.heap_setCell _ _ _ k (fun e => hk (by rw [e]))⟩
theorem KeepBut.drewN {P : Nat → Prop} {a w : World} (h : KeepBut P a w) (n : Nat) : KeepBut P a (w.drewN n) := ⟨h.os, h.tape, h.output, h.size, h.block⟩

theorem set_app (u z : List Int) (i : Nat) (x : Int) : (u ++ z).set (u.length + i) x = u ++ z.set i x := by
  rw [List.set_append_right _ _ (by omega), show u.length + i - u.length = i by omega]
end Go.Proofs.Ytnekjhpocfdpnaa
