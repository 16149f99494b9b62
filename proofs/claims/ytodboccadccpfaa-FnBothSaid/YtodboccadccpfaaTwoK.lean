/-
  Boxes of structs of two ints, kept and written.
-/
import Derived.Test.YtodboccadccpfaaRatio
namespace Go.Proofs.Ytodboccadccpfaa
open Go.RowKit

/-- boxes of structs, kept -/
theorem TwoAt.go {t : TypeId} {W W' : World} {b : Nat} {x y : Int} (h : TwoAt t W b x y) (hb : Below W.heap.size W W') : TwoAt t W' b x y := h.below hb (Array.getElem?_eq_some_iff.1 h).1
theorem TwoAt.grown {t : TypeId} {W W' : World} {b : Nat} {x y : Int} (h : TwoAt t W b x y) {row : Option Nat} (hg : W.grownBy W' row) (hr : ∀ r, row = some r → b ≠ r) : TwoAt t W' b x y :=
  (hg.block b (Array.getElem?_eq_some_iff.1 h).1 (fun e => hr b e.symm rfl)).trans h

/-- a box of two ints is written -/
theorem two_grown (W : World) (b : Nat) (u v : Value) : W.grownBy ((W.setCell ⟨b, 0, none⟩ u).setCell ⟨b, 1, none⟩ v) (some b) := by
  refine ⟨rfl, rfl, rfl, by simp [World.setCell], fun k _ hne => ?_⟩
  have hk : k ≠ b := fun e => hne (by rw [e])
  exact (Below.heap_setCell _ ⟨b, 1, none⟩ v k hk).trans (Below.heap_setCell W ⟨b, 0, none⟩ u k hk)
theorem TwoAt.wr {t : TypeId} {W : World} {b : Nat} {x y : Int} (_h : TwoAt t W b x y) (u v : Value) : W.grownBy ((W.setCell ⟨b, 0, none⟩ u).setCell ⟨b, 1, none⟩ v) (some b) := two_grown W b u v
theorem set_keeps {t : TypeId} {W : World} {b b2 : Nat} {x y : Int} (h : TwoAt t W b x y) (hne : b ≠ b2) (u v : Value) :
    ((W.setCell ⟨b2, 0, none⟩ u).setCell ⟨b2, 1, none⟩ v).cell? ⟨b, 0, none⟩ = some (.int .i64 x) ∧ ((W.setCell ⟨b2, 0, none⟩ u).setCell ⟨b2, 1, none⟩ v).cell? ⟨b, 1, none⟩ = some (.int .i64 y) := by
  have h2 := h.grown (two_grown W b2 u v) (fun r e => by cases e; exact hne)
  exact ⟨h2.c0, h2.c1⟩
theorem set_keeps1 {t : TypeId} {W : World} {b b2 : Nat} {x y : Int} (h : TwoAt t W b x y) (hne : b ≠ b2) (u : Value) :
    (W.setCell ⟨b2, 0, none⟩ u).cell? ⟨b, 0, none⟩ = some (.int .i64 x) ∧ (W.setCell ⟨b2, 0, none⟩ u).cell? ⟨b, 1, none⟩ = some (.int .i64 y) := by
  have hb : (W.setCell ⟨b2, 0, none⟩ u).heap[b]? = W.heap[b]? := Below.heap_setCell W ⟨b2, 0, none⟩ u b hne
  have h2 : TwoAt t (W.setCell ⟨b2, 0, none⟩ u) b x y := hb.trans h
  exact ⟨h2.c0, h2.c1⟩

end Go.Proofs.Ytodboccadccpfaa
