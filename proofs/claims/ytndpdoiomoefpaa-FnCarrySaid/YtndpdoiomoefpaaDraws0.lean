/-
  What a draw of one floor is; lengths of floors; what the laws keep.
-/
import Derived.Test.YtndpdoiomoefpaaDraw
import Derived.Test.YtndpdoiomoefpaaFirst
import Derived.Test.YtndpdoiomoefpaaPoints
namespace Go.Proofs.Ytndpdoiomoefpaa
open Go.RowKit

/-- WHAT A DRAW OF ONE FLOOR IS: at most 20 ints in new memory, nothing else. -/
def RetDraw (f : Value → Value) (w : World) (e : Ending) (w' : World) : Prop :=
  ∃ B d zs, e = .returned (f (.slice B (zs : List Int).length d)) ∧ zs.length ≤ 20 ∧ Arg w' B d zs ∧ Ow 3 w.heap.size w'.heap.size w' (.slice B zs.length d) zs ∧ Below w.heap.size w w'

theorem draw_below {w w1 w2 : World} {R : Nat} (h1 : Below w.heap.size w w1) (hR : w.heap.size ≤ R) (h2 : w1.grownBy w2 (some R)) : Below w.heap.size w w2 :=
  h1.grown h2 h1.size (by simp; omega)

/-- a floor's length is at least what its deepest point asks -/
theorem lenTo_up (zs : List Int) (f : Nat) : ∀ k, at0 zs (f + k) - at0 zs f + 10 * (k : Int) ≤ lenTo zs f k
  | 0 => by simp [lenTo_zero]
  | k + 1 => by
    have := lenTo_up zs f k
    rw [lenTo_succ]
    have h : at0 zs (f + k + 1) - at0 zs (f + k) + 10 ≤ needAt zs (f + k) := by
      unfold needAt at0
      have := Int.le_max_left (zs[f + k + 1]?.getD 0 - zs[f + k]?.getD 0) (0 - (zs[f + k + 1]?.getD 0 - zs[f + k]?.getD 0))
      omega
    rw [← Nat.add_assoc]
    push_cast
    omega
theorem lenTo_down (zs : List Int) (f : Nat) : ∀ k, at0 zs f - at0 zs (f + k) + 10 * (k : Int) ≤ lenTo zs f k
  | 0 => by simp [lenTo_zero]
  | k + 1 => by
    have := lenTo_down zs f k
    rw [lenTo_succ]
    have h : at0 zs (f + k) - at0 zs (f + k + 1) + 10 ≤ needAt zs (f + k) := by
      unfold needAt at0
      have := Int.le_max_right (zs[f + k + 1]?.getD 0 - zs[f + k]?.getD 0) (0 - (zs[f + k + 1]?.getD 0 - zs[f + k]?.getD 0))
      omega
    rw [← Nat.add_assoc]
    push_cast
    omega
theorem lenTo_split (zs : List Int) (f a : Nat) : ∀ b, lenTo zs f (a + b) = lenTo zs f a + lenTo zs (f + a) b
  | 0 => by simp [lenTo_zero]
  | b + 1 => by
    have := lenTo_split zs f a b
    rw [← Nat.add_assoc, lenTo_succ, lenTo_succ, this, Nat.add_assoc f a b]
    omega
/-- what every world behind the draw keeps: all that was there at the call, and the floor -/
def Kp (w0 : World) (B : Option Addr) (d : Nat) (zs : List Int) (w : World) : Prop := Below w0.heap.size w0 w ∧ Arg w B d zs
theorem Kp.go {w0 w w' : World} {B : Option Addr} {d : Nat} {zs : List Int} (h : Kp w0 B d zs w) (hb : Below w.heap.size w w') : Kp w0 B d zs w' := ⟨below_step h.1 hb, h.2.go hb⟩
theorem Kp.drew {w0 w : World} {B : Option Addr} {d : Nat} {zs : List Int} (h : Kp w0 B d zs w) : Kp w0 B d zs w.drew :=
  h.go (by have r := Below.refl w.heap.size w; exact ⟨r.os, r.tape, r.output, r.size, r.block⟩)
theorem Kp.cell {w0 w : World} {b off d : Nat} {zs : List Int} (h : Kp w0 (some ⟨b, off, none⟩) d zs w) {j : Nat} (hj : j < zs.length) {z : Int} (hz : zs[j]?.getD 0 = z) : w.cell? ⟨b, off + j, none⟩ = some (.int .i64 z) := by
  obtain ⟨_, _, e, _, _, hc⟩ := h.2.rd.at_ hj
  simp only [Option.some.injEq, Addr.mk.injEq, and_true] at e
  obtain ⟨rfl, rfl⟩ := e
  rw [hc, hz]
end Go.Proofs.Ytndpdoiomoefpaa
