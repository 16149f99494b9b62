/-
  BreakRange of the program: its callback, and the whole.
-/
import Derived.Test.YtodboccadccpfaaEach
import Derived.Test.YtodboccadccpfaaCabV
import Derived.RangeFuncBox
import Derived.BigQuiet
namespace Go.Proofs.Ytodboccadccpfaa
open Go.RowKit

/-! ### the miles at which a cable can be broken -/
def rgTo (r : Nat → Int) (a e : Int) : Nat → Option (Nat × Nat)
  | 0 => none
  | k + 1 => if inB (a - r k) 0 e then some ((rgTo r a e k).elim k (·.1), k) else rgTo r a e k
theorem rgTo_yes {r : Nat → Int} {a e : Int} {k : Nat} (h : inB (a - r k) 0 e = true) : rgTo r a e (k + 1) = some ((rgTo r a e k).elim k (·.1), k) := by rw [rgTo, if_pos h]
theorem rgTo_no {r : Nat → Int} {a e : Int} {k : Nat} (h : inB (a - r k) 0 e = false) : rgTo r a e (k + 1) = rgTo r a e k := by
  rw [rgTo, if_neg]
  rw [h]
  exact Bool.false_ne_true
def rgL (o : Option (Nat × Nat)) : Int := o.elim 0 (fun x => (x.1 : Int))
def rgH (o : Option (Nat × Nat)) : Int := o.elim 0 (fun x => (x.2 : Int))

theorem boxed_far {W : World} {B b : Nat} {t : TypeId} {v : Value} (h : Boxed W B t v) (hne : B ≠ b) (u : Value) : Boxed (W.setCell ⟨b, 0, none⟩ u) B t v :=
  h.kept (grownBy_setCell' W b u) (by simpa using hne)
theorem boxed_drewN {W : World} {B : Nat} {t : TypeId} {v : Value} (h : Boxed W B t v) (n : Nat) : Boxed (W.drewN n) B t v := h
theorem boxed_below {B b : Nat} {W W' : World} {t : TypeId} {v : Value} (h : Boxed W b t v) (hb : Below B W W') (hB : b < B) : Boxed W' b t v := (hb.block b hB).trans h
theorem KSec.refl (W : World) : KSec W W := fun _ _ h => h
theorem KSec.trans {a b c : World} (h : KSec a b) (k : KSec b c) : KSec a c := fun D s hd => k D s (h D s hd)
theorem KSec.set {W W' : World} {b : Nat} {t : TypeId} {v : Value} (h : KSec W W') (hb : Boxed W' b t v) (u : Value) : KSec W (W'.setCell ⟨b, 0, none⟩ u) := fun D s hd => by
  have h1 := h D s hd
  refine (Below.heap_setCell W' ⟨b, 0, none⟩ u D ?_).trans h1
  rintro rfl
  unfold SecBlk at h1
  unfold Boxed at hb
  rw [hb] at h1
  simp at h1
theorem KSec.below {W W' : World} (h : Below W.heap.size W W') : KSec W W' := fun D _ hd => (h.block D (Array.getElem?_eq_some_iff.1 hd).1).trans hd

/-- what the callback's boxes hold -/
structure BrkAt (W : World) (bm be bf bl bg : Nat) (a e : Int) (o : Option (Nat × Nat)) : Prop where
  m : Boxed W bm 3 (.int .i64 a)
  e : Boxed W be 3 (.int .i64 e)
  f : Boxed W bf 4 (.bool o.isSome)
  l : Boxed W bl 3 (.int .i64 (rgL o))
  g : Boxed W bg 3 (.int .i64 (rgH o))
theorem BrkAt.alloc {W : World} {bm be bf bl bg : Nat} {a e : Int} {o : Option (Nat × Nat)} (h : BrkAt W bm be bf bl bg a e o) (ob : Obj) : BrkAt (W.alloc ob) bm be bf bl bg a e o :=
  ⟨h.m.alloc _, h.e.alloc _, h.f.alloc _, h.l.alloc _, h.g.alloc _⟩

/-- what BreakRange hands back -/
def rangeO (ss : List Sec) (a e : Int) : Option (Nat × Nat) := if cabB ss && decide (0 ≤ a) && inB e 0 1000 then rgTo (rN ss) a e (mN ss + 1) else none
def rangeV (ss : List Sec) (a e : Int) : Value := .tuple #[.int .i64 (rgL (rangeO ss a e)), .int .i64 (rgH (rangeO ss a e)), .bool (rangeO ss a e).isSome]
theorem rangeV_no {ss : List Sec} {a e : Int} (h : (cabB ss && decide (0 ≤ a) && inB e 0 1000) = false) : rangeV ss a e = .tuple #[.int .i64 0, .int .i64 0, .bool false] := by unfold rangeV rangeO; rw [h]; rfl
theorem rangeO_yes {ss : List Sec} {a e : Int} (h : cabB ss = true) (h2 : 0 ≤ a) (h3 : inB e 0 1000 = true) : rangeO ss a e = rgTo (rN ss) a e (mN ss + 1) := by unfold rangeO; rw [h, h3]; simp [h2]

end Go.Proofs.Ytodboccadccpfaa
