/-
  A struct of two ints by value: how it is opened, and read again behind the call. And the laws' small functions over faults and ratios.
-/
import Derived.Test.YtleagighkbmapaaRow
import Derived.Test.YtleagighkbmapaaRatio
import Derived.Test.YtleagighkbmapaaBaseFE
import Derived.Lib.SmallJoins
namespace Go.Proofs.Ytleagighkbmapaa
open Go.Joins Go.ChangeShapes Go.WideShapes Go.ChangeAt Go.RowKit

set_option maxRecDepth 100000 in
theorem open_fault {H : Type} {enc : TypeId × Value → H} {W : World} {base : Nat} {v : Value} {d : DataW H} {p : List MemPlace} (hval : Value.okWide Try.prog W .any base 34 v)
    (h : DataW.Trod enc Try.prog W 0 (fun _ => true) true 34 v d p) :
    ∃ f : Flt, v = .agg #[.int .i64 f.m, .int .i64 f.o] ∧ d = .agg [.lit (.int .i64 f.m), .lit (.int .i64 f.o)] ∧ p = [] ∧ (Lit.int .i64 f.m).wf = true ∧ (Lit.int .i64 f.o).wf = true := by
  obtain ⟨v0, v1, y0, y1, n, rfl, rfl, rfl, t0, t1⟩ := open_agg2 Try.underlying34 (by kernel_rfl) (by kernel_rfl) hval h
  obtain ⟨z0, e0, rfl, g0⟩ := DataW.trod_int Try.underlying3 t0
  obtain ⟨z1, e1, rfl, g1⟩ := DataW.trod_int Try.underlying3 t1
  simp at e0 e1
  subst e0
  subst e1
  exact ⟨⟨z0, z1⟩, rfl, rfl, rfl, g0, g1⟩
theorem shut_fault {H : Type} {enc : TypeId × Value → H} {W : World} {base : Nat} {sp : Nat → Bool} {hd : Bool} {f : Flt} (h0 : (Lit.int .i64 f.m).wf = true) (h1 : (Lit.int .i64 f.o).wf = true) :
    DataW.Trod enc Try.prog W base sp hd 34 (.agg #[.int .i64 f.m, .int .i64 f.o]) (.agg [.lit (.int .i64 f.m), .lit (.int .i64 f.o)]) [] :=
  shut_agg2 (y0 := (.lit (.int .i64 f.m), [])) (y1 := (.lit (.int .i64 f.o), [])) Try.underlying34 (by kernel_rfl) (by kernel_rfl) ⟨1, by simp [DataW.trod, Try.underlying3, h0]⟩ ⟨1, by simp [DataW.trod, Try.underlying3, h1]⟩

set_option maxRecDepth 100000 in
theorem open_ratio {H : Type} {enc : TypeId × Value → H} {W : World} {base : Nat} {v : Value} {d : DataW H} {p : List MemPlace} (hval : Value.okWide Try.prog W .any base 57 v)
    (h : DataW.Trod enc Try.prog W 0 (fun _ => true) true 57 v d p) :
    ∃ f : Rat2, v = .agg #[.int .i64 f.t, .int .i64 f.l] ∧ d = .agg [.lit (.int .i64 f.t), .lit (.int .i64 f.l)] ∧ p = [] ∧ (Lit.int .i64 f.t).wf = true ∧ (Lit.int .i64 f.l).wf = true := by
  obtain ⟨v0, v1, y0, y1, n, rfl, rfl, rfl, t0, t1⟩ := open_agg2 Try.underlying57 (by kernel_rfl) (by kernel_rfl) hval h
  obtain ⟨z0, e0, rfl, g0⟩ := DataW.trod_int Try.underlying3 t0
  obtain ⟨z1, e1, rfl, g1⟩ := DataW.trod_int Try.underlying3 t1
  simp at e0 e1
  subst e0
  subst e1
  exact ⟨⟨z0, z1⟩, rfl, rfl, rfl, g0, g1⟩
theorem shut_ratio {H : Type} {enc : TypeId × Value → H} {W : World} {base : Nat} {sp : Nat → Bool} {hd : Bool} {f : Rat2} (h0 : (Lit.int .i64 f.t).wf = true) (h1 : (Lit.int .i64 f.l).wf = true) :
    DataW.Trod enc Try.prog W base sp hd 57 (.agg #[.int .i64 f.t, .int .i64 f.l]) (.agg [.lit (.int .i64 f.t), .lit (.int .i64 f.l)]) [] :=
  shut_agg2 (y0 := (.lit (.int .i64 f.t), [])) (y1 := (.lit (.int .i64 f.l), [])) Try.underlying57 (by kernel_rfl) (by kernel_rfl) ⟨1, by simp [DataW.trod, Try.underlying3, h0]⟩ ⟨1, by simp [DataW.trod, Try.underlying3, h1]⟩

/-! ### given over, compared -/
theorem toFault_c (f : Flt) (w : World) :
    Calls Try.prog 24 #[.agg #[.int .i64 f.m, .int .i64 f.o]] w (RetB (.agg #[.int .i64 f.m, .int .i64 f.o]) w) := by
  go_enter Try.func24, Try.ntmps24
  go_wp2
  exact bodyPost_ret (v := .agg #[.int .i64 f.m, .int .i64 f.o]) (by simp [results, Try.results24, go_sem]) rfl ⟨rfl, ((((Below.refl _ _).alloc (Nat.le_refl _) _).alloc (by simp) _).alloc (by simp; omega) _)⟩
theorem toRatio_c (f : Rat2) (w : World) :
    Calls Try.prog 43 #[.agg #[.int .i64 f.t, .int .i64 f.l]] w (RetB (.agg #[.int .i64 f.t, .int .i64 f.l]) w) := by
  go_enter Try.func43, Try.ntmps43
  go_wp2
  exact bodyPost_ret (v := .agg #[.int .i64 f.t, .int .i64 f.l]) (by simp [results, Try.results43, go_sem]) rfl ⟨rfl, ((((Below.refl _ _).alloc (Nat.le_refl _) _).alloc (by simp) _).alloc (by simp; omega) _)⟩
theorem eqRatio_yes (f : Rat2) (w : World) :
    Calls Try.prog 30 #[.agg #[.int .i64 f.t, .int .i64 f.l], .agg #[.int .i64 f.t, .int .i64 f.l]] w (RetB (.bool true) w) := by
  have g0 : (f.t != f.t) = false := by simp
  have g1 : (f.l != f.l) = false := by simp
  go_enter Try.func30, Try.ntmps30
  go_wp2
  go_ret
  exact ⟨rfl, ((Below.refl _ _).alloc (Nat.le_refl _) _).alloc (by simp) _⟩

/-- boxes of structs, kept -/
theorem TwoAt.go {t : TypeId} {W W' : World} {b : Nat} {x y : Int} (h : TwoAt t W b x y) (hb : Below W.heap.size W W') : TwoAt t W' b x y := h.below hb (Array.getElem?_eq_some_iff.1 h).1
theorem TwoAt.grown {t : TypeId} {W W' : World} {b : Nat} {x y : Int} (h : TwoAt t W b x y) {row : Option Nat} (hg : W.grownBy W' row) (hr : ∀ r, row = some r → b ≠ r) : TwoAt t W' b x y :=
  (hg.block b (Array.getElem?_eq_some_iff.1 h).1 (fun e => hr b e.symm rfl)).trans h

/-- a box of two ints is written -/
theorem two_grown (W : World) (b : Nat) (u v : Value) : W.grownBy ((W.setCell ⟨b, 0, none⟩ u).setCell ⟨b, 1, none⟩ v) (some b) := by
  refine ⟨rfl, rfl, rfl, by simp [World.setCell], fun k _ hne => ?_⟩
  have hk : k ≠ b := fun e => hne (by rw [e])
  exact (Below.heap_setCell _ ⟨b, 1, none⟩ v k hk).trans (Below.heap_setCell W ⟨b, 0, none⟩ u k hk)
theorem TwoAt.wr {t : TypeId} {W : World} {b : Nat} {x y : Int} (_h : TwoAt t W b x y) (u v : Value) : W.grownBy ((W.setCell ⟨b, 0, none⟩ u).setCell ⟨b, 1, none⟩ v) (some b) := two_grown W b u v
theorem set_keeps {t : TypeId} {W : World} {b b2 : Nat} {x y : Int} (h : TwoAt t W b x y) (hne : b ≠ b2) (u v : Value) :
    ((W.setCell ⟨b2, 0, none⟩ u).setCell ⟨b2, 1, none⟩ v).cell? ⟨b, 0, none⟩ = some (.int .i64 x) ∧ ((W.setCell ⟨b2, 0, none⟩ u).setCell ⟨b2, 1, none⟩ v).cell? ⟨b, 1, none⟩ = some (.int .i64 y) := by
  have h2 := h.grown (two_grown W b2 u v) (fun r e => by cases e; exact hne)
  exact ⟨h2.c0, h2.c1⟩
theorem set_keeps1 {t : TypeId} {W : World} {b b2 : Nat} {x y : Int} (h : TwoAt t W b x y) (hne : b ≠ b2) (u : Value) :
    (W.setCell ⟨b2, 0, none⟩ u).cell? ⟨b, 0, none⟩ = some (.int .i64 x) ∧ (W.setCell ⟨b2, 0, none⟩ u).cell? ⟨b, 1, none⟩ = some (.int .i64 y) := by
  have hb : (W.setCell ⟨b2, 0, none⟩ u).heap[b]? = W.heap[b]? := Below.heap_setCell W ⟨b2, 0, none⟩ u b hne
  have h2 : TwoAt t (W.setCell ⟨b2, 0, none⟩ u) b x y := hb.trans h
  exact ⟨h2.c0, h2.c1⟩

end Go.Proofs.Ytleagighkbmapaa
