/-
  A spare by value: how it is opened, and read again behind the call.
-/
import Derived.Test.YtkicifkigbciaaaRow
import Derived.Test.YtkicifkigbciaaaRowZ
import Derived.Lib.SmallJoins
namespace Go.Proofs.Ytkicifkigbciaaa
open Go.Joins Go.ChangeShapes Go.WideShapes Go.ChangeAt Go.RowKit

set_option maxRecDepth 100000 in
theorem open_spare {H : Type} {enc : TypeId × Value → H} {W : World} {base : Nat} {v : Value} {d : DataW H} {p : List MemPlace} (hval : Value.okWide Try.prog W .any base 53 v)
    (h : DataW.Trod enc Try.prog W 0 (fun _ => true) true 53 v d p) :
    ∃ f : Spr, v = .agg #[.int .i64 f.m, .int .i64 f.k] ∧ d = .agg [.lit (.int .i64 f.m), .lit (.int .i64 f.k)] ∧ p = [] ∧ (Lit.int .i64 f.m).wf = true ∧ (Lit.int .i64 f.k).wf = true := by
  obtain ⟨v0, v1, y0, y1, n, rfl, rfl, rfl, t0, t1⟩ := open_agg2 Try.underlying53 (by kernel_rfl) (by kernel_rfl) hval h
  obtain ⟨z0, e0, rfl, g0⟩ := DataW.trod_int Try.underlying3 t0
  obtain ⟨z1, e1, rfl, g1⟩ := DataW.trod_int Try.underlying3 t1
  simp at e0 e1
  subst e0
  subst e1
  exact ⟨⟨z0, z1⟩, rfl, rfl, rfl, g0, g1⟩
theorem shut_spare {H : Type} {enc : TypeId × Value → H} {W : World} {base : Nat} {sp : Nat → Bool} {hd : Bool} {f : Spr} (h0 : (Lit.int .i64 f.m).wf = true) (h1 : (Lit.int .i64 f.k).wf = true) :
    DataW.Trod enc Try.prog W base sp hd 53 (.agg #[.int .i64 f.m, .int .i64 f.k]) (.agg [.lit (.int .i64 f.m), .lit (.int .i64 f.k)]) [] :=
  shut_agg2 (y0 := (.lit (.int .i64 f.m), [])) (y1 := (.lit (.int .i64 f.k), [])) Try.underlying53 (by kernel_rfl) (by kernel_rfl) ⟨1, by simp [DataW.trod, Try.underlying3, h0]⟩ ⟨1, by simp [DataW.trod, Try.underlying3, h1]⟩

end Go.Proofs.Ytkicifkigbciaaa
