/-
  The drawn faults that a law draws: DrawFaultBack, DrawFaultOpen.
-/
import Derived.Test.YtodboccadccpfaaFDraw
import Derived.Test.YtodboccadccpfaaCDrawB
import Derived.Test.YtodboccadccpfaaTwoK
import Derived.BigQuiet
namespace Go.Proofs.Ytodboccadccpfaa
open Go.RowKit

/-- a cable of at most 20 sections and a fault of small numbers, in new memory -/
def RetCF (w : World) (e : Ending) (w' : World) : Prop :=
  ∃ B d zs f, e = .returned (.tuple #[.slice B (zs : List Sec).length d, .agg #[.int .i64 (f : Flt).m, .int .i64 f.o]]) ∧ zs.length ≤ 20 ∧ ArgC w' B d zs ∧ Below w.heap.size w w' ∧ (-1 ≤ f.m ∧ f.m ≤ 1001) ∧ -1 ≤ f.o ∧ f.o ≤ 1001
theorem Bytes.more {hi hi' : Nat} {W : World} {A : Option Addr} {n : Nat} (h : Bytes hi W A n) (hh : hi ≤ hi') : Bytes hi' W A n := fun hn => by
  obtain ⟨b, off, e, h1, h2⟩ := h hn
  exact ⟨b, off, e, by omega, h2⟩

/-- a cable of at most 20 sections and two small numbers, in new memory -/
def RetCII (w : World) (e : Ending) (w' : World) : Prop :=
  ∃ B d zs m o, e = .returned (.tuple #[.slice B (zs : List Sec).length d, .int .i64 m, .int .i64 o]) ∧ zs.length ≤ 20 ∧ ArgC w' B d zs ∧ Below w.heap.size w w' ∧ (-1 ≤ m ∧ m ≤ 1001) ∧ -1 ≤ o ∧ o ≤ 1001

end Go.Proofs.Ytodboccadccpfaa
