/-
  BreakRange of the model.
-/
import Derived.Test.YtodboccadccpfaaBreak
import Derived.Test.YtodboccadccpfaaFltOS
import Derived.Test.YtodboccadccpfaaBreakM
namespace Go.Proofs.Ytodboccadccpfaa
open Go.RowKit

def sgL (o : Option (Nat × Nat)) : Int := o.elim (-1) (fun x => (x.1 : Int))
def sgH (o : Option (Nat × Nat)) : Int := o.elim (-1) (fun x => (x.2 : Int))
theorem inB_shift (a r e : Int) : inB a r (r + e) = inB (a - r) 0 e := by
  unfold inB
  congr 1 <;> exact decide_eq_decide.2 (by omega)
theorem ohmsI_rN {ss : List Sec} (h : cabB ss = true) {k : Nat} (hk : k ≤ mN ss) : ohmsI ss (k : Int) = rN ss k := by
  have h2 := (mN_bd h 0).2.2
  exact ohmsI_in h (inB_true.2 (by omega))
theorem milesI_mN {ss : List Sec} (h : cabB ss = true) : milesI ss = (mN ss : Int) := by rw [milesI_yes h, (mN_bd h 0).2.2]
end Go.Proofs.Ytodboccadccpfaa
