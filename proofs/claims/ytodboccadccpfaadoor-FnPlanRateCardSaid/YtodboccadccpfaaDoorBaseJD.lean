/-
  Contracts of the laws' own small functions over lists of jbss: toJobS.
-/
import Derived.Test.YtodboccadccpfaaDoorBaseJE
import Derived.RegionTactic
import Derived.StillTailTactics
namespace Go.Proofs.YtodboccadccpfaaDoor
open Go.RowKit

theorem jbsInfo : (Tryd.prog.info? 38).map (fun i => (i.zero, i.size, i.bytes)) = some (some (.agg #[.int .i64 0, .int .i64 0]), 2, 16) := by kernel_rfl

/-! ### one jbs given over -/
/-! ### toJobS: a copy in new memory -/
def copyToJ (zs : List Jbs) (k : Nat) : List Jbs := zs.take k ++ List.replicate (zs.length - k) Jbs.zero
theorem copyToJ_zero (zs : List Jbs) : copyToJ zs 0 = List.replicate zs.length Jbs.zero := by simp [copyToJ]
theorem copyToJ_all (zs : List Jbs) : copyToJ zs zs.length = zs := by simp [copyToJ]
theorem copyToJ_split (zs : List Jbs) {k : Nat} (h : k < zs.length) : copyToJ zs k = zs.take k ++ Jbs.zero :: List.replicate (zs.length - (k + 1)) Jbs.zero := by
  unfold copyToJ
  obtain ⟨m, hm⟩ : ∃ m, zs.length - k = m + 1 := ⟨zs.length - k - 1, by omega⟩
  rw [hm, List.replicate_succ, show zs.length - (k + 1) = m by omega]
theorem copyToJ_succ (zs : List Jbs) {k : Nat} (h : k < zs.length) : copyToJ zs (k + 1) = zs.take k ++ zs[k] :: List.replicate (zs.length - (k + 1)) Jbs.zero := by
  unfold copyToJ
  rw [take_snoc zs h, List.append_assoc]
  rfl
theorem jbsCells_replicate (n : Nat) : jbsCells (List.replicate n Jbs.zero) = List.replicate (n * 2) (.int .i64 0) := by
  induction n with
  | zero => rfl
  | succ n ih =>
    rw [List.replicate_succ, jbsCells_cons, ih, show (n + 1) * 2 = n * 2 + 2 by omega]
    rfl
theorem made_jbss (n : Nat) : (madeCells (Value.cells (.agg #[.int .i64 0, .int .i64 0])) (n * 2)).toList = jbsCells (List.replicate n Jbs.zero) := by
  rw [jbsCells_replicate]
  apply List.ext_getElem
  · simp [madeCells]
  · intro i h1 h2
    have h3 : i % 2 < 2 := Nat.mod_lt _ (by omega)
    simp only [madeCells, Value.cells, List.getElem_replicate, Array.getElem_toList]
    rcases (by omega : i % 2 = 0 ∨ i % 2 = 1) with h | h <;> simp [h]

end Go.Proofs.YtodboccadccpfaaDoor
