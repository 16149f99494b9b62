/-
  slices.Delete of one spare, in an own slice.
-/
import Derived.Test.YtkicifkigbciaaaSpTkS
import Derived.Lib.SliceRun
namespace Go.Proofs.Ytkicifkigbciaaa
open Go.RowKit

/-- values laid over others from a place on -/
def putL : Nat → List Value → List Value → List Value
  | _, [], xs => xs
  | o, v :: r, xs => putL (o + 1) r (xs.set o v)
theorem putL_at : ∀ (C A D : List Value) (o : Nat), A.length = o → C.length ≤ D.length → putL o C (A ++ D) = A ++ (C ++ D.drop C.length)
  | [], A, D, o, _, _ => rfl
  | c :: C, A, [], o, _, h => by simp at h
  | c :: C, A, d :: D, o, ha, h => by
    have e1 : (A ++ d :: D).set o c = (A ++ [c]) ++ D := by
      rw [List.set_append_right _ _ (by omega), show o - A.length = 0 by omega]; simp
    show putL (o + 1) C ((A ++ d :: D).set o c) = _
    rw [e1, putL_at C (A ++ [c]) D (o + 1) (by simp [ha]) (by simpa using h)]
    simp
theorem own_setCells {base g n cap : Nat} {e : TypeId} : ∀ (vs xs : List Value) (o : Nat) (w : World), w.ownsRow base e 2 (.slice (some ⟨g, 0, none⟩) n cap) n xs →
    (w.setCells g o vs).ownsRow base e 2 (.slice (some ⟨g, 0, none⟩) n cap) n (putL o vs xs) ∧ w.grownBy (w.setCells g o vs) (some g)
  | [], xs, o, w, h => ⟨h, World.grownBy.refl _ _⟩
  | v :: vs, xs, o, w, h => by
    obtain ⟨h1, h2⟩ := h.stored o v
    obtain ⟨h3, h4⟩ := own_setCells vs (xs.set o v) (o + 1) _ h1
    exact ⟨h3, ⟨h4.os.trans h2.os, h4.tape.trans h2.tape, h4.output.trans h2.output, Nat.le_trans h2.size h4.size, fun k hk hn => (h4.block k (Nat.lt_of_lt_of_le hk h2.size) hn).trans (h2.block k hk hn)⟩⟩
theorem own_shrink {w : World} {base g n m cap : Nat} {e : TypeId} {xs : List Value} (h : w.ownsRow base e 2 (.slice (some ⟨g, 0, none⟩) n cap) n xs) (hm : m ≤ n) : w.ownsRow base e 2 (.slice (some ⟨g, 0, none⟩) m cap) m (xs.take (m * 2)) := by
  obtain ⟨h1, h2⟩ := h
  refine ⟨by simp; omega, .inr ?_⟩
  rcases h2 with ⟨h3, _⟩ | ⟨g', cap', cur, e1, hg, hgg, hn, hc, hs, ht⟩
  · cases h3
  · injection e1 with e1 e2 e3
    injection e1 with e1
    injection e1 with e1
    subst e1; subst e3
    refine ⟨g, cap, cur, rfl, hg, hgg, by omega, hc, hs, ?_⟩
    rw [← ht, List.take_take, Nat.min_eq_left (by omega)]
theorem own_room {w : World} {base g n cap : Nat} {e : TypeId} {xs : List Value} (h : w.ownsRow base e 2 (.slice (some ⟨g, 0, none⟩) n cap) n xs) : n ≤ cap ∧ cap ≤ maxLen ∧ base ≤ g ∧ g < w.heap.size ∧ ∀ j, j < cap * 2 → (w.cell? ⟨g, j, none⟩).isSome = true ∧ w.frozen? ⟨g, j, none⟩ = false := by
  rcases h.2 with ⟨h3, _⟩ | ⟨g', cap', cur, e1, hg, hgg, hn, hc, hs, ht⟩
  · cases h3
  · injection e1 with e1 e2 e3
    injection e1 with e1
    injection e1 with e1
    subst e1; subst e3
    refine ⟨hn, hc, hg, (Array.getElem?_eq_some_iff.1 hgg).1, fun j hj => ⟨?_, frozen_of_row _ _ _ _ _ hgg⟩⟩
    rw [cell_of_row _ _ j _ _ _ hgg, Array.getElem?_eq_getElem (by omega)]; rfl
theorem run_clear_two {P : Program} (w : World) (t e ty : TypeId) (ht : P.underlying t = some (.slice e)) (hv : ∀ w, (zeroValue e).run P w = .ok (.agg #[.int .i64 0, .int .i64 0]) w) (b o c : Nat)
    (hc : ∀ j, j < 2 → (w.cell? ⟨b, o + j, none⟩).isSome = true) (hf : ∀ j, j < 2 → w.frozen? ⟨b, o + j, none⟩ = false) :
    (Builtin.clear_ #[t] ty #[.slice (some ⟨b, o, none⟩) 1 c]).run P w = .ok (.tuple #[]) (w.setCells b o [.int .i64 0, .int .i64 0]) := by
  have hzc : (Builtin.zeroCells (Value.agg #[.int .i64 0, .int .i64 0]).cells 1).toList = [.int .i64 0, .int .i64 0] := by
    simp [Builtin.zeroCells, Value.cells]
    rfl
  have hst := run_storeCells_cells (P := P) b o [.int .i64 0, .int .i64 0] 0 w (by simpa using hc) (by simpa using hf) (by intro v hv'; simp at hv'; rcases hv' with rfl | rfl <;> rfl)
  simp only [Nat.add_zero] at hst
  simp [Builtin.clear_, run_underlying ht, hv, hzc, hst]
theorem sprCells_drop (zs : List Spr) (k : Nat) (hk : k < zs.length) : sprCells zs = sprCells (zs.take k) ++ (sprCell zs[k] ++ sprCells (zs.drop (k + 1))) := by
  have h1 : zs = zs.take k ++ (zs[k] :: zs.drop (k + 1)) := by rw [← List.drop_eq_getElem_cons hk, List.take_append_drop]
  rw [congrArg sprCells h1, sprCells_append, sprCells_cons]
  rfl
end Go.Proofs.Ytkicifkigbciaaa
