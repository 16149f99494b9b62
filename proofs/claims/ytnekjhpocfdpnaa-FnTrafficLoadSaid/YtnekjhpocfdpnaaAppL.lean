/-
  append(own, lines...): the source a slice that reads as lines, nil or not; slices.Clone at lines.
-/
import Derived.Test.YtnekjhpocfdpnaaMemL
import Derived.Test.YtnekjhpocfdpnaaProg
import Derived.WalkKit
import Derived.Laws.AppendOwn
import Derived.Laws.AppendOwnNone
import Derived.OwnWalk
import Derived.Lib.SliceRun
namespace Go.Proofs.Ytnekjhpocfdpnaa
open Go.RowKit

theorem linInf : (Try.prog.info? 31).map (fun i => (i.zero, i.size, i.bytes)) = some (some (.agg #[.int .i64 0, .int .i64 0, .int .i64 0]), 3, 24) := by kernel_rfl

theorem run_append_none_l {P : Program} {w : World} (base : Nat) (t ty e : TypeId) (i : TypeInfo) (size : Nat) (ht : P.underlying t = some (.slice e)) (hi : P.info? e = some i)
    (v : Value) (n c : Nat) (xs : List Value) (hown : w.ownsRow base e size v n xs) :
    (Builtin.append_ #[t, t] ty #[v, .slice none 0 c]).run P w = .ok v w := by
  rcases hown.2 with ⟨rfl, rfl⟩ | ⟨g, cap, cur, rfl, _, _, hnc, _⟩
  · simp [Builtin.append_, run_underlying ht, sizeOf, typeInfo, hi, Builtin.lenOf, Builtin.firstCells]
  · simp [Builtin.append_, run_underlying ht, sizeOf, typeInfo, hi, Builtin.lenOf, Builtin.firstCells, hnc, storeCells]

theorem argL_cells {w : World} {b o c : Nat} {ss : List Lin} (ha : ArgL w (some ⟨b, o, none⟩) c ss) : ∀ j u, (linCells ss)[j]? = some u → w.cell? ((⟨b, o, none⟩ : Addr).add j) = some u := by
  intro j u hu
  have hj : j < ss.length * 3 := by
    have := (List.getElem?_eq_some_iff.1 hu).1
    rwa [linCells_length] at this
  obtain ⟨b', o', e, _, _, h0, h1, h2⟩ := ha.rd.at_ (k := j / 3) (by omega)
  injection e with e
  injection e with e1 e2 _
  subst e1
  subst e2
  have ea : (⟨b, o, none⟩ : Addr).add j = ⟨b, o + j, none⟩ := by unfold Addr.add; split <;> simp_all
  rw [ea]
  have hd : j = j / 3 * 3 + j % 3 := by omega
  have hlt : j / 3 < ss.length := by omega
  rcases (by omega : j % 3 = 0 ∨ j % 3 = 1 ∨ j % 3 = 2) with h | h | h
  · rw [h, Nat.add_zero] at hd
    rw [hd, linCells_0 hlt] at hu
    rw [hd, ← hu]
    exact h0
  · rw [h] at hd
    rw [hd, linCells_1 hlt] at hu
    rw [hd, ← hu, ← Nat.add_assoc]
    exact h1
  · rw [h] at hd
    rw [hd, linCells_2 hlt] at hu
    rw [hd, ← hu, ← Nat.add_assoc]
    exact h2

/-- append(own, lines...) -/
theorem wpList_append_lins {P : Program} {w : World} {ops : Array Oper} {rest : List Oper} {o : Oper} {a : Act} {Q : Exit → Act → World → Prop} (hgd : o.guard = none) (s x : Operand) (t : TypeId)
    (ho : o.op = .call { callee := .builtin .append, args := #[s, x], argTypes := #[t, t] })
    (base : Nat) (e : TypeId) (i : TypeInfo) (z : Value) (ht : P.underlying t = some (.slice e)) (hi : P.info? e = some i) (hz : i.zero = some z)
    (hsize : i.size = 3) (hby : i.bytes = 24) (hzs : z.cells.size = 3)
    (v : Value) (xs : List Lin) (hs : a.eval s = v) (hown : w.ownsRow base e 3 v xs.length (linCells xs))
    (A : Option Addr) (c : Nat) (ss : List Lin) (hx : a.eval x = .slice A ss.length c) (ha : ArgL w A c ss)
    (h63 : xs.length + ss.length ≤ 8388608) (hbase : base ≤ w.heap.size)
    (h : ∀ v' w', w'.ownsRow base e 3 v' (xs ++ ss).length (linCells (xs ++ ss)) → w.grownBy w' v.ownBlock → wpList P ops Q rest (a.put o.dst v') w') : wpList P ops Q (o :: rest) a w := by
  rw [List.length_append, linCells_append] at h
  cases A with
  | none =>
    have h0 : ss = [] := by
      rcases Nat.lt_or_ge 0 ss.length with hp | hp
      · obtain ⟨b, off, e, _⟩ := ha.rd hp
        cases e
      · exact List.eq_nil_of_length_eq_zero (by omega)
    subst h0
    refine wpList_plain hgd fun K hK => ?_
    have hrun := run_append_none_l (P := P) (w := w) base t o.type e i 3 ht hi v xs.length c (linCells xs) hown
    unfold Oper.wp
    simp only [List.length_nil] at hx
    simp [execOp, ho, resolve, invoke, builtin, hs, hx, hrun, Result.andThen]
    exact hK _ _ (h v w (by simpa [linCells_nil] using hown) (World.grownBy.refl _ _))
  | some ad =>
    by_cases hn : ss.length = 0
    · have h0 : ss = [] := List.eq_nil_of_length_eq_zero hn
      subst h0
      exact wpList_append_own w hgd s x t ho base e i z 3 24 ht hi hz hsize hby hzs (by omega) v xs.length (linCells xs) hs hown ad 0 c [] hx rfl (fun j u hu => by simp at hu) (fun u hu => by simp at hu) (by unfold maxLen; omega) (by omega) hbase fun v' w' h1 h2 _ => h v' w' (by simpa [linCells_nil] using h1) h2
    · obtain ⟨b, off, e1, _⟩ := ha.rd (by omega)
      injection e1 with e1
      subst e1
      exact wpList_append_own w hgd s x t ho base e i z 3 24 ht hi hz hsize hby hzs (by omega) v xs.length (linCells xs) hs hown ⟨b, off, none⟩ ss.length c (linCells ss) hx (linCells_length ss) (argL_cells ha) (linCells_oneCell ss) (by unfold maxLen; omega) (by omega) hbase fun v' w' h1 h2 _ => h v' w' h1 h2

theorem ownL_none (w : World) (t : TypeId) : (w.alloc (.cells #[] t)).ownsRow w.heap.size t 3 (.slice (some ⟨w.heap.size, 0, none⟩) 0 0) ([] : List Lin).length (linCells []) := World.ownsRow_made w #[] 0 (Nat.le_refl _) (by simp) rfl
theorem belowL_none (w : World) (t : TypeId) : Below w.heap.size w (w.alloc (.cells #[] t)) := (Below.refl _ _).alloc (Nat.le_refl _) _
theorem nextL {w w3 : World} {t : TypeId} {v1 : Value} {r : List Lin} (hown : w3.ownsRow w.heap.size t 3 v1 ([] ++ r).length (linCells ([] ++ r))) (hg : (w.alloc (.cells #[] t)).grownBy w3 (Value.ownBlock (.slice (some ⟨w.heap.size, 0, none⟩) 0 0))) :
    w3.ownsRow w.heap.size t 3 v1 r.length (linCells r) ∧ Below w.heap.size w w3 := by
  rw [List.nil_append] at hown
  exact ⟨hown, (belowL_none w t).grown hg (by simp) (fun k e => by simp [Value.ownBlock] at e; omega)⟩
/-- one line in a block of its own, as an argument -/
theorem argL_one (w : World) (s : Lin) (t : TypeId) : ArgL (w.alloc (.cells #[.int .i64 s.a, .int .i64 s.b, .int .i64 s.c] t)) (some ⟨w.heap.size, 0, none⟩) 1 [s] := by
  refine ⟨by simp, by simp, by simp [maxLen], fun _ => ⟨w.heap.size, 0, rfl, Nat.zero_le _, by simp, fun j hj => ?_⟩⟩
  obtain rfl : j = 0 := by simpa using hj
  exact ⟨cell_of_row _ _ 0 _ _ _ (heap_alloc_new w _), cell_of_row _ _ 1 _ _ _ (heap_alloc_new w _), cell_of_row _ _ 2 _ _ _ (heap_alloc_new w _)⟩

end Go.Proofs.Ytnekjhpocfdpnaa
