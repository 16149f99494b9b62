/-
  append(own, ints...): the source a slice that reads as ints, nil or not. And append(append(nothing, row...), i).
-/
import Derived.Test.YtnekjhpocfdpnaaMem
import Derived.Test.YtnekjhpocfdpnaaProg
import Derived.Lib.Hide
import Derived.WalkKit
import Derived.Laws.AppendOwn
import Derived.Laws.AppendOwnNone
import Derived.OwnWalk
namespace Go.Proofs.Ytnekjhpocfdpnaa
open Go.RowKit

theorem intInf : (Try.prog.info? 3).map (fun i => (i.zero, i.size, i.bytes)) = some (some (.int .i64 0), 1, 8) := by kernel_rfl

theorem run_append_none_i {P : Program} {w : World} (base : Nat) (t ty e : TypeId) (i : TypeInfo) (size : Nat) (ht : P.underlying t = some (.slice e)) (hi : P.info? e = some i)
    (v : Value) (n c : Nat) (xs : List Value) (hown : w.ownsRow base e size v n xs) :
    (Builtin.append_ #[t, t] ty #[v, .slice none 0 c]).run P w = .ok v w := by
  rcases hown.2 with ⟨rfl, rfl⟩ | ⟨g, cap, cur, rfl, _, _, hnc, _⟩
  · simp [Builtin.append_, run_underlying ht, sizeOf, typeInfo, hi, Builtin.lenOf, Builtin.firstCells]
  · simp [Builtin.append_, run_underlying ht, sizeOf, typeInfo, hi, Builtin.lenOf, Builtin.firstCells, hnc, storeCells]

theorem argI_cells {w : World} {b o c : Nat} {ss : List Int} (ha : Arg w (some ⟨b, o, none⟩) c ss) : ∀ j u, (ss.map (Value.int .i64))[j]? = some u → w.cell? ((⟨b, o, none⟩ : Addr).add j) = some u := by
  intro j u hu
  have hj : j < ss.length := by
    have := (List.getElem?_eq_some_iff.1 hu).1
    simpa using this
  obtain ⟨b', o', e, _, _, h0⟩ := ha.rd.at_ hj
  injection e with e
  injection e with e1 e2 _
  subst e1
  subst e2
  rw [show (⟨b, o, none⟩ : Addr).add j = ⟨b, o + j, none⟩ by unfold Addr.add; split <;> simp_all, h0, ← hu]
  simp [hj]
theorem intsOne (zs : List Int) : ∀ u ∈ zs.map (Value.int .i64), u.oneCell' = true := by
  intro u hu
  obtain ⟨z, _, rfl⟩ := List.mem_map.1 hu
  rfl

theorem wpList_append_ints {P : Program} {w : World} {ops : Array Oper} {rest : List Oper} {o : Oper} {a : Act} {Q : Exit → Act → World → Prop} (hgd : o.guard = none) (s x : Operand) (t : TypeId)
    (ho : o.op = .call { callee := .builtin .append, args := #[s, x], argTypes := #[t, t] })
    (base : Nat) (e : TypeId) (i : TypeInfo) (z : Value) (ht : P.underlying t = some (.slice e)) (hi : P.info? e = some i) (hz : i.zero = some z)
    (hsize : i.size = 1) (hby : i.bytes = 8) (hzs : z.cells.size = 1)
    (v : Value) (xs : List Int) (hs : a.eval s = v) (hown : w.ownsRow base e 1 v xs.length (xs.map (Value.int .i64)))
    (A : Option Addr) (c : Nat) (ss : List Int) (hx : a.eval x = .slice A ss.length c) (ha : Arg w A c ss)
    (h63 : xs.length + ss.length ≤ 8388608) (hbase : base ≤ w.heap.size)
    (h : ∀ v' w', w'.ownsRow base e 1 v' (xs ++ ss).length ((xs ++ ss).map (Value.int .i64)) → w.grownBy w' v.ownBlock → wpList P ops Q rest (a.put o.dst v') w') : wpList P ops Q (o :: rest) a w := by
  rw [List.length_append, List.map_append] at h
  cases A with
  | none =>
    have h0 : ss = [] := by
      rcases Nat.lt_or_ge 0 ss.length with hp | hp
      · obtain ⟨b, off, e, _⟩ := ha.rd hp
        cases e
      · exact List.eq_nil_of_length_eq_zero (by omega)
    subst h0
    refine wpList_plain hgd fun K hK => ?_
    have hrun := run_append_none_i (P := P) (w := w) base t o.type e i 1 ht hi v xs.length c (xs.map (Value.int .i64)) hown
    unfold Oper.wp
    simp only [List.length_nil] at hx
    simp [execOp, ho, resolve, invoke, builtin, hs, hx, hrun, Result.andThen]
    exact hK _ _ (h v w (by simpa using hown) (World.grownBy.refl _ _))
  | some ad =>
    by_cases hn : ss.length = 0
    · have h0 : ss = [] := List.eq_nil_of_length_eq_zero hn
      subst h0
      exact wpList_append_own w hgd s x t ho base e i z 1 8 ht hi hz hsize hby hzs (by omega) v xs.length (xs.map (Value.int .i64)) hs hown ad 0 c [] hx rfl (fun j u hu => by simp at hu) (fun u hu => by simp at hu) (by unfold maxLen; omega) (by omega) hbase fun v' w' h1 h2 _ => h v' w' (by simpa using h1) h2
    · obtain ⟨b, off, e1, _⟩ := ha.rd (by omega)
      injection e1 with e1
      subst e1
      exact wpList_append_own w hgd s x t ho base e i z 1 8 ht hi hz hsize hby hzs (by omega) v xs.length (xs.map (Value.int .i64)) hs hown ⟨b, off, none⟩ ss.length c (ss.map (Value.int .i64)) hx (by simp) (argI_cells ha) (intsOne ss) (by unfold maxLen; omega) (by omega) hbase fun v' w' h1 h2 _ => h v' w' h1 h2

/-- one int in a block of its own, as an argument -/
theorem arg_one (w : World) (i : Int) (t : TypeId) : Arg (w.alloc (.cells #[.int .i64 i] t)) (some ⟨w.heap.size, 0, none⟩) 1 [i] := by
  refine ⟨by simp, by simp, by simp [maxLen], fun _ => ⟨w.heap.size, 0, rfl, Nat.zero_le _, by simp, fun j hj => ?_⟩⟩
  obtain rfl : j = 0 := by simpa using hj
  exact cell_of_row _ _ 0 _ _ _ (heap_alloc_new w _)
/-- an empty row in a block of its own -/
theorem own_none (w : World) (t : TypeId) : (w.alloc (.cells #[] t)).ownsRow w.heap.size t 1 (.slice (some ⟨w.heap.size, 0, none⟩) 0 0) ([] : List Int).length (([] : List Int).map (Value.int .i64)) := World.ownsRow_made w #[] 0 (Nat.le_refl _) (by simp) rfl
theorem below_none (w : World) (t : TypeId) : Below w.heap.size w (w.alloc (.cells #[] t)) := (Below.refl _ _).alloc (Nat.le_refl _) _
/-- what append(append(nothing, row...), i) leaves, step by step -/
theorem next1 {w w3 : World} {t : TypeId} {v1 : Value} {r : List Int} (hown : w3.ownsRow w.heap.size t 1 v1 ([] ++ r).length (([] ++ r).map (Value.int .i64))) (hg : (w.alloc (.cells #[] t)).grownBy w3 (Value.ownBlock (.slice (some ⟨w.heap.size, 0, none⟩) 0 0))) :
    w3.ownsRow w.heap.size t 1 v1 r.length (r.map (Value.int .i64)) ∧ Below w.heap.size w w3 := by
  rw [List.nil_append] at hown
  exact ⟨hown, (below_none w t).grown hg (by simp) (fun k e => by simp [Value.ownBlock] at e; omega)⟩
theorem next2 {w w3 w4 : World} {t : TypeId} {v1 v2 : Value} {r r' : List Int} {o : Obj} (h : w3.ownsRow w.heap.size t 1 v1 r.length (r.map (Value.int .i64)) ∧ Below w.heap.size w w3) {i : Int} (hr : r ++ [i] = r') (hl : r'.length ≤ 2097152)
    (hown : w4.ownsRow w.heap.size t 1 v2 (r ++ [i]).length ((r ++ [i]).map (Value.int .i64))) (hg : (w3.alloc o).grownBy w4 v1.ownBlock) :
    ∃ A c, v2 = .slice A r'.length c ∧ Arg w4 A c r' ∧ Ow t w.heap.size w4.heap.size w4 (.slice A r'.length c) r' ∧ Below w.heap.size w w4 := by
  rw [hr] at hown
  have ho := Ow.of_own hown
  obtain ⟨A, c, rfl, _, _, _⟩ := ho.form
  refine ⟨A, c, rfl, ho.arg hl (Nat.le_refl _), ho, (h.2.alloc h.2.size o).grown hg (by simp; have := h.2.size; omega) (fun k e => (h.1.lt k e).1)⟩

end Go.Proofs.Ytnekjhpocfdpnaa
