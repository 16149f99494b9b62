/-
  append(own, routes...): the source a slice that reads as routes, nil or not; slices.Clone at routes.
-/
import Derived.Test.YtjboamhjfncgdaaMemK
import Derived.Test.YtjboamhjfncgdaaProg
import Derived.WalkKit
import Derived.Laws.AppendOwn
import Derived.Laws.AppendOwnNone
import Derived.OwnWalk
import Derived.Lib.SliceRun
namespace Go.Proofs.Ytjboamhjfncgdaa
open Go.RowKit

theorem rotInf : (Try.prog.info? 37).map (fun i => (i.zero, i.size, i.bytes)) = some (some (.agg #[.int .i64 0, .int .i64 0, .int .i64 0, .int .i64 0]), 4, 32) := by kernel_rfl

theorem run_append_none_k {P : Program} {w : World} (base : Nat) (t ty e : TypeId) (i : TypeInfo) (size : Nat) (ht : P.underlying t = some (.slice e)) (hi : P.info? e = some i)
    (v : Value) (n c : Nat) (xs : List Value) (hown : w.ownsRow base e size v n xs) :
    (Builtin.append_ #[t, t] ty #[v, .slice none 0 c]).run P w = .ok v w := by
  rcases hown.2 with ⟨rfl, rfl⟩ | ⟨g, cap, cur, rfl, _, _, hnc, _⟩
  · simp [Builtin.append_, run_underlying ht, sizeOf, typeInfo, hi, Builtin.lenOf, Builtin.firstCells]
  · simp [Builtin.append_, run_underlying ht, sizeOf, typeInfo, hi, Builtin.lenOf, Builtin.firstCells, hnc, storeCells]

theorem argK_cells {w : World} {b o c : Nat} {ss : List Rot} (ha : ArgK w (some ⟨b, o, none⟩) c ss) : ∀ j u, (rotCells ss)[j]? = some u → w.cell? ((⟨b, o, none⟩ : Addr).add j) = some u := by
  intro j u hu
  have hj : j < ss.length * 4 := by
    have := (List.getElem?_eq_some_iff.1 hu).1
    rwa [rotCells_length] at this
  obtain ⟨b', o', e, _, _, h0, h1, h2, h3⟩ := ha.rd.at_ (k := j / 4) (by omega)
  injection e with e
  injection e with e1 e2 _
  subst e1
  subst e2
  have ea : (⟨b, o, none⟩ : Addr).add j = ⟨b, o + j, none⟩ := by unfold Addr.add; split <;> simp_all
  rw [ea]
  have hd : j = j / 4 * 4 + j % 4 := by omega
  have hlt : j / 4 < ss.length := by omega
  rcases (by omega : j % 4 = 0 ∨ j % 4 = 1 ∨ j % 4 = 2 ∨ j % 4 = 3) with h | h | h | h
  · rw [h, Nat.add_zero] at hd
    rw [hd, rotCells_0 hlt] at hu
    rw [hd, ← hu]
    exact h0
  · rw [h] at hd
    rw [hd, rotCells_1 hlt] at hu
    rw [hd, ← hu, ← Nat.add_assoc]
    exact h1
  · rw [h] at hd
    rw [hd, rotCells_2 hlt] at hu
    rw [hd, ← hu, ← Nat.add_assoc]
    exact h2
  · rw [h] at hd
    rw [hd, rotCells_3 hlt] at hu
    rw [hd, ← hu, ← Nat.add_assoc]
    exact h3

/-- append(own, routes...) -/
theorem wpList_append_rots {P : Program} {w : World} {ops : Array Oper} {rest : List Oper} {o : Oper} {a : Act} {Q : Exit → Act → World → Prop} (hgd : o.guard = none) (s x : Operand) (t : TypeId)
    (ho : o.op = .call { callee := .builtin .append, args := #[s, x], argTypes := #[t, t] })
    (base : Nat) (e : TypeId) (i : TypeInfo) (z : Value) (ht : P.underlying t = some (.slice e)) (hi : P.info? e = some i) (hz : i.zero = some z)
    (hsize : i.size = 4) (hby : i.bytes = 32) (hzs : z.cells.size = 4)
    (v : Value) (xs : List Rot) (hs : a.eval s = v) (hown : w.ownsRow base e 4 v xs.length (rotCells xs))
    (A : Option Addr) (c : Nat) (ss : List Rot) (hx : a.eval x = .slice A ss.length c) (ha : ArgK w A c ss)
    (h63 : xs.length + ss.length ≤ 8388608) (hbase : base ≤ w.heap.size)
    (h : ∀ v' w', w'.ownsRow base e 4 v' (xs ++ ss).length (rotCells (xs ++ ss)) → w.grownBy w' v.ownBlock → wpList P ops Q rest (a.put o.dst v') w') : wpList P ops Q (o :: rest) a w := by
  rw [List.length_append, rotCells_append] at h
  cases A with
  | none =>
    have h0 : ss = [] := by
      rcases Nat.lt_or_ge 0 ss.length with hp | hp
      · obtain ⟨b, off, e, _⟩ := ha.rd hp
        cases e
      · exact List.eq_nil_of_length_eq_zero (by omega)
    subst h0
    refine wpList_plain hgd fun K hK => ?_
    have hrun := run_append_none_k (P := P) (w := w) base t o.type e i 4 ht hi v xs.length c (rotCells xs) hown
    unfold Oper.wp
    simp only [List.length_nil] at hx
    simp [execOp, ho, resolve, invoke, builtin, hs, hx, hrun, Result.andThen]
    exact hK _ _ (h v w (by simpa [rotCells_nil] using hown) (World.grownBy.refl _ _))
  | some ad =>
    by_cases hn : ss.length = 0
    · have h0 : ss = [] := List.eq_nil_of_length_eq_zero hn
      subst h0
      exact wpList_append_own w hgd s x t ho base e i z 4 32 ht hi hz hsize hby hzs (by omega) v xs.length (rotCells xs) hs hown ad 0 c [] hx rfl (fun j u hu => by simp at hu) (fun u hu => by simp at hu) (by unfold maxLen; omega) (by omega) hbase fun v' w' h1 h2 _ => h v' w' (by simpa [rotCells_nil] using h1) h2
    · obtain ⟨b, off, e1, _⟩ := ha.rd (by omega)
      injection e1 with e1
      subst e1
      exact wpList_append_own w hgd s x t ho base e i z 4 32 ht hi hz hsize hby hzs (by omega) v xs.length (rotCells xs) hs hown ⟨b, off, none⟩ ss.length c (rotCells ss) hx (rotCells_length ss) (argK_cells ha) (rotCells_oneCell ss) (by unfold maxLen; omega) (by omega) hbase fun v' w' h1 h2 _ => h v' w' h1 h2

theorem ownK_none (w : World) (t : TypeId) : (w.alloc (.cells #[] t)).ownsRow w.heap.size t 4 (.slice (some ⟨w.heap.size, 0, none⟩) 0 0) ([] : List Rot).length (rotCells []) := World.ownsRow_made w #[] 0 (Nat.le_refl _) (by simp) rfl
theorem belowK_none (w : World) (t : TypeId) : Below w.heap.size w (w.alloc (.cells #[] t)) := (Below.refl _ _).alloc (Nat.le_refl _) _
theorem nextK {w w3 : World} {t : TypeId} {v1 : Value} {r : List Rot} (hown : w3.ownsRow w.heap.size t 4 v1 ([] ++ r).length (rotCells ([] ++ r))) (hg : (w.alloc (.cells #[] t)).grownBy w3 (Value.ownBlock (.slice (some ⟨w.heap.size, 0, none⟩) 0 0))) :
    w3.ownsRow w.heap.size t 4 v1 r.length (rotCells r) ∧ Below w.heap.size w w3 := by
  rw [List.nil_append] at hown
  exact ⟨hown, (belowK_none w t).grown hg (by simp) (fun k e => by simp [Value.ownBlock] at e; omega)⟩
/-- one route in a block of its own, as an argument -/
theorem argK_one (w : World) (s : Rot) (t : TypeId) : ArgK (w.alloc (.cells #[.int .i64 s.a, .int .i64 s.b, .int .i64 s.c, .int .i64 s.d] t)) (some ⟨w.heap.size, 0, none⟩) 1 [s] := by
  refine ⟨by simp, by simp, by simp [maxLen], fun _ => ⟨w.heap.size, 0, rfl, Nat.zero_le _, by simp, fun j hj => ?_⟩⟩
  obtain rfl : j = 0 := by simpa using hj
  exact ⟨cell_of_row _ _ 0 _ _ _ (heap_alloc_new w _), cell_of_row _ _ 1 _ _ _ (heap_alloc_new w _), cell_of_row _ _ 2 _ _ _ (heap_alloc_new w _), cell_of_row _ _ 3 _ _ _ (heap_alloc_new w _)⟩

/-- slices.Clone at routes, nil or not -/
theorem cloneK_c (A : Option Addr) (c : Nat) (zs : List Rot) (w : World) (ha : ArgK w A c zs) :
    Calls Try.prog 98 #[.slice A zs.length c] w (RetK 37 id zs w) := by
  obtain ⟨i0, hi, hz0, hz1, hz2⟩ := info_parts rotInf
  have hl := ha.len
  cases A with
  | none =>
    have h0 : zs = [] := by
      rcases Nat.lt_or_ge 0 zs.length with hp | hp
      · obtain ⟨b, off, e, _⟩ := ha.rd hp
        cases e
      · exact List.eq_nil_of_length_eq_zero (by omega)
    subst h0
    clear ha
    have hnil := Lib.run_eql_slice_nil (P := Try.prog) w 23 37 none 0 c 0 0 Try.underlying23
    show Calls Try.prog _ #[.slice none 0 c] w _
    go_enter Try.func98, Try.ntmps98
    go_wp2
    go_ret
    exact RetK.nil (f := id) (Below.refl _ _)
  | some ad =>
    have HA := Lib.hid ha
    clear ha
    have hnil := Lib.run_eql_slice_nil (P := Try.prog) w 23 37 (some ad) zs.length c 0 0 Try.underlying23
    go_enter Try.func98, Try.ntmps98
    go_wp2_with (at_builtin; refine wpList_append_rots rfl _ _ 23 rfl w.heap.size 37 i0 (.agg #[.int .i64 0, .int .i64 0, .int .i64 0, .int .i64 0]) Try.underlying23 hi hz0 hz1 hz2 rfl (.slice (some ⟨w.heap.size, 0, none⟩) 0 0) [] rfl (ownK_none w _) (some ad) c zs rfl (HA.out.go (belowK_none w _)) (by simp; omega) (by simp) ?_; intro v' w3 hown3 hg3; have H3 := Lib.hid (nextK hown3 hg3); clear hown3 hg3)
    go_ret
    exact RetK.mk (f := id) hl H3.out.1 H3.out.2

end Go.Proofs.Ytjboamhjfncgdaa
