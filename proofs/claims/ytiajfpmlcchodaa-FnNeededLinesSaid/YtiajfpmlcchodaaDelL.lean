/-
  slices of lines that the call itself makes: the first ones, those behind, slices.Delete of one.
-/
import Derived.Test.YtiajfpmlcchodaaAppL
import Derived.Test.YtiajfpmlcchodaaMade
import Derived.Lib.SliceRun
import Derived.StillTailTactics
import Derived.Deep.RegionLaw
import Derived.Deep.AppendLies
import Derived.Test.YtiajfpmlcchodaaMem
namespace Go.Proofs.Ytiajfpmlcchodaa
open Go.RowKit

def OnL (w wr : World) (sv : Value) (xs : List Lin) : Prop := wr.ownsRow w.heap.size 38 3 sv xs.length (linCells xs) ∧ Below w.heap.size w wr
theorem OnL.go {w w1 w2 : World} {sv : Value} {xs : List Lin} (h : OnL w w1 sv xs) (hb : Below w1.heap.size w1 w2) : OnL w w2 sv xs := by
  have h1 : OwL 38 w.heap.size w1.heap.size w1 sv xs := OwL.of_own h.1
  exact ⟨(h1.go hb (Nat.le_refl _)).own, below_step h.2 hb⟩
theorem OnL.grown {w wr w3 : World} {sv v' : Value} {xs ys : List Lin} {o : Obj} (h : OnL w wr sv xs) (h1 : w3.ownsRow w.heap.size 38 3 v' ys.length (linCells ys)) (h2 : (wr.alloc o).grownBy w3 sv.ownBlock) : OnL w w3 v' ys :=
  ⟨h1, (h.2.alloc h.2.size o).grown h2 (by simp; have := h.2.size; omega) (fun k e => (h.1.lt k e).1)⟩
theorem ArgL.take {w : World} {A : Option Addr} {c : Nat} {zs : List Lin} (h : ArgL w A c zs) (k : Nat) : ArgL w A c (zs.take k) := by
  have h1 : (zs.take k).length ≤ zs.length := by simp; omega
  refine ⟨by have := h.1; omega, by have := h.2.1; omega, h.2.2.1, fun hn => ?_⟩
  obtain ⟨b, off, e, l1, l2⟩ := h.rd (by omega)
  refine ⟨b, off, e, l1, l2.1, fun j hj => ?_⟩
  have hj2 : j < k := by simp at hj; omega
  have := l2.2 j (by omega)
  rwa [show linAt (zs.take k) j = linAt zs j by unfold linAt; rw [List.getElem?_take_of_lt hj2]]
theorem ArgL.drop {w : World} {b off c : Nat} {zs : List Lin} (h : ArgL w (some ⟨b, off, none⟩) c zs) (k : Nat) : ArgL w (some ⟨b, off + k * 3, none⟩) (c - k) (zs.drop k) := by
  have h1 : (zs.drop k).length = zs.length - k := by simp
  refine ⟨by have := h.1; omega, by have := h.2.1; omega, by have := h.2.2.1; omega, fun hn => ?_⟩
  obtain ⟨b', off', e, l1, l2, l3⟩ := h.rd (by omega)
  injection e with e
  injection e with e1 e2 _
  subst e1; subst e2
  refine ⟨b, off + k * 3, rfl, l1, l2, fun j hj => ?_⟩
  have := l3 (k + j) (by omega)
  rw [show linAt (zs.drop k) j = linAt zs (k + j) by unfold linAt; rw [List.getElem?_drop], show off + k * 3 + j * 3 = off + (k + j) * 3 by omega]
  exact this
theorem argL_empty (W : World) (A : Option Addr) (c : Nat) (hc : c ≤ maxLen) : ArgL W A c [] := ⟨by simp, by simp, hc, RdL.nil⟩
theorem OnL.grown0 {w wr w3 : World} {sv v' : Value} {xs ys : List Lin} (h : OnL w wr sv xs) (h1 : w3.ownsRow w.heap.size 38 3 v' ys.length (linCells ys)) (h2 : wr.grownBy w3 sv.ownBlock) : OnL w w3 v' ys :=
  ⟨h1, h.2.grown h2 h.2.size (fun k e => (h.1.lt k e).1)⟩
theorem onl_snoc {w wr w3 : World} {sv v' : Value} {xs : List Lin} {x : Lin} (h : OnL w wr sv xs) (h1 : w3.ownsRow w.heap.size 38 3 v' (xs.length + 1) (linCells xs ++ linCell x)) (h2 : wr.grownBy w3 sv.ownBlock) : OnL w w3 v' (xs ++ [x]) :=
  h.grown0 (by rw [linCells_snoc, List.length_append, List.length_singleton]; exact h1) h2
theorem OnL.arg {w w' : World} {A : Option Addr} {c : Nat} {xs zs : List Lin} {sv : Value} (h : OnL w w' sv xs) (ha : ArgL w A c zs) : ArgL w' A c zs := ha.go h.2
theorem OnL.alloc {w w1 : World} {sv : Value} {xs : List Lin} (h : OnL w w1 sv xs) (o : Obj) : OnL w (w1.alloc o) sv xs := h.go ((Below.refl _ _).alloc (Nat.le_refl _) o)
theorem argL_one' (w : World) (s : Lin) (t : TypeId) : ArgL (w.alloc (.cells #[.int .i64 s.a, .int .i64 s.b, .int .i64 s.c] t)).drew (some ⟨w.heap.size, 0, none⟩) 1 [s] := (argL_one w s t).go (below_drewN (Below.refl _ _) 1)
theorem OnL.drew {w w1 : World} {sv : Value} {xs : List Lin} (h : OnL w w1 sv xs) : OnL w w1.drew sv xs := h.go (below_drewN (Below.refl _ _) 1)
theorem OnL.base {w0 w w1 : World} {sv : Value} {xs : List Lin} (h : OnL w w1 sv xs) (hb : Below w0.heap.size w0 w) : OnL w0 w1 sv xs := ⟨OwnsRow.more h.1 hb.size, below_step hb h.2⟩

/-- values laid over others from a place on -/
def putL : Nat → List Value → List Value → List Value
  | _, [], xs => xs
  | o, v :: r, xs => putL (o + 1) r (xs.set o v)
theorem putL_at : ∀ (C A D : List Value) (o : Nat), A.length = o → C.length ≤ D.length → putL o C (A ++ D) = A ++ (C ++ D.drop C.length)
  | [], A, D, o, _, _ => rfl
  | c :: C, A, [], o, _, h => by simp at h
  | c :: C, A, d :: D, o, ha, h => by
    have e1 : (A ++ d :: D).set o c = (A ++ [c]) ++ D := by
      rw [List.set_append_right _ _ (by omega), show o - A.length = 0 by omega]; simp
    show putL (o + 1) C ((A ++ d :: D).set o c) = _
    rw [e1, putL_at C (A ++ [c]) D (o + 1) (by simp [ha]) (by simpa using h)]
    simp
theorem own_setCells {base g n cap : Nat} {e : TypeId} : ∀ (vs xs : List Value) (o : Nat) (w : World), w.ownsRow base e 3 (.slice (some ⟨g, 0, none⟩) n cap) n xs →
    (w.setCells g o vs).ownsRow base e 3 (.slice (some ⟨g, 0, none⟩) n cap) n (putL o vs xs) ∧ w.grownBy (w.setCells g o vs) (some g)
  | [], xs, o, w, h => ⟨h, World.grownBy.refl _ _⟩
  | v :: vs, xs, o, w, h => by
    obtain ⟨h1, h2⟩ := h.stored o v
    obtain ⟨h3, h4⟩ := own_setCells vs (xs.set o v) (o + 1) _ h1
    exact ⟨h3, ⟨h4.os.trans h2.os, h4.tape.trans h2.tape, h4.output.trans h2.output, Nat.le_trans h2.size h4.size, fun k hk hn => (h4.block k (Nat.lt_of_lt_of_le hk h2.size) hn).trans (h2.block k hk hn)⟩⟩
theorem own_shrink {w : World} {base g n m cap : Nat} {e : TypeId} {xs : List Value} (h : w.ownsRow base e 3 (.slice (some ⟨g, 0, none⟩) n cap) n xs) (hm : m ≤ n) : w.ownsRow base e 3 (.slice (some ⟨g, 0, none⟩) m cap) m (xs.take (m * 3)) := by
  obtain ⟨h1, h2⟩ := h
  refine ⟨by simp; omega, .inr ?_⟩
  rcases h2 with ⟨h3, _⟩ | ⟨g', cap', cur, e1, hg, hgg, hn, hc, hs, ht⟩
  · cases h3
  · injection e1 with e1 e2 e3
    injection e1 with e1
    injection e1 with e1
    subst e1; subst e3
    refine ⟨g, cap, cur, rfl, hg, hgg, by omega, hc, hs, ?_⟩
    rw [← ht, List.take_take, Nat.min_eq_left (by omega)]
theorem own_room {w : World} {base g n cap : Nat} {e : TypeId} {xs : List Value} (h : w.ownsRow base e 3 (.slice (some ⟨g, 0, none⟩) n cap) n xs) : n ≤ cap ∧ cap ≤ maxLen ∧ base ≤ g ∧ g < w.heap.size ∧ ∀ j, j < cap * 3 → (w.cell? ⟨g, j, none⟩).isSome = true ∧ w.frozen? ⟨g, j, none⟩ = false := by
  rcases h.2 with ⟨h3, _⟩ | ⟨g', cap', cur, e1, hg, hgg, hn, hc, hs, ht⟩
  · cases h3
  · injection e1 with e1 e2 e3
    injection e1 with e1
    injection e1 with e1
    subst e1; subst e3
    refine ⟨hn, hc, hg, (Array.getElem?_eq_some_iff.1 hgg).1, fun j hj => ⟨?_, frozen_of_row _ _ _ _ _ hgg⟩⟩
    rw [cell_of_row _ _ j _ _ _ hgg, Array.getElem?_eq_getElem (by omega)]; rfl
theorem run_clear_three {P : Program} (w : World) (t e ty : TypeId) (ht : P.underlying t = some (.slice e)) (hv : ∀ w, (zeroValue e).run P w = .ok (.agg #[.int .i64 0, .int .i64 0, .int .i64 0]) w) (b o c : Nat)
    (hc : ∀ j, j < 3 → (w.cell? ⟨b, o + j, none⟩).isSome = true) (hf : ∀ j, j < 3 → w.frozen? ⟨b, o + j, none⟩ = false) :
    (Builtin.clear_ #[t] ty #[.slice (some ⟨b, o, none⟩) 1 c]).run P w = .ok (.tuple #[]) (w.setCells b o [.int .i64 0, .int .i64 0, .int .i64 0]) := by
  have hzc : (Builtin.zeroCells (Value.agg #[.int .i64 0, .int .i64 0, .int .i64 0]).cells 1).toList = [.int .i64 0, .int .i64 0, .int .i64 0] := by
    simp [Builtin.zeroCells, Value.cells]
    rfl
  have hst := run_storeCells_cells (P := P) b o [.int .i64 0, .int .i64 0, .int .i64 0] 0 w (by simpa using hc) (by simpa using hf) (by intro v hv'; simp at hv'; rcases hv' with rfl | rfl | rfl <;> rfl)
  simp only [Nat.add_zero] at hst
  simp [Builtin.clear_, run_underlying ht, hv, hzc, hst]
theorem linCells_drop (zs : List Lin) (k : Nat) (hk : k < zs.length) : linCells zs = linCells (zs.take k) ++ (linCell zs[k] ++ linCells (zs.drop (k + 1))) := by
  have h1 : zs = zs.take k ++ (zs[k] :: zs.drop (k + 1)) := by rw [← List.drop_eq_getElem_cons hk, List.take_append_drop]
  rw [congrArg linCells h1, linCells_append, linCells_cons]
  rfl
set_option maxRecDepth 100000 in
set_option maxHeartbeats 2000000 in
theorem deleteL_c (base g cap k : Nat) (zs : List Lin) (w : World) (ho : w.ownsRow base 38 3 (.slice (some ⟨g, 0, none⟩) zs.length cap) zs.length (linCells zs)) (hk : k < zs.length) (hl : zs.length ≤ 2097152) :
    Calls Try.prog 45 #[.slice (some ⟨g, 0, none⟩) zs.length cap, .int .i64 k, .int .i64 ((k : Int) + 1)] w fun e w' =>
      e = .returned (.slice (some ⟨g, 0, none⟩) (zs.length - 1) cap) ∧ w'.ownsRow base 38 3 (.slice (some ⟨g, 0, none⟩) (zs.length - 1) cap) (zs.length - 1) (linCells (zs.take k ++ zs.drop (k + 1))) ∧ w.grownBy w' (some g) := by
  obtain ⟨i0, hi, hz0, hz1, hz2⟩ := info_parts linInf
  obtain ⟨r1, r2, r3, r4, r5⟩ := own_room ho
  have hoz : OwL 38 base w.heap.size w (.slice (some ⟨g, 0, none⟩) zs.length cap) zs := OwL.of_own ho
  have harg : ArgL w (some ⟨g, 0, none⟩) cap zs := hoz.arg hl (Nat.le_refl _)
  obtain ⟨D, hD⟩ : ∃ D, D = zs.drop (k + 1) := ⟨_, rfl⟩
  have hDl : D.length = zs.length - (k + 1) := by rw [hD]; simp
  have hbw : Below w.heap.size w w.drew := below_drewN (Below.refl _ _) 1
  have hdo : w.drew.ownsRow base 38 3 (.slice (some ⟨g, 0, none⟩) zs.length cap) zs.length (linCells zs) := (hoz.go hbw (Nat.le_refl _)).own
  obtain ⟨p1, p2, p3, p4, r6⟩ := own_room hdo
  -- the cells that move
  obtain ⟨A, hA, hsrc⟩ : ∃ A : Addr, (if cap = k + 1 then some (⟨g, 0, none⟩ : Addr) else some ⟨g, (k + 1) * 3, none⟩) = some A ∧ Hid (∀ t u, (linCells D)[t]? = some u → w.drew.cell? (A.add t) = some u) := by
    by_cases h : cap = k + 1
    · refine ⟨⟨g, 0, none⟩, by simp [h], Lib.hid (fun t u hu => ?_)⟩
      have : D = [] := List.eq_nil_of_length_eq_zero (by omega)
      rw [this] at hu; simp [linCells] at hu
    · refine ⟨⟨g, (k + 1) * 3, none⟩, by simp [h], Lib.hid (fun t u hu => ?_)⟩
      have := argL_cells ((harg.drop (k + 1)).go hbw) t u (by rw [← hD]; exact hu)
      rwa [Nat.zero_add] at this
  have Hn := Lib.hid (show (linCells D).length = (zs.length - (k + 1)) * 3 by rw [linCells_length, hDl])
  have Hone := Lib.hid (linCells_oneCell D)
  have Hsp := Lib.hid (show ∀ t, t < (linCells D).length → (w.drew.cell? ⟨g, 0 + k * 3 + t, none⟩).isSome = true ∧ w.drew.frozen? ⟨g, 0 + k * 3 + t, none⟩ = false from fun t ht => by
    rw [linCells_length] at ht
    exact r6 _ (by omega))
  have hst := own_setCells (linCells D) (linCells zs) (0 + k * 3) w.drew hdo
  obtain ⟨W1, hW1⟩ : ∃ W1, W1 = w.drew.setCells g (0 + k * 3) (linCells D) := ⟨_, rfl⟩
  rw [← hW1] at hst
  obtain ⟨q1, q2, q3, q4, q5⟩ := own_room hst.1
  have hcl : ∀ ty c', (Builtin.clear_ #[23] ty #[.slice (some ⟨g, (zs.length - 1) * 3, none⟩) 1 c']).run Try.prog W1 = .ok (.tuple #[]) (W1.setCells g ((zs.length - 1) * 3) [.int .i64 0, .int .i64 0, .int .i64 0]) :=
    fun ty c' => run_clear_three W1 _ _ ty Try.underlying23 (fun w => by simp [zeroValue]; rfl) g _ c' (fun j hj => (q5 _ (by omega)).1) (fun j hj => (q5 _ (by omega)).2)
  have hcl' : ∀ ty, (Builtin.clear_ #[23] ty #[.slice (some ⟨g, (k + (zs.length - (k + 1))) * 3, none⟩) (zs.length - (k + (zs.length - (k + 1)))) (cap - (k + (zs.length - (k + 1))))]).run Try.prog W1 = .ok (.tuple #[]) (W1.setCells g ((zs.length - 1) * 3) [.int .i64 0, .int .i64 0, .int .i64 0]) := fun ty => by
    rw [show k + (zs.length - (k + 1)) = zs.length - 1 by omega, show zs.length - (zs.length - 1) = 1 by omega]
    exact hcl ty _
  clear hcl
  have hst2 := own_setCells [.int .i64 0, .int .i64 0, .int .i64 0] _ ((zs.length - 1) * 3) W1 hst.1
  have hfin : (W1.setCells g ((zs.length - 1) * 3) [.int .i64 0, .int .i64 0, .int .i64 0]).ownsRow base 38 3 (.slice (some ⟨g, 0, none⟩) (zs.length - 1) cap) (zs.length - 1) (linCells (zs.take k ++ zs.drop (k + 1))) ∧ w.grownBy (W1.setCells g ((zs.length - 1) * 3) [.int .i64 0, .int .i64 0, .int .i64 0]) (some g) := by
    refine ⟨?_, ?_⟩
    · have h1 := own_shrink hst2.1 (m := zs.length - 1) (by omega)
      have htk : (linCells (zs.take k)).length = k * 3 := by rw [linCells_length, List.length_take]; omega
      have hlD : (linCells D).length = (zs.length - (k + 1)) * 3 := by rw [linCells_length, hDl]
      have hlA : (linCells (zs.take k) ++ linCells D).length = (zs.length - 1) * 3 := by rw [List.length_append, htk, hlD]; omega
      have hcl2 : ∀ s : Lin, (linCell s).length = 3 := fun s => rfl
      rw [linCells_drop zs k hk, ← hD, Nat.zero_add, putL_at _ _ _ _ htk (by rw [List.length_append, hcl2]; omega)] at h1
      rw [← List.append_assoc, putL_at _ _ _ _ hlA (by rw [List.length_drop, List.length_append, hcl2]; simp), List.take_append_of_le_length (by rw [hlA]; omega), List.take_of_length_le (by rw [hlA]; omega), ← linCells_append, hD] at h1
      exact h1
    · exact ⟨hst2.2.os.trans (hst.2.os.trans rfl), hst2.2.tape.trans (hst.2.tape.trans rfl), hst2.2.output.trans (hst.2.output.trans rfl), Nat.le_trans hst.2.size hst2.2.size, fun i hi hn => (hst2.2.block i (Nat.lt_of_lt_of_le hi hst.2.size) hn).trans (hst.2.block i hi hn)⟩
  have Hfin := Lib.hid hfin
  have HW := Lib.hid hW1
  have g1 : (k : Int) + 1 ≤ (zs.length : Int) := by omega
  have g2 : (zs.length : Int) ≤ (cap : Int) := by omega
  have hic : k ≤ cap := by omega
  have g5 : (0 : Int) ≤ (k : Int) + 1 := by omega
  have hjc : k + 1 ≤ cap := by omega
  have g3 : (k : Int) ≤ (cap : Int) := by omega
  have g4 : (k : Int) + 1 ≤ (cap : Int) := by omega
  clear hW1 hfin hst hst2 hD harg hoz ho hdo hDl q5 r5 r6
  go_enter Try.func45, Try.ntmps45
  go_wp2_with fail
  go_region_law (refine step_append_room rfl (.tmp 22) (.tmp 25) 23 rfl 38 i0 3 Try.underlying23 hi hz1 g 0 k cap (by simp [Act.eval, Act.put]) A (zs.length - (k + 1)) (cap - (k + 1)) (linCells D) (by simp [Act.eval, Act.put]) Hn.out hsrc.out Hone.out (by omega) Hsp.out ?_; rw [← HW.out])
  all_goals
    go_wp2
    go_ret
    exact ⟨by rw [show k + (zs.length - (k + 1)) = zs.length - 1 by omega]; rfl, Hfin.out⟩


end Go.Proofs.Ytiajfpmlcchodaa
