/-
  slices of routes that the call itself makes: the first ones, those behind, slices.Delete of one.
-/
import Derived.Test.YtjboamhjfncgdaaAppK
import Derived.Test.YtjboamhjfncgdaaMade
import Derived.Lib.SliceRun
import Derived.StillTailTactics
import Derived.Deep.RegionLaw
import Derived.Deep.AppendLies
import Derived.Test.YtjboamhjfncgdaaMem
namespace Go.Proofs.Ytjboamhjfncgdaa
open Go.RowKit

def OnK (w wr : World) (sv : Value) (xs : List Rot) : Prop := wr.ownsRow w.heap.size 37 4 sv xs.length (rotCells xs) ∧ Below w.heap.size w wr
theorem OnK.go {w w1 w2 : World} {sv : Value} {xs : List Rot} (h : OnK w w1 sv xs) (hb : Below w1.heap.size w1 w2) : OnK w w2 sv xs := by
  have h1 : OwK 37 w.heap.size w1.heap.size w1 sv xs := OwK.of_own h.1
  exact ⟨(h1.go hb (Nat.le_refl _)).own, below_step h.2 hb⟩
theorem OnK.grown {w wr w3 : World} {sv v' : Value} {xs ys : List Rot} {o : Obj} (h : OnK w wr sv xs) (h1 : w3.ownsRow w.heap.size 37 4 v' ys.length (rotCells ys)) (h2 : (wr.alloc o).grownBy w3 sv.ownBlock) : OnK w w3 v' ys :=
  ⟨h1, (h.2.alloc h.2.size o).grown h2 (by simp; have := h.2.size; omega) (fun k e => (h.1.lt k e).1)⟩
theorem ArgK.take {w : World} {A : Option Addr} {c : Nat} {zs : List Rot} (h : ArgK w A c zs) (k : Nat) : ArgK w A c (zs.take k) := by
  have h1 : (zs.take k).length ≤ zs.length := by simp; omega
  refine ⟨by have := h.1; omega, by have := h.2.1; omega, h.2.2.1, fun hn => ?_⟩
  obtain ⟨b, off, e, l1, l2⟩ := h.rd (by omega)
  refine ⟨b, off, e, l1, l2.1, fun j hj => ?_⟩
  have hj2 : j < k := by simp at hj; omega
  have := l2.2 j (by omega)
  rwa [show rotAt (zs.take k) j = rotAt zs j by unfold rotAt; rw [List.getElem?_take_of_lt hj2]]
theorem ArgK.drop {w : World} {b off c : Nat} {zs : List Rot} (h : ArgK w (some ⟨b, off, none⟩) c zs) (k : Nat) : ArgK w (some ⟨b, off + k * 4, none⟩) (c - k) (zs.drop k) := by
  have h1 : (zs.drop k).length = zs.length - k := by simp
  refine ⟨by have := h.1; omega, by have := h.2.1; omega, by have := h.2.2.1; omega, fun hn => ?_⟩
  obtain ⟨b', off', e, l1, l2, l3⟩ := h.rd (by omega)
  injection e with e
  injection e with e1 e2 _
  subst e1; subst e2
  refine ⟨b, off + k * 4, rfl, l1, l2, fun j hj => ?_⟩
  have := l3 (k + j) (by omega)
  rw [show rotAt (zs.drop k) j = rotAt zs (k + j) by unfold rotAt; rw [List.getElem?_drop], show off + k * 4 + j * 4 = off + (k + j) * 4 by omega]
  exact this
theorem argK_empty (W : World) (A : Option Addr) (c : Nat) (hc : c ≤ maxLen) : ArgK W A c [] := ⟨by simp, by simp, hc, RdK.nil⟩
theorem OnK.grown0 {w wr w3 : World} {sv v' : Value} {xs ys : List Rot} (h : OnK w wr sv xs) (h1 : w3.ownsRow w.heap.size 37 4 v' ys.length (rotCells ys)) (h2 : wr.grownBy w3 sv.ownBlock) : OnK w w3 v' ys :=
  ⟨h1, h.2.grown h2 h.2.size (fun k e => (h.1.lt k e).1)⟩
theorem onk_snoc {w wr w3 : World} {sv v' : Value} {xs : List Rot} {x : Rot} (h : OnK w wr sv xs) (h1 : w3.ownsRow w.heap.size 37 4 v' (xs.length + 1) (rotCells xs ++ rotCell x)) (h2 : wr.grownBy w3 sv.ownBlock) : OnK w w3 v' (xs ++ [x]) :=
  h.grown0 (by rw [rotCells_snoc, List.length_append, List.length_singleton]; exact h1) h2
theorem OnK.arg {w w' : World} {A : Option Addr} {c : Nat} {xs zs : List Rot} {sv : Value} (h : OnK w w' sv xs) (ha : ArgK w A c zs) : ArgK w' A c zs := ha.go h.2
theorem OnK.alloc {w w1 : World} {sv : Value} {xs : List Rot} (h : OnK w w1 sv xs) (o : Obj) : OnK w (w1.alloc o) sv xs := h.go ((Below.refl _ _).alloc (Nat.le_refl _) o)
theorem argK_one' (w : World) (s : Rot) (t : TypeId) : ArgK (w.alloc (.cells #[.int .i64 s.a, .int .i64 s.b, .int .i64 s.c, .int .i64 s.d] t)).drew (some ⟨w.heap.size, 0, none⟩) 1 [s] := (argK_one w s t).go (below_drewN (Below.refl _ _) 1)
theorem OnK.drew {w w1 : World} {sv : Value} {xs : List Rot} (h : OnK w w1 sv xs) : OnK w w1.drew sv xs := h.go (below_drewN (Below.refl _ _) 1)
theorem OnK.base {w0 w w1 : World} {sv : Value} {xs : List Rot} (h : OnK w w1 sv xs) (hb : Below w0.heap.size w0 w) : OnK w0 w1 sv xs := ⟨OwnsRow.more h.1 hb.size, below_step hb h.2⟩

/-- values laid over others from a place on -/
def putL : Nat → List Value → List Value → List Value
  | _, [], xs => xs
  | o, v :: r, xs => putL (o + 1) r (xs.set o v)
theorem putL_at : ∀ (C A D : List Value) (o : Nat), A.length = o → C.length ≤ D.length → putL o C (A ++ D) = A ++ (C ++ D.drop C.length)
  | [], A, D, o, _, _ => rfl
  | c :: C, A, [], o, _, h => by simp at h
  | c :: C, A, d :: D, o, ha, h => by
    have e1 : (A ++ d :: D).set o c = (A ++ [c]) ++ D := by
      rw [List.set_append_right _ _ (by omega), show o - A.length = 0 by omega]; simp
    show putL (o + 1) C ((A ++ d :: D).set o c) = _
    rw [e1, putL_at C (A ++ [c]) D (o + 1) (by simp [ha]) (by simpa using h)]
    simp
theorem own_setCells {base g n cap : Nat} {e : TypeId} : ∀ (vs xs : List Value) (o : Nat) (w : World), w.ownsRow base e 4 (.slice (some ⟨g, 0, none⟩) n cap) n xs →
    (w.setCells g o vs).ownsRow base e 4 (.slice (some ⟨g, 0, none⟩) n cap) n (putL o vs xs) ∧ w.grownBy (w.setCells g o vs) (some g)
  | [], xs, o, w, h => ⟨h, World.grownBy.refl _ _⟩
  | v :: vs, xs, o, w, h => by
    obtain ⟨h1, h2⟩ := h.stored o v
    obtain ⟨h3, h4⟩ := own_setCells vs (xs.set o v) (o + 1) _ h1
    exact ⟨h3, ⟨h4.os.trans h2.os, h4.tape.trans h2.tape, h4.output.trans h2.output, Nat.le_trans h2.size h4.size, fun k hk hn => (h4.block k (Nat.lt_of_lt_of_le hk h2.size) hn).trans (h2.block k hk hn)⟩⟩
theorem own_shrink {w : World} {base g n m cap : Nat} {e : TypeId} {xs : List Value} (h : w.ownsRow base e 4 (.slice (some ⟨g, 0, none⟩) n cap) n xs) (hm : m ≤ n) : w.ownsRow base e 4 (.slice (some ⟨g, 0, none⟩) m cap) m (xs.take (m * 4)) := by
  obtain ⟨h1, h2⟩ := h
  refine ⟨by simp; omega, .inr ?_⟩
  rcases h2 with ⟨h3, _⟩ | ⟨g', cap', cur, e1, hg, hgg, hn, hc, hs, ht⟩
  · cases h3
  · injection e1 with e1 e2 e3
    injection e1 with e1
    injection e1 with e1
    subst e1; subst e3
    refine ⟨g, cap, cur, rfl, hg, hgg, by omega, hc, hs, ?_⟩
    rw [← ht, List.take_take, Nat.min_eq_left (by omega)]
theorem own_room {w : World} {base g n cap : Nat} {e : TypeId} {xs : List Value} (h : w.ownsRow base e 4 (.slice (some ⟨g, 0, none⟩) n cap) n xs) : n ≤ cap ∧ cap ≤ maxLen ∧ base ≤ g ∧ g < w.heap.size ∧ ∀ j, j < cap * 4 → (w.cell? ⟨g, j, none⟩).isSome = true ∧ w.frozen? ⟨g, j, none⟩ = false := by
  rcases h.2 with ⟨h3, _⟩ | ⟨g', cap', cur, e1, hg, hgg, hn, hc, hs, ht⟩
  · cases h3
  · injection e1 with e1 e2 e3
    injection e1 with e1
    injection e1 with e1
    subst e1; subst e3
    refine ⟨hn, hc, hg, (Array.getElem?_eq_some_iff.1 hgg).1, fun j hj => ⟨?_, frozen_of_row _ _ _ _ _ hgg⟩⟩
    rw [cell_of_row _ _ j _ _ _ hgg, Array.getElem?_eq_getElem (by omega)]; rfl
theorem run_clear_four {P : Program} (w : World) (t e ty : TypeId) (ht : P.underlying t = some (.slice e)) (hv : ∀ w, (zeroValue e).run P w = .ok (.agg #[.int .i64 0, .int .i64 0, .int .i64 0, .int .i64 0]) w) (b o c : Nat)
    (hc : ∀ j, j < 4 → (w.cell? ⟨b, o + j, none⟩).isSome = true) (hf : ∀ j, j < 4 → w.frozen? ⟨b, o + j, none⟩ = false) :
    (Builtin.clear_ #[t] ty #[.slice (some ⟨b, o, none⟩) 1 c]).run P w = .ok (.tuple #[]) (w.setCells b o [.int .i64 0, .int .i64 0, .int .i64 0, .int .i64 0]) := by
  have hzc : (Builtin.zeroCells (Value.agg #[.int .i64 0, .int .i64 0, .int .i64 0, .int .i64 0]).cells 1).toList = [.int .i64 0, .int .i64 0, .int .i64 0, .int .i64 0] := by
    simp [Builtin.zeroCells, Value.cells]
    rfl
  have hst := run_storeCells_cells (P := P) b o [.int .i64 0, .int .i64 0, .int .i64 0, .int .i64 0] 0 w (by simpa using hc) (by simpa using hf) (by intro v hv'; simp at hv'; rcases hv' with rfl | rfl | rfl | rfl <;> rfl)
  simp only [Nat.add_zero] at hst
  simp [Builtin.clear_, run_underlying ht, hv, hzc, hst]
theorem rotCells_drop (zs : List Rot) (k : Nat) (hk : k < zs.length) : rotCells zs = rotCells (zs.take k) ++ (rotCell zs[k] ++ rotCells (zs.drop (k + 1))) := by
  have h1 : zs = zs.take k ++ (zs[k] :: zs.drop (k + 1)) := by rw [← List.drop_eq_getElem_cons hk, List.take_append_drop]
  rw [congrArg rotCells h1, rotCells_append, rotCells_cons]
  rfl
set_option maxRecDepth 100000 in
set_option maxHeartbeats 2000000 in
theorem deleteK_c (base g cap k : Nat) (zs : List Rot) (w : World) (ho : w.ownsRow base 37 4 (.slice (some ⟨g, 0, none⟩) zs.length cap) zs.length (rotCells zs)) (hk : k < zs.length) (hl : zs.length ≤ 2097152) :
    Calls Try.prog 97 #[.slice (some ⟨g, 0, none⟩) zs.length cap, .int .i64 k, .int .i64 ((k : Int) + 1)] w fun e w' =>
      e = .returned (.slice (some ⟨g, 0, none⟩) (zs.length - 1) cap) ∧ w'.ownsRow base 37 4 (.slice (some ⟨g, 0, none⟩) (zs.length - 1) cap) (zs.length - 1) (rotCells (zs.take k ++ zs.drop (k + 1))) ∧ w.grownBy w' (some g) := by
  obtain ⟨i0, hi, hz0, hz1, hz2⟩ := info_parts rotInf
  obtain ⟨r1, r2, r3, r4, r5⟩ := own_room ho
  have hoz : OwK 37 base w.heap.size w (.slice (some ⟨g, 0, none⟩) zs.length cap) zs := OwK.of_own ho
  have harg : ArgK w (some ⟨g, 0, none⟩) cap zs := hoz.arg hl (Nat.le_refl _)
  obtain ⟨D, hD⟩ : ∃ D, D = zs.drop (k + 1) := ⟨_, rfl⟩
  have hDl : D.length = zs.length - (k + 1) := by rw [hD]; simp
  have hbw : Below w.heap.size w w.drew := below_drewN (Below.refl _ _) 1
  have hdo : w.drew.ownsRow base 37 4 (.slice (some ⟨g, 0, none⟩) zs.length cap) zs.length (rotCells zs) := (hoz.go hbw (Nat.le_refl _)).own
  obtain ⟨p1, p2, p3, p4, r6⟩ := own_room hdo
  -- the cells that move
  obtain ⟨A, hA, hsrc⟩ : ∃ A : Addr, (if cap = k + 1 then some (⟨g, 0, none⟩ : Addr) else some ⟨g, (k + 1) * 4, none⟩) = some A ∧ Hid (∀ t u, (rotCells D)[t]? = some u → w.drew.cell? (A.add t) = some u) := by
    by_cases h : cap = k + 1
    · refine ⟨⟨g, 0, none⟩, by simp [h], Lib.hid (fun t u hu => ?_)⟩
      have : D = [] := List.eq_nil_of_length_eq_zero (by omega)
      rw [this] at hu; simp [rotCells] at hu
    · refine ⟨⟨g, (k + 1) * 4, none⟩, by simp [h], Lib.hid (fun t u hu => ?_)⟩
      have := argK_cells ((harg.drop (k + 1)).go hbw) t u (by rw [← hD]; exact hu)
      rwa [Nat.zero_add] at this
  have Hn := Lib.hid (show (rotCells D).length = (zs.length - (k + 1)) * 4 by rw [rotCells_length, hDl])
  have Hone := Lib.hid (rotCells_oneCell D)
  have Hsp := Lib.hid (show ∀ t, t < (rotCells D).length → (w.drew.cell? ⟨g, 0 + k * 4 + t, none⟩).isSome = true ∧ w.drew.frozen? ⟨g, 0 + k * 4 + t, none⟩ = false from fun t ht => by
    rw [rotCells_length] at ht
    exact r6 _ (by omega))
  have hst := own_setCells (rotCells D) (rotCells zs) (0 + k * 4) w.drew hdo
  obtain ⟨W1, hW1⟩ : ∃ W1, W1 = w.drew.setCells g (0 + k * 4) (rotCells D) := ⟨_, rfl⟩
  rw [← hW1] at hst
  obtain ⟨q1, q2, q3, q4, q5⟩ := own_room hst.1
  have hcl : ∀ ty c', (Builtin.clear_ #[23] ty #[.slice (some ⟨g, (zs.length - 1) * 4, none⟩) 1 c']).run Try.prog W1 = .ok (.tuple #[]) (W1.setCells g ((zs.length - 1) * 4) [.int .i64 0, .int .i64 0, .int .i64 0, .int .i64 0]) :=
    fun ty c' => run_clear_four W1 _ _ ty Try.underlying23 (fun w => by simp [zeroValue]; rfl) g _ c' (fun j hj => (q5 _ (by omega)).1) (fun j hj => (q5 _ (by omega)).2)
  have hcl' : ∀ ty, (Builtin.clear_ #[23] ty #[.slice (some ⟨g, (k + (zs.length - (k + 1))) * 4, none⟩) (zs.length - (k + (zs.length - (k + 1)))) (cap - (k + (zs.length - (k + 1))))]).run Try.prog W1 = .ok (.tuple #[]) (W1.setCells g ((zs.length - 1) * 4) [.int .i64 0, .int .i64 0, .int .i64 0, .int .i64 0]) := fun ty => by
    rw [show k + (zs.length - (k + 1)) = zs.length - 1 by omega, show zs.length - (zs.length - 1) = 1 by omega]
    exact hcl ty _
  clear hcl
  have hst2 := own_setCells [.int .i64 0, .int .i64 0, .int .i64 0, .int .i64 0] _ ((zs.length - 1) * 4) W1 hst.1
  have hfin : (W1.setCells g ((zs.length - 1) * 4) [.int .i64 0, .int .i64 0, .int .i64 0, .int .i64 0]).ownsRow base 37 4 (.slice (some ⟨g, 0, none⟩) (zs.length - 1) cap) (zs.length - 1) (rotCells (zs.take k ++ zs.drop (k + 1))) ∧ w.grownBy (W1.setCells g ((zs.length - 1) * 4) [.int .i64 0, .int .i64 0, .int .i64 0, .int .i64 0]) (some g) := by
    refine ⟨?_, ?_⟩
    · have h1 := own_shrink hst2.1 (m := zs.length - 1) (by omega)
      have htk : (rotCells (zs.take k)).length = k * 4 := by rw [rotCells_length, List.length_take]; omega
      have hlD : (rotCells D).length = (zs.length - (k + 1)) * 4 := by rw [rotCells_length, hDl]
      have hlA : (rotCells (zs.take k) ++ rotCells D).length = (zs.length - 1) * 4 := by rw [List.length_append, htk, hlD]; omega
      have hcl2 : ∀ s : Rot, (rotCell s).length = 4 := fun s => rfl
      rw [rotCells_drop zs k hk, ← hD, Nat.zero_add, putL_at _ _ _ _ htk (by rw [List.length_append, hcl2]; omega)] at h1
      rw [← List.append_assoc, putL_at _ _ _ _ hlA (by rw [List.length_drop, List.length_append, hcl2]; simp), List.take_append_of_le_length (by rw [hlA]; omega), List.take_of_length_le (by rw [hlA]; omega), ← rotCells_append, hD] at h1
      exact h1
    · exact ⟨hst2.2.os.trans (hst.2.os.trans rfl), hst2.2.tape.trans (hst.2.tape.trans rfl), hst2.2.output.trans (hst.2.output.trans rfl), Nat.le_trans hst.2.size hst2.2.size, fun i hi hn => (hst2.2.block i (Nat.lt_of_lt_of_le hi hst.2.size) hn).trans (hst.2.block i hi hn)⟩
  have Hfin := Lib.hid hfin
  have HW := Lib.hid hW1
  have g1 : (k : Int) + 1 ≤ (zs.length : Int) := by omega
  have g2 : (zs.length : Int) ≤ (cap : Int) := by omega
  have hic : k ≤ cap := by omega
  have g5 : (0 : Int) ≤ (k : Int) + 1 := by omega
  have hjc : k + 1 ≤ cap := by omega
  have g3 : (k : Int) ≤ (cap : Int) := by omega
  have g4 : (k : Int) + 1 ≤ (cap : Int) := by omega
  clear hW1 hfin hst hst2 hD harg hoz ho hdo hDl q5 r5 r6
  go_enter Try.func97, Try.ntmps97
  go_wp2_with fail
  go_region_law (refine step_append_room rfl (.tmp 22) (.tmp 25) 23 rfl 37 i0 4 Try.underlying23 hi hz1 g 0 k cap (by simp [Act.eval, Act.put]) A (zs.length - (k + 1)) (cap - (k + 1)) (rotCells D) (by simp [Act.eval, Act.put]) Hn.out hsrc.out Hone.out (by omega) Hsp.out ?_; rw [← HW.out])
  all_goals
    go_wp2
    go_ret
    exact ⟨by rw [show k + (zs.length - (k + 1)) = zs.length - 1 by omega]; rfl, Hfin.out⟩


end Go.Proofs.Ytjboamhjfncgdaa
