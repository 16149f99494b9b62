/-
  slices.Clone at ints; slices.Delete of one int, in an own slice.
-/
import Derived.Test.YtodboccadccpfaaApI0
import Derived.Lib.SliceRun
import Derived.Deep.RegionLaw
import Derived.Deep.RegionHeld3
namespace Go.Proofs.Ytodboccadccpfaa
open Go.RowKit

set_option maxRecDepth 100000 in
theorem cloneI_c (b off c : Nat) (zs : List Int) (w : World) (ha : Arg w (some ⟨b, off, none⟩) c zs) :
    Calls Try.prog 96 #[.slice (some ⟨b, off, none⟩) zs.length c] w (RetS 3 id zs w) := by
  obtain ⟨i0, hi, hz0, hz1, hz2⟩ := info_parts intInf
  have hl := ha.len
  have HA := Lib.hid ha
  clear ha
  have hnil := Lib.run_eql_slice_nil (P := Try.prog) w 67 3 (some ⟨b, off, none⟩) zs.length c 0 0 Try.underlying67
  go_enter Try.func96, Try.ntmps96
  go_wp2_with (at_builtin; refine wpList_append_ints rfl _ _ 67 rfl w.heap.size 3 i0 (.int .i64 0) Try.underlying67 hi hz0 hz1 hz2 rfl (.slice (some ⟨w.heap.size, 0, none⟩) 0 0) [] rfl (own_none w _) (some ⟨b, off, none⟩) c zs rfl (HA.out.go (below_none w _)) (by simp; omega) (by simp) ?_; intro v' w3 hown3 hg3; have H3 := Lib.hid (next1 hown3 hg3); clear hown3 hg3)
  go_ret
  exact RetS.mk (f := id) hl H3.out.1 H3.out.2

/-- values laid over others from a place on -/
def putI : Nat → List Value → List Value → List Value
  | _, [], xs => xs
  | o, v :: r, xs => putI (o + 1) r (xs.set o v)
theorem putI_at : ∀ (C A D : List Value) (o : Nat), A.length = o → C.length ≤ D.length → putI o C (A ++ D) = A ++ (C ++ D.drop C.length)
  | [], A, D, o, _, _ => rfl
  | c :: C, A, [], o, _, h => by simp at h
  | c :: C, A, d :: D, o, ha, h => by
    have e1 : (A ++ d :: D).set o c = (A ++ [c]) ++ D := by
      rw [List.set_append_right _ _ (by omega), show o - A.length = 0 by omega]; simp
    show putI (o + 1) C ((A ++ d :: D).set o c) = _
    rw [e1, putI_at C (A ++ [c]) D (o + 1) (by simp [ha]) (by simpa using h)]
    simp
theorem ownI_setCells {base g n cap : Nat} {e : TypeId} : ∀ (vs xs : List Value) (o : Nat) (w : World), w.ownsRow base e 1 (.slice (some ⟨g, 0, none⟩) n cap) n xs →
    (w.setCells g o vs).ownsRow base e 1 (.slice (some ⟨g, 0, none⟩) n cap) n (putI o vs xs) ∧ w.grownBy (w.setCells g o vs) (some g)
  | [], xs, o, w, h => ⟨h, World.grownBy.refl _ _⟩
  | v :: vs, xs, o, w, h => by
    obtain ⟨h1, h2⟩ := h.stored o v
    obtain ⟨h3, h4⟩ := ownI_setCells vs (xs.set o v) (o + 1) _ h1
    exact ⟨h3, ⟨h4.os.trans h2.os, h4.tape.trans h2.tape, h4.output.trans h2.output, Nat.le_trans h2.size h4.size, fun k hk hn => (h4.block k (Nat.lt_of_lt_of_le hk h2.size) hn).trans (h2.block k hk hn)⟩⟩
theorem ownI_shrink {w : World} {base g n m cap : Nat} {e : TypeId} {xs : List Value} (h : w.ownsRow base e 1 (.slice (some ⟨g, 0, none⟩) n cap) n xs) (hm : m ≤ n) : w.ownsRow base e 1 (.slice (some ⟨g, 0, none⟩) m cap) m (xs.take m) := by
  obtain ⟨h1, h2⟩ := h
  refine ⟨by simp; omega, .inr ?_⟩
  rcases h2 with ⟨h3, _⟩ | ⟨g', cap', cur, e1, hg, hgg, hn, hc, hs, ht⟩
  · cases h3
  · injection e1 with e1 e2 e3
    injection e1 with e1
    injection e1 with e1
    subst e1; subst e3
    refine ⟨g, cap, cur, rfl, hg, hgg, by omega, hc, hs, ?_⟩
    rw [← ht, List.take_take, Nat.min_eq_left (by omega), Nat.mul_one]
theorem ownI_room {w : World} {base g n cap : Nat} {e : TypeId} {xs : List Value} (h : w.ownsRow base e 1 (.slice (some ⟨g, 0, none⟩) n cap) n xs) : n ≤ cap ∧ cap ≤ maxLen ∧ base ≤ g ∧ g < w.heap.size ∧ ∀ j, j < cap → (w.cell? ⟨g, j, none⟩).isSome = true ∧ w.frozen? ⟨g, j, none⟩ = false := by
  rcases h.2 with ⟨h3, _⟩ | ⟨g', cap', cur, e1, hg, hgg, hn, hc, hs, ht⟩
  · cases h3
  · injection e1 with e1 e2 e3
    injection e1 with e1
    injection e1 with e1
    subst e1; subst e3
    refine ⟨hn, hc, hg, (Array.getElem?_eq_some_iff.1 hgg).1, fun j hj => ⟨?_, frozen_of_row _ _ _ _ _ hgg⟩⟩
    rw [cell_of_row _ _ j _ _ _ hgg, Array.getElem?_eq_getElem (by omega)]; rfl
theorem argI_drop {w : World} {b off c : Nat} {zs : List Int} (h : Arg w (some ⟨b, off, none⟩) c zs) (k : Nat) : Arg w (some ⟨b, off + k, none⟩) (c - k) (zs.drop k) := by
  have h1 : (zs.drop k).length = zs.length - k := by simp
  refine ⟨by have := h.1; omega, by have := h.2.1; omega, by have := h.2.2.1; omega, fun hn => ?_⟩
  obtain ⟨b', off', e, l1, l2, l3⟩ := h.rd (by omega)
  injection e with e
  injection e with e1 e2 _
  subst e1; subst e2
  refine ⟨b, off + k, rfl, l1, l2, fun j hj => ?_⟩
  have := l3 (k + j) (by omega)
  rw [show off + k + j = off + (k + j) by omega, this, List.getElem?_drop]

set_option maxRecDepth 100000 in
set_option maxHeartbeats 2000000 in
theorem deleteI_c (base g cap k : Nat) (zs : List Int) (w : World) (ho : w.ownsRow base 3 1 (.slice (some ⟨g, 0, none⟩) zs.length cap) zs.length (zs.map (Value.int .i64))) (hk : k < zs.length) (hl : zs.length ≤ 2097152) :
    Calls Try.prog 95 #[.slice (some ⟨g, 0, none⟩) zs.length cap, .int .i64 k, .int .i64 ((k : Int) + 1)] w fun e w' =>
      e = .returned (.slice (some ⟨g, 0, none⟩) (zs.length - 1) cap) ∧ w'.ownsRow base 3 1 (.slice (some ⟨g, 0, none⟩) (zs.length - 1) cap) (zs.length - 1) ((zs.take k ++ zs.drop (k + 1)).map (Value.int .i64)) ∧ w.grownBy w' (some g) := by
  obtain ⟨i0, hi, hz0, hz1, hz2⟩ := info_parts intInf
  obtain ⟨r1, r2, r3, r4, r5⟩ := ownI_room ho
  have hoz : Ow 3 base w.heap.size w (.slice (some ⟨g, 0, none⟩) zs.length cap) zs := ⟨ho, fun g2 e => (ho.lt g2 e).2⟩
  have harg : Arg w (some ⟨g, 0, none⟩) cap zs := hoz.arg hl (Nat.le_refl _)
  obtain ⟨D, hD⟩ : ∃ D, D = zs.drop (k + 1) := ⟨_, rfl⟩
  have hDl : D.length = zs.length - (k + 1) := by rw [hD]; simp
  have hbw : Below w.heap.size w w.drew := below_drewN (Below.refl _ _) 1
  have hdo : w.drew.ownsRow base 3 1 (.slice (some ⟨g, 0, none⟩) zs.length cap) zs.length (zs.map (Value.int .i64)) := (hoz.go hbw (Nat.le_refl _)).own
  obtain ⟨p1, p2, p3, p4, r6⟩ := ownI_room hdo
  -- the cells that move
  obtain ⟨A, hA, hsrc⟩ : ∃ A : Addr, (if cap = k + 1 then some (⟨g, 0, none⟩ : Addr) else some ⟨g, k + 1, none⟩) = some A ∧ Hid (∀ t u, (D.map (Value.int .i64))[t]? = some u → w.drew.cell? (A.add t) = some u) := by
    by_cases h : cap = k + 1
    · refine ⟨⟨g, 0, none⟩, by simp [h], Lib.hid (fun t u hu => ?_)⟩
      have : D = [] := List.eq_nil_of_length_eq_zero (by omega)
      rw [this] at hu; simp at hu
    · refine ⟨⟨g, k + 1, none⟩, by simp [h], Lib.hid (fun t u hu => ?_)⟩
      have := argI_cells ((argI_drop harg (k + 1)).go hbw) t u (by rw [← hD]; exact hu)
      rwa [Nat.zero_add] at this
  have Hn := Lib.hid (show (D.map (Value.int .i64)).length = (zs.length - (k + 1)) * 1 by rw [List.length_map, hDl, Nat.mul_one])
  have Hone := Lib.hid (intsOne D)
  have Hsp := Lib.hid (show ∀ t, t < (D.map (Value.int .i64)).length → (w.drew.cell? ⟨g, 0 + k * 1 + t, none⟩).isSome = true ∧ w.drew.frozen? ⟨g, 0 + k * 1 + t, none⟩ = false from fun t ht => by
    rw [List.length_map] at ht
    exact r6 _ (by omega))
  have hst := ownI_setCells (D.map (Value.int .i64)) (zs.map (Value.int .i64)) (0 + k * 1) w.drew hdo
  obtain ⟨W1, hW1⟩ : ∃ W1, W1 = w.drew.setCells g (0 + k * 1) (D.map (Value.int .i64)) := ⟨_, rfl⟩
  rw [← hW1] at hst
  obtain ⟨q1, q2, q3, q4, q5⟩ := ownI_room hst.1
  have hcl : ∀ ty c', (Builtin.clear_ #[67] ty #[.slice (some ⟨g, zs.length - 1, none⟩) 1 c']).run Try.prog W1 = .ok (.tuple #[]) (W1.setCells g (zs.length - 1) (List.replicate 1 (.int .i64 0))) :=
    fun ty c' => Lib.run_clear_slice W1 _ _ ty (.int .i64 0) Try.underlying67 (fun w => by simp [zeroValue]; rfl) rfl rfl g _ 1 c' (by omega) (fun j hj => (q5 _ (by omega)).1) (fun j hj => (q5 _ (by omega)).2)
  have hcl' : ∀ ty, (Builtin.clear_ #[67] ty #[.slice (some ⟨g, k + (zs.length - (k + 1)), none⟩) (zs.length - (k + (zs.length - (k + 1)))) (cap - (k + (zs.length - (k + 1))))]).run Try.prog W1 = .ok (.tuple #[]) (W1.setCells g (zs.length - 1) (List.replicate 1 (.int .i64 0))) := fun ty => by
    rw [show k + (zs.length - (k + 1)) = zs.length - 1 by omega, show zs.length - (zs.length - 1) = 1 by omega]
    exact hcl ty _
  clear hcl
  have hst2 := ownI_setCells (List.replicate 1 (.int .i64 0)) _ (zs.length - 1) W1 hst.1
  have hfin : (W1.setCells g (zs.length - 1) (List.replicate 1 (.int .i64 0))).ownsRow base 3 1 (.slice (some ⟨g, 0, none⟩) (zs.length - 1) cap) (zs.length - 1) ((zs.take k ++ zs.drop (k + 1)).map (Value.int .i64)) ∧ w.grownBy (W1.setCells g (zs.length - 1) (List.replicate 1 (.int .i64 0))) (some g) := by
    refine ⟨?_, ?_⟩
    · have h1 := ownI_shrink hst2.1 (m := zs.length - 1) (by omega)
      have htk : ((zs.take k).map (Value.int .i64)).length = k := by rw [List.length_map, List.length_take]; omega
      have hlD : (D.map (Value.int .i64)).length = zs.length - (k + 1) := by rw [List.length_map, hDl]
      have hlA : ((zs.take k).map (Value.int .i64) ++ D.map (Value.int .i64)).length = zs.length - 1 := by rw [List.length_append, htk, hlD]; omega
      have hsplit : zs.map (Value.int .i64) = (zs.take k).map (Value.int .i64) ++ (Value.int .i64 zs[k] :: (zs.drop (k + 1)).map (Value.int .i64)) := by
        rw [← List.map_cons, ← List.map_append, ← List.drop_eq_getElem_cons hk, List.take_append_drop]
      rw [hsplit, ← hD, Nat.zero_add, Nat.mul_one, putI_at _ _ _ _ htk (by simp)] at h1
      rw [← List.append_assoc, putI_at _ _ _ _ hlA (by rw [List.length_drop]; simp), List.take_append_of_le_length (by rw [hlA]; omega), List.take_of_length_le (by rw [hlA]; omega), ← List.map_append, hD] at h1
      exact h1
    · exact ⟨hst2.2.os.trans (hst.2.os.trans rfl), hst2.2.tape.trans (hst.2.tape.trans rfl), hst2.2.output.trans (hst.2.output.trans rfl), Nat.le_trans hst.2.size hst2.2.size, fun i hi hn => (hst2.2.block i (Nat.lt_of_lt_of_le hi hst.2.size) hn).trans (hst.2.block i hi hn)⟩
  have Hfin := Lib.hid hfin
  have HW := Lib.hid hW1
  have g1 : (k : Int) + 1 ≤ (zs.length : Int) := by omega
  have g2 : (zs.length : Int) ≤ (cap : Int) := by omega
  have hic : k ≤ cap := by omega
  have g5 : (0 : Int) ≤ (k : Int) + 1 := by omega
  have hjc : k + 1 ≤ cap := by omega
  have g3 : (k : Int) ≤ (cap : Int) := by omega
  have g4 : (k : Int) + 1 ≤ (cap : Int) := by omega
  clear hW1 hfin hst hst2 hD harg hoz ho hdo hDl q5 r5 r6
  go_enter Try.func95, Try.ntmps95
  go_wp2_with fail
  go_region_law (refine step_append_room rfl (.tmp 22) (.tmp 25) 67 rfl 3 i0 1 Try.underlying67 hi hz1 g 0 k cap (by simp [Act.eval, Act.put]) A (zs.length - (k + 1)) (cap - (k + 1)) (D.map (Value.int .i64)) (by simp [Act.eval, Act.put]) Hn.out hsrc.out Hone.out (by omega) Hsp.out ?_; rw [← HW.out])
  all_goals
    go_wp2
    go_ret
    exact ⟨by rw [show k + (zs.length - (k + 1)) = zs.length - 1 by omega]; rfl, Hfin.out⟩

end Go.Proofs.Ytodboccadccpfaa
