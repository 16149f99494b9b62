/-
  slices.Delete of one spare: the walk.
-/
import Derived.Test.YtkicifkigbciaaaDelZ
namespace Go.Proofs.Ytkicifkigbciaaa
open Go.RowKit

set_option maxRecDepth 100000 in
set_option maxHeartbeats 2000000 in
theorem deleteZ_c (base g cap k : Nat) (zs : List Spr) (w : World) (ho : w.ownsRow base 25 2 (.slice (some ⟨g, 0, none⟩) zs.length cap) zs.length (sprCells zs)) (hk : k < zs.length) (hl : zs.length ≤ 2097152) :
    Calls Try.prog 83 #[.slice (some ⟨g, 0, none⟩) zs.length cap, .int .i64 k, .int .i64 ((k : Int) + 1)] w fun e w' =>
      e = .returned (.slice (some ⟨g, 0, none⟩) (zs.length - 1) cap) ∧ w'.ownsRow base 25 2 (.slice (some ⟨g, 0, none⟩) (zs.length - 1) cap) (zs.length - 1) (sprCells (zs.take k ++ zs.drop (k + 1))) ∧ w.grownBy w' (some g) := by
  obtain ⟨i0, hi, hz0, hz1, hz2⟩ := info_parts sprInfo
  obtain ⟨r1, r2, r3, r4, r5⟩ := own_room ho
  have hoz : OwZ 25 base w.heap.size w (.slice (some ⟨g, 0, none⟩) zs.length cap) zs := OwZ.of_own ho
  have harg : ArgZ w (some ⟨g, 0, none⟩) cap zs := hoz.arg hl (Nat.le_refl _)
  obtain ⟨D, hD⟩ : ∃ D, D = zs.drop (k + 1) := ⟨_, rfl⟩
  have hDl : D.length = zs.length - (k + 1) := by rw [hD]; simp
  have hbw : Below w.heap.size w w.drew := below_drewN (Below.refl _ _) 1
  have hdo : w.drew.ownsRow base 25 2 (.slice (some ⟨g, 0, none⟩) zs.length cap) zs.length (sprCells zs) := (hoz.go hbw (Nat.le_refl _)).own
  obtain ⟨p1, p2, p3, p4, r6⟩ := own_room hdo
  -- the cells that move
  obtain ⟨A, hA, hsrc⟩ : ∃ A : Addr, (if cap = k + 1 then some (⟨g, 0, none⟩ : Addr) else some ⟨g, (k + 1) * 2, none⟩) = some A ∧ Hid (∀ t u, (sprCells D)[t]? = some u → w.drew.cell? (A.add t) = some u) := by
    by_cases h : cap = k + 1
    · refine ⟨⟨g, 0, none⟩, by simp [h], Lib.hid (fun t u hu => ?_)⟩
      have : D = [] := List.eq_nil_of_length_eq_zero (by omega)
      rw [this] at hu; simp [sprCells] at hu
    · refine ⟨⟨g, (k + 1) * 2, none⟩, by simp [h], Lib.hid (fun t u hu => ?_)⟩
      have := argZ_cells ((harg.drop (k + 1)).go hbw) t u (by rw [← hD]; exact hu)
      rwa [Nat.zero_add] at this
  have Hn := Lib.hid (show (sprCells D).length = (zs.length - (k + 1)) * 2 by rw [sprCells_length, hDl])
  have Hone := Lib.hid (sprCells_oneCell D)
  have Hsp := Lib.hid (show ∀ t, t < (sprCells D).length → (w.drew.cell? ⟨g, 0 + k * 2 + t, none⟩).isSome = true ∧ w.drew.frozen? ⟨g, 0 + k * 2 + t, none⟩ = false from fun t ht => by
    rw [sprCells_length] at ht
    exact r6 _ (by omega))
  have hst := own_setCells (sprCells D) (sprCells zs) (0 + k * 2) w.drew hdo
  obtain ⟨W1, hW1⟩ : ∃ W1, W1 = w.drew.setCells g (0 + k * 2) (sprCells D) := ⟨_, rfl⟩
  rw [← hW1] at hst
  obtain ⟨q1, q2, q3, q4, q5⟩ := own_room hst.1
  have hcl : ∀ ty c', (Builtin.clear_ #[23] ty #[.slice (some ⟨g, (zs.length - 1) * 2, none⟩) 1 c']).run Try.prog W1 = .ok (.tuple #[]) (W1.setCells g ((zs.length - 1) * 2) [.int .i64 0, .int .i64 0]) :=
    fun ty c' => run_clear_two W1 _ _ ty Try.underlying23 (fun w => by simp [zeroValue]; rfl) g _ c' (fun j hj => (q5 _ (by omega)).1) (fun j hj => (q5 _ (by omega)).2)
  have hcl' : ∀ ty, (Builtin.clear_ #[23] ty #[.slice (some ⟨g, (k + (zs.length - (k + 1))) * 2, none⟩) (zs.length - (k + (zs.length - (k + 1)))) (cap - (k + (zs.length - (k + 1))))]).run Try.prog W1 = .ok (.tuple #[]) (W1.setCells g ((zs.length - 1) * 2) [.int .i64 0, .int .i64 0]) := fun ty => by
    rw [show k + (zs.length - (k + 1)) = zs.length - 1 by omega, show zs.length - (zs.length - 1) = 1 by omega]
    exact hcl ty _
  clear hcl
  have hst2 := own_setCells [.int .i64 0, .int .i64 0] _ ((zs.length - 1) * 2) W1 hst.1
  have hfin : (W1.setCells g ((zs.length - 1) * 2) [.int .i64 0, .int .i64 0]).ownsRow base 25 2 (.slice (some ⟨g, 0, none⟩) (zs.length - 1) cap) (zs.length - 1) (sprCells (zs.take k ++ zs.drop (k + 1))) ∧ w.grownBy (W1.setCells g ((zs.length - 1) * 2) [.int .i64 0, .int .i64 0]) (some g) := by
    refine ⟨?_, ?_⟩
    · have h1 := own_shrink hst2.1 (m := zs.length - 1) (by omega)
      have htk : (sprCells (zs.take k)).length = k * 2 := by rw [sprCells_length, List.length_take]; omega
      have hlD : (sprCells D).length = (zs.length - (k + 1)) * 2 := by rw [sprCells_length, hDl]
      have hlA : (sprCells (zs.take k) ++ sprCells D).length = (zs.length - 1) * 2 := by rw [List.length_append, htk, hlD]; omega
      have hcl2 : ∀ s : Spr, (sprCell s).length = 2 := fun s => rfl
      rw [sprCells_drop zs k hk, ← hD, Nat.zero_add, putL_at _ _ _ _ htk (by rw [List.length_append, hcl2]; omega)] at h1
      rw [← List.append_assoc, putL_at _ _ _ _ hlA (by rw [List.length_drop, List.length_append, hcl2]; simp), List.take_append_of_le_length (by rw [hlA]; omega), List.take_of_length_le (by rw [hlA]; omega), ← sprCells_append, hD] at h1
      exact h1
    · exact ⟨hst2.2.os.trans (hst.2.os.trans rfl), hst2.2.tape.trans (hst.2.tape.trans rfl), hst2.2.output.trans (hst.2.output.trans rfl), Nat.le_trans hst.2.size hst2.2.size, fun i hi hn => (hst2.2.block i (Nat.lt_of_lt_of_le hi hst.2.size) hn).trans (hst.2.block i hi hn)⟩
  have Hfin := Lib.hid hfin
  have HW := Lib.hid hW1
  have g1 : (k : Int) + 1 ≤ (zs.length : Int) := by omega
  have g2 : (zs.length : Int) ≤ (cap : Int) := by omega
  have hic : k ≤ cap := by omega
  have g5 : (0 : Int) ≤ (k : Int) + 1 := by omega
  have hjc : k + 1 ≤ cap := by omega
  have g3 : (k : Int) ≤ (cap : Int) := by omega
  have g4 : (k : Int) + 1 ≤ (cap : Int) := by omega
  clear hW1 hfin hst hst2 hD harg hoz ho hdo hDl q5 r5 r6
  go_enter Try.func83, Try.ntmps83
  go_wp2_with fail
  go_region_law (refine step_append_room rfl (.tmp 22) (.tmp 25) 23 rfl 25 i0 2 Try.underlying23 hi hz1 g 0 k cap (by simp [Act.eval, Act.put]) A (zs.length - (k + 1)) (cap - (k + 1)) (sprCells D) (by simp [Act.eval, Act.put]) Hn.out hsrc.out Hone.out (by omega) Hsp.out ?_; rw [← HW.out])
  all_goals
    go_wp2
    go_ret
    exact ⟨by rw [show k + (zs.length - (k + 1)) = zs.length - 1 by omega]; rfl, Hfin.out⟩

end Go.Proofs.Ytkicifkigbciaaa
