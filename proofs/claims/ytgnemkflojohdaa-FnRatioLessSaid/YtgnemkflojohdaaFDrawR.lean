/-
  The drawn pairs of ratios: DrawRatioLess.
-/
import Derived.Test.YtgnemkflojohdaaFDrawB
namespace Go.Proofs.Ytgnemkflojohdaa
open Go.RowKit

/-- two ratios of small numbers -/
def RetRR (w : World) (e : Ending) (w' : World) : Prop :=
  ∃ a b : Rat2, e = .returned (.tuple #[.agg #[.int .i64 a.t, .int .i64 a.l], .agg #[.int .i64 b.t, .int .i64 b.l]]) ∧ Below w.heap.size w w' ∧ (-1 ≤ a.t ∧ a.t ≤ 1000001) ∧ (-1 ≤ a.l ∧ a.l ≤ 1000001) ∧ (-1 ≤ b.t ∧ b.t ≤ 1000001) ∧ -1 ≤ b.l ∧ b.l ≤ 1000001
theorem threeL {j : Nat} (h : (j : Int) < 3) : ∃ x : Int, -1 ≤ x ∧ x ≤ 1000001 ∧ (#[Value.int .i64 0, Value.int .i64 (-1), Value.int .i64 1000001])[j]? = some (.int .i64 x) := by
  obtain rfl | rfl | rfl : j = 0 ∨ j = 1 ∨ j = 2 := by omega
  · exact ⟨0, by omega, by omega, rfl⟩
  · exact ⟨-1, by omega, by omega, rfl⟩
  · exact ⟨1000001, by omega, by omega, rfl⟩
theorem threeT {j : Nat} (h : (j : Int) < 3) : ∃ x : Int, -1 ≤ x ∧ x ≤ 1000001 ∧ (#[Value.int .i64 (-1), Value.int .i64 1000000, Value.int .i64 1000001])[j]? = some (.int .i64 x) := by
  obtain rfl | rfl | rfl : j = 0 ∨ j = 1 ∨ j = 2 := by omega
  · exact ⟨-1, by omega, by omega, rfl⟩
  · exact ⟨1000000, by omega, by omega, rfl⟩
  · exact ⟨1000001, by omega, by omega, rfl⟩

set_option maxRecDepth 100000 in
set_option maxHeartbeats 4000000 in
theorem DrawRatioLess_c (A : Option Addr) (n c : Nat) (w : World) (hn : n ≤ 9223372036854775807) (hnc : n ≤ c) (hb : Bytes w.heap.size w A n) :
    Calls Try.prog 49 #[.slice A n c] w (RetRR w) := by
  obtain ⟨wa, hwa⟩ : ∃ wa, (w.alloc (.cells #[.int .i64 0, .int .i64 0] 29)).alloc (.cells #[.int .i64 0, .int .i64 0] 29) = wa := ⟨_, rfl⟩
  have hT : TwoAt 29 wa w.heap.size 0 0 := by rw [← hwa]; exact (TwoAt.new _ w 0 0).old _
  have hU : TwoAt 29 wa (w.heap.size + 1) 0 0 := by rw [← hwa]; exact TwoAt.new1 _ w _ 0 0
  have hs : wa.heap.size = w.heap.size + 2 := by rw [← hwa]; simp
  have hBa : Below w.heap.size w wa := by rw [← hwa]; exact ((Below.refl _ _).alloc (Nat.le_refl _) _).alloc (by simp) _
  have hba : Bytes wa.heap.size wa A n := by
    have h1 : Bytes w.heap.size wa A n := by rw [← hwa]; exact (hb.grown (World.grownBy_alloc w _ none) (by simp)).grown (World.grownBy_alloc _ _ none) (by simp)
    exact h1.more (by omega)
  have Hb := Lib.hid hba
  have HT := Lib.hid hT
  have HU := Lib.hid hU
  have HB := Lib.hid hBa
  have Hwa := Lib.hid hwa
  clear hb hba hT hU hBa hwa
  obtain ⟨R, hR⟩ : ∃ R, R = w.heap.size + 2 := ⟨_, rfl⟩
  go_enter Try.func49, Try.ntmps49
  go_wp2_with fail
  rw [Hwa.out]
  refine (l6Open_c A n c _ hn hnc Hb.out).mono ?_
  rintro e w0 ⟨n1, c1, rfl, hr0, hb0, hs0⟩
  rw [hs, ← hR] at hr0 hs0 ⊢
  have hR1 : w.heap.size + 2 ≤ R := by omega
  have hR2 : R ≤ w.heap.size + 2 := by omega
  have t0 := hb0.size
  rw [hs] at t0
  clear hR
  replace HT := Lib.hid (HT.out.below hb0 (by omega))
  replace HU := Lib.hid (HU.out.below hb0 (by omega))
  replace HB := Lib.hid (below_step HB.out hb0)
  clear hs
  have HR := Lib.hid hr0
  clear hr0 hb0 Hb
  go_wp2_with fail
  refine (pick_c R A n1 c1 _ 20 _ HR.out (by omega) (by omega) (by omega)).mono ?_
  rintro e w1 ⟨k1, rfl, k10, k11, hr, hg⟩
  have s1 := hg.size
  replace HT := Lib.hid (HT.out.grown hg (fun r e => by cases e; omega))
  replace HU := Lib.hid (HU.out.grown hg (fun r e => by cases e; omega))
  replace HB := Lib.hid (HB.out.grown hg HB.out.size (fun r e => by cases e; omega))
  replace HR := Lib.hid hr
  clear hr hg
  go_wp2_with fail
  refine (pick_c R A n1 c1 _ 9 _ HR.out (by omega) (by omega) (by omega)).mono ?_
  rintro e w2 ⟨k2, rfl, k20, k21, hr, hg⟩
  have s2 := hg.size
  replace HT := Lib.hid (HT.out.grown hg (fun r e => by cases e; omega))
  replace HU := Lib.hid (HU.out.grown hg (fun r e => by cases e; omega))
  replace HB := Lib.hid (HB.out.grown hg HB.out.size (fun r e => by cases e; omega))
  replace HR := Lib.hid hr
  clear hr hg
  have q2 : IntKind.i64.wrap (1 + k2) = 1 + k2 := IntWalk.i64_in _ (by omega)
  obtain ⟨W2, hW⟩ : ∃ W, w2.alloc (.cells #[.int .i64 k1, .int .i64 (1 + k2)] 29) = W := ⟨_, rfl⟩
  have hgA : w2.grownBy W2 none := by rw [← hW]; exact World.grownBy_alloc w2 _ none
  have sA2 : W2.heap.size = w2.heap.size + 1 := by rw [← hW]; simp
  replace HT := Lib.hid (HT.out.grown hgA (by simp))
  replace HU := Lib.hid (HU.out.grown hgA (by simp))
  have HF := Lib.hid (show TwoAt 29 W2 w2.heap.size k1 (1 + k2) by rw [← hW]; exact TwoAt.new _ w2 k1 (1 + k2))
  replace HB := Lib.hid (HB.out.grown hgA (by have := HB.out.size; omega) (by simp))
  replace HR := Lib.hid (HR.out.kept hgA (by simp))
  have HW2 := Lib.hid hW
  clear hW hgA
  go_wp2_with fail
  rw [HW2.out]
  refine (pick_c R A n1 c1 _ 20 _ HR.out (by omega) (by omega) (by omega)).mono ?_
  rintro e w3 ⟨k3, rfl, k30, k31, hr, hg⟩
  have s3 := hg.size
  replace HT := Lib.hid (HT.out.grown hg (fun r e => by cases e; omega))
  replace HU := Lib.hid (HU.out.grown hg (fun r e => by cases e; omega))
  replace HF := Lib.hid (HF.out.grown hg (fun r e => by cases e; omega))
  replace HB := Lib.hid (HB.out.grown hg HB.out.size (fun r e => by cases e; omega))
  replace HR := Lib.hid hr
  clear hr hg
  go_wp2_with fail
  refine (pick_c R A n1 c1 _ 9 _ HR.out (by omega) (by omega) (by omega)).mono ?_
  rintro e w4 ⟨k4, rfl, k40, k41, hr, hg⟩
  have s4 := hg.size
  replace HT := Lib.hid (HT.out.grown hg (fun r e => by cases e; omega))
  replace HU := Lib.hid (HU.out.grown hg (fun r e => by cases e; omega))
  replace HF := Lib.hid (HF.out.grown hg (fun r e => by cases e; omega))
  replace HB := Lib.hid (HB.out.grown hg HB.out.size (fun r e => by cases e; omega))
  replace HR := Lib.hid hr
  clear hr hg
  have q4 : IntKind.i64.wrap (1 + k4) = 1 + k4 := IntWalk.i64_in _ (by omega)
  obtain ⟨W4, hW⟩ : ∃ W, w4.alloc (.cells #[.int .i64 k3, .int .i64 (1 + k4)] 29) = W := ⟨_, rfl⟩
  have hgA : w4.grownBy W4 none := by rw [← hW]; exact World.grownBy_alloc w4 _ none
  have sA4 : W4.heap.size = w4.heap.size + 1 := by rw [← hW]; simp
  replace HT := Lib.hid (HT.out.grown hgA (by simp))
  replace HU := Lib.hid (HU.out.grown hgA (by simp))
  replace HF := Lib.hid (HF.out.grown hgA (by simp))
  have HG := Lib.hid (show TwoAt 29 W4 w4.heap.size k3 (1 + k4) by rw [← hW]; exact TwoAt.new _ w4 k3 (1 + k4))
  replace HB := Lib.hid (HB.out.grown hgA (by have := HB.out.size; omega) (by simp))
  replace HR := Lib.hid (HR.out.kept hgA (by simp))
  have HW4 := Lib.hid hW
  clear hW hgA
  go_wp2_with fail
  rw [HW4.out]
  refine (pick_c R A n1 c1 _ 16 _ HR.out (by omega) (by omega) (by omega)).mono ?_
  rintro e w5 ⟨k5, rfl, k50, k51, hr, hg⟩
  have s5 := hg.size
  replace HT := Lib.hid (HT.out.grown hg (fun r e => by cases e; omega))
  replace HU := Lib.hid (HU.out.grown hg (fun r e => by cases e; omega))
  replace HF := Lib.hid (HF.out.grown hg (fun r e => by cases e; omega))
  replace HG := Lib.hid (HG.out.grown hg (fun r e => by cases e; omega))
  replace HB := Lib.hid (HB.out.grown hg HB.out.size (fun r e => by cases e; omega))
  replace HR := Lib.hid hr
  clear hr hg
  obtain rfl | hk0 := Classical.em (k5 = 0)
  ·
    obtain ⟨W5, hW⟩ : ∃ W, w5.alloc (.cells #[.int .i64 0, .int .i64 (-1), .int .i64 1000001] 3) = W := ⟨_, rfl⟩
    have hgA : w5.grownBy W5 none := by rw [← hW]; exact World.grownBy_alloc w5 _ none
    have sA5 : W5.heap.size = w5.heap.size + 1 := by rw [← hW]; simp
    replace HT := Lib.hid (HT.out.grown hgA (by simp))
    replace HU := Lib.hid (HU.out.grown hgA (by simp))
    replace HF := Lib.hid (HF.out.grown hgA (by simp))
    replace HG := Lib.hid (HG.out.grown hgA (by simp))
    have Row := Lib.hid (show W5.heap[w5.heap.size]? = some (.cells #[.int .i64 0, .int .i64 (-1), .int .i64 1000001] 3 (0, 0)) by rw [← hW]; exact heap_alloc_new w5 _)
    replace HB := Lib.hid (HB.out.grown hgA (by have := HB.out.size; omega) (by simp))
    replace HR := Lib.hid (HR.out.kept hgA (by simp))
    have HW5 := Lib.hid hW
    clear hW hgA
    go_wp2_with fail
    rw [HW5.out]
    refine (pick_c R A n1 c1 _ 3 _ HR.out (by omega) (by omega) (by omega)).mono ?_
    rintro e w6 ⟨k6, rfl, k60, k61, hr, hg⟩
    have s6 := hg.size
    obtain ⟨j, rfl⟩ := Int.eq_ofNat_of_zero_le k60
    obtain ⟨y, hy0, hy1, hy⟩ := threeL k61
    have hcy := (cell_of_row w6 _ j _ _ _ ((hg.block w5.heap.size (by omega) (by simp; omega)).trans Row.out)).trans hy
    replace HT := Lib.hid (HT.out.grown hg (fun r e => by cases e; omega))
    replace HU := Lib.hid (HU.out.grown hg (fun r e => by cases e; omega))
    replace HF := Lib.hid (HF.out.grown hg (fun r e => by cases e; omega))
    replace HG := Lib.hid (HG.out.grown hg (fun r e => by cases e; omega))
    replace HB := Lib.hid (HB.out.grown hg HB.out.size (fun r e => by cases e; omega))
    replace HR := Lib.hid hr
    clear hr hg
    have c0 := HF.out.c0
    have c1 := HF.out.c1
    have z1 := HF.out.fz 1
    have hg : w6.grownBy (w6.setCell ⟨w2.heap.size, 1, none⟩ (.int .i64 y)) (some w2.heap.size) := ⟨rfl, rfl, rfl, by simp [World.setCell], fun k _ hne => Below.heap_setCell _ ⟨w2.heap.size, 1, none⟩ _ k (fun e => hne (by rw [e]))⟩
    have hX : TwoAt 29 (w6.setCell ⟨w2.heap.size, 1, none⟩ (.int .i64 y)) w2.heap.size k1 y := heap_set1 HF.out _
    replace HT := Lib.hid (HT.out.grown hg (fun r e => by cases e; omega))
    replace HU := Lib.hid (HU.out.grown hg (fun r e => by cases e; omega))
    replace HG := Lib.hid (HG.out.grown hg (fun r e => by cases e; omega))
    replace HF := Lib.hid hX
    replace HB := Lib.hid (HB.out.grown hg HB.out.size (fun r e => by cases e; omega))
    have sX := hg.size
    clear hg hX hy HR
    have hgT := HT.out.wr (.int .i64 k1) (.int .i64 y)
    have hU1 := HU.out.grown hgT (fun r e => by cases e; omega)
    have hgU1 := hU1.wr (.int .i64 k3) (.int .i64 (1 + k4))
    have hT12 := (HT.out.set k1 y).grown hgU1 (fun r e => by cases e; omega)
    have hU12 := hU1.set k3 (1 + k4)
    obtain ⟨⟨tc0, tc1, tf0, tf1⟩, _, _⟩ := HT.out.all k1 y
    obtain ⟨⟨uc0, uc1, uf0, uf1⟩, _, _⟩ := hU1.all k3 (1 + k4)
    have a0 := HF.out.c0
    have a1 := HF.out.c1
    have b0 := HG.out.c0
    have b1 := HG.out.c1
    have x0 := hT12.c0
    have x1 := hT12.c1
    have y0 := hU12.c0
    have y1 := hU12.c1
    have HBf := Lib.hid ((HB.out.grown hgT HB.out.size (fun r e => by cases e; exact Nat.le_refl _)).grown hgU1 (by have := HB.out.size; have := hgT.size; omega) (fun r e => by cases e; omega))
    clear hgT hU1 hgU1 hT12 hU12
    go_wp2
    go_region
    all_goals
      go_wp2
      exact bodyPost_ret (v := .tuple #[.agg #[.int .i64 k1, .int .i64 y], .agg #[.int .i64 k3, .int .i64 (1 + k4)]]) (by simp [results, Try.results49, go_sem, x0, x1, y0, y1]) rfl ⟨⟨k1, y⟩, ⟨k3, (1 + k4)⟩, rfl, HBf.out.drew, ⟨by dsimp only; omega, by dsimp only; omega⟩, ⟨by dsimp only; omega, by dsimp only; omega⟩, ⟨by dsimp only; omega, by dsimp only; omega⟩, by dsimp only; omega, by dsimp only; omega⟩
  have n0 : (k5 == 0) = false := by simpa using hk0
  obtain rfl | hk1 := Classical.em (k5 = 1)
  ·
    obtain ⟨W5, hW⟩ : ∃ W, w5.alloc (.cells #[.int .i64 (-1), .int .i64 1000000, .int .i64 1000001] 3) = W := ⟨_, rfl⟩
    have hgA : w5.grownBy W5 none := by rw [← hW]; exact World.grownBy_alloc w5 _ none
    have sA5 : W5.heap.size = w5.heap.size + 1 := by rw [← hW]; simp
    replace HT := Lib.hid (HT.out.grown hgA (by simp))
    replace HU := Lib.hid (HU.out.grown hgA (by simp))
    replace HF := Lib.hid (HF.out.grown hgA (by simp))
    replace HG := Lib.hid (HG.out.grown hgA (by simp))
    have Row := Lib.hid (show W5.heap[w5.heap.size]? = some (.cells #[.int .i64 (-1), .int .i64 1000000, .int .i64 1000001] 3 (0, 0)) by rw [← hW]; exact heap_alloc_new w5 _)
    replace HB := Lib.hid (HB.out.grown hgA (by have := HB.out.size; omega) (by simp))
    replace HR := Lib.hid (HR.out.kept hgA (by simp))
    have HW5 := Lib.hid hW
    clear hW hgA
    go_wp2_with fail
    rw [HW5.out]
    refine (pick_c R A n1 c1 _ 3 _ HR.out (by omega) (by omega) (by omega)).mono ?_
    rintro e w6 ⟨k6, rfl, k60, k61, hr, hg⟩
    have s6 := hg.size
    obtain ⟨j, rfl⟩ := Int.eq_ofNat_of_zero_le k60
    obtain ⟨y, hy0, hy1, hy⟩ := threeT k61
    have hcy := (cell_of_row w6 _ j _ _ _ ((hg.block w5.heap.size (by omega) (by simp; omega)).trans Row.out)).trans hy
    replace HT := Lib.hid (HT.out.grown hg (fun r e => by cases e; omega))
    replace HU := Lib.hid (HU.out.grown hg (fun r e => by cases e; omega))
    replace HF := Lib.hid (HF.out.grown hg (fun r e => by cases e; omega))
    replace HG := Lib.hid (HG.out.grown hg (fun r e => by cases e; omega))
    replace HB := Lib.hid (HB.out.grown hg HB.out.size (fun r e => by cases e; omega))
    replace HR := Lib.hid hr
    clear hr hg
    have c0 := HG.out.c0
    have c1 := HG.out.c1
    have z1 := HG.out.fz 0
    have hg : w6.grownBy (w6.setCell ⟨w4.heap.size, 0, none⟩ (.int .i64 y)) (some w4.heap.size) := ⟨rfl, rfl, rfl, by simp [World.setCell], fun k _ hne => Below.heap_setCell _ ⟨w4.heap.size, 0, none⟩ _ k (fun e => hne (by rw [e]))⟩
    have hX : TwoAt 29 (w6.setCell ⟨w4.heap.size, 0, none⟩ (.int .i64 y)) w4.heap.size y (1 + k4) := heap_set0 HG.out _
    replace HT := Lib.hid (HT.out.grown hg (fun r e => by cases e; omega))
    replace HU := Lib.hid (HU.out.grown hg (fun r e => by cases e; omega))
    replace HF := Lib.hid (HF.out.grown hg (fun r e => by cases e; omega))
    replace HG := Lib.hid hX
    replace HB := Lib.hid (HB.out.grown hg HB.out.size (fun r e => by cases e; omega))
    have sX := hg.size
    clear hg hX hy HR
    have hgT := HT.out.wr (.int .i64 k1) (.int .i64 (1 + k2))
    have hU1 := HU.out.grown hgT (fun r e => by cases e; omega)
    have hgU1 := hU1.wr (.int .i64 y) (.int .i64 (1 + k4))
    have hT12 := (HT.out.set k1 (1 + k2)).grown hgU1 (fun r e => by cases e; omega)
    have hU12 := hU1.set y (1 + k4)
    obtain ⟨⟨tc0, tc1, tf0, tf1⟩, _, _⟩ := HT.out.all k1 (1 + k2)
    obtain ⟨⟨uc0, uc1, uf0, uf1⟩, _, _⟩ := hU1.all y (1 + k4)
    have a0 := HF.out.c0
    have a1 := HF.out.c1
    have b0 := HG.out.c0
    have b1 := HG.out.c1
    have x0 := hT12.c0
    have x1 := hT12.c1
    have y0 := hU12.c0
    have y1 := hU12.c1
    have HBf := Lib.hid ((HB.out.grown hgT HB.out.size (fun r e => by cases e; exact Nat.le_refl _)).grown hgU1 (by have := HB.out.size; have := hgT.size; omega) (fun r e => by cases e; omega))
    clear hgT hU1 hgU1 hT12 hU12
    go_wp2
    go_region
    all_goals
      go_wp2
      exact bodyPost_ret (v := .tuple #[.agg #[.int .i64 k1, .int .i64 (1 + k2)], .agg #[.int .i64 y, .int .i64 (1 + k4)]]) (by simp [results, Try.results49, go_sem, x0, x1, y0, y1]) rfl ⟨⟨k1, (1 + k2)⟩, ⟨y, (1 + k4)⟩, rfl, HBf.out.drew, ⟨by dsimp only; omega, by dsimp only; omega⟩, ⟨by dsimp only; omega, by dsimp only; omega⟩, ⟨by dsimp only; omega, by dsimp only; omega⟩, by dsimp only; omega, by dsimp only; omega⟩
  have n1 : (k5 == 1) = false := by simpa using hk1
  clear HR
  have hgT := HT.out.wr (.int .i64 k1) (.int .i64 (1 + k2))
  have hU1 := HU.out.grown hgT (fun r e => by cases e; omega)
  have hgU1 := hU1.wr (.int .i64 k3) (.int .i64 (1 + k4))
  have hT12 := (HT.out.set k1 (1 + k2)).grown hgU1 (fun r e => by cases e; omega)
  have hU12 := hU1.set k3 (1 + k4)
  obtain ⟨⟨tc0, tc1, tf0, tf1⟩, _, _⟩ := HT.out.all k1 (1 + k2)
  obtain ⟨⟨uc0, uc1, uf0, uf1⟩, _, _⟩ := hU1.all k3 (1 + k4)
  have a0 := HF.out.c0
  have a1 := HF.out.c1
  have b0 := HG.out.c0
  have b1 := HG.out.c1
  have x0 := hT12.c0
  have x1 := hT12.c1
  have y0 := hU12.c0
  have y1 := hU12.c1
  have HBf := Lib.hid ((HB.out.grown hgT HB.out.size (fun r e => by cases e; exact Nat.le_refl _)).grown hgU1 (by have := HB.out.size; have := hgT.size; omega) (fun r e => by cases e; omega))
  clear hgT hU1 hgU1 hT12 hU12
  go_wp2
  go_region
  all_goals
    go_wp2
    exact bodyPost_ret (v := .tuple #[.agg #[.int .i64 k1, .int .i64 (1 + k2)], .agg #[.int .i64 k3, .int .i64 (1 + k4)]]) (by simp [results, Try.results49, go_sem, x0, x1, y0, y1]) rfl ⟨⟨k1, (1 + k2)⟩, ⟨k3, (1 + k4)⟩, rfl, HBf.out.drew, ⟨by dsimp only; omega, by dsimp only; omega⟩, ⟨by dsimp only; omega, by dsimp only; omega⟩, ⟨by dsimp only; omega, by dsimp only; omega⟩, by dsimp only; omega, by dsimp only; omega⟩

end Go.Proofs.Ytgnemkflojohdaa
