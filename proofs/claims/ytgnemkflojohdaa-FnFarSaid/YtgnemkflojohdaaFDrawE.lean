/-
  The drawn faults, at the last mile or at the first one: DrawFaultEarthed, DrawFaultFar.
-/
import Derived.Test.YtgnemkflojohdaaFDrawB
namespace Go.Proofs.Ytgnemkflojohdaa
open Go.RowKit

set_option maxRecDepth 100000 in
set_option maxHeartbeats 4000000 in
theorem DrawFaultEarthed_c (A : Option Addr) (n c : Nat) (w : World) (hn : n ≤ 9223372036854775807) (hnc : n ≤ c) (hb : Bytes w.heap.size w A n) :
    Calls Try.prog 14 #[.slice A n c] w (RetCF w) := by
  obtain ⟨wa, hwa⟩ : ∃ wa, w.alloc (.cells #[.int .i64 0, .int .i64 0] 25) = wa := ⟨_, rfl⟩
  have hT : TwoAt 25 wa w.heap.size 0 0 := by rw [← hwa]; exact TwoAt.new _ w 0 0
  have hs : wa.heap.size = w.heap.size + 1 := by rw [← hwa]; simp
  have hBa : Below w.heap.size w wa := by rw [← hwa]; exact (Below.refl _ _).alloc (Nat.le_refl _) _
  have hba : Bytes wa.heap.size wa A n := by
    have h1 : Bytes w.heap.size wa A n := by rw [← hwa]; exact hb.grown (World.grownBy_alloc w _ none) (by simp)
    exact h1.more (by omega)
  have Hb := Lib.hid hba
  have HT := Lib.hid hT
  have HB := Lib.hid hBa
  have Hwa := Lib.hid hwa
  clear hb hba hT hBa hwa
  obtain ⟨R, hR⟩ : ∃ R, R = w.heap.size + 1 := ⟨_, rfl⟩
  go_enter Try.func14, Try.ntmps14
  go_wp2_with fail
  rw [Hwa.out]
  refine (l6Open_c A n c _ hn hnc Hb.out).mono ?_
  rintro e w0 ⟨n1, c1, rfl, hr0, hb0, hs0⟩
  rw [hs, ← hR] at hr0 hs0 ⊢
  have hR1 : w.heap.size + 1 ≤ R := by omega
  have hR2 : R ≤ w.heap.size + 1 := by omega
  have t0 := hb0.size
  rw [hs] at t0
  replace HT := Lib.hid (HT.out.below hb0 (by omega))
  replace HB := Lib.hid (below_step HB.out hb0)
  clear hs hR
  have H0 := Lib.hid hr0
  clear hr0 hb0
  go_wp2_with fail
  refine (l91Fault_c R A n1 c1 0 _ H0.out hs0 (by omega)).mono ?_
  rintro e w1 ⟨B, d, zs, f, q, rfl, hzl, ho1, hr1, hq, hg1, ⟨hm0, hm1⟩, hO0, hO1⟩
  have s1 := hg1.size
  obtain ⟨f0, f1⟩ := f
  dsimp only at hm0 hm1 hO0 hO1 ⊢
  have hgA := World.grownBy_alloc w1 (.cells #[.int .i64 f0, .int .i64 f1] 25) none
  have sA := hgA.size
  replace HT := Lib.hid ((HT.out.grown hg1 (fun r e => by cases e; omega)).old (.cells #[.int .i64 f0, .int .i64 f1] 25))
  have HF := Lib.hid (TwoAt.new 25 w1 f0 f1)
  have HO := Lib.hid (ho1.kept hgA (by simp))
  have HR0 := Lib.hid (hr1.kept hgA (by simp))
  replace HB := Lib.hid ((HB.out.grown hg1 HB.out.size (fun r e => by cases e; omega)).grown hgA (by have := HB.out.size; omega) (by simp))
  clear ho1 hr1 hg1 hgA H0
  go_wp2_with fail
  refine (pick_c R A n1 c1 q 6 _ HR0.out (by omega) (by omega) (by omega)).mono ?_
  rintro e w2 ⟨k2, rfl, k20, k21, hr2, hg2⟩
  have s2 := hg2.size
  replace HT := Lib.hid (HT.out.grown hg2 (fun r e => by cases e; omega))
  replace HF := Lib.hid (HF.out.grown hg2 (fun r e => by cases e; simp at *; omega))
  replace HO := Lib.hid (HO.out.kept hg2 (fun r e => by cases e; exact .inl (by omega)))
  replace HB := Lib.hid (HB.out.grown hg2 HB.out.size (fun r e => by cases e; omega))
  clear hr2 hg2 HR0
  obtain rfl | hk2 := Classical.em (k2 = 0)
  · have hbd := milesI_bd zs
    obtain ⟨M, hM⟩ : ∃ M, milesI zs = M := ⟨_, rfl⟩
    rw [hM] at hbd
    have HM := Lib.hid hM
    clear hM
    go_wp2_with fail
    refine (specCableMiles_b B d zs _ (HO.out.arg (by omega) (by simp at *; omega))).mono ?_
    rintro e w3 ⟨rfl, hb3⟩
    rw [HM.out]
    have s3 := hb3.size
    replace HT := Lib.hid (HT.out.go hb3)
    replace HO := Lib.hid (HO.out.kept (grown_of_below hb3 none) (by simp))
    replace HB := Lib.hid (below_step HB.out hb3)
    clear hb3
    by_cases hneg : M ≤ 0
    · have hmx : max 0 M = 0 := by omega
      obtain ⟨⟨tc0, tc1, tf0, tf1⟩, e0, e1⟩ := HT.out.all 0 0
      have hgw := HT.out.wr (.int .i64 0) (.int .i64 0)
      have HOf := Lib.hid (HO.out.kept hgw (fun r e => by cases e; exact .inl (by omega)))
      have HBf := Lib.hid (HB.out.grown hgw HB.out.size (fun r e => by cases e; exact Nat.le_refl _))
      have sgw := hgw.size
      clear hgw
      go_wp2
      exact bodyPost_ret (v := .tuple #[.slice B zs.length d, .agg #[.int .i64 0, .int .i64 0]]) (by simp [results, Try.results14, go_sem, e0, e1]) rfl ⟨B, d, zs, ⟨0, 0⟩, rfl, hzl, HOf.out.arg (by omega) (by simp [World.setCell]; omega), HBf.out, ⟨by dsimp only; omega, by dsimp only; omega⟩, by dsimp only; omega, by dsimp only; omega⟩
    · have hmx : max 0 M = M := by omega
      have hpos : 0 ≤ M := by omega
      obtain ⟨⟨tc0, tc1, tf0, tf1⟩, e0, e1⟩ := HT.out.all M 0
      have hgw := HT.out.wr (.int .i64 M) (.int .i64 0)
      have HOf := Lib.hid (HO.out.kept hgw (fun r e => by cases e; exact .inl (by omega)))
      have HBf := Lib.hid (HB.out.grown hgw HB.out.size (fun r e => by cases e; exact Nat.le_refl _))
      have sgw := hgw.size
      clear hgw
      go_wp2
      exact bodyPost_ret (v := .tuple #[.slice B zs.length d, .agg #[.int .i64 M, .int .i64 0]]) (by simp [results, Try.results14, go_sem, e0, e1]) rfl ⟨B, d, zs, ⟨M, 0⟩, rfl, hzl, HOf.out.arg (by omega) (by simp [World.setCell]; omega), HBf.out, ⟨by dsimp only; omega, by dsimp only; omega⟩, by dsimp only; omega, by dsimp only; omega⟩
  · have b0 : (k2 == 0) = false := by simpa using hk2
    have a0 := HF.out.c0
    have a1 := HF.out.c1
    obtain ⟨⟨tc0, tc1, tf0, tf1⟩, e0, e1⟩ := HT.out.all f0 f1
    have hgw := HT.out.wr (.int .i64 f0) (.int .i64 f1)
    have HOf := Lib.hid (HO.out.kept hgw (fun r e => by cases e; exact .inl (by omega)))
    have HBf := Lib.hid (HB.out.grown hgw HB.out.size (fun r e => by cases e; exact Nat.le_refl _))
    have sgw := hgw.size
    clear hgw
    go_wp2
    go_region
    all_goals
      go_wp2
      exact bodyPost_ret (v := .tuple #[.slice B zs.length d, .agg #[.int .i64 f0, .int .i64 f1]]) (by simp [results, Try.results14, go_sem, e0, e1]) rfl ⟨B, d, zs, ⟨f0, f1⟩, rfl, hzl, (HOf.out.kept (grown_drew (World.grownBy.refl _ none)) (by simp)).arg (by omega) (by simp [World.setCell]; omega), HBf.out.drew, ⟨by dsimp only; omega, by dsimp only; omega⟩, by dsimp only; omega, by dsimp only; omega⟩

set_option maxRecDepth 100000 in
set_option maxHeartbeats 4000000 in
theorem DrawFaultFar_c (A : Option Addr) (n c : Nat) (w : World) (hn : n ≤ 9223372036854775807) (hnc : n ≤ c) (hb : Bytes w.heap.size w A n) :
    Calls Try.prog 23 #[.slice A n c] w (RetCF w) := by
  obtain ⟨wa, hwa⟩ : ∃ wa, w.alloc (.cells #[.int .i64 0, .int .i64 0] 25) = wa := ⟨_, rfl⟩
  have hT : TwoAt 25 wa w.heap.size 0 0 := by rw [← hwa]; exact TwoAt.new _ w 0 0
  have hs : wa.heap.size = w.heap.size + 1 := by rw [← hwa]; simp
  have hBa : Below w.heap.size w wa := by rw [← hwa]; exact (Below.refl _ _).alloc (Nat.le_refl _) _
  have hba : Bytes wa.heap.size wa A n := by
    have h1 : Bytes w.heap.size wa A n := by rw [← hwa]; exact hb.grown (World.grownBy_alloc w _ none) (by simp)
    exact h1.more (by omega)
  have Hb := Lib.hid hba
  have HT := Lib.hid hT
  have HB := Lib.hid hBa
  have Hwa := Lib.hid hwa
  clear hb hba hT hBa hwa
  obtain ⟨R, hR⟩ : ∃ R, R = w.heap.size + 1 := ⟨_, rfl⟩
  go_enter Try.func23, Try.ntmps23
  go_wp2_with fail
  rw [Hwa.out]
  refine (l6Open_c A n c _ hn hnc Hb.out).mono ?_
  rintro e w0 ⟨n1, c1, rfl, hr0, hb0, hs0⟩
  rw [hs, ← hR] at hr0 hs0 ⊢
  have hR1 : w.heap.size + 1 ≤ R := by omega
  have hR2 : R ≤ w.heap.size + 1 := by omega
  have t0 := hb0.size
  rw [hs] at t0
  replace HT := Lib.hid (HT.out.below hb0 (by omega))
  replace HB := Lib.hid (below_step HB.out hb0)
  clear hs hR
  have H0 := Lib.hid hr0
  clear hr0 hb0
  go_wp2_with fail
  refine (l91Fault_c R A n1 c1 0 _ H0.out hs0 (by omega)).mono ?_
  rintro e w1 ⟨B, d, zs, f, q, rfl, hzl, ho1, hr1, hq, hg1, ⟨hm0, hm1⟩, hO0, hO1⟩
  have s1 := hg1.size
  obtain ⟨f0, f1⟩ := f
  dsimp only at hm0 hm1 hO0 hO1 ⊢
  have hgA := World.grownBy_alloc w1 (.cells #[.int .i64 f0, .int .i64 f1] 25) none
  have sA := hgA.size
  replace HT := Lib.hid ((HT.out.grown hg1 (fun r e => by cases e; omega)).old (.cells #[.int .i64 f0, .int .i64 f1] 25))
  have HF := Lib.hid (TwoAt.new 25 w1 f0 f1)
  have HO := Lib.hid (ho1.kept hgA (by simp))
  have HR0 := Lib.hid (hr1.kept hgA (by simp))
  replace HB := Lib.hid ((HB.out.grown hg1 HB.out.size (fun r e => by cases e; omega)).grown hgA (by have := HB.out.size; omega) (by simp))
  clear ho1 hr1 hg1 hgA H0
  go_wp2_with fail
  refine (pick_c R A n1 c1 q 6 _ HR0.out (by omega) (by omega) (by omega)).mono ?_
  rintro e w2 ⟨k2, rfl, k20, k21, hr2, hg2⟩
  have s2 := hg2.size
  replace HT := Lib.hid (HT.out.grown hg2 (fun r e => by cases e; omega))
  replace HF := Lib.hid (HF.out.grown hg2 (fun r e => by cases e; simp at *; omega))
  replace HO := Lib.hid (HO.out.kept hg2 (fun r e => by cases e; exact .inl (by omega)))
  replace HB := Lib.hid (HB.out.grown hg2 HB.out.size (fun r e => by cases e; omega))
  clear hr2 hg2 HR0
  obtain rfl | hk2 := Classical.em (k2 = 0)
  · obtain ⟨⟨tc0, tc1, tf0, tf1⟩, e0, e1⟩ := HT.out.all 0 0
    have hgw := HT.out.wr (.int .i64 0) (.int .i64 0)
    have HOf := Lib.hid (HO.out.kept hgw (fun r e => by cases e; exact .inl (by omega)))
    have HBf := Lib.hid (HB.out.grown hgw HB.out.size (fun r e => by cases e; exact Nat.le_refl _))
    have sgw := hgw.size
    clear hgw
    go_wp2
    exact bodyPost_ret (v := .tuple #[.slice B zs.length d, .agg #[.int .i64 0, .int .i64 0]]) (by simp [results, Try.results23, go_sem, e0, e1]) rfl ⟨B, d, zs, ⟨0, 0⟩, rfl, hzl, HOf.out.arg (by omega) (by simp [World.setCell]; omega), HBf.out, ⟨by dsimp only; omega, by dsimp only; omega⟩, by dsimp only; omega, by dsimp only; omega⟩
  · have b0 : (k2 == 0) = false := by simpa using hk2
    have a0 := HF.out.c0
    have a1 := HF.out.c1
    obtain ⟨⟨tc0, tc1, tf0, tf1⟩, e0, e1⟩ := HT.out.all f0 f1
    have hgw := HT.out.wr (.int .i64 f0) (.int .i64 f1)
    have HOf := Lib.hid (HO.out.kept hgw (fun r e => by cases e; exact .inl (by omega)))
    have HBf := Lib.hid (HB.out.grown hgw HB.out.size (fun r e => by cases e; exact Nat.le_refl _))
    have sgw := hgw.size
    clear hgw
    go_wp2
    go_region
    all_goals
      go_wp2
      exact bodyPost_ret (v := .tuple #[.slice B zs.length d, .agg #[.int .i64 f0, .int .i64 f1]]) (by simp [results, Try.results23, go_sem, e0, e1]) rfl ⟨B, d, zs, ⟨f0, f1⟩, rfl, hzl, (HOf.out.kept (grown_drew (World.grownBy.refl _ none)) (by simp)).arg (by omega) (by simp [World.setCell]; omega), HBf.out.drew, ⟨by dsimp only; omega, by dsimp only; omega⟩, by dsimp only; omega, by dsimp only; omega⟩

end Go.Proofs.Ytgnemkflojohdaa
