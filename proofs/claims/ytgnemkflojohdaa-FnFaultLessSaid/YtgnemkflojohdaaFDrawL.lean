/-
  The drawn pairs of faults: DrawFaultLess.
-/
import Derived.Test.YtgnemkflojohdaaFDrawB
import Derived.Deep.RegionHeld3
namespace Go.Proofs.Ytgnemkflojohdaa
open Go.RowKit

/-- a cable of at most 20 sections and two faults of small numbers, in new memory -/
def RetCFF (w : World) (e : Ending) (w' : World) : Prop :=
  ∃ B d zs f g, e = .returned (.tuple #[.slice B (zs : List Sec).length d, .agg #[.int .i64 (f : Flt).m, .int .i64 f.o], .agg #[.int .i64 (g : Flt).m, .int .i64 g.o]]) ∧ zs.length ≤ 20 ∧ ArgC w' B d zs ∧ Below w.heap.size w w'

set_option maxRecDepth 100000 in
set_option maxHeartbeats 4000000 in
theorem DrawFaultLess_c (A : Option Addr) (n c : Nat) (w : World) (hn : n ≤ 9223372036854775807) (hnc : n ≤ c) (hb : Bytes w.heap.size w A n) :
    Calls Try.prog 37 #[.slice A n c] w (RetCFF w) := by
  obtain ⟨wa, hwa⟩ : ∃ wa, (w.alloc (.cells #[.int .i64 0, .int .i64 0] 25)).alloc (.cells #[.int .i64 0, .int .i64 0] 25) = wa := ⟨_, rfl⟩
  have hT : TwoAt 25 wa w.heap.size 0 0 := by rw [← hwa]; exact (TwoAt.new _ w 0 0).old _
  have hU : TwoAt 25 wa (w.heap.size + 1) 0 0 := by rw [← hwa]; exact TwoAt.new1 _ w _ 0 0
  have hs : wa.heap.size = w.heap.size + 2 := by rw [← hwa]; simp
  have hBa : Below w.heap.size w wa := by rw [← hwa]; exact ((Below.refl _ _).alloc (Nat.le_refl _) _).alloc (by simp) _
  have hba : Bytes wa.heap.size wa A n := by
    have h1 : Bytes w.heap.size wa A n := by rw [← hwa]; exact (hb.grown (World.grownBy_alloc w _ none) (by simp)).grown (World.grownBy_alloc _ _ none) (by simp)
    exact h1.more (by omega)
  have Hb := Lib.hid hba
  have HT := Lib.hid hT
  have HU := Lib.hid hU
  have HB := Lib.hid hBa
  have Hwa := Lib.hid hwa
  clear hb hba hT hU hBa hwa
  obtain ⟨R, hR⟩ : ∃ R, R = w.heap.size + 2 := ⟨_, rfl⟩
  have HRR := Lib.hid hR
  go_enter Try.func37, Try.ntmps37
  go_wp2_with fail
  rw [Hwa.out]
  refine (l6Open_c A n c _ hn hnc Hb.out).mono ?_
  rintro e w0 ⟨n1, c1, rfl, hr0, hb0, hs0⟩
  rw [hs, ← hR] at hr0 hs0 ⊢
  have hR1 : w.heap.size + 2 ≤ R := by omega
  have hR2 : R ≤ w.heap.size + 2 := by omega
  have t0 := hb0.size
  rw [hs] at t0
  clear hR
  replace HT := Lib.hid (HT.out.below hb0 (by omega))
  replace HU := Lib.hid (HU.out.below hb0 (by omega))
  replace HB := Lib.hid (below_step HB.out hb0)
  clear hs
  have H0 := Lib.hid hr0
  clear hr0 hb0
  go_wp2_with fail
  refine (l91Fault_c R A n1 c1 0 _ H0.out hs0 (by omega)).mono ?_
  rintro e w1 ⟨B, d, zs, f, q, rfl, hzl, ho1, hr1, hq, hg1, ⟨hm0, hm1⟩, hO0, hO1⟩
  have s1 := hg1.size
  obtain ⟨f0, f1⟩ := f
  dsimp only at hm0 hm1 hO0 hO1 ⊢
  have hgA := World.grownBy_alloc w1 (.cells #[.int .i64 f0, .int .i64 f1] 25) none
  replace HT := Lib.hid (HT.out.grown hg1 (fun r e => by cases e; omega) |>.old (.cells #[.int .i64 f0, .int .i64 f1] 25))
  replace HU := Lib.hid (HU.out.grown hg1 (fun r e => by cases e; omega) |>.old (.cells #[.int .i64 f0, .int .i64 f1] 25))
  have HF := Lib.hid (TwoAt.new 25 w1 f0 f1)
  have HO := Lib.hid (ho1.kept hgA (by simp))
  have HR0 := Lib.hid (hr1.kept hgA (by simp))
  replace HB := Lib.hid ((HB.out.grown hg1 HB.out.size (fun r e => by cases e; omega)).grown hgA (by have := HB.out.size; omega) (by simp))
  clear ho1 hr1 hg1 hgA H0
  go_wp2
  have rd : (w1.alloc (.cells #[.int .i64 f0, .int .i64 f1] 25)).grownBy ((w1.alloc (.cells #[.int .i64 f0, .int .i64 f1] 25)).drew) none := grown_drew (World.grownBy.refl _ none)
  have szd : ((w1.alloc (.cells #[.int .i64 f0, .int .i64 f1] 25)).drew).heap.size = w1.heap.size + 1 := (by show (w1.alloc (.cells #[.int .i64 f0, .int .i64 f1] 25)).heap.size = _; simp)
  replace HT := Lib.hid (HT.out.grown rd (by simp))
  replace HU := Lib.hid (HU.out.grown rd (by simp))
  replace HF := Lib.hid (HF.out.grown rd (by simp))
  replace HO := Lib.hid (HO.out.kept rd (by simp))
  replace HB := Lib.hid (HB.out.grown rd (by have := HB.out.size; omega) (by simp))
  replace HR0 := Lib.hid (HR0.out.kept rd (by simp))
  clear rd
  have pk0 := And.intro HF.out.c0 HF.out.c1
  have pk0n := And.intro (HF.out.old (.cells #[.int .i64 0, .int .i64 0] 25)).c0 (HF.out.old (.cells #[.int .i64 0, .int .i64 0] 25)).c1
  obtain ⟨nm0, hnm0⟩ : ∃ v, v = (((w1.alloc (.cells #[.int .i64 f0, .int .i64 f1] 25)).alloc (.cells #[.int .i64 0, .int .i64 0] 25)).drew) := ⟨_, rfl⟩
  have Hnm0 := Lib.hid hnm0
  clear hnm0
  go_region_held3 (fun w9 => w9.cell? ⟨w1.heap.size, 0, none⟩ = some (.int .i64 f0) ∧ w9.cell? ⟨w1.heap.size, 1, none⟩ = some (.int .i64 f1)) (first | exact pk2b | exact pk2n | exact pk2 | exact pk1n | exact pk1 | exact pk0n | exact pk0 | exact set_keeps HF.out (by omega) _ _ | exact set_keeps1 HF.out (by omega) _)
    (first | (rw [← Hnm0.out]; go_at_call 56; have rbn : ((w1.alloc (.cells #[.int .i64 f0, .int .i64 f1] 25)).drew).grownBy nm0 none := (by rw [Hnm0.out]; exact World.grownBy_alloc ((w1.alloc (.cells #[.int .i64 f0, .int .i64 f1] 25)).drew) (.cells #[.int .i64 0, .int .i64 0] 25) none); have HVa := Lib.hid (show TwoAt 25 nm0 (w1.heap.size + 1) 0 0 by rw [Hnm0.out, ← szd]; exact TwoAt.new _ ((w1.alloc (.cells #[.int .i64 f0, .int .i64 f1] 25)).drew) 0 0); have szn0 : nm0.heap.size = ((w1.alloc (.cells #[.int .i64 f0, .int .i64 f1] 25)).drew).heap.size + 1 := (by rw [Hnm0.out]; show (((w1.alloc (.cells #[.int .i64 f0, .int .i64 f1] 25)).drew).alloc (.cells #[.int .i64 0, .int .i64 0] 25)).heap.size = _; simp); replace HT := Lib.hid (HT.out.grown rbn (by simp)); replace HU := Lib.hid (HU.out.grown rbn (by simp)); replace HF := Lib.hid (HF.out.grown rbn (by simp)); replace HO := Lib.hid (HO.out.kept rbn (by simp)); replace HB := Lib.hid (HB.out.grown rbn (by have := HB.out.size; omega) (by simp)); replace HR0 := Lib.hid (HR0.out.kept rbn (by simp)); clear rbn; refine (pick_c R A n1 c1 _ 5 _ HR0.out (by omega) (by omega) (by omega)).mono ?_; rintro e u0 ⟨k0, rfl, k00, k01, hr0, hg0⟩; have sz0 := hg0.size; replace HT := Lib.hid (HT.out.grown hg0 (fun r e => by cases e; omega)); replace HU := Lib.hid (HU.out.grown hg0 (fun r e => by cases e; omega)); replace HF := Lib.hid (HF.out.grown hg0 (fun r e => by cases e; omega)); (try (replace HVa := Lib.hid (HVa.out.grown hg0 (fun r e => by cases e; omega)))); replace HO := Lib.hid (HO.out.kept hg0 (fun r e => by cases e; exact .inl (by omega))); replace HB := Lib.hid (HB.out.grown hg0 HB.out.size (fun r e => by cases e; omega)); have HR1 := Lib.hid hr0; clear hr0 hg0 HR0; have pk1 := And.intro HF.out.c0 HF.out.c1; have pk1n := And.intro (HF.out.old (.cells #[.int .i64 0, .int .i64 0] 25)).c0 (HF.out.old (.cells #[.int .i64 0, .int .i64 0] 25)).c1; obtain ⟨nm1, hnm1⟩ : ∃ v, v = u0.alloc (.cells #[.int .i64 0, .int .i64 0] 25) := ⟨_, rfl⟩; have Hnm1 := Lib.hid hnm1; clear hnm1) | (go_at_call 56; refine (pick_c R A n1 c1 _ 5 _ HR0.out (by omega) (by omega) (by omega)).mono ?_; rintro e u0 ⟨k0, rfl, k00, k01, hr0, hg0⟩; have sz0 := hg0.size; replace HT := Lib.hid (HT.out.grown hg0 (fun r e => by cases e; omega)); replace HU := Lib.hid (HU.out.grown hg0 (fun r e => by cases e; omega)); replace HF := Lib.hid (HF.out.grown hg0 (fun r e => by cases e; omega)); (try (replace HVa := Lib.hid (HVa.out.grown hg0 (fun r e => by cases e; omega)))); replace HO := Lib.hid (HO.out.kept hg0 (fun r e => by cases e; exact .inl (by omega))); replace HB := Lib.hid (HB.out.grown hg0 HB.out.size (fun r e => by cases e; omega)); have HR1 := Lib.hid hr0; clear hr0 hg0 HR0; have pk1 := And.intro HF.out.c0 HF.out.c1; have pk1n := And.intro (HF.out.old (.cells #[.int .i64 0, .int .i64 0] 25)).c0 (HF.out.old (.cells #[.int .i64 0, .int .i64 0] 25)).c1; obtain ⟨nm1, hnm1⟩ : ∃ v, v = u0.alloc (.cells #[.int .i64 0, .int .i64 0] 25) := ⟨_, rfl⟩; have Hnm1 := Lib.hid hnm1; clear hnm1) | (rw [← Hnm1.out]; go_at_call 56; have rbn : u0.grownBy nm1 none := (by rw [Hnm1.out]; exact World.grownBy_alloc u0 (.cells #[.int .i64 0, .int .i64 0] 25) none); have HVa := Lib.hid (show TwoAt 25 nm1 u0.heap.size 0 0 by rw [Hnm1.out]; exact TwoAt.new _ u0 0 0); have szn1 : nm1.heap.size = u0.heap.size + 1 := (by rw [Hnm1.out]; show (u0.alloc (.cells #[.int .i64 0, .int .i64 0] 25)).heap.size = _; simp); replace HT := Lib.hid (HT.out.grown rbn (by simp)); replace HU := Lib.hid (HU.out.grown rbn (by simp)); replace HF := Lib.hid (HF.out.grown rbn (by simp)); replace HO := Lib.hid (HO.out.kept rbn (by simp)); replace HB := Lib.hid (HB.out.grown rbn (by have := HB.out.size; omega) (by simp)); replace HR1 := Lib.hid (HR1.out.kept rbn (by simp)); clear rbn; refine (pick_c R A n1 c1 _ 20 _ HR1.out (by omega) (by omega) (by omega)).mono ?_; rintro e u1 ⟨k1, rfl, k10, k11, hr1, hg1⟩; have sz1 := hg1.size; replace HT := Lib.hid (HT.out.grown hg1 (fun r e => by cases e; omega)); replace HU := Lib.hid (HU.out.grown hg1 (fun r e => by cases e; omega)); replace HF := Lib.hid (HF.out.grown hg1 (fun r e => by cases e; omega)); (try (replace HVa := Lib.hid (HVa.out.grown hg1 (fun r e => by cases e; omega)))); replace HO := Lib.hid (HO.out.kept hg1 (fun r e => by cases e; exact .inl (by omega))); replace HB := Lib.hid (HB.out.grown hg1 HB.out.size (fun r e => by cases e; omega)); have HR2 := Lib.hid hr1; clear hr1 hg1 HR1; have pk2 := And.intro HF.out.c0 HF.out.c1; have pk2n := And.intro (HF.out.old (.cells #[.int .i64 0, .int .i64 0] 25)).c0 (HF.out.old (.cells #[.int .i64 0, .int .i64 0] 25)).c1; have pk2b := And.intro (HF.out.old (.cells #[.int .i64 (f0 + k0 - 2), .int .i64 (f1 + k1 - 4)] 25)).c0 (HF.out.old (.cells #[.int .i64 (f0 + k0 - 2), .int .i64 (f1 + k1 - 4)] 25)).c1; (try obtain ⟨⟨va0, va1, vf0, vf1⟩, ve0, ve1⟩ := HVa.out.all (f0 + k0 - 2) (f1 + k1 - 4)); have q1 : IntKind.i64.wrap (f0 + k0) = f0 + k0 := IntWalk.i64_in _ (by omega); have q2 : IntKind.i64.wrap (f0 + k0 - 2) = f0 + k0 - 2 := IntWalk.i64_in _ (by omega); have q3 : IntKind.i64.wrap (f1 + k1) = f1 + k1 := IntWalk.i64_in _ (by omega); have q4 : IntKind.i64.wrap (f1 + k1 - 4) = f1 + k1 - 4 := IntWalk.i64_in _ (by omega)) | (go_at_call 56; refine (pick_c R A n1 c1 _ 20 _ HR1.out (by omega) (by omega) (by omega)).mono ?_; rintro e u1 ⟨k1, rfl, k10, k11, hr1, hg1⟩; have sz1 := hg1.size; replace HT := Lib.hid (HT.out.grown hg1 (fun r e => by cases e; omega)); replace HU := Lib.hid (HU.out.grown hg1 (fun r e => by cases e; omega)); replace HF := Lib.hid (HF.out.grown hg1 (fun r e => by cases e; omega)); (try (replace HVa := Lib.hid (HVa.out.grown hg1 (fun r e => by cases e; omega)))); replace HO := Lib.hid (HO.out.kept hg1 (fun r e => by cases e; exact .inl (by omega))); replace HB := Lib.hid (HB.out.grown hg1 HB.out.size (fun r e => by cases e; omega)); have HR2 := Lib.hid hr1; clear hr1 hg1 HR1; have pk2 := And.intro HF.out.c0 HF.out.c1; have pk2n := And.intro (HF.out.old (.cells #[.int .i64 0, .int .i64 0] 25)).c0 (HF.out.old (.cells #[.int .i64 0, .int .i64 0] 25)).c1; have pk2b := And.intro (HF.out.old (.cells #[.int .i64 (f0 + k0 - 2), .int .i64 (f1 + k1 - 4)] 25)).c0 (HF.out.old (.cells #[.int .i64 (f0 + k0 - 2), .int .i64 (f1 + k1 - 4)] 25)).c1; (try obtain ⟨⟨va0, va1, vf0, vf1⟩, ve0, ve1⟩ := HVa.out.all (f0 + k0 - 2) (f1 + k1 - 4)); have q1 : IntKind.i64.wrap (f0 + k0) = f0 + k0 := IntWalk.i64_in _ (by omega); have q2 : IntKind.i64.wrap (f0 + k0 - 2) = f0 + k0 - 2 := IntWalk.i64_in _ (by omega); have q3 : IntKind.i64.wrap (f1 + k1) = f1 + k1 := IntWalk.i64_in _ (by omega); have q4 : IntKind.i64.wrap (f1 + k1 - 4) = f1 + k1 - 4 := IntWalk.i64_in _ (by omega)))
  all_goals
    first
      | (have hva := HVa.out; have hG := hva.set (f0 + k0 - 2) (f1 + k1 - 4); have hgB := hva.wr (.int .i64 (f0 + k0 - 2)) (.int .i64 (f1 + k1 - 4)); replace HT := Lib.hid (HT.out.grown hgB (fun r e => by cases e; omega)); replace HU := Lib.hid (HU.out.grown hgB (fun r e => by cases e; omega)); replace HF := Lib.hid (HF.out.grown hgB (fun r e => by cases e; omega)); replace HO := Lib.hid (HO.out.kept hgB (fun r e => by cases e; exact .inr (by omega))); replace HB := Lib.hid (HB.out.grown hgB HB.out.size (fun r e => by cases e; omega)); have HG := Lib.hid hG; clear hG hgB hva HVa)
      | (have hgB := World.grownBy_alloc u1 (.cells #[.int .i64 (f0 + k0 - 2), .int .i64 (f1 + k1 - 4)] 25) none; replace HT := Lib.hid (HT.out.grown hgB (by simp)); replace HU := Lib.hid (HU.out.grown hgB (by simp)); replace HF := Lib.hid (HF.out.grown hgB (by simp)); replace HO := Lib.hid (HO.out.kept hgB (by simp)); replace HB := Lib.hid (HB.out.grown hgB HB.out.size (by simp)); have HG := Lib.hid (TwoAt.new 25 u1 (f0 + k0 - 2) (f1 + k1 - 4)); clear hgB)
    have hgT := HT.out.wr (.int .i64 f0) (.int .i64 f1)
    have hU1 := HU.out.grown hgT (fun r e => by cases e; omega)
    have hgU1 := hU1.wr (.int .i64 (f0 + k0 - 2)) (.int .i64 (f1 + k1 - 4))
    have hT12 := (HT.out.set f0 f1).grown hgU1 (fun r e => by cases e; omega)
    have hU12 := hU1.set (f0 + k0 - 2) (f1 + k1 - 4)
    obtain ⟨⟨tc0, tc1, tf0, tf1⟩, _, _⟩ := HT.out.all f0 f1
    obtain ⟨⟨uc0, uc1, uf0, uf1⟩, _, _⟩ := hU1.all (f0 + k0 - 2) (f1 + k1 - 4)
    have a0 := HF.out.c0
    have a1 := HF.out.c1
    have b0 := HG.out.c0
    have b1 := HG.out.c1
    have x0 := hT12.c0
    have x1 := hT12.c1
    have y0 := hU12.c0
    have y1 := hU12.c1
    have HAf := Lib.hid ((HO.out.kept hgT (fun r e => by cases e; exact .inl (by omega))).kept hgU1 (fun r e => by cases e; exact .inl (by omega)))
    have HBf := Lib.hid ((HB.out.grown hgT HB.out.size (fun r e => by cases e; exact Nat.le_refl _)).grown hgU1 (by have := HB.out.size; have := hgT.size; omega) (fun r e => by cases e; omega))
    have sf := hgU1.size
    have sT := hgT.size
    have sB := HAf.out
    clear hgT hU1 hgU1 hT12 hU12
    go_wp2
    go_region
    all_goals
      go_wp2
      exact bodyPost_ret (v := .tuple #[.slice B zs.length d, .agg #[.int .i64 f0, .int .i64 f1], .agg #[.int .i64 (f0 + k0 - 2), .int .i64 (f1 + k1 - 4)]]) (by simp [results, Try.results37, go_sem, x0, x1, y0, y1]) rfl ⟨B, d, zs, ⟨f0, f1⟩, ⟨(f0 + k0 - 2), (f1 + k1 - 4)⟩, rfl, hzl, (HAf.out.kept (grown_drew (World.grownBy.refl _ none)) (by simp)).arg (by omega) (by simp [World.setCell]; omega), HBf.out.drew⟩

end Go.Proofs.Ytgnemkflojohdaa
