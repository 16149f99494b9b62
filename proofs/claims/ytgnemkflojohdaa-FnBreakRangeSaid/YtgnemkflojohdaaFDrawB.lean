/-
  The drawn faults that a law draws: DrawFaultBack, DrawFaultOpen.
-/
import Derived.Test.YtgnemkflojohdaaFDraw
import Derived.Test.YtgnemkflojohdaaCDrawB
import Derived.Test.YtgnemkflojohdaaTwoK
import Derived.BigQuiet
namespace Go.Proofs.Ytgnemkflojohdaa
open Go.RowKit

/-- a cable of at most 20 sections and a fault of small numbers, in new memory -/
def RetCF (w : World) (e : Ending) (w' : World) : Prop :=
  ∃ B d zs f, e = .returned (.tuple #[.slice B (zs : List Sec).length d, .agg #[.int .i64 (f : Flt).m, .int .i64 f.o]]) ∧ zs.length ≤ 20 ∧ ArgC w' B d zs ∧ Below w.heap.size w w' ∧ (-1 ≤ f.m ∧ f.m ≤ 1001) ∧ -1 ≤ f.o ∧ f.o ≤ 1001
theorem Bytes.more {hi hi' : Nat} {W : World} {A : Option Addr} {n : Nat} (h : Bytes hi W A n) (hh : hi ≤ hi') : Bytes hi' W A n := fun hn => by
  obtain ⟨b, off, e, h1, h2⟩ := h hn
  exact ⟨b, off, e, by omega, h2⟩

set_option maxRecDepth 100000 in
set_option maxHeartbeats 1000000 in
theorem DrawFaultBack_c (A : Option Addr) (n c : Nat) (w : World) (hn : n ≤ 9223372036854775807) (hnc : n ≤ c) (hb : Bytes w.heap.size w A n) :
    Calls Try.prog 35 #[.slice A n c] w (RetCF w) := by
  obtain ⟨wa, hwa⟩ : ∃ wa, w.alloc (.cells #[.int .i64 0, .int .i64 0] 25) = wa := ⟨_, rfl⟩
  have hT : TwoAt 25 wa w.heap.size 0 0 := by rw [← hwa]; exact TwoAt.new _ w 0 0
  have hs : wa.heap.size = w.heap.size + 1 := by rw [← hwa]; simp
  have hBa : Below w.heap.size w wa := by rw [← hwa]; exact (Below.refl _ _).alloc (Nat.le_refl _) _
  have hba : Bytes wa.heap.size wa A n := by
    have h1 : Bytes w.heap.size wa A n := by rw [← hwa]; exact hb.grown (World.grownBy_alloc w _ none) (by simp)
    exact h1.more (by omega)
  have Hb := Lib.hid hba
  have HT := Lib.hid hT
  have HBa := Lib.hid hBa
  have Hwa := Lib.hid hwa
  clear hb hba hT hBa hwa
  go_enter Try.func35, Try.ntmps35
  go_wp2_with fail
  rw [Hwa.out]
  refine (l6Open_c A n c _ hn hnc Hb.out).mono ?_
  rintro e w0 ⟨n1, c1, rfl, hr0, hb0, hs0⟩
  rw [hs] at hr0 hs0
  have HT0 := Lib.hid (HT.out.below hb0 (by omega))
  have HB0 := Lib.hid (below_step HBa.out hb0)
  have H0 := Lib.hid hr0
  clear hr0 hb0
  go_wp2_with fail
  refine (l91Fault_c (w.heap.size + 1) A n1 c1 0 _ H0.out hs0 (by omega)).mono ?_
  rintro e w1 ⟨B, d, zs, f, q, rfl, hzl, ho1, hr1, hq, hg1, hfm, hfo⟩
  have s1 := hg1.size
  obtain ⟨⟨t0, t1, f0, f1⟩, e0, e1⟩ := (HT0.out.grown hg1 (fun r e => by cases e; omega)).all f.m f.o
  have hgw := two_grown w1 w.heap.size (.int .i64 f.m) (.int .i64 f.o)
  have HAf := Lib.hid ((ho1.kept hgw (fun r e => by cases e; exact .inl (by omega))).arg (by omega) (by simp [World.setCell]))
  have HBf := Lib.hid ((HB0.out.grown hg1 HB0.out.size (fun r e => by cases e; omega)).grown hgw (by have := HB0.out.size; omega) (fun r e => by cases e; exact Nat.le_refl _))
  clear ho1 hr1 hg1 hgw
  go_wp2
  exact bodyPost_ret (v := .tuple #[.slice B zs.length d, .agg #[.int .i64 f.m, .int .i64 f.o]]) (by simp [results, Try.results35, go_sem, e0, e1]) rfl ⟨B, d, zs, f, rfl, hzl, HAf.out, HBf.out, hfm, hfo⟩

set_option maxRecDepth 100000 in
set_option maxHeartbeats 1000000 in
theorem DrawFaultOpen_c (A : Option Addr) (n c : Nat) (w : World) (hn : n ≤ 9223372036854775807) (hnc : n ≤ c) (hb : Bytes w.heap.size w A n) :
    Calls Try.prog 52 #[.slice A n c] w (RetCF w) := by
  obtain ⟨wa, hwa⟩ : ∃ wa, w.alloc (.cells #[.int .i64 0, .int .i64 0] 25) = wa := ⟨_, rfl⟩
  have hT : TwoAt 25 wa w.heap.size 0 0 := by rw [← hwa]; exact TwoAt.new _ w 0 0
  have hs : wa.heap.size = w.heap.size + 1 := by rw [← hwa]; simp
  have hBa : Below w.heap.size w wa := by rw [← hwa]; exact (Below.refl _ _).alloc (Nat.le_refl _) _
  have hba : Bytes wa.heap.size wa A n := by
    have h1 : Bytes w.heap.size wa A n := by rw [← hwa]; exact hb.grown (World.grownBy_alloc w _ none) (by simp)
    exact h1.more (by omega)
  have Hb := Lib.hid hba
  have HT := Lib.hid hT
  have HBa := Lib.hid hBa
  have Hwa := Lib.hid hwa
  clear hb hba hT hBa hwa
  go_enter Try.func52, Try.ntmps52
  go_wp2_with fail
  rw [Hwa.out]
  refine (l6Open_c A n c _ hn hnc Hb.out).mono ?_
  rintro e w0 ⟨n1, c1, rfl, hr0, hb0, hs0⟩
  rw [hs] at hr0 hs0
  have HT0 := Lib.hid (HT.out.below hb0 (by omega))
  have HB0 := Lib.hid (below_step HBa.out hb0)
  have H0 := Lib.hid hr0
  clear hr0 hb0
  go_wp2_with fail
  refine (l91Fault_c (w.heap.size + 1) A n1 c1 0 _ H0.out hs0 (by omega)).mono ?_
  rintro e w1 ⟨B, d, zs, f, q, rfl, hzl, ho1, hr1, hq, hg1, hfm, hfo⟩
  have s1 := hg1.size
  obtain ⟨⟨t0, t1, f0, f1⟩, e0, e1⟩ := (HT0.out.grown hg1 (fun r e => by cases e; omega)).all f.m f.o
  have hgw := two_grown w1 w.heap.size (.int .i64 f.m) (.int .i64 f.o)
  have HAf := Lib.hid ((ho1.kept hgw (fun r e => by cases e; exact .inl (by omega))).arg (by omega) (by simp [World.setCell]))
  have HBf := Lib.hid ((HB0.out.grown hg1 HB0.out.size (fun r e => by cases e; omega)).grown hgw (by have := HB0.out.size; omega) (fun r e => by cases e; exact Nat.le_refl _))
  clear ho1 hr1 hg1 hgw
  go_wp2
  exact bodyPost_ret (v := .tuple #[.slice B zs.length d, .agg #[.int .i64 f.m, .int .i64 f.o]]) (by simp [results, Try.results52, go_sem, e0, e1]) rfl ⟨B, d, zs, f, rfl, hzl, HAf.out, HBf.out, hfm, hfo⟩

/-- a cable of at most 20 sections and two small numbers, in new memory -/
def RetCII (w : World) (e : Ending) (w' : World) : Prop :=
  ∃ B d zs m o, e = .returned (.tuple #[.slice B (zs : List Sec).length d, .int .i64 m, .int .i64 o]) ∧ zs.length ≤ 20 ∧ ArgC w' B d zs ∧ Below w.heap.size w w' ∧ (-1 ≤ m ∧ m ≤ 1001) ∧ -1 ≤ o ∧ o ≤ 1001

set_option maxRecDepth 100000 in
set_option maxHeartbeats 1000000 in
theorem DrawBreakOpen_c (A : Option Addr) (n c : Nat) (w : World) (hn : n ≤ 9223372036854775807) (hnc : n ≤ c) (hb : Bytes w.heap.size w A n) :
    Calls Try.prog 40 #[.slice A n c] w (RetCII w) := by
  have Hb := Lib.hid hb
  clear hb
  go_enter Try.func40, Try.ntmps40
  go_wp2_with fail
  refine (l6Open_c A n c _ hn hnc Hb.out).mono ?_
  rintro e w0 ⟨n1, c1, rfl, hr0, hb0, hs0⟩
  have HB0 := Lib.hid hb0
  have H0 := Lib.hid hr0
  clear hr0 hb0
  go_wp2_with fail
  refine (l91Fault_c w.heap.size A n1 c1 0 _ H0.out hs0 (by omega)).mono ?_
  rintro e w1 ⟨B, d, zs, f, q, rfl, hzl, ho1, hr1, hq, hg1, hfm, hfo⟩
  have s1 := hg1.size
  have hT := TwoAt.new 25 w1 f.m f.o
  have c0 := hT.c0
  have c1 := hT.c1
  have HAf := Lib.hid ((ho1.kept (World.grownBy_alloc w1 (.cells #[.int .i64 f.m, .int .i64 f.o] 25) none) (by simp)).arg (by omega) (by simp))
  have HBf := Lib.hid ((HB0.out.grown hg1 HB0.out.size (fun r e => by cases e; exact Nat.le_refl _)).alloc (by have := HB0.out.size; omega) (.cells #[.int .i64 f.m, .int .i64 f.o] 25))
  clear ho1 hr1 hg1 hT
  go_wp2
  go_quiet (fail)
  go_wp2
  go_ret3
  exact ⟨B, d, zs, f.m, f.o, rfl, hzl, HAf.out.go (below_drewN (Below.refl _ _) _), below_drewN HBf.out _, hfm, hfo⟩

end Go.Proofs.Ytgnemkflojohdaa
