/-
  The drawn cable and two numbers: DrawBreakRange.
-/
import Derived.Test.YtgnemkflojohdaaFDrawB
namespace Go.Proofs.Ytgnemkflojohdaa
open Go.RowKit

theorem tdiv19 {k : Int} (h : 0 ≤ k) (h2 : k < 20) : 0 ≤ k.tdiv 19 ∧ k.tdiv 19 ≤ 1 := by
  rw [Int.tdiv_eq_ediv_of_nonneg h]
  omega
/-- a cable of at most 20 sections and two small numbers, in new memory -/
def RetCI2 (w : World) (e : Ending) (w' : World) : Prop :=
  ∃ B d zs m o, e = .returned (.tuple #[.slice B (zs : List Sec).length d, .int .i64 m, .int .i64 o]) ∧ zs.length ≤ 20 ∧ ArgC w' B d zs ∧ Below w.heap.size w w' ∧ (-60 ≤ m ∧ m ≤ 60) ∧ -12 ≤ o ∧ o ≤ 1020

set_option maxRecDepth 100000 in
set_option maxHeartbeats 1000000 in
theorem DrawBreakRange_c (A : Option Addr) (n c : Nat) (w : World) (hn : n ≤ 9223372036854775807) (hnc : n ≤ c) (hb : Bytes w.heap.size w A n) :
    Calls Try.prog 44 #[.slice A n c] w (RetCI2 w) := by
  have Hb := Lib.hid hb
  clear hb
  go_enter Try.func44, Try.ntmps44
  go_wp2_with fail
  refine (l6Open_c A n c _ hn hnc Hb.out).mono ?_
  rintro e w0 ⟨n1, c1, rfl, hr0, hb0, hs0⟩
  have HB0 := Lib.hid hb0
  have H0 := Lib.hid hr0
  clear hr0 hb0
  go_wp2_with fail
  refine (l91Cable_c w.heap.size A n1 c1 0 4 _ H0.out hs0 (by omega) (by omega) (by omega)).mono ?_
  rintro e w1 ⟨B, d, zs, q, rfl, hzl, _, ho1, hr1, hq, hg1⟩
  have s1 := hg1.size
  have HO := Lib.hid ho1
  have HR := Lib.hid hr1
  have HB := Lib.hid (HB0.out.grown hg1 HB0.out.size (fun r e => by cases e; exact Nat.le_refl _))
  clear ho1 hr1 hg1 H0 HB0
  go_wp2_with fail
  refine (pick_c w.heap.size A n1 c1 _ 60 _ HR.out (by omega) (by omega) (by omega)).mono ?_
  rintro e w2 ⟨k2, rfl, k20, k21, hr, hg⟩
  have s2 := hg.size
  replace HO := Lib.hid (HO.out.kept hg (fun r e => by cases e; exact .inl (by omega)))
  replace HB := Lib.hid (HB.out.grown hg HB.out.size (fun r e => by cases e; exact Nat.le_refl _))
  replace HR := Lib.hid hr
  clear hr hg
  go_wp2_with fail
  refine (pick_c w.heap.size A n1 c1 _ 20 _ HR.out (by omega) (by omega) (by omega)).mono ?_
  rintro e w3 ⟨k3, rfl, k30, k31, hr, hg⟩
  have s3 := hg.size
  replace HO := Lib.hid (HO.out.kept hg (fun r e => by cases e; exact .inl (by omega)))
  replace HB := Lib.hid (HB.out.grown hg HB.out.size (fun r e => by cases e; exact Nat.le_refl _))
  replace HR := Lib.hid hr
  clear hr hg
  have t3 := tdiv19 k30 k31
  obtain ⟨d3, hd3⟩ : ∃ x, k3.tdiv 19 = x := ⟨_, rfl⟩
  rw [hd3] at t3
  have Q3 : IntKind.i64.wrap d3 = d3 := IntWalk.i64_in _ (by omega)
  have P3 : IntKind.i64.wrap (d3 * 60) = d3 * 60 := IntWalk.i64_in _ (by omega)
  have m3 : IntKind.i64.wrap (k2 - d3 * 60) = k2 - d3 * 60 := IntWalk.i64_in _ (by omega)
  go_wp2_with fail
  refine (pick_c w.heap.size A n1 c1 _ 12 _ HR.out (by omega) (by omega) (by omega)).mono ?_
  rintro e w4 ⟨k4, rfl, k40, k41, hr, hg⟩
  have s4 := hg.size
  replace HO := Lib.hid (HO.out.kept hg (fun r e => by cases e; exact .inl (by omega)))
  replace HB := Lib.hid (HB.out.grown hg HB.out.size (fun r e => by cases e; exact Nat.le_refl _))
  replace HR := Lib.hid hr
  clear hr hg
  go_wp2_with fail
  refine (pick_c w.heap.size A n1 c1 _ 20 _ HR.out (by omega) (by omega) (by omega)).mono ?_
  rintro e w5 ⟨k5, rfl, k50, k51, hr, hg⟩
  have s5 := hg.size
  replace HO := Lib.hid (HO.out.kept hg (fun r e => by cases e; exact .inl (by omega)))
  replace HB := Lib.hid (HB.out.grown hg HB.out.size (fun r e => by cases e; exact Nat.le_refl _))
  replace HR := Lib.hid hr
  clear hr hg
  have t5 := tdiv19 k50 k51
  obtain ⟨d5, hd5⟩ : ∃ x, k5.tdiv 19 = x := ⟨_, rfl⟩
  rw [hd5] at t5
  have Q5 : IntKind.i64.wrap d5 = d5 := IntWalk.i64_in _ (by omega)
  have P5 : IntKind.i64.wrap (d5 * 12) = d5 * 12 := IntWalk.i64_in _ (by omega)
  have m5 : IntKind.i64.wrap (k4 - d5 * 12) = k4 - d5 * 12 := IntWalk.i64_in _ (by omega)
  go_wp2_with fail
  refine (pick_c w.heap.size A n1 c1 _ 20 _ HR.out (by omega) (by omega) (by omega)).mono ?_
  rintro e w6 ⟨k6, rfl, k60, k61, hr, hg⟩
  have s6 := hg.size
  replace HO := Lib.hid (HO.out.kept hg (fun r e => by cases e; exact .inl (by omega)))
  replace HB := Lib.hid (HB.out.grown hg HB.out.size (fun r e => by cases e; exact Nat.le_refl _))
  replace HR := Lib.hid hr
  clear hr hg
  have t6 := tdiv19 k60 k61
  obtain ⟨d6, hd6⟩ : ∃ x, k6.tdiv 19 = x := ⟨_, rfl⟩
  rw [hd6] at t6
  have Q6 : IntKind.i64.wrap d6 = d6 := IntWalk.i64_in _ (by omega)
  have P6 : IntKind.i64.wrap (d6 * 1001) = d6 * 1001 := IntWalk.i64_in _ (by omega)
  have m6 : IntKind.i64.wrap (k4 - d5 * 12 + d6 * 1001) = k4 - d5 * 12 + d6 * 1001 := IntWalk.i64_in _ (by omega)
  have HAf := Lib.hid (HO.out.arg (by omega) (by omega))
  have bm : -60 ≤ k2 - d3 * 60 ∧ k2 - d3 * 60 ≤ 60 := by omega
  have bo : -12 ≤ k4 - d5 * 12 + d6 * 1001 ∧ k4 - d5 * 12 + d6 * 1001 ≤ 1020 := by omega
  clear HO HR
  go_wp2
  go_ret3
  exact ⟨B, d, zs, k2 - d3 * 60, k4 - d5 * 12 + d6 * 1001, rfl, hzl, HAf.out, HB.out, bm, bo⟩

end Go.Proofs.Ytgnemkflojohdaa
