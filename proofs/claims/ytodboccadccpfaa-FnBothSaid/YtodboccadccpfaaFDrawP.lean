/-
  The drawn cable, number and ratio of the law FnBoth: DrawFaultBoth.
-/
import Derived.Test.YtodboccadccpfaaFDraw
import Derived.Test.YtodboccadccpfaaFDrawB
import Derived.Test.YtodboccadccpfaaTwoK
import Derived.Test.YtodboccadccpfaaFltOS
import Derived.Deep.RegionHeld3
namespace Go.Proofs.Ytodboccadccpfaa
open Go.RowKit

def RetCR (w : World) (e : Ending) (w' : World) : Prop :=
  ∃ B d zs a x y, e = .returned (.tuple #[.slice B (zs : List Sec).length d, .int .i64 a, .agg #[.int .i64 x, .int .i64 y]]) ∧ zs.length ≤ 20 ∧ -1 ≤ a ∧ a ≤ 10000 ∧ ArgC w' B d zs ∧ Below w.heap.size w w'
theorem grown_of_below' {a b : World} (h : Below a.heap.size a b) (row : Option Nat) : a.grownBy b row := ⟨h.os, h.tape, h.output, h.size, fun i hi _ => h.block i hi⟩

set_option maxRecDepth 100000 in
set_option maxHeartbeats 4000000 in
theorem DrawFaultBoth_c (A : Option Addr) (n c : Nat) (w : World) (hn : n ≤ 9223372036854775807) (hnc : n ≤ c) (hb : Bytes w.heap.size w A n) :
    Calls Try.prog 25 #[.slice A n c] w (RetCR w) := by
  obtain ⟨wa, hwa⟩ : ∃ wa, w.alloc (.cells #[.int .i64 0, .int .i64 0] 30) = wa := ⟨_, rfl⟩
  have hT : TwoAt 30 wa w.heap.size 0 0 := by rw [← hwa]; exact TwoAt.new _ w 0 0
  have hs : wa.heap.size = w.heap.size + 1 := by rw [← hwa]; simp
  have hBa : Below w.heap.size w wa := by rw [← hwa]; exact (Below.refl _ _).alloc (Nat.le_refl _) _
  have hba : Bytes wa.heap.size wa A n := by
    have h1 : Bytes w.heap.size wa A n := by rw [← hwa]; exact hb.grown (World.grownBy_alloc w _ none) (by simp)
    exact h1.more (by omega)
  have Hb := Lib.hid hba
  have HT := Lib.hid hT
  have HB := Lib.hid hBa
  have Hwa := Lib.hid hwa
  clear hb hba hT hBa hwa
  obtain ⟨R, hR⟩ : ∃ R, R = w.heap.size + 1 := ⟨_, rfl⟩
  go_enter Try.func25, Try.ntmps25
  go_wp2_with fail
  rw [Hwa.out]
  refine (l6Open_c A n c _ hn hnc Hb.out).mono ?_
  rintro e w0 ⟨n1, c1, rfl, hr0, hb0, hs0⟩
  rw [hs, ← hR] at hr0 hs0 ⊢
  have hR1 : w.heap.size + 1 ≤ R := by omega
  have hR2 : R ≤ w.heap.size + 1 := by omega
  have t0 := hb0.size
  rw [hs] at t0
  replace HT := Lib.hid (HT.out.below hb0 (by omega))
  replace HB := Lib.hid (below_step HB.out hb0)
  clear hs hR
  have H0 := Lib.hid hr0
  clear hr0 hb0
  go_wp2_with fail
  refine (l91Fault_c R A n1 c1 0 _ H0.out hs0 (by omega)).mono ?_
  rintro e w1 ⟨B, d, zs, f, q, rfl, hzl, ho1, hr1, hq, hg1, ⟨hm0, hm1⟩, hO0, hO1⟩
  have s1 := hg1.size
  have hgA := World.grownBy_alloc w1 (.cells #[.int .i64 f.m, .int .i64 f.o] 44) none
  have sA := hgA.size
  replace HT := Lib.hid ((HT.out.grown hg1 (fun r e => by cases e; omega)).old (.cells #[.int .i64 f.m, .int .i64 f.o] 44))
  have HF := Lib.hid (TwoAt.new 44 w1 f.m f.o)
  have HO := Lib.hid (ho1.kept hgA (by simp))
  have HR0 := Lib.hid (hr1.kept hgA (by simp))
  replace HB := Lib.hid ((HB.out.grown hg1 HB.out.size (fun r e => by cases e; omega)).grown hgA (by have := HB.out.size; omega) (by simp))
  clear ho1 hr1 hg1 hgA H0
  have a0 := HF.out.c0
  have a1 := HF.out.c1
  go_wp2_with fail
  refine (specFaultOpen_b B d zs f _ (HO.out.arg (by omega) (by omega))).mono ?_
  rintro e w2 ⟨rfl, hb2⟩
  have s2 := hb2.size
  replace HT := Lib.hid (HT.out.go hb2)
  replace HF := Lib.hid (HF.out.go hb2)
  replace HO := Lib.hid (HO.out.kept (grown_of_below' hb2 none) (by simp))
  replace HR0 := Lib.hid (HR0.out.kept (grown_of_below' hb2 none) (by simp))
  replace HB := Lib.hid (below_step HB.out hb2)
  clear hb2 a0 a1
  rw [show (w1.alloc (.cells #[.int .i64 f.m, .int .i64 f.o] 44)).heap.size = w1.heap.size + 1 from World.size_alloc _ _] at s2 sA
  have HE0 := fun W h => specFaultEarthed_b B d zs f W h
  cases hv : faultB zs f
  · rw [openV_no hv]
    rw [earthV_no hv] at HE0
    have HE := Lib.hid HE0
    clear HE0 hv
    have a0 := HF.out.c0
    have a1 := HF.out.c1
    go_wp2_with fail
    refine (HE.out _ (HO.out.arg (by omega) (by omega))).mono ?_
    rintro e w3 ⟨rfl, hb3⟩
    have s3 := hb3.size
    have hgX := World.grownBy_alloc w3 (.cells #[.int .i64 0, .int .i64 0] 30) none
    have sX : (w3.alloc (.cells #[.int .i64 0, .int .i64 0] 30)).heap.size = w3.heap.size + 1 := World.size_alloc _ _
    replace HT := Lib.hid ((HT.out.go hb3).old (.cells #[.int .i64 0, .int .i64 0] 30))
    have HX := Lib.hid (TwoAt.new 30 w3 0 0)
    replace HO := Lib.hid ((HO.out.kept (grown_of_below' hb3 none) (by simp)).kept hgX (by simp))
    replace HR0 := Lib.hid ((HR0.out.kept (grown_of_below' hb3 none) (by simp)).kept hgX (by simp))
    replace HB := Lib.hid ((below_step HB.out hb3).grown hgX (below_step HB.out hb3).size (by simp))
    clear hb3 hgX
    go_wp2_with fail
    refine (pick_c R A n1 c1 (q) 40 _ HR0.out (by omega) (by omega) (by omega)).mono ?_
    rintro e p5 ⟨k5, rfl, k50, k51, hr5, hg5⟩
    have z5 := hg5.size
    replace HT := Lib.hid (HT.out.grown hg5 (fun r e => by cases e; omega))
    replace HX := Lib.hid (HX.out.grown hg5 (fun r e => by cases e; omega))
    replace HO := Lib.hid (HO.out.kept hg5 (fun r e => by cases e; exact .inl (by omega)))
    replace HB := Lib.hid (HB.out.grown hg5 HB.out.size (fun r e => by cases e; omega))
    have HP5 := Lib.hid hr5
    clear hr5 hg5 HR0
    go_wp2_with fail
    refine (pick_c R A n1 c1 (q + 1) 30 _ HP5.out (by omega) (by omega) (by omega)).mono ?_
    rintro e p6 ⟨k6, rfl, k60, k61, hr6, hg6⟩
    have z6 := hg6.size
    replace HT := Lib.hid (HT.out.grown hg6 (fun r e => by cases e; omega))
    replace HX := Lib.hid (HX.out.grown hg6 (fun r e => by cases e; omega))
    replace HO := Lib.hid (HO.out.kept hg6 (fun r e => by cases e; exact .inl (by omega)))
    replace HB := Lib.hid (HB.out.grown hg6 HB.out.size (fun r e => by cases e; omega))
    have HP6 := Lib.hid hr6
    clear hr6 hg6 HP5
    go_wp2_with fail
    refine (pick_c R A n1 c1 (q + 1 + 1) 3 _ HP6.out (by omega) (by omega) (by omega)).mono ?_
    rintro e p7 ⟨k7, rfl, k70, k71, hr7, hg7⟩
    have z7 := hg7.size
    replace HT := Lib.hid (HT.out.grown hg7 (fun r e => by cases e; omega))
    replace HX := Lib.hid (HX.out.grown hg7 (fun r e => by cases e; omega))
    replace HO := Lib.hid (HO.out.kept hg7 (fun r e => by cases e; exact .inl (by omega)))
    replace HB := Lib.hid (HB.out.grown hg7 HB.out.size (fun r e => by cases e; omega))
    have HP7 := Lib.hid hr7
    clear hr7 hg7 HP6
    have q1 : IntKind.i64.wrap (1 + k7) = 1 + k7 := IntWalk.i64_in _ (by omega)
    obtain ⟨⟨tc0, tc1, tf0, tf1⟩, e0, e1⟩ := HT.out.all k6 (1 + k7)
    have hgw := HT.out.wr (.int .i64 k6) (.int .i64 (1 + k7))
    have HOf := Lib.hid (HO.out.kept hgw (fun r e => by cases e; exact .inl (by omega)))
    have HBf := Lib.hid (HB.out.grown hgw HB.out.size (fun r e => by cases e; exact Nat.le_refl _))
    have sgw := hgw.size
    clear hgw
    go_wp2
    exact bodyPost_ret (v := .tuple #[.slice B zs.length d, .int .i64 k5, .agg #[.int .i64 k6, .int .i64 (1 + k7)]]) (by simp [results, Try.results25, go_sem, e0, e1]) rfl ⟨B, d, zs, k5, k6, 1 + k7, rfl, hzl, by omega, by omega, HOf.out.arg (by omega) (by simp [World.setCell]; omega), HBf.out⟩
  · have hsd := sides_bd hv
    have hfo := (faultB_true hv).2.2
    rw [openV_yes hv]
    rw [earthV_yes hv] at HE0
    obtain ⟨u, hu⟩ : ∃ u, upL zs f + f.o = u := ⟨_, rfl⟩
    have hub : 0 ≤ u ∧ u ≤ 9000 := by omega
    obtain ⟨v, hv2⟩ : ∃ v, restL zs f + f.o = v := ⟨_, rfl⟩
    obtain ⟨x, hx⟩ : ∃ x, earR (upL zs f) (restL zs f) f.o = x := ⟨_, rfl⟩
    rw [hx] at HE0
    rw [hu, hv2]
    have HE : Hid (∀ W, ArgC W B d zs → Calls Try.prog 74 #[.slice B zs.length d, .agg #[.int .i64 f.m, .int .i64 f.o]] W (RetB (.tuple #[.agg #[.int .i64 x.t, .int .i64 x.l], .bool true]) W)) := Lib.hid HE0
    clear HE0 hv hsd hfo hu hv2 hx
    have a0 := HF.out.c0
    have a1 := HF.out.c1
    go_wp2_with fail
    refine (HE.out _ (HO.out.arg (by omega) (by omega))).mono ?_
    rintro e w3 ⟨rfl, hb3⟩
    have s3 := hb3.size
    have hgX := World.grownBy_alloc w3 (.cells #[.int .i64 x.t, .int .i64 x.l] 30) none
    have sX : (w3.alloc (.cells #[.int .i64 x.t, .int .i64 x.l] 30)).heap.size = w3.heap.size + 1 := World.size_alloc _ _
    replace HT := Lib.hid ((HT.out.go hb3).old (.cells #[.int .i64 x.t, .int .i64 x.l] 30))
    have HX := Lib.hid (TwoAt.new 30 w3 x.t x.l)
    replace HO := Lib.hid ((HO.out.kept (grown_of_below' hb3 none) (by simp)).kept hgX (by simp))
    replace HR0 := Lib.hid ((HR0.out.kept (grown_of_below' hb3 none) (by simp)).kept hgX (by simp))
    replace HB := Lib.hid ((below_step HB.out hb3).grown hgX (below_step HB.out hb3).size (by simp))
    clear hb3 hgX
    go_wp2_with fail
    refine (pick_c R A n1 c1 (q) 5 _ HR0.out (by omega) (by omega) (by omega)).mono ?_
    rintro e p4 ⟨k4, rfl, k40, k41, hr4, hg4⟩
    have z4 := hg4.size
    replace HT := Lib.hid (HT.out.grown hg4 (fun r e => by cases e; omega))
    replace HX := Lib.hid (HX.out.grown hg4 (fun r e => by cases e; omega))
    replace HO := Lib.hid (HO.out.kept hg4 (fun r e => by cases e; exact .inl (by omega)))
    replace HB := Lib.hid (HB.out.grown hg4 HB.out.size (fun r e => by cases e; omega))
    have HP4 := Lib.hid hr4
    clear hr4 hg4 HR0
    by_cases h4 : (0 : Int) < k4
    · have d4 : decide ((0 : Int) < k4) = true := decide_eq_true h4
      have x0 := HX.out.c0
      have x1 := HX.out.c1
      obtain ⟨⟨tc0, tc1, tf0, tf1⟩, e0, e1⟩ := HT.out.all x.t x.l
      have hgw := HT.out.wr (.int .i64 x.t) (.int .i64 x.l)
      have HOf := Lib.hid (HO.out.kept hgw (fun r e => by cases e; exact .inl (by omega)))
      have HBf := Lib.hid (HB.out.grown hgw HB.out.size (fun r e => by cases e; exact Nat.le_refl _))
      have sgw := hgw.size
      clear hgw
      go_wp2
      go_region
      all_goals
        go_wp2
        exact bodyPost_ret (v := .tuple #[.slice B zs.length d, .int .i64 u, .agg #[.int .i64 x.t, .int .i64 x.l]]) (by simp [results, Try.results25, go_sem, e0, e1]) rfl ⟨B, d, zs, u, x.t, x.l, rfl, hzl, by omega, by omega, (HOf.out.kept (grown_drew (World.grownBy.refl _ none)) (by simp)).arg (by omega) (by simp [World.setCell]; omega), HBf.out.drew⟩
    · have d4 : decide ((0 : Int) < k4) = false := decide_eq_false h4
      go_wp2_with fail
      refine (pick_c R A n1 c1 (q + 1) 40 _ HP4.out (by omega) (by omega) (by omega)).mono ?_
      rintro e p5 ⟨k5, rfl, k50, k51, hr5, hg5⟩
      have z5 := hg5.size
      replace HT := Lib.hid (HT.out.grown hg5 (fun r e => by cases e; omega))
      replace HX := Lib.hid (HX.out.grown hg5 (fun r e => by cases e; omega))
      replace HO := Lib.hid (HO.out.kept hg5 (fun r e => by cases e; exact .inl (by omega)))
      replace HB := Lib.hid (HB.out.grown hg5 HB.out.size (fun r e => by cases e; omega))
      have HP5 := Lib.hid hr5
      clear hr5 hg5 HP4
      go_wp2_with fail
      refine (pick_c R A n1 c1 (q + 1 + 1) 30 _ HP5.out (by omega) (by omega) (by omega)).mono ?_
      rintro e p6 ⟨k6, rfl, k60, k61, hr6, hg6⟩
      have z6 := hg6.size
      replace HT := Lib.hid (HT.out.grown hg6 (fun r e => by cases e; omega))
      replace HX := Lib.hid (HX.out.grown hg6 (fun r e => by cases e; omega))
      replace HO := Lib.hid (HO.out.kept hg6 (fun r e => by cases e; exact .inl (by omega)))
      replace HB := Lib.hid (HB.out.grown hg6 HB.out.size (fun r e => by cases e; omega))
      have HP6 := Lib.hid hr6
      clear hr6 hg6 HP5
      go_wp2_with fail
      refine (pick_c R A n1 c1 (q + 1 + 1 + 1) 3 _ HP6.out (by omega) (by omega) (by omega)).mono ?_
      rintro e p7 ⟨k7, rfl, k70, k71, hr7, hg7⟩
      have z7 := hg7.size
      replace HT := Lib.hid (HT.out.grown hg7 (fun r e => by cases e; omega))
      replace HX := Lib.hid (HX.out.grown hg7 (fun r e => by cases e; omega))
      replace HO := Lib.hid (HO.out.kept hg7 (fun r e => by cases e; exact .inl (by omega)))
      replace HB := Lib.hid (HB.out.grown hg7 HB.out.size (fun r e => by cases e; omega))
      have HP7 := Lib.hid hr7
      clear hr7 hg7 HP6
      have q1 : IntKind.i64.wrap (1 + k7) = 1 + k7 := IntWalk.i64_in _ (by omega)
      obtain ⟨⟨tc0, tc1, tf0, tf1⟩, e0, e1⟩ := HT.out.all k6 (1 + k7)
      have hgw := HT.out.wr (.int .i64 k6) (.int .i64 (1 + k7))
      have HOf := Lib.hid (HO.out.kept hgw (fun r e => by cases e; exact .inl (by omega)))
      have HBf := Lib.hid (HB.out.grown hgw HB.out.size (fun r e => by cases e; exact Nat.le_refl _))
      have sgw := hgw.size
      clear hgw
      go_wp2
      exact bodyPost_ret (v := .tuple #[.slice B zs.length d, .int .i64 k5, .agg #[.int .i64 k6, .int .i64 (1 + k7)]]) (by simp [results, Try.results25, go_sem, e0, e1]) rfl ⟨B, d, zs, k5, k6, 1 + k7, rfl, hzl, by omega, by omega, HOf.out.arg (by omega) (by simp [World.setCell]; omega), HBf.out⟩

end Go.Proofs.Ytodboccadccpfaa
