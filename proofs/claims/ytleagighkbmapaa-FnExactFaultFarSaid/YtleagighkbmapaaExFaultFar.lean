/-
  The exact law of FaultFar: for all arguments the law answers true. No condition.
  (Written by a program of mine, genf.py.)
-/
import Derived.Test.YtleagighkbmapaaBaseD
import Derived.Test.YtleagighkbmapaaRowC
import Derived.Test.YtleagighkbmapaaRowG
import Derived.Test.YtleagighkbmapaaFltOS
import Derived.Deep.RegionHeld3
import Derived.Deep.RegionWith
namespace Go.Proofs.Ytleagighkbmapaa
open Go.ChangeShapes Go.WideShapes Go.ChangeAt Go.RowKit

theorem farV_form (z0 : List Sec) (f1 : Flt) : ∃ (x0 : Rat2) (x1 : Bool), farV z0 f1 = .tuple #[.agg #[.int .i64 x0.t, .int .i64 x0.l], .bool x1] := by
  unfold farV
  split
  · exact ⟨_, true, rfl⟩
  · exact ⟨⟨0, 0⟩, false, rfl⟩

set_option maxRecDepth 100000 in
set_option maxHeartbeats 4000000 in
theorem exFaultFar_in (A0 : Option Addr) (c0 : Nat) (z0 : List Sec) (f1 : Flt) (w : World) (ha0 : ArgC w A0 c0 z0) (hl : z0.length ≤ 1048576)  :
    Calls Try.prog 8 #[.slice A0 z0.length c0, .agg #[.int .i64 f1.m, .int .i64 f1.o]] w (RetB (.bool true) w) := by
  have Ha0 := Lib.hid ha0.held
  clear ha0
  have Bt := Lib.hid (Below.refl w.heap.size w)
  obtain ⟨w0, hw0⟩ : ∃ w0, w.alloc (.cells #[.int .i64 f1.m, .int .i64 f1.o] 34) = w0 := ⟨_, rfl⟩
  have hs0 : w0.heap.size = w.heap.size + 1 := by rw [← hw0]; simp
  have rb0 : Below w.heap.size w w0 := by rw [← hw0]; exact (Below.refl _ _).alloc (Nat.le_refl _) _
  have hT1 : TwoAt 34 w0 (w.heap.size) f1.m f1.o := by rw [← hw0]; exact TwoAt.new _ w f1.m f1.o
  replace Ha0 := Lib.hid (Ha0.out.go rb0)
  replace Bt := Lib.hid (below_step Bt.out rb0)
  have HT1 := Lib.hid hT1
  have Hw0 := Lib.hid hw0
  clear hw0 rb0 hT1
  obtain ⟨x0, x1, hform⟩ := farV_form z0 f1
  have Hform := Lib.hid hform
  clear hform
  go_enter Try.func8, Try.ntmps8
  go_wp2_with fail
  rw [Hw0.out]
  refine (szSectionS_yes A0 c0 z0.length (1048576) _ (by omega) (by omega)).mono ?_
  rintro e w9 ⟨rfl, rfl⟩
  go_wp2
  have rb1 := (Below.refl w0.heap.size w0).drew
  replace Ha0 := Lib.hid (Ha0.out.go rb1)
  replace HT1 := Lib.hid (HT1.out.go rb1)
  replace Bt := Lib.hid (below_step Bt.out rb1)
  clear rb1
  have szd1 : (w0.drew).heap.size = w0.heap.size := rfl
  have pk1 := And.intro (HT1.out).c0 (HT1.out).c1
  have pk1n := And.intro (HT1.out.old (.cells #[.int .i64 0, .int .i64 0] 42)).c0 (HT1.out.old (.cells #[.int .i64 0, .int .i64 0] 42)).c1
  obtain ⟨nm1, hnm1⟩ : ∃ v, v = ((w0.alloc (.cells #[.int .i64 0, .int .i64 0] 42)).drew) := ⟨_, rfl⟩
  have Hnm1 := Lib.hid hnm1
  clear hnm1
  go_region_held3 (fun w9 => w9.cell? ⟨w.heap.size, 0, none⟩ = some (.int .i64 f1.m) ∧ w9.cell? ⟨w.heap.size, 1, none⟩ = some (.int .i64 f1.o)) (first | exact pk4n | exact pk4 | exact pk4b | exact pk3n | exact pk3 | exact pk2n | exact pk2 | exact pk1n | exact pk1 | exact set_keeps HT1.out (by omega) _ _ | exact set_keeps1 HT1.out (by omega) _)
    (first | (rw [← Hnm1.out]; go_at_call 23; have rbn1 : Below (w0.drew).heap.size (w0.drew) nm1 := (by rw [Hnm1.out]; exact (Below.refl (w0.drew).heap.size (w0.drew)).alloc (Nat.le_refl _) (.cells #[.int .i64 0, .int .i64 0] 42)); have HVa := Lib.hid (show TwoAt 42 nm1 (w.heap.size + 1) 0 0 by rw [Hnm1.out, ← hs0]; exact TwoAt.new _ (w0.drew) 0 0); have szn1 := rbn1.size; replace Ha0 := Lib.hid (Ha0.out.go rbn1); replace HT1 := Lib.hid (HT1.out.go rbn1); replace Bt := Lib.hid (below_step Bt.out rbn1); clear rbn1; refine (toSectionS_c A0 c0 z0 _ Ha0.out.arg).mono ?_; rintro e u2 ⟨B2, d2, rfl, ra2, ro2, rb2⟩; dsimp only [id]; have sz2 := rb2.size; (try (replace HVa := Lib.hid (HVa.out.go rb2))); replace Ha0 := Lib.hid (Ha0.out.go rb2); replace HT1 := Lib.hid (HT1.out.go rb2); replace Bt := Lib.hid (below_step Bt.out rb2); have Hx2 := Lib.hid (ro2.held (Nat.le_refl _) ra2.len); have Ox2 := Lib.hid ro2; clear ra2 ro2 rb2; have pk2 := And.intro (HT1.out).c0 (HT1.out).c1; have pk2n := And.intro (HT1.out.old (.cells #[.int .i64 0, .int .i64 0] 42)).c0 (HT1.out.old (.cells #[.int .i64 0, .int .i64 0] 42)).c1; obtain ⟨nm2, hnm2⟩ : ∃ v, v = u2.alloc (.cells #[.int .i64 0, .int .i64 0] 42) := ⟨_, rfl⟩; have Hnm2 := Lib.hid hnm2; clear hnm2) | (go_at_call 23; refine (toSectionS_c A0 c0 z0 _ Ha0.out.arg).mono ?_; rintro e u2 ⟨B2, d2, rfl, ra2, ro2, rb2⟩; dsimp only [id]; have sz2 := rb2.size; (try (replace HVa := Lib.hid (HVa.out.go rb2))); replace Ha0 := Lib.hid (Ha0.out.go rb2); replace HT1 := Lib.hid (HT1.out.go rb2); replace Bt := Lib.hid (below_step Bt.out rb2); have Hx2 := Lib.hid (ro2.held (Nat.le_refl _) ra2.len); have Ox2 := Lib.hid ro2; clear ra2 ro2 rb2; have pk2 := And.intro (HT1.out).c0 (HT1.out).c1; have pk2n := And.intro (HT1.out.old (.cells #[.int .i64 0, .int .i64 0] 42)).c0 (HT1.out.old (.cells #[.int .i64 0, .int .i64 0] 42)).c1; obtain ⟨nm2, hnm2⟩ : ∃ v, v = u2.alloc (.cells #[.int .i64 0, .int .i64 0] 42) := ⟨_, rfl⟩; have Hnm2 := Lib.hid hnm2; clear hnm2) | (rw [← Hnm2.out]; go_at_call 24; have rbn2 : Below u2.heap.size u2 nm2 := (by rw [Hnm2.out]; exact (Below.refl u2.heap.size u2).alloc (Nat.le_refl _) (.cells #[.int .i64 0, .int .i64 0] 42)); have HVa := Lib.hid (show TwoAt 42 nm2 u2.heap.size 0 0 by rw [Hnm2.out]; exact TwoAt.new _ u2 0 0); have szn2 := rbn2.size; replace Ha0 := Lib.hid (Ha0.out.go rbn2); replace HT1 := Lib.hid (HT1.out.go rbn2); replace Hx2 := Lib.hid (Hx2.out.go rbn2); replace Ox2 := Lib.hid (Ox2.out.go rbn2 (by omega)); replace Bt := Lib.hid (below_step Bt.out rbn2); clear rbn2; refine (toFault_c f1 _).mono ?_; rintro e u3 ⟨rfl, rb3⟩; (try (replace HVa := Lib.hid (HVa.out.go rb3))); have sz3 := rb3.size; replace Ha0 := Lib.hid (Ha0.out.go rb3); replace HT1 := Lib.hid (HT1.out.go rb3); replace Hx2 := Lib.hid (Hx2.out.go rb3); replace Ox2 := Lib.hid (Ox2.out.go rb3 (by omega)); replace Bt := Lib.hid (below_step Bt.out rb3); clear rb3; have pk3 := And.intro (HT1.out).c0 (HT1.out).c1; have pk3n := And.intro (HT1.out.old (.cells #[.int .i64 0, .int .i64 0] 42)).c0 (HT1.out.old (.cells #[.int .i64 0, .int .i64 0] 42)).c1; obtain ⟨nm3, hnm3⟩ : ∃ v, v = u3.alloc (.cells #[.int .i64 0, .int .i64 0] 42) := ⟨_, rfl⟩; have Hnm3 := Lib.hid hnm3; clear hnm3) | (go_at_call 24; refine (toFault_c f1 _).mono ?_; rintro e u3 ⟨rfl, rb3⟩; (try (replace HVa := Lib.hid (HVa.out.go rb3))); have sz3 := rb3.size; replace Ha0 := Lib.hid (Ha0.out.go rb3); replace HT1 := Lib.hid (HT1.out.go rb3); replace Hx2 := Lib.hid (Hx2.out.go rb3); replace Ox2 := Lib.hid (Ox2.out.go rb3 (by omega)); replace Bt := Lib.hid (below_step Bt.out rb3); clear rb3; have pk3 := And.intro (HT1.out).c0 (HT1.out).c1; have pk3n := And.intro (HT1.out.old (.cells #[.int .i64 0, .int .i64 0] 42)).c0 (HT1.out.old (.cells #[.int .i64 0, .int .i64 0] 42)).c1; obtain ⟨nm3, hnm3⟩ : ∃ v, v = u3.alloc (.cells #[.int .i64 0, .int .i64 0] 42) := ⟨_, rfl⟩; have Hnm3 := Lib.hid hnm3; clear hnm3) | (rw [← Hnm3.out]; go_at_call 33; have rbn3 : Below u3.heap.size u3 nm3 := (by rw [Hnm3.out]; exact (Below.refl u3.heap.size u3).alloc (Nat.le_refl _) (.cells #[.int .i64 0, .int .i64 0] 42)); have HVa := Lib.hid (show TwoAt 42 nm3 u3.heap.size 0 0 by rw [Hnm3.out]; exact TwoAt.new _ u3 0 0); have szn3 := rbn3.size; replace Ha0 := Lib.hid (Ha0.out.go rbn3); replace HT1 := Lib.hid (HT1.out.go rbn3); replace Hx2 := Lib.hid (Hx2.out.go rbn3); replace Ox2 := Lib.hid (Ox2.out.go rbn3 (by omega)); replace Bt := Lib.hid (below_step Bt.out rbn3); clear rbn3; refine (specFaultFar_b B2 d2 z0 f1 _ Hx2.out.arg ).mono ?_; rintro e u4 ⟨rfl, rb4⟩; rw [Hform.out]; (try (replace HVa := Lib.hid (HVa.out.go rb4))); have sz4 := rb4.size; replace Ha0 := Lib.hid (Ha0.out.go rb4); replace HT1 := Lib.hid (HT1.out.go rb4); replace Hx2 := Lib.hid (Hx2.out.go rb4); replace Ox2 := Lib.hid (Ox2.out.go rb4 (by omega)); replace Bt := Lib.hid (below_step Bt.out rb4); clear rb4; (try obtain ⟨⟨va0, va1, vf0, vf1⟩, ve0, ve1⟩ := HVa.out.all x0.t x0.l); have pk4b := And.intro (HT1.out.old (.cells #[.int .i64 x0.t, .int .i64 x0.l] 42)).c0 (HT1.out.old (.cells #[.int .i64 x0.t, .int .i64 x0.l] 42)).c1; have pk4 := And.intro (HT1.out).c0 (HT1.out).c1; have pk4n := And.intro (HT1.out.old (.cells #[.int .i64 0, .int .i64 0] 42)).c0 (HT1.out.old (.cells #[.int .i64 0, .int .i64 0] 42)).c1; obtain ⟨nm4, hnm4⟩ : ∃ v, v = u4.alloc (.cells #[.int .i64 0, .int .i64 0] 42) := ⟨_, rfl⟩; have Hnm4 := Lib.hid hnm4; clear hnm4) | (go_at_call 33; refine (specFaultFar_b B2 d2 z0 f1 _ Hx2.out.arg ).mono ?_; rintro e u4 ⟨rfl, rb4⟩; rw [Hform.out]; (try (replace HVa := Lib.hid (HVa.out.go rb4))); have sz4 := rb4.size; replace Ha0 := Lib.hid (Ha0.out.go rb4); replace HT1 := Lib.hid (HT1.out.go rb4); replace Hx2 := Lib.hid (Hx2.out.go rb4); replace Ox2 := Lib.hid (Ox2.out.go rb4 (by omega)); replace Bt := Lib.hid (below_step Bt.out rb4); clear rb4; (try obtain ⟨⟨va0, va1, vf0, vf1⟩, ve0, ve1⟩ := HVa.out.all x0.t x0.l); have pk4b := And.intro (HT1.out.old (.cells #[.int .i64 x0.t, .int .i64 x0.l] 42)).c0 (HT1.out.old (.cells #[.int .i64 x0.t, .int .i64 x0.l] 42)).c1; have pk4 := And.intro (HT1.out).c0 (HT1.out).c1; have pk4n := And.intro (HT1.out.old (.cells #[.int .i64 0, .int .i64 0] 42)).c0 (HT1.out.old (.cells #[.int .i64 0, .int .i64 0] 42)).c1; obtain ⟨nm4, hnm4⟩ : ∃ v, v = u4.alloc (.cells #[.int .i64 0, .int .i64 0] 42) := ⟨_, rfl⟩; have Hnm4 := Lib.hid hnm4; clear hnm4))
  all_goals
    clear Hx2 Ox2
    first
      | (have hva := HVa.out; have hV4 := hva.set x0.t x0.l; have hgB := hva.wr (.int .i64 x0.t) (.int .i64 x0.l); have sv4 := hgB.size; replace Ha0 := Lib.hid (Ha0.out.grown hgB (fun r e => by cases e; omega)); replace HT1 := Lib.hid (HT1.out.grown hgB (fun r e => by cases e; omega)); replace Bt := Lib.hid (below_row Bt.out hgB (fun r e => by cases e; omega)); have HV4 := Lib.hid hV4; clear hV4 hgB hva HVa)
      | (have rv4 : Below u4.heap.size u4 (u4.alloc (.cells #[.int .i64 x0.t, .int .i64 x0.l] 42)) := (Below.refl _ _).alloc (Nat.le_refl _) _; have hV4 : TwoAt 42 (u4.alloc (.cells #[.int .i64 x0.t, .int .i64 x0.l] 42)) u4.heap.size x0.t x0.l := TwoAt.new _ u4 x0.t x0.l; have sv4 : (u4.alloc (.cells #[.int .i64 x0.t, .int .i64 x0.l] 42)).heap.size = u4.heap.size + 1 := (by simp); replace Ha0 := Lib.hid (Ha0.out.go rv4); replace HT1 := Lib.hid (HT1.out.go rv4); replace Bt := Lib.hid (below_step Bt.out rv4); have HV4 := Lib.hid hV4; clear rv4 hV4)
    go_wp2_with fail
    refine (toSectionS_c A0 c0 z0 _ Ha0.out.arg).mono ?_
    rintro e u5 ⟨B5, d5, rfl, ra5, ro5, rb5⟩
    dsimp only [id]
    have sz5 := rb5.size
    replace Ha0 := Lib.hid (Ha0.out.go rb5)
    replace HT1 := Lib.hid (HT1.out.go rb5)
    replace HV4 := Lib.hid (HV4.out.go rb5)
    replace Bt := Lib.hid (below_step Bt.out rb5)
    have Hx5 := Lib.hid (ro5.held (Nat.le_refl _) ra5.len)
    have Ox5 := Lib.hid ro5
    clear ra5 ro5 rb5
    have cct10 := HT1.out.c0
    have cct11 := HT1.out.c1
    have ccbw0 := HV4.out.c0
    have ccbw1 := HV4.out.c1
    go_wp2_with fail
    refine (toFault_c f1 _).mono ?_
    rintro e u6 ⟨rfl, rb6⟩
    have sz6 := rb6.size
    replace Ha0 := Lib.hid (Ha0.out.go rb6)
    replace HT1 := Lib.hid (HT1.out.go rb6)
    replace HV4 := Lib.hid (HV4.out.go rb6)
    replace Hx5 := Lib.hid (Hx5.out.go rb6)
    replace Ox5 := Lib.hid (Ox5.out.go rb6 (by omega))
    replace Bt := Lib.hid (below_step Bt.out rb6)
    clear rb6
    go_wp2_with fail
    refine (implFaultFar_b B5 d5 z0 f1 _ Hx5.out.arg ).mono ?_
    rintro e u7 ⟨rfl, rb7⟩
    rw [Hform.out]
    have sz7 := rb7.size
    replace Ha0 := Lib.hid (Ha0.out.go rb7)
    replace HT1 := Lib.hid (HT1.out.go rb7)
    replace HV4 := Lib.hid (HV4.out.go rb7)
    replace Hx5 := Lib.hid (Hx5.out.go rb7)
    replace Ox5 := Lib.hid (Ox5.out.go rb7 (by omega))
    replace Bt := Lib.hid (below_step Bt.out rb7)
    clear rb7
    have rv7 : Below u7.heap.size u7 (u7.alloc (.cells #[.int .i64 x0.t, .int .i64 x0.l] 42)) := (Below.refl _ _).alloc (Nat.le_refl _) _
    have hV7 : TwoAt 42 (u7.alloc (.cells #[.int .i64 x0.t, .int .i64 x0.l] 42)) u7.heap.size x0.t x0.l := TwoAt.new _ u7 x0.t x0.l
    have sv7 : (u7.alloc (.cells #[.int .i64 x0.t, .int .i64 x0.l] 42)).heap.size = u7.heap.size + 1 := (by simp)
    replace Ha0 := Lib.hid (Ha0.out.go rv7)
    replace HT1 := Lib.hid (HT1.out.go rv7)
    replace HV4 := Lib.hid (HV4.out.go rv7)
    replace Hx5 := Lib.hid (Hx5.out.go rv7)
    replace Ox5 := Lib.hid (Ox5.out.go rv7 (by omega))
    replace Bt := Lib.hid (below_step Bt.out rv7)
    have HV7 := Lib.hid hV7
    clear rv7 hV7
    have cdt10 := HT1.out.c0
    have cdt11 := HT1.out.c1
    have cdbw0 := HV4.out.c0
    have cdbw1 := HV4.out.c1
    have cdbg0 := HV7.out.c0
    have cdbg1 := HV7.out.c1
    go_wp2_with fail
    refine (eqRatio_yes x0 _).mono ?_
    rintro e u8 ⟨rfl, rb8⟩
    have sz8 := rb8.size
    replace Ha0 := Lib.hid (Ha0.out.go rb8)
    replace HT1 := Lib.hid (HT1.out.go rb8)
    replace HV4 := Lib.hid (HV4.out.go rb8)
    replace Hx5 := Lib.hid (Hx5.out.go rb8)
    replace Ox5 := Lib.hid (Ox5.out.go rb8 (by omega))
    replace HV7 := Lib.hid (HV7.out.go rb8)
    replace Bt := Lib.hid (below_step Bt.out rb8)
    clear rb8
    go_wp2_with fail
    refine (toSectionS_c A0 c0 z0 _ Ha0.out.arg).mono ?_
    rintro e u9 ⟨B9, d9, rfl, ra9, ro9, rb9⟩
    dsimp only [id]
    have sz9 := rb9.size
    replace Ha0 := Lib.hid (Ha0.out.go rb9)
    replace HT1 := Lib.hid (HT1.out.go rb9)
    replace HV4 := Lib.hid (HV4.out.go rb9)
    replace Hx5 := Lib.hid (Hx5.out.go rb9)
    replace Ox5 := Lib.hid (Ox5.out.go rb9 (by omega))
    replace HV7 := Lib.hid (HV7.out.go rb9)
    replace Bt := Lib.hid (below_step Bt.out rb9)
    have Hx9 := Lib.hid (ro9.held (Nat.le_refl _) ra9.len)
    have Ox9 := Lib.hid ro9
    clear ra9 ro9 rb9
    go_wp2_with fail
    refine (eqSectionS_c B5 B9 d5 d9 z0 z0 _ Hx5.out.arg Hx9.out.arg).mono ?_
    rintro e u10 ⟨rfl, rb10⟩
    have sz10 := rb10.size
    replace Ha0 := Lib.hid (Ha0.out.go rb10)
    replace HT1 := Lib.hid (HT1.out.go rb10)
    replace HV4 := Lib.hid (HV4.out.go rb10)
    replace Hx5 := Lib.hid (Hx5.out.go rb10)
    replace Ox5 := Lib.hid (Ox5.out.go rb10 (by omega))
    replace HV7 := Lib.hid (HV7.out.go rb10)
    replace Hx9 := Lib.hid (Hx9.out.go rb10)
    replace Ox9 := Lib.hid (Ox9.out.go rb10 (by omega))
    replace Bt := Lib.hid (below_step Bt.out rb10)
    clear rb10
    clear Hx9 Ox9
    go_wp2
    go_ret
    exact ⟨rfl, Bt.out⟩

theorem exFaultFar_walk (A0 : Option Addr) (c0 : Nat) (z0 : List Sec) (f1 : Flt) (w : World) (ha0 : ArgC0 w A0 c0 z0)  :
    Calls Try.prog 8 #[.slice A0 z0.length c0, .agg #[.int .i64 f1.m, .int .i64 f1.o]] w (RetB (.bool true) w) := by
  by_cases hl0 : 1048576 < z0.length
  · have hc0 := ha0.1
    have hm0 := ha0.2.1
    have hk0 : (1048576 : Int) < (z0.length : Int) := by omega
    clear ha0
    go_enter Try.func8, Try.ntmps8
    go_wp2_with fail
    refine (szSectionS_no A0 c0 z0.length (1048576) _ hk0 (by omega) hc0 hm0).mono ?_
    rintro e w9 ⟨rfl, rfl⟩
    go_wp2
    go_ret
    exact ⟨rfl, (Below.refl _ _).alloc (Nat.le_refl _) _⟩
  exact exFaultFar_in A0 c0 z0 f1 w (ha0.arg (by omega)) (by omega) 

set_option maxRecDepth 100000 in
theorem exFaultFar_lifted (os : Os) (started : os.Started) (H : Type) (enc : TypeId × Value → H) :
    ReturnsInHanded {} Try.checked os 8 .any (Rows.fnExactFaultFarSpec.pre6 enc Try.prog Try.f8 Rows.fnExactFaultFarRow.domain false) (Rows.fnExactFaultFarSpec.post enc Try.prog Try.f8 false true false false) := by
  refine returnsInHanded_of_change (C := Try.checked) row_own started (by kernel_rfl) Try.func8
    (ChangeSpec.witness6 (enc := enc) (C := Try.checked) false ⟨#[], #[.slice none 0 0, .agg #[.int .i64 0, .int .i64 0]], []⟩ 8 (by kernel_rfl) (by kernel_rfl) (by kernel_rfl) (by kernel_rfl)) ?_
  intro W base args ds gs before hval0 hW hcnd _
  have hval : ∀ (j : Nat) t v, Try.f8.params[j]? = some t → args[j]? = some v → Value.okWide Try.prog W .any base t v := hval0
  have hW' := hW
  obtain ⟨p, q, hA0, hV, rfl, _, _⟩ := hW
  have hA : DataW.TrodAll enc Try.prog W 0 (fun _ => true) true Try.f8.params.toList args.toList ds p := hA0
  rw [Try.params8] at hA hval
  obtain ⟨v0, vs0, d0, ds0, p0, q0, hargs, rfl, rfl, h0, r0⟩ := trodAll_cons hA
  obtain ⟨v1, vs1, d1, ds1, p1, q1, rfl, rfl, rfl, h1, r1⟩ := trodAll_cons r0
  obtain ⟨rfl, rfl, rfl⟩ := trodAll_nil r1
  obtain rfl : args = #[v0, v1] := by cases args; simp_all
  obtain ⟨rfl, rfl⟩ := trodVars_none hV
  have hlt0 : ∀ x ∈ p0, x.block < W.heap.size := fun x hx => by exact hW'.lt x (by simp [hx])
  obtain ⟨A0, c0, z0, rfl, ha0⟩ := open_secs (hval 0 33 v0 rfl rfl) h0 hlt0
  obtain ⟨f1, rfl, rfl, rfl, wf1a, wf1b⟩ := open_fault (hval 1 34 v1 rfl rfl) h1
  clear hA0 hval0
  refine (exFaultFar_walk A0 c0 z0 f1 W ha0 ).mono fun e W' ⟨he, hb⟩ => ?_
  subst he
  exact ⟨_, rfl, _, _, _, [], _, [], hW', (trodAll_cons_mk (shut_bool Try.underlying4 _) trodAll_mk0), (trodAll_cons_mk (read_again_secs h0 hlt0 hb) (trodAll_cons_mk (shut_fault wf1a wf1b) trodAll_mk0)), rfl, hb.frame _, fun h => by cases h⟩

/-- THE STATEMENT -/
theorem exFaultFar_holds : Rows.FnExactFaultFarSaid :=
  OpenClaim.holds_of_wide 8 Try.f8 rfl rfl rfl rfl rfl rfl rfl ⟨rfl, rfl, rfl, rfl, rfl⟩ rfl rfl rfl rfl rfl (by kernel_rfl) Try.func8 (by kernel_rfl)
    (of_decide_eq_true (by kernel_rfl)) (by unfold Func.isWrapper; first | (rw [if_pos (by decide +kernel)]; kernel_rfl) | (rw [if_neg (by decide +kernel)]; exact ⟨rfl, rfl⟩))
    (fun os started H enc _ => exFaultFar_lifted os started H enc)
#print axioms exFaultFar_holds
end Go.Proofs.Ytleagighkbmapaa
