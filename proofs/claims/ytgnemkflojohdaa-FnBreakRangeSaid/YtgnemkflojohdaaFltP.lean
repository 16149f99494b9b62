/-
  FaultBack, FaultLess, BreakOpen of the program.
-/
import Derived.Test.YtgnemkflojohdaaFltO
namespace Go.Proofs.Ytgnemkflojohdaa
open Go.RowKit

/-- the fault as it is counted from B -/
def backV (ss : List Sec) (f : Flt) : Value := if faultB ss f then .tuple #[.agg #[.int .i64 (milesL ss - f.m), .int .i64 f.o], .bool true] else .tuple #[.agg #[.int .i64 0, .int .i64 0], .bool false]
theorem backV_no {ss : List Sec} {f : Flt} (h : faultB ss f = false) : backV ss f = .tuple #[.agg #[.int .i64 0, .int .i64 0], .bool false] := by unfold backV; rw [h]; rfl
theorem backV_yes {ss : List Sec} {f : Flt} (h : faultB ss f = true) : backV ss f = .tuple #[.agg #[.int .i64 (milesL ss - f.m), .int .i64 f.o], .bool true] := by unfold backV; rw [h]; rfl

set_option maxHeartbeats 1000000 in
theorem implFaultBack_b (A : Option Addr) (c : Nat) (ss : List Sec) (f : Flt) (w : World) (ha : ArgC w A c ss) :
    Calls Try.prog 20 #[.slice A ss.length c, .agg #[.int .i64 f.m, .int .i64 f.o]] w (RetB (backV ss f) w) := by
  obtain ⟨w0, hw0⟩ : ∃ w0, (w.alloc (.cells #[.int .i64 f.m, .int .i64 f.o] 25)).alloc (.cells #[.int .i64 0, .int .i64 0] 25) = w0 := ⟨_, rfl⟩
  have hT : TwoAt 25 w0 w.heap.size f.m f.o := by rw [← hw0]; exact (TwoAt.new _ w f.m f.o).old _
  have hR : TwoAt 25 w0 (w.heap.size + 1) 0 0 := by rw [← hw0]; exact TwoAt.new1 _ w _ 0 0
  have hB : Below w.heap.size w w0 := by rw [← hw0]; exact ((Below.refl _ _).alloc (Nat.le_refl _) _).alloc (by simp) _
  have hs : w0.heap.size = w.heap.size + 2 := by rw [← hw0]; simp
  have c0 := hT.c0
  have c1 := hT.c1
  have HA := Lib.hid (ha.go hB)
  have HT := Lib.hid hT
  have HR := Lib.hid hR
  have HB := Lib.hid hB
  have Hw0 := Lib.hid hw0
  clear ha hT hR hB hw0
  cases hf : faultB ss f
  · have Hs := Lib.hid hf
    have Hv := Lib.hid (backV_no hf)
    clear hf
    go_enter Try.func20, Try.ntmps20
    go_wp2_with fail
    rw [Hw0.out]
    refine (implFaultValid_b A c ss f _ HA.out).mono ?_
    rintro e w1 ⟨rfl, hb1⟩
    rw [Hs.out]
    obtain ⟨⟨k0, k1, f0, f1⟩, e0, e1⟩ := (HR.out.below hb1 (by omega)).all 0 0
    have Hs2 := Lib.hid (below_set (below_step HB.out hb1) (Nat.le_succ _) (.int .i64 0) (.int .i64 0))
    clear hb1
    go_wp2
    exact bodyPost_ret (v := .tuple #[.agg #[.int .i64 0, .int .i64 0], .bool false]) (by simp [results, Try.results20, go_sem, e0, e1]) rfl ⟨by rw [Hv.out], Hs2.out⟩
  · have Hs := Lib.hid hf
    have Hv := Lib.hid (backV_yes hf)
    have h1 := faultB_true hf
    have h2 := cab_miles h1.1
    have Hm := Lib.hid (milesI_yes h1.1)
    obtain ⟨M, hM⟩ : ∃ M, milesL ss = M := ⟨_, rfl⟩
    rw [hM] at h1 h2 Hm Hv
    obtain ⟨_, ⟨h3, h4⟩, _⟩ := h1
    have q1 : IntKind.i64.wrap (M - f.m) = M - f.m := IntWalk.i64_in _ (by omega)
    clear hf hM
    go_enter Try.func20, Try.ntmps20
    go_wp2_with fail
    rw [Hw0.out]
    refine (implFaultValid_b A c ss f _ HA.out).mono ?_
    rintro e w1 ⟨rfl, hb1⟩
    rw [Hs.out]
    have s1 := hb1.size
    obtain ⟨wd, hwd⟩ : ∃ wd, wd = w1.drew := ⟨_, rfl⟩
    have hd : Below w.heap.size w wd := by rw [hwd]; exact (below_step HB.out hb1).drew
    have hTd : TwoAt 25 wd w.heap.size f.m f.o := by have h9 := HT.out.below hb1 (by omega); rw [hwd]; exact h9
    have hRd : TwoAt 25 wd (w.heap.size + 1) 0 0 := by have h9 := HR.out.below hb1 (by omega); rw [hwd]; exact h9
    have hAd : ArgC wd A c ss := by rw [hwd]; exact HA.out.go hb1.drew
    have sd : wd.heap.size = w1.heap.size := by rw [hwd]; rfl
    have d0 := (HT.out.below hb1 (by omega)).c0
    have d1 := (HT.out.below hb1 (by omega)).c1
    have Hwd := Lib.hid hwd
    have Hd := Lib.hid hd
    have HTd := Lib.hid hTd
    have HRd := Lib.hid hRd
    have HAd := Lib.hid hAd
    clear hb1 hwd hd hTd hRd hAd
    go_wp2
    first
      | go_region_with (first
          | (rw [← Hwd.out]; go_at_call 30; refine (implCableMiles_b A c ss wd HAd.out).mono ?_; rintro e w2 ⟨rfl, hb2⟩; rw [Hm.out]; have m0 := (HTd.out.below hb2 (by omega)).c0; have m1 := (HTd.out.below hb2 (by omega)).c1; obtain ⟨⟨k0, k1, f0, f1⟩, e0, e1⟩ := (HRd.out.below hb2 (by omega)).all (M - f.m) f.o; have Hs2 := Lib.hid (below_set (below_step Hd.out hb2) (Nat.le_succ _) (.int .i64 (M - f.m)) (.int .i64 f.o)); clear hb2))
      | fail
    all_goals
      go_wp2
      exact bodyPost_ret (v := .tuple #[.agg #[.int .i64 (M - f.m), .int .i64 f.o], .bool true]) (by simp [results, Try.results20, go_sem, e0, e1]) rfl ⟨by rw [Hv.out], Hs2.out⟩

/-- both are faults, and the first one is measured with less from both ends -/
def fless (ss : List Sec) (f g : Flt) : Bool := faultB ss f && faultB ss g && decide (upL ss f + f.o < upL ss g + g.o) && decide (restL ss f + f.o < restL ss g + g.o)

set_option maxHeartbeats 1000000 in
theorem implFaultLess_b (A : Option Addr) (c : Nat) (ss : List Sec) (f g : Flt) (w : World) (ha : ArgC w A c ss) :
    Calls Try.prog 38 #[.slice A ss.length c, .agg #[.int .i64 f.m, .int .i64 f.o], .agg #[.int .i64 g.m, .int .i64 g.o]] w (RetB (.bool (fless ss f g)) w) := by
  obtain ⟨w0, hw0⟩ : ∃ w0, (w.alloc (.cells #[.int .i64 f.m, .int .i64 f.o] 25)).alloc (.cells #[.int .i64 g.m, .int .i64 g.o] 25) = w0 := ⟨_, rfl⟩
  have hT : TwoAt 25 w0 w.heap.size f.m f.o := by rw [← hw0]; exact (TwoAt.new _ w f.m f.o).old _
  have hR : TwoAt 25 w0 (w.heap.size + 1) g.m g.o := by rw [← hw0]; exact TwoAt.new1 _ w _ g.m g.o
  have hB : Below w.heap.size w w0 := by rw [← hw0]; exact ((Below.refl _ _).alloc (Nat.le_refl _) _).alloc (by simp) _
  have hs : w0.heap.size = w.heap.size + 2 := by rw [← hw0]; simp
  have c0 := hT.c0
  have c1 := hT.c1
  have HA := Lib.hid (ha.go hB)
  have HR := Lib.hid hR
  have HB := Lib.hid hB
  have Hw0 := Lib.hid hw0
  clear ha hT hR hB hw0
  cases hf : faultB ss f
  · have Hs := Lib.hid (openV_no hf)
    have Hv := Lib.hid (show fless ss f g = false by unfold fless; rw [hf]; rfl)
    clear hf
    go_enter Try.func38, Try.ntmps38
    go_wp2_with fail
    rw [Hw0.out]
    refine (implFaultOpen_b A c ss f _ HA.out).mono ?_
    rintro e w1 ⟨rfl, hb1⟩
    rw [Hs.out]
    have Hb1 := Lib.hid (below_step HB.out hb1)
    clear hb1
    go_wp2
    go_ret
    exact ⟨by rw [Hv.out]; rfl, Hb1.out⟩
  have Hs := Lib.hid (openV_yes hf)
  obtain ⟨x1, hx1⟩ : ∃ x, upL ss f + f.o = x := ⟨_, rfl⟩
  obtain ⟨y1, hy1⟩ : ∃ y, restL ss f + f.o = y := ⟨_, rfl⟩
  rw [hx1, hy1] at Hs
  cases hg : faultB ss g
  · have Hg := Lib.hid (openV_no hg)
    have Hv := Lib.hid (show fless ss f g = false by unfold fless; rw [hg]; simp)
    clear hf hg hx1 hy1
    go_enter Try.func38, Try.ntmps38
    go_wp2_with fail
    rw [Hw0.out]
    refine (implFaultOpen_b A c ss f _ HA.out).mono ?_
    rintro e w1 ⟨rfl, hb1⟩
    rw [Hs.out]
    have Hb1 := Lib.hid (below_step HB.out hb1)
    have HA1 := Lib.hid (HA.out.go hb1)
    have k0 := (HR.out.below hb1 (by omega)).c0
    have k1 := (HR.out.below hb1 (by omega)).c1
    clear hb1
    go_wp2_with fail
    refine (implFaultOpen_b A c ss g _ HA1.out).mono ?_
    rintro e w2 ⟨rfl, hb2⟩
    rw [Hg.out]
    have Hb2 := Lib.hid (below_step Hb1.out hb2)
    clear hb2
    go_wp2
    go_ret
    exact ⟨by rw [Hv.out]; rfl, Hb2.out⟩
  · have Hg := Lib.hid (openV_yes hg)
    obtain ⟨x2, hx2⟩ : ∃ x, upL ss g + g.o = x := ⟨_, rfl⟩
    obtain ⟨y2, hy2⟩ : ∃ y, restL ss g + g.o = y := ⟨_, rfl⟩
    rw [hx2, hy2] at Hg
    have hv : fless ss f g = (decide (x1 < x2) && decide (y1 < y2)) := by unfold fless; rw [hf, hg, hx1, hy1, hx2, hy2]; rfl
    have Hv := Lib.hid hv
    clear hf hg hx1 hy1 hx2 hy2 hv
    by_cases d1 : x1 < x2 <;> by_cases d2 : y1 < y2
    all_goals
      go_enter Try.func38, Try.ntmps38
      go_wp2_with fail
      rw [Hw0.out]
      refine (implFaultOpen_b A c ss f _ HA.out).mono ?_
      rintro e w1 ⟨rfl, hb1⟩
      rw [Hs.out]
      have Hb1 := Lib.hid (below_step HB.out hb1)
      have HA1 := Lib.hid (HA.out.go hb1)
      have k0 := (HR.out.below hb1 (by omega)).c0
      have k1 := (HR.out.below hb1 (by omega)).c1
      clear hb1
      go_wp2_with fail
      refine (implFaultOpen_b A c ss g _ HA1.out).mono ?_
      rintro e w2 ⟨rfl, hb2⟩
      rw [Hg.out]
      have Hb2 := Lib.hid (below_step Hb1.out hb2)
      clear hb2
      go_wp2
      go_ret
      exact ⟨by rw [Hv.out]; simp [d1, d2], Hb2.out⟩

/-- what is measured of a broken cable -/
def breakI (ss : List Sec) (f : Flt) : Int := if faultB ss f then upL ss f + f.o else -1
theorem breakI_no {ss : List Sec} {f : Flt} (h : faultB ss f = false) : breakI ss f = -1 := by unfold breakI; rw [h]; rfl
theorem breakI_yes {ss : List Sec} {f : Flt} (h : faultB ss f = true) : breakI ss f = upL ss f + f.o := by unfold breakI; rw [h]; rfl

theorem implBreakOpen_b (A : Option Addr) (c : Nat) (ss : List Sec) (m o : Int) (w : World) (ha : ArgC w A c ss) :
    Calls Try.prog 41 #[.slice A ss.length c, .int .i64 m, .int .i64 o] w (RetB (.int .i64 (breakI ss ⟨m, o⟩)) w) := by
  have HA := Lib.hid ha
  clear ha
  cases hf : faultB ss ⟨m, o⟩
  · have Hs := Lib.hid (openV_no hf)
    have Hv := Lib.hid (breakI_no hf)
    clear hf
    go_enter Try.func41, Try.ntmps41
    go_wp2_with fail
    refine (implFaultOpen_b A c ss ⟨m, o⟩ _ HA.out).mono ?_
    rintro e w1 ⟨rfl, hb1⟩
    rw [Hs.out]
    have Hb1 := Lib.hid hb1
    clear hb1
    go_wp2
    go_ret
    exact ⟨by rw [Hv.out]; rfl, Hb1.out⟩
  · have Hs := Lib.hid (openV_yes hf)
    have Hv := Lib.hid (breakI_yes hf)
    clear hf
    go_enter Try.func41, Try.ntmps41
    go_wp2_with fail
    refine (implFaultOpen_b A c ss ⟨m, o⟩ _ HA.out).mono ?_
    rintro e w1 ⟨rfl, hb1⟩
    rw [Hs.out]
    have Hb1 := Lib.hid hb1
    clear hb1
    go_wp2
    go_ret
    exact ⟨by rw [Hv.out]; rfl, Hb1.out⟩

end Go.Proofs.Ytgnemkflojohdaa
