/-
  FaultOpen, FaultEarthed, FaultFar of the model.
-/
import Derived.Test.YtodboccadccpfaaFltVS
import Derived.Test.YtodboccadccpfaaFltO
import Derived.Test.YtodboccadccpfaaRatioL
namespace Go.Proofs.Ytodboccadccpfaa
open Go.RowKit

theorem ohmsI_bd (ss : List Sec) (x : Int) : -1 ≤ ohmsI ss x ∧ ohmsI ss x ≤ 8000 := by
  cases h : cabB ss
  · rw [ohmsI_no h]; omega
  cases h2 : inB x 0 (milesL ss)
  · rw [ohmsI_out h2]; omega
  · rw [ohmsI_in h h2]
    have h3 := inB_true.1 h2
    have h4 := ohmsTo_bd (cab_small h) x h3.1
    have h5 := cab_len h
    omega
theorem allI_bd (ss : List Sec) : -1 ≤ allI ss ∧ allI ss ≤ 8000 := by
  cases h : cabB ss
  · rw [allI_no h]; omega
  · rw [allI_yes h]
    have := cab_ohms h
    omega

set_option maxRecDepth 100000 in
/-- the model's resistances on both sides -/
theorem l3Sides_c (A : Option Addr) (c : Nat) (ss : List Sec) (x : Int) (w : World) (ha : ArgC w A c ss) :
    Calls Try.prog 112 #[.slice A ss.length c, .int .i64 x] w (RetB (.tuple #[.int .i64 (ohmsI ss x), .int .i64 (allI ss - ohmsI ss x)]) w) := by
  have HA := Lib.hid ha
  have b1 := ohmsI_bd ss x
  have b2 := allI_bd ss
  obtain ⟨a, hea⟩ : ∃ a, allI ss = a := ⟨_, rfl⟩
  obtain ⟨r, her⟩ : ∃ r, ohmsI ss x = r := ⟨_, rfl⟩
  rw [her] at b1 ⊢
  rw [hea] at b2 ⊢
  have Hea := Lib.hid hea
  have Her := Lib.hid her
  have q1 : IntKind.i64.wrap (a - r) = a - r := IntWalk.i64_in _ (by omega)
  clear ha hea her
  go_enter Try.func112, Try.ntmps112
  go_wp2_with fail
  refine (specCableOhms_b A c ss x _ HA.out).mono ?_
  rintro e w1 ⟨rfl, hb1⟩
  have Hb1 := Lib.hid hb1
  have HA1 := Lib.hid (HA.out.go hb1)
  clear hb1
  rw [Her.out]
  go_wp2_with fail
  refine (specCableAll_b A c ss _ HA1.out).mono ?_
  rintro e w2 ⟨rfl, hb2⟩
  have Hb2 := Lib.hid (below_step Hb1.out hb2)
  clear hb2
  rw [Hea.out]
  go_wp2
  go_ret2
  exact ⟨rfl, Hb2.out⟩
theorem sides_eq {ss : List Sec} {f : Flt} (h : faultB ss f = true) : ohmsI ss f.m = upL ss f ∧ allI ss - ohmsI ss f.m = restL ss f := by
  have h1 := faultB_ohms h
  rw [h1.1, h1.2]
  exact ⟨rfl, rfl⟩

set_option maxRecDepth 100000 in
theorem specFaultOpen_b (A : Option Addr) (c : Nat) (ss : List Sec) (f : Flt) (w : World) (ha : ArgC w A c ss) :
    Calls Try.prog 73 #[.slice A ss.length c, .agg #[.int .i64 f.m, .int .i64 f.o]] w (RetB (openV ss f) w) := by
  have hT := TwoAt.new 44 w f.m f.o
  have hB : Below w.heap.size w (w.alloc (.cells #[.int .i64 f.m, .int .i64 f.o] 44)) := (Below.refl _ _).alloc (Nat.le_refl _) _
  have HA := Lib.hid (ha.go hB)
  have HT := Lib.hid hT
  have HB := Lib.hid hB
  clear ha hT hB
  cases hf : faultB ss f
  · have Hs := Lib.hid hf
    have Hv := Lib.hid (openV_no hf)
    clear hf
    go_enter Try.func73, Try.ntmps73
    go_wp2_with fail
    refine (specFaultValid_b A c ss f _ HA.out).mono ?_
    rintro e w1 ⟨rfl, hb1⟩
    rw [Hs.out]
    have Hb1 := Lib.hid (below_step HB.out hb1)
    clear hb1
    go_wp2
    go_ret3
    exact ⟨by rw [Hv.out]; rfl, Hb1.out⟩
  · have Hf := Lib.hid hf
    have Hs := Lib.hid (sides_eq hf)
    have Hv := Lib.hid (openV_yes hf)
    have hb := sides_bd hf
    have h1 := faultB_true hf
    obtain ⟨x, hx⟩ : ∃ x, upL ss f = x := ⟨_, rfl⟩
    obtain ⟨y, hy⟩ : ∃ y, restL ss f = y := ⟨_, rfl⟩
    rw [hx, hy] at hb Hs Hv
    have q1 : IntKind.i64.wrap (x + f.o) = x + f.o := IntWalk.i64_in _ (by omega)
    have q2 : IntKind.i64.wrap (y + f.o) = y + f.o := IntWalk.i64_in _ (by omega)
    clear hf hx hy h1
    go_enter Try.func73, Try.ntmps73
    go_wp2_with fail
    refine (specFaultValid_b A c ss f _ HA.out).mono ?_
    rintro e w1 ⟨rfl, hb1⟩
    rw [Hf.out]
    have Hb1 := Lib.hid (below_step HB.out hb1)
    have HA1 := Lib.hid (HA.out.go hb1)
    have HT1 := Lib.hid (HT.out.below hb1 (by simp))
    have s1 := hb1.size
    simp only [World.size_alloc] at s1
    have k0 := HT1.out.c0
    clear hb1
    go_wp2_with fail
    refine (l3Sides_c A c ss f.m _ HA1.out).mono ?_
    rintro e w2 ⟨rfl, hb2⟩
    rw [Hs.out.2, Hs.out.1]
    have Hb2 := Lib.hid (below_step Hb1.out hb2)
    have k1 := (HT1.out.below hb2 (by omega)).c1
    clear hb2
    go_wp2
    go_quiet (fail)
    go_wp2
    go_ret3
    exact ⟨by rw [Hv.out]; rfl, below_drewN Hb2.out _⟩

set_option maxRecDepth 100000 in
theorem specFaultEarthed_b (A : Option Addr) (c : Nat) (ss : List Sec) (f : Flt) (w : World) (ha : ArgC w A c ss) :
    Calls Try.prog 74 #[.slice A ss.length c, .agg #[.int .i64 f.m, .int .i64 f.o]] w (RetB (earthV ss f) w) := by
  obtain ⟨w0, hw0⟩ : ∃ w0, (w.alloc (.cells #[.int .i64 f.m, .int .i64 f.o] 44)).alloc (.cells #[.int .i64 0, .int .i64 0] 30) = w0 := ⟨_, rfl⟩
  have hT : TwoAt 44 w0 w.heap.size f.m f.o := by rw [← hw0]; exact (TwoAt.new _ w f.m f.o).old _
  have hR : TwoAt 30 w0 (w.heap.size + 1) 0 0 := by rw [← hw0]; exact TwoAt.new1 _ w _ 0 0
  have hB : Below w.heap.size w w0 := by rw [← hw0]; exact ((Below.refl _ _).alloc (Nat.le_refl _) _).alloc (by simp) _
  have hs : w0.heap.size = w.heap.size + 2 := by rw [← hw0]; simp
  have c0 := hT.c0
  have c1 := hT.c1
  have HA := Lib.hid (ha.go hB)
  have HT := Lib.hid hT
  have HR := Lib.hid hR
  have HB := Lib.hid hB
  have Hw0 := Lib.hid hw0
  clear ha hT hR hB hw0
  cases hf : faultB ss f
  · have Hs := Lib.hid hf
    have Hv := Lib.hid (earthV_no hf)
    clear hf
    go_enter Try.func74, Try.ntmps74
    go_wp2_with fail
    rw [Hw0.out]
    refine (specFaultValid_b A c ss f _ HA.out).mono ?_
    rintro e w1 ⟨rfl, hb1⟩
    rw [Hs.out]
    obtain ⟨⟨k0, k1, f0, f1⟩, e0, e1⟩ := (HR.out.below hb1 (by omega)).all 0 0
    have Hs2 := Lib.hid (below_set (below_step HB.out hb1) (Nat.le_succ _) (.int .i64 0) (.int .i64 0))
    clear hb1
    go_wp2
    exact bodyPost_ret (v := .tuple #[.agg #[.int .i64 0, .int .i64 0], .bool false]) (by simp [results, Try.results74, go_sem, e0, e1]) rfl ⟨by rw [Hv.out], Hs2.out⟩
  · have Hf := Lib.hid hf
    have Hs := Lib.hid (sides_eq hf)
    have Hv := Lib.hid (earthV_yes hf)
    have hb := sides_bd hf
    have h1 := (faultB_true hf).2.2
    obtain ⟨x, hx⟩ : ∃ x, upL ss f = x := ⟨_, rfl⟩
    obtain ⟨y, hy⟩ : ∃ y, restL ss f = y := ⟨_, rfl⟩
    rw [hx, hy] at hb Hs Hv
    obtain ⟨⟨p, q⟩, hpq⟩ : ∃ pq, earR x y f.o = pq := ⟨_, rfl⟩
    have Hpq := Lib.hid hpq
    clear hf hx hy hpq
    go_enter Try.func74, Try.ntmps74
    go_wp2_with fail
    rw [Hw0.out]
    refine (specFaultValid_b A c ss f _ HA.out).mono ?_
    rintro e w1 ⟨rfl, hb1⟩
    rw [Hf.out]
    have s1 := hb1.size
    have Hb1 := Lib.hid (below_step HB.out hb1)
    have HA1 := Lib.hid (HA.out.go hb1)
    have HR1 := Lib.hid (HR.out.below hb1 (by omega))
    have HT1 := Lib.hid (HT.out.below hb1 (by omega))
    have m0 := HT1.out.c0
    clear hb1
    go_wp2_with fail
    refine (l3Sides_c A c ss f.m _ HA1.out).mono ?_
    rintro e w2 ⟨rfl, hb2⟩
    rw [Hs.out.2, Hs.out.1]
    have s2 := hb2.size
    have Hb2 := Lib.hid (below_step Hb1.out hb2)
    have HR2 := Lib.hid (HR1.out.below hb2 (by omega))
    have m1 := (HT1.out.below hb2 (by omega)).c1
    clear hb2
    go_wp2_with fail
    refine (l3Earthed_c x y f.o _ (by omega) (by omega) (by omega) (by omega) (by omega) (by omega)).mono ?_
    rintro e w3 ⟨rfl, hb3⟩
    rw [Hpq.out]
    dsimp only [Rat2.v]
    obtain ⟨⟨k0, k1, f0, f1⟩, e0, e1⟩ := (HR2.out.below hb3 (by omega)).all p q
    have Hs2 := Lib.hid (below_set (below_step Hb2.out hb3) (Nat.le_succ _) (.int .i64 p) (.int .i64 q))
    clear hb3
    go_wp2
    exact bodyPost_ret (v := .tuple #[.agg #[.int .i64 p, .int .i64 q], .bool true]) (by simp [results, Try.results74, go_sem, e0, e1]) rfl ⟨by rw [Hv.out, Hpq.out]; rfl, Hs2.out⟩

end Go.Proofs.Ytodboccadccpfaa
