/-
  FaultOpen, FaultEarthed, FaultFar, FaultBack, FaultLess, BreakOpen of the program.
-/
import Derived.Test.YtodboccadccpfaaFltV
import Derived.Deep.RegionWith
import Derived.BigQuiet
namespace Go.Proofs.Ytodboccadccpfaa
open Go.RowKit

/-- what lies up to a fault, and behind it -/
def upL (ss : List Sec) (f : Flt) : Int := ohmsTo ss f.m
def restL (ss : List Sec) (f : Flt) : Int := ohmsL ss - ohmsTo ss f.m
theorem sides_bd {ss : List Sec} {f : Flt} (h : faultB ss f = true) : (0 ≤ upL ss f ∧ upL ss f ≤ 8000) ∧ 0 ≤ restL ss f ∧ restL ss f ≤ 8000 := by
  have h1 := faultB_true h
  have h2 := cab_ohms h1.1
  have h3 := (cabB_true.1 h1.1).2
  have h4 := ohmsTo_bd (cab_small h1.1) f.m h1.2.1.1
  have h5 := ohmsTo_mono h3 (milesL ss - f.m).toNat f.m h1.2.1.1 (by omega)
  have e : f.m + ((milesL ss - f.m).toNat : Int) = milesL ss := by omega
  rw [e, ohmsTo_all (cab_small h1.1)] at h5
  unfold upL restL
  omega
def sidesV (ss : List Sec) (f : Flt) : Value := if faultB ss f then .tuple #[.int .i64 (upL ss f), .int .i64 (restL ss f), .bool true] else .tuple #[.int .i64 0, .int .i64 0, .bool false]
theorem sidesV_no {ss : List Sec} {f : Flt} (h : faultB ss f = false) : sidesV ss f = .tuple #[.int .i64 0, .int .i64 0, .bool false] := by unfold sidesV; rw [h]; rfl
theorem sidesV_yes {ss : List Sec} {f : Flt} (h : faultB ss f = true) : sidesV ss f = .tuple #[.int .i64 (upL ss f), .int .i64 (restL ss f), .bool true] := by unfold sidesV; rw [h]; rfl
def openV (ss : List Sec) (f : Flt) : Value := if faultB ss f then .tuple #[.int .i64 (upL ss f + f.o), .int .i64 (restL ss f + f.o), .bool true] else .tuple #[.int .i64 0, .int .i64 0, .bool false]
theorem openV_no {ss : List Sec} {f : Flt} (h : faultB ss f = false) : openV ss f = .tuple #[.int .i64 0, .int .i64 0, .bool false] := by unfold openV; rw [h]; rfl
theorem openV_yes {ss : List Sec} {f : Flt} (h : faultB ss f = true) : openV ss f = .tuple #[.int .i64 (upL ss f + f.o), .int .i64 (restL ss f + f.o), .bool true] := by unfold openV; rw [h]; rfl
theorem faultB_ohms {ss : List Sec} {f : Flt} (h : faultB ss f = true) : ohmsI ss f.m = upL ss f ∧ allI ss = ohmsL ss := by
  have h1 := faultB_true h
  exact ⟨ohmsI_in h1.1 (inB_true.2 h1.2.1), allI_yes h1.1⟩

set_option maxRecDepth 100000 in
theorem faultSides_b (A : Option Addr) (c : Nat) (ss : List Sec) (f : Flt) (w : World) (ha : ArgC w A c ss) :
    Calls Try.prog 68 #[.slice A ss.length c, .agg #[.int .i64 f.m, .int .i64 f.o]] w (RetB (sidesV ss f) w) := by
  have hT := TwoAt.new 44 w f.m f.o
  have hB : Below w.heap.size w (w.alloc (.cells #[.int .i64 f.m, .int .i64 f.o] 44)) := (Below.refl _ _).alloc (Nat.le_refl _) _
  have HA := Lib.hid (ha.go hB)
  have HT := Lib.hid hT
  have HB := Lib.hid hB
  clear ha hT hB
  cases hf : faultB ss f
  · have Hf := Lib.hid hf
    have Hv := Lib.hid (sidesV_no hf)
    clear hf
    go_enter Try.func68, Try.ntmps68
    go_wp2_with fail
    refine (implFaultValid_b A c ss f _ HA.out).mono ?_
    rintro e w1 ⟨rfl, hb1⟩
    rw [Hf.out]
    have Hb1 := Lib.hid (below_step HB.out hb1)
    clear hb1
    go_wp2
    go_ret3
    exact ⟨by rw [Hv.out]; rfl, Hb1.out⟩
  · have Hf := Lib.hid hf
    have Hv := Lib.hid (sidesV_yes hf)
    have ho := faultB_ohms hf
    have hb := sides_bd hf
    have Ho := Lib.hid ho
    clear hf ho
    go_enter Try.func68, Try.ntmps68
    go_wp2_with fail
    refine (implFaultValid_b A c ss f _ HA.out).mono ?_
    rintro e w1 ⟨rfl, hb1⟩
    rw [Hf.out]
    have Hb1 := Lib.hid (below_step HB.out hb1)
    have HA1 := Lib.hid (HA.out.go hb1)
    have k0 := (HT.out.below hb1 (by simp)).c0
    clear hb1
    go_wp2_with fail
    refine (implCableOhms_b A c ss f.m _ HA1.out).mono ?_
    rintro e w2 ⟨rfl, hb2⟩
    have Hb2 := Lib.hid (below_step Hb1.out hb2)
    have HA2 := Lib.hid (HA1.out.go hb2)
    clear hb2
    rw [Ho.out.1]
    go_wp2_with fail
    refine (implCableAll_b A c ss _ HA2.out).mono ?_
    rintro e w3 ⟨rfl, hb3⟩
    have Hb3 := Lib.hid (below_step Hb2.out hb3)
    clear hb3
    rw [Ho.out.2]
    have e1 : ohmsL ss - upL ss f = restL ss f := rfl
    have q1 : IntKind.i64.wrap (ohmsL ss - upL ss f) = restL ss f := by rw [e1]; exact IntWalk.i64_in _ (by omega)
    clear e1
    go_wp2
    go_ret3
    exact ⟨by rw [Hv.out]; rfl, Hb3.out⟩


set_option maxRecDepth 100000 in
theorem implFaultOpen_b (A : Option Addr) (c : Nat) (ss : List Sec) (f : Flt) (w : World) (ha : ArgC w A c ss) :
    Calls Try.prog 22 #[.slice A ss.length c, .agg #[.int .i64 f.m, .int .i64 f.o]] w (RetB (openV ss f) w) := by
  have hT := TwoAt.new 44 w f.m f.o
  have hB : Below w.heap.size w (w.alloc (.cells #[.int .i64 f.m, .int .i64 f.o] 44)) := (Below.refl _ _).alloc (Nat.le_refl _) _
  have HA := Lib.hid (ha.go hB)
  have HT := Lib.hid hT
  have HB := Lib.hid hB
  clear ha hT hB
  cases hf : faultB ss f
  · have Hs := Lib.hid (sidesV_no hf)
    have Hv := Lib.hid (openV_no hf)
    clear hf
    go_enter Try.func22, Try.ntmps22
    go_wp2_with fail
    refine (faultSides_b A c ss f _ HA.out).mono ?_
    rintro e w1 ⟨rfl, hb1⟩
    rw [Hs.out]
    have Hb1 := Lib.hid (below_step HB.out hb1)
    clear hb1
    go_wp2
    go_ret3
    exact ⟨by rw [Hv.out]; rfl, Hb1.out⟩
  · have Hs := Lib.hid (sidesV_yes hf)
    have Hv := Lib.hid (openV_yes hf)
    have hb := sides_bd hf
    have h1 := faultB_true hf
    obtain ⟨x, hx⟩ : ∃ x, upL ss f = x := ⟨_, rfl⟩
    obtain ⟨y, hy⟩ : ∃ y, restL ss f = y := ⟨_, rfl⟩
    rw [hx, hy] at hb Hs Hv
    have q1 : IntKind.i64.wrap (x + f.o) = x + f.o := IntWalk.i64_in _ (by omega)
    have q2 : IntKind.i64.wrap (y + f.o) = y + f.o := IntWalk.i64_in _ (by omega)
    clear hf hx hy h1
    go_enter Try.func22, Try.ntmps22
    go_wp2_with fail
    refine (faultSides_b A c ss f _ HA.out).mono ?_
    rintro e w1 ⟨rfl, hb1⟩
    rw [Hs.out]
    have Hb1 := Lib.hid (below_step HB.out hb1)
    have k1 := (HT.out.below hb1 (by simp)).c1
    clear hb1
    go_wp2
    go_quiet (fail)
    go_wp2
    go_ret3
    exact ⟨by rw [Hv.out]; rfl, below_drewN Hb1.out _⟩

/-! ### what is measured earthed -/
def earthV (ss : List Sec) (f : Flt) : Value := if faultB ss f then .tuple #[(earR (upL ss f) (restL ss f) f.o).v, .bool true] else .tuple #[.agg #[.int .i64 0, .int .i64 0], .bool false]
theorem earthV_no {ss : List Sec} {f : Flt} (h : faultB ss f = false) : earthV ss f = .tuple #[.agg #[.int .i64 0, .int .i64 0], .bool false] := by unfold earthV; rw [h]; rfl
theorem earthV_yes {ss : List Sec} {f : Flt} (h : faultB ss f = true) : earthV ss f = .tuple #[(earR (upL ss f) (restL ss f) f.o).v, .bool true] := by unfold earthV; rw [h]; rfl
def farV (ss : List Sec) (f : Flt) : Value := if faultB ss f then .tuple #[(earR (restL ss f) (upL ss f) f.o).v, .bool true] else .tuple #[.agg #[.int .i64 0, .int .i64 0], .bool false]
theorem farV_no {ss : List Sec} {f : Flt} (h : faultB ss f = false) : farV ss f = .tuple #[.agg #[.int .i64 0, .int .i64 0], .bool false] := by unfold farV; rw [h]; rfl
theorem farV_yes {ss : List Sec} {f : Flt} (h : faultB ss f = true) : farV ss f = .tuple #[(earR (restL ss f) (upL ss f) f.o).v, .bool true] := by unfold farV; rw [h]; rfl

set_option maxRecDepth 100000 in
theorem implFaultEarthed_b (A : Option Addr) (c : Nat) (ss : List Sec) (f : Flt) (w : World) (ha : ArgC w A c ss) :
    Calls Try.prog 28 #[.slice A ss.length c, .agg #[.int .i64 f.m, .int .i64 f.o]] w (RetB (earthV ss f) w) := by
  obtain ⟨w0, hw0⟩ : ∃ w0, (w.alloc (.cells #[.int .i64 f.m, .int .i64 f.o] 44)).alloc (.cells #[.int .i64 0, .int .i64 0] 30) = w0 := ⟨_, rfl⟩
  have hT : TwoAt 44 w0 w.heap.size f.m f.o := by rw [← hw0]; exact (TwoAt.new _ w f.m f.o).old _
  have hR : TwoAt 30 w0 (w.heap.size + 1) 0 0 := by rw [← hw0]; exact TwoAt.new1 _ w _ 0 0
  have hB : Below w.heap.size w w0 := by rw [← hw0]; exact ((Below.refl _ _).alloc (Nat.le_refl _) _).alloc (by simp) _
  have hs : w0.heap.size = w.heap.size + 2 := by rw [← hw0]; simp
  have c0 := hT.c0
  have c1 := hT.c1
  have HA := Lib.hid (ha.go hB)
  have HT := Lib.hid hT
  have HR := Lib.hid hR
  have HB := Lib.hid hB
  have Hw0 := Lib.hid hw0
  clear ha hT hR hB hw0
  cases hf : faultB ss f
  · have Hs := Lib.hid (sidesV_no hf)
    have Hv := Lib.hid (earthV_no hf)
    clear hf
    go_enter Try.func28, Try.ntmps28
    go_wp2_with fail
    rw [Hw0.out]
    refine (faultSides_b A c ss f _ HA.out).mono ?_
    rintro e w1 ⟨rfl, hb1⟩
    rw [Hs.out]
    obtain ⟨⟨k0, k1, f0, f1⟩, e0, e1⟩ := (HR.out.below hb1 (by omega)).all 0 0
    have Hs2 := Lib.hid (below_set (below_step HB.out hb1) (Nat.le_succ _) (.int .i64 0) (.int .i64 0))
    clear hb1
    go_wp2
    exact bodyPost_ret (v := .tuple #[.agg #[.int .i64 0, .int .i64 0], .bool false]) (by simp [results, Try.results28, go_sem, e0, e1]) rfl ⟨by rw [Hv.out], Hs2.out⟩
  · have Hs := Lib.hid (sidesV_yes hf)
    have Hv := Lib.hid (earthV_yes hf)
    have hb := sides_bd hf
    have h1 := (faultB_true hf).2.2
    obtain ⟨x, hx⟩ : ∃ x, upL ss f = x := ⟨_, rfl⟩
    obtain ⟨y, hy⟩ : ∃ y, restL ss f = y := ⟨_, rfl⟩
    rw [hx, hy] at hb Hs Hv
    obtain ⟨⟨p, q⟩, hpq⟩ : ∃ pq, earR x y f.o = pq := ⟨_, rfl⟩
    have Hpq := Lib.hid hpq
    clear hf hx hy hpq
    go_enter Try.func28, Try.ntmps28
    go_wp2_with fail
    rw [Hw0.out]
    refine (faultSides_b A c ss f _ HA.out).mono ?_
    rintro e w1 ⟨rfl, hb1⟩
    rw [Hs.out]
    have s1 := hb1.size
    have Hb1 := Lib.hid (below_step HB.out hb1)
    have HR1 := Lib.hid (HR.out.below hb1 (by omega))
    have m1 := (HT.out.below hb1 (by omega)).c1
    clear hb1
    go_wp2_with fail
    refine (measureEarthed_c x y f.o _ (by omega) (by omega) (by omega) (by omega) (by omega) (by omega)).mono ?_
    rintro e w2 ⟨rfl, hb2⟩
    rw [Hpq.out]
    dsimp only [Rat2.v]
    obtain ⟨⟨k0, k1, f0, f1⟩, e0, e1⟩ := (HR1.out.below hb2 (by omega)).all p q
    have Hs2 := Lib.hid (below_set (below_step Hb1.out hb2) (Nat.le_succ _) (.int .i64 p) (.int .i64 q))
    clear hb2
    go_wp2
    exact bodyPost_ret (v := .tuple #[.agg #[.int .i64 p, .int .i64 q], .bool true]) (by simp [results, Try.results28, go_sem, e0, e1]) rfl ⟨by rw [Hv.out, Hpq.out]; rfl, Hs2.out⟩

end Go.Proofs.Ytodboccadccpfaa
