/-
  FaultBoth of the program.
-/
import Derived.Test.YtodboccadccpfaaFltF
import Derived.Test.YtodboccadccpfaaFltO
namespace Go.Proofs.Ytodboccadccpfaa
open Go.RowKit

def bothP (ss : List Sec) (a : Int) (e : Rat2) : Nat → Bool := fun k => decide (earR (rN ss k) (ohmsL ss - rN ss k) (a - rN ss k) = e)

set_option maxRecDepth 100000 in
set_option maxHeartbeats 1000000 in
theorem both1_c (f : Flt) (x y : Int) (e : Rat2) (n : Nat) (w : World) (hR : TwoAt 30 w n e.t e.l) (hx : 0 ≤ x ∧ x ≤ 8000) (hy : 0 ≤ y ∧ y ≤ 8000) (hf : 0 ≤ f.o ∧ f.o ≤ 1000) :
    Calls Try.prog 75 #[.agg #[.int .i64 f.m, .int .i64 f.o], .int .i64 x, .int .i64 y, .pointer (some ⟨n, 0, none⟩)] w (RetB (.bool (decide (earR x y f.o = e))) w) := by
  have hlt : n < w.heap.size := (Array.getElem?_eq_some_iff.1 hR).1
  obtain ⟨wd, hwd⟩ : ∃ wd, wd = (w.alloc (.cells #[.int .i64 f.m, .int .i64 f.o] 44)).drew := ⟨_, rfl⟩
  have hT : TwoAt 44 wd w.heap.size f.m f.o := by rw [hwd]; exact TwoAt.new _ w f.m f.o
  have hRd : TwoAt 30 wd n e.t e.l := by rw [hwd]; exact hR.old _
  have hB : Below w.heap.size w wd := by rw [hwd]; exact ((Below.refl _ _).alloc (Nat.le_refl _) _).drew
  have hs : wd.heap.size = w.heap.size + 1 := by rw [hwd]; show (w.alloc _).heap.size = _; simp
  have HRa := hR.old (.cells #[.int .i64 f.m, .int .i64 f.o] 44)
  have c0 := HRa.c0
  have c1 := HRa.c1
  obtain ⟨⟨p, q⟩, hpq⟩ : ∃ pq, earR x y f.o = pq := ⟨_, rfl⟩
  obtain ⟨t, l⟩ := e
  dsimp only at c0 c1 hRd
  have Hpq := Lib.hid hpq
  have Hwd := Lib.hid hwd
  have HT := Lib.hid hT
  have HRd := Lib.hid hRd
  have HB := Lib.hid hB
  clear hpq hwd hT hRd hB HRa hR
  have hv : decide (earR x y f.o = ⟨t, l⟩) = (decide (p = t) && decide (q = l)) := by
    rw [Hpq.out]
    by_cases h1 : p = t <;> by_cases h2 : q = l <;> simp [h1, h2]
  rw [hv]
  clear hv
  by_cases h1 : p = t <;> by_cases h2 : q = l
  all_goals
    go_enter Try.func75, Try.ntmps75
    go_wp2
    first
      | go_region_with (first
          | (rw [← Hwd.out]; go_at_call 76; refine (measureEarthed_c x y f.o wd (by omega) (by omega) (by omega) (by omega) (by omega) (by omega)).mono ?_; rintro e w1 ⟨rfl, hb1⟩; rw [Hpq.out]; dsimp only [Rat2.v]; have k0 := (HRd.out.below hb1 (by omega)).c0; have k1 := (HRd.out.below hb1 (by omega)).c1; have Hb1 := Lib.hid (below_step HB.out hb1); clear hb1))
      | fail
    all_goals
      go_wp2
      go_ret
      first
        | exact ⟨by rw [show (decide (p = t) && decide (q = l)) = true by simp [h1, h2]]; rfl, Hb1.out⟩
        | exact ⟨by rw [show (decide (p = t) && decide (q = l)) = false by simp [h1, h2]]; rfl, Hb1.out⟩

set_option maxRecDepth 100000 in
theorem implFaultBoth_b (A : Option Addr) (c : Nat) (ss : List Sec) (a : Int) (e : Rat2) (w : World) (ha : ArgC w A c ss) (ha2 : a ≤ 9223372036854775807) :
    Calls Try.prog 26 #[.slice A ss.length c, .int .i64 a, .agg #[.int .i64 e.t, .int .i64 e.l]] w (RetF 44 (fun v => .tuple #[v, .bool (cab0 ss a)]) (findsL ss a (bothP ss a e)) w) := by
  have hR := TwoAt.new 30 w e.t e.l
  have hB : Below w.heap.size w (w.alloc (.cells #[.int .i64 e.t, .int .i64 e.l] 30)) := (Below.refl _ _).alloc (Nat.le_refl _) _
  have HA := Lib.hid (ha.go hB)
  have HR := Lib.hid hR
  have HB := Lib.hid hB
  clear ha hR hB
  go_enter Try.func26, Try.ntmps26
  go_wp2_with fail
  refine (findFaults_b 75 #[.pointer (some ⟨w.heap.size, 0, none⟩)] (bothP ss a e) A c ss a _ (fun args w => enters_of Try.func75 (by kernel_rfl) rfl args w) HA.out ha2 ?_).mono ?_
  · intro h0 k W hk hin hb
    have hc := (cab0_true h0).1
    have hr := rN_bd hc k
    have hi := inB_true.1 hin
    have hrest : 0 ≤ ohmsL ss - rN ss k ∧ ohmsL ss - rN ss k ≤ 8000 := by
      have h8 := (mN_bd hc 0).2.2
      have h9 := sides_bd (ss := ss) (f := ⟨k, 0⟩) (faultB_yes (inB_true.2 (by rw [milesI_yes hc]; dsimp only; omega)) rfl)
      exact h9.2
    exact both1_c ⟨k, a - rN ss k⟩ (rN ss k) (ohmsL ss - rN ss k) e w.heap.size W (HR.out.below hb (by simp)) hr hrest hi
  rintro e9 w1 ⟨B, d, rfl, ra, ro, rb⟩
  have H := Lib.hid (show RetF 44 (fun v => .tuple #[v, .bool (cab0 ss a)]) (findsL ss a (bothP ss a e)) w (.returned (.tuple #[.slice B (findsL ss a (bothP ss a e)).length d, .bool (cab0 ss a)])) w1 from ⟨B, d, rfl, ra, ro.more (by simp) (Nat.le_refl _), below_step HB.out rb⟩)
  clear ra ro rb
  dsimp only
  go_wp2
  go_ret2
  exact H.out

end Go.Proofs.Ytodboccadccpfaa
