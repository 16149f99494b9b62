/-
  The drawn cable of the law FnPlain: DrawCablePlain.
-/
import Derived.Test.YtndpdoiomoefpaaDrw2
namespace Go.Proofs.Ytndpdoiomoefpaa
open Go.RowKit

theorem two_new (w : World) (m1 k1 o1 m2 k2 o2 : Int) (t : TypeId) :
    ArgC (w.alloc (.cells #[.int .i64 m1, .int .i64 k1, .int .i64 o1, .int .i64 m2, .int .i64 k2, .int .i64 o2] t)) (some ⟨w.heap.size, 0, none⟩) 2 [⟨m1, k1, o1⟩, ⟨m2, k2, o2⟩] := by
  have h : (w.alloc (.cells #[.int .i64 m1, .int .i64 k1, .int .i64 o1, .int .i64 m2, .int .i64 k2, .int .i64 o2] t)).heap[w.heap.size]? = some (.cells #[.int .i64 m1, .int .i64 k1, .int .i64 o1, .int .i64 m2, .int .i64 k2, .int .i64 o2] t) := heap_alloc_new w _
  refine ⟨by simp, by simp, by unfold maxLen; omega, fun _ => ⟨w.heap.size, 0, rfl, Nat.zero_le _, by simp, fun j hj => ?_⟩⟩
  have hj2 : j < 2 := by simpa using hj
  obtain rfl | rfl : j = 0 ∨ j = 1 := by omega
  · exact ⟨cell_of_row _ _ 0 _ _ (0, 0) h, cell_of_row _ _ 1 _ _ (0, 0) h, cell_of_row _ _ 2 _ _ (0, 0) h⟩
  · exact ⟨cell_of_row _ _ 3 _ _ (0, 0) h, cell_of_row _ _ 4 _ _ (0, 0) h, cell_of_row _ _ 5 _ _ (0, 0) h⟩

set_option maxRecDepth 100000 in
set_option maxHeartbeats 4000000 in
theorem DrawCablePlain_c (A : Option Addr) (n c : Nat) (w : World) (hn : n ≤ 9223372036854775807) (hnc : n ≤ c) (hb : Bytes w.heap.size w A n) :
    Calls Try.prog 62 #[.slice A n c] w (RetCb w) := by
  have Hb := Lib.hid hb
  clear hb
  go_enter Try.func62, Try.ntmps62
  go_wp2_with fail
  refine (l6Open_c A n c _ hn hnc Hb.out).mono ?_
  rintro e w0 ⟨n1, c1, rfl, hr0, hb0, hs0⟩
  have H0 := Lib.hid hr0
  have HB0 := Lib.hid hb0
  obtain ⟨R, hR⟩ : ∃ R, w.heap.size = R := ⟨_, rfl⟩
  rw [hR] at H0 hs0
  have hRR : w.heap.size ≤ R := by omega
  clear hr0 hb0
  go_wp2_with fail
  refine (l91Cable_c R A n1 c1 0 5 w0 H0.out hs0 (by omega) (by omega) (by omega)).mono ?_
  rintro e w1 ⟨B, d, zs, q, rfl, hzl, _, ho1, hr1, hq, hg1⟩
  have H1 := Lib.hid hr1
  have Ha1 := Lib.hid ho1
  have HB1 := Lib.hid (draw_below HB0.out hRR hg1)
  have hz1 := hg1.size
  clear ho1 hr1 hg1 hR HB0 H0
  go_wp2_with fail
  refine (pick_c R A n1 c1 q 16 _ H1.out (by omega) (by omega) (by omega)).mono ?_
  rintro e w2 ⟨a2, rfl, a20, a21, hr2, hg2⟩
  have H2 := Lib.hid hr2
  have Ha2 := Lib.hid (Ha1.out.kept hg2 (fun r e => by cases e; exact .inl hs0))
  have HB2 := Lib.hid (draw_below HB1.out hRR hg2)
  have hz2 := hg2.size
  clear hr2 hg2 H1 Ha1 HB1
  obtain rfl | hk2 := Classical.em (a2 = 0)
  · go_wp2_with fail
    refine (pick_c R A n1 c1 (q + 1) 10 _ H2.out (by omega) (by omega) (by omega)).mono ?_
    rintro e w3 ⟨a3, rfl, a30, a31, hr3, hg3⟩
    have HB3 := Lib.hid (draw_below HB2.out hRR hg3)
    have q1 : IntKind.i64.wrap (15 + a3) = 15 + a3 := IntWalk.i64_in _ (by omega)
    clear hr3 hg3 H2 Ha2 HB2
    go_wp2
    go_ret
    exact ⟨_, 2, [⟨30, 1, 2⟩, ⟨15 + a3, 1, 2⟩], rfl, by simp, two_new w3 30 1 2 (15 + a3) 1 2 _, HB3.out.alloc HB3.out.size _⟩
  have b0 : (a2 == 0) = false := by simpa using hk2
  by_cases hz : zs.length ≤ 1
  · have d1 : decide ((1 : Int) < (zs.length : Int)) = false := decide_eq_false (by omega)
    have d2 : decide (1 < zs.length) = false := decide_eq_false (by omega)
    have HH := Lib.hid (⟨Ha2.out.arg (by omega) (by omega), HB2.out⟩ : ArgC w2 B d zs ∧ Below w.heap.size w w2)
    clear Ha2 HB2 H2
    go_wp2
    go_ret
    exact ⟨B, d, zs, rfl, hzl, HH.out⟩
  have d1 : decide ((1 : Int) < (zs.length : Int)) = true := decide_eq_true (by omega)
  have d2 : decide (1 < zs.length) = true := decide_eq_true (by omega)
  go_wp2_with fail
  refine (pick_c R A n1 c1 (q + 1) 2 _ H2.out (by omega) (by omega) (by omega)).mono ?_
  rintro e w3 ⟨a3, rfl, a30, a31, hr3, hg3⟩
  have Ha3 := Lib.hid (Ha2.out.kept hg3 (fun r e => by cases e; exact .inl hs0))
  have HB3 := Lib.hid (draw_below HB2.out hRR hg3)
  have hz3 := hg3.size
  clear hr3 hg3 H2 Ha2 HB2
  obtain rfl | hk3 := Classical.em (a3 = 0)
  · obtain ⟨s0, s1, r, rfl⟩ : ∃ s0 s1 r, zs = s0 :: s1 :: r := by
      cases zs with
      | nil => simp at hz
      | cons s0 zs =>
        cases zs with
        | nil => simp at hz
        | cons s1 r => exact ⟨s0, s1, r, rfl⟩
    obtain ⟨g, cap, ev⟩ : ∃ g cap, Value.slice B (s0 :: s1 :: r).length d = .slice (some ⟨g, 0, none⟩) (s0 :: s1 :: r).length cap := by
      rcases Ha3.out.1.2 with ⟨_, h0⟩ | ⟨g, cap, cur, h1, _⟩
      · simp at h0
      · exact ⟨g, cap, h1⟩
    injection ev with ev1 _ ev2
    subst ev1
    subst ev2
    have hok := Ha3.out.1
    have hgl := hok.lt g rfl
    have hsz := HB3.out.size
    have k1 := hok.cellAt 1 (by simp; omega)
    have f4 := hok.frozenAt 4
    have x4 := hok.cellAt 4 (by simp; omega)
    have st1 := hok.stored 4 (.int .i64 s0.k)
    have k2 := st1.1.cellAt 2 (by simp; omega)
    have x5 := st1.1.cellAt 5 (by simp; omega)
    have f5 := st1.1.frozenAt 5
    have st2 := st1.1.stored 5 (.int .i64 s0.o)
    have e1 : (((secCells (s0 :: s1 :: r)).set 4 (.int .i64 s0.k)).set 5 (.int .i64 s0.o)) = secCells (s0 :: ⟨s1.m, s0.k, s0.o⟩ :: r) := rfl
    have HF := Lib.hid (show ((w3.setCell ⟨g, 4, none⟩ (.int .i64 s0.k)).setCell ⟨g, 5, none⟩ (.int .i64 s0.o)).ownsRow w0.heap.size 54 3 (.slice (some ⟨g, 0, none⟩) (s0 :: ⟨s1.m, s0.k, s0.o⟩ :: r : List Sec).length d) (s0 :: ⟨s1.m, s0.k, s0.o⟩ :: r : List Sec).length (secCells (s0 :: ⟨s1.m, s0.k, s0.o⟩ :: r)) by have := st2.1; rw [e1] at this; exact this)
    have hB4 := (HB3.out.grown st1.2 HB3.out.size (fun r e => by simp at e; omega))
    have HB5 := Lib.hid (hB4.grown st2.2 hB4.size (fun r e => by simp at e; omega))
    have c1 : w3.cell? ⟨g, 1, none⟩ = some (.int .i64 s0.k) := k1
    have c4 : w3.cell? ⟨g, 4, none⟩ = some (.int .i64 s1.k) := x4
    have c2 : (w3.setCell ⟨g, 4, none⟩ (.int .i64 s0.k)).cell? ⟨g, 2, none⟩ = some (.int .i64 s0.o) := k2
    have c5 : (w3.setCell ⟨g, 4, none⟩ (.int .i64 s0.k)).cell? ⟨g, 5, none⟩ = some (.int .i64 s1.o) := x5
    have hl2 : r.length + 2 ≤ 20 := by simpa using hzl
    clear k1 k2 x4 x5 st1 st2 e1 hB4 hok Ha3 HB3 hgl
    go_wp2
    go_ret
    have hO := OwC.of_own HF.out
    exact ⟨some ⟨g, 0, none⟩, d, s0 :: ⟨s1.m, s0.k, s0.o⟩ :: r, rfl, by simp; omega, hO.arg (by simp; omega) (Nat.le_refl _), HB5.out⟩
  have b3 : (a3 == 0) = false := by simpa using hk3
  have HH := Lib.hid (⟨Ha3.out.arg (by omega) (by omega), HB3.out⟩ : ArgC w3 B d zs ∧ Below w.heap.size w w3)
  clear Ha3 HB3
  go_wp2
  go_ret
  exact ⟨B, d, zs, rfl, hzl, HH.out⟩
end Go.Proofs.Ytndpdoiomoefpaa
