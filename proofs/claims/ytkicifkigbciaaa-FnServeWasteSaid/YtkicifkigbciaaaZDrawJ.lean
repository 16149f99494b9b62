/-
  The drawn joints: l91Joint, DrawJointBest; the drawn fits: DrawSparesFit.
-/
import Derived.Test.YtkicifkigbciaaaZDraw
import Derived.Test.YtkicifkigbciaaaChp
namespace Go.Proofs.Ytkicifkigbciaaa
open Go.RowKit

theorem draw_below {w a b : World} {R : Nat} (h : Below w.heap.size w a) (hR : w.heap.size ≤ R) (hg : a.grownBy b (some R)) : Below w.heap.size w b := h.grown hg h.size (fun r e => by cases e; exact hR)
theorem quo_pick {a m d : Int} (h0 : 0 ≤ a) (h1 : a < m) (hm : m ≤ 2 * d) (hd : 0 < d) : ∃ y : Int, a.tdiv d = y ∧ 0 ≤ y ∧ y ≤ 1 := by
  refine ⟨a / d, Int.tdiv_eq_ediv_of_nonneg h0, Int.ediv_nonneg h0 (by omega), ?_⟩
  have : a / d < 2 := Int.ediv_lt_of_lt_mul hd (by omega)
  omega

/-- spares and two small numbers -/
def RetJo (R : Nat) (A : Option Addr) (n c : Nat) (w : World) (e : Ending) (w' : World) : Prop :=
  ∃ B d zs q k m, e = .returned (.tuple #[.slice B (zs : List Spr).length d, .int .i64 k, .int .i64 m]) ∧ zs.length ≤ 12 ∧ 0 ≤ k ∧ k ≤ 1 ∧ -100 ≤ m ∧ m ≤ 600 ∧ ArgZ w' B d zs ∧ Reader w' R A n c q ∧ w.grownBy w' (some R)

set_option maxRecDepth 100000 in
set_option maxHeartbeats 4000000 in
theorem l91Joint_c (R : Nat) (A : Option Addr) (n c p : Nat) (w : World) (h : Reader w R A n c p) (hRw : R < w.heap.size) (hp : p ≤ 40000) :
    Calls Try.prog 72 #[.pointer (some ⟨R, 0, none⟩)] w (RetJo R A n c w) := by
  have H0 := Lib.hid h
  clear h
  go_enter Try.func72, Try.ntmps72
  go_wp2_with fail
  refine (l91Spares_c R A n c p 7 _ H0.out hRw (by omega) (by omega)).mono ?_
  rintro e w1 ⟨B, d, zs, q, rfl, hzl, _, ho1, hr1, hq, hg1⟩
  have s1 := hg1.size
  have HA1 := Lib.hid ho1
  have HR1 := Lib.hid hr1
  have HG1 := Lib.hid hg1
  clear ho1 hr1 hg1 H0
  go_wp2_with fail
  refine (pick_c R A n c q 3 _ HR1.out (by omega) (by omega) (by omega)).mono ?_
  rintro e w2 ⟨k2, rfl, k20, k21, hr2, hg2⟩
  obtain ⟨y2, ht2, y20, y21⟩ := quo_pick (d := 2) k20 k21 (by omega) (by omega)
  have s2 := hg2.size
  have HA2 := Lib.hid (HA1.out.kept hg2 (fun r e => by cases e; exact .inl hRw))
  have HR2 := Lib.hid hr2
  have HG2 := Lib.hid (grown_then HG1.out hg2)
  clear hr2 hg2 HA1 HR1 HG1
  go_wp2_with fail
  refine (pick_c R A n c (q + 1) 30 _ HR2.out (by omega) (by omega) (by omega)).mono ?_
  rintro e w3 ⟨k3, rfl, k30, k31, hr3, hg3⟩
  have s3 := hg3.size
  have HA3 := Lib.hid (HA2.out.kept hg3 (fun r e => by cases e; exact .inl hRw))
  have HR3 := Lib.hid hr3
  have HG3 := Lib.hid (grown_then HG2.out hg3)
  clear hr3 hg3 HA2 HR2 HG2
  go_wp2_with fail
  refine (pick_c R A n c (q + 2) 20 _ HR3.out (by omega) (by omega) (by omega)).mono ?_
  rintro e w4 ⟨k4, rfl, k40, k41, hr4, hg4⟩
  obtain ⟨y4, ht4, y40, y41⟩ := quo_pick (d := 19) k40 k41 (by omega) (by omega)
  have s4 := hg4.size
  have HA4 := Lib.hid (HA3.out.kept hg4 (fun r e => by cases e; exact .inl hRw))
  have HR4 := Lib.hid hr4
  have HG4 := Lib.hid (grown_then HG3.out hg4)
  clear hr4 hg4 HA3 HR3 HG3
  go_wp2_with fail
  refine (pick_c R A n c (q + 3) 20 _ HR4.out (by omega) (by omega) (by omega)).mono ?_
  rintro e w5 ⟨k5, rfl, k50, k51, hr5, hg5⟩
  obtain ⟨y5, ht5, y50, y51⟩ := quo_pick (d := 19) k50 k51 (by omega) (by omega)
  have s5 := hg5.size
  have HA5 := Lib.hid (HA4.out.kept hg5 (fun r e => by cases e; exact .inl hRw))
  have HR5 := Lib.hid hr5
  have HG5 := Lib.hid (grown_then HG4.out hg5)
  clear hr5 hg5 HA4 HR4 HG4
  go_wp2
  go_ret3
  exact ⟨B, d, zs, _, y2, 1 + k3 - y4 * 31 + y5 * 500, rfl, hzl, by omega, by omega, by omega, by omega, HA5.out.arg (by omega) (by omega), HR5.out, HG5.out⟩

/-- spares and two small numbers -/
def RetJoint (w : World) (e : Ending) (w' : World) : Prop :=
  ∃ B d zs k m, e = .returned (.tuple #[.slice B (zs : List Spr).length d, .int .i64 k, .int .i64 m]) ∧ zs.length ≤ 12 ∧ 0 ≤ k ∧ k ≤ 1 ∧ -100 ≤ m ∧ m ≤ 600 ∧ ArgZ w' B d zs ∧ Below w.heap.size w w'

set_option maxHeartbeats 1000000 in
theorem DrawJointBest_c (A : Option Addr) (n c : Nat) (w : World) (hn : n ≤ 9223372036854775807) (hnc : n ≤ c) (hb : Bytes w.heap.size w A n) :
    Calls Try.prog 30 #[.slice A n c] w (RetJoint w) := by
  have Hb := Lib.hid hb
  clear hb
  go_enter Try.func30, Try.ntmps30
  go_wp2_with fail
  refine (l6Open_c A n c _ hn hnc Hb.out).mono ?_
  rintro e w0 ⟨n1, c1, rfl, hr0, hb0, hs0⟩
  have H0 := Lib.hid hr0
  have HB0 := Lib.hid hb0
  obtain ⟨R, hR⟩ : ∃ R, w.heap.size = R := ⟨_, rfl⟩
  rw [hR] at H0 hs0
  have hRR : w.heap.size ≤ R := by omega
  clear hr0 hb0
  go_wp2_with fail
  refine (l91Joint_c R A n1 c1 0 _ H0.out hs0 (by omega)).mono ?_
  rintro e w1 ⟨B, d, zs, q, k, m, rfl, hzl, k0, k1, m0, m1, ha1, hr1, hg1⟩
  have Ha := Lib.hid ha1
  have HB1 := Lib.hid (draw_below HB0.out hRR hg1)
  clear ha1 hr1 hg1
  go_wp2
  go_ret3
  exact ⟨B, d, zs, k, m, rfl, hzl, k0, k1, m0, m1, Ha.out, HB1.out⟩

/-- spares and a need -/
def RetFit (w : World) (e : Ending) (w' : World) : Prop :=
  ∃ B d zs s, e = .returned (.tuple #[.slice B (zs : List Spr).length d, .agg #[.int .i64 (s : Spr).m, .int .i64 s.k]]) ∧ zs.length ≤ 12 ∧ ArgZ w' B d zs ∧ Below w.heap.size w w'

set_option maxRecDepth 100000 in
set_option maxHeartbeats 4000000 in
theorem DrawSparesFit_c (A : Option Addr) (n c : Nat) (w : World) (hn : n ≤ 9223372036854775807) (hnc : n ≤ c) (hb : Bytes w.heap.size w A n) :
    Calls Try.prog 19 #[.slice A n c] w (RetFit w) := by
  obtain ⟨wa, hwa⟩ : ∃ wa, w.alloc (.cells #[.int .i64 0, .int .i64 0] 25) = wa := ⟨_, rfl⟩
  have hba : Below w.heap.size w wa := by rw [← hwa]; exact (Below.refl _ _).alloc (Nat.le_refl _) _
  have hsa : wa.heap.size = w.heap.size + 1 := by rw [← hwa]; simp
  have hrow : wa.heap[w.heap.size]? = some (.cells #[.int .i64 0, .int .i64 0] 25 (0, 0)) := by rw [← hwa]; exact heap_alloc_new w _
  have hbyt : Bytes wa.heap.size wa A n := fun hn => by
    obtain ⟨b, off, e, hb1, hc⟩ := (hb.grown (grown_of_below hba none) (by simp)) hn
    exact ⟨b, off, e, by omega, hc⟩
  have Hb := Lib.hid hbyt
  have Hba := Lib.hid hba
  have Hrow := Lib.hid hrow
  have Hwa := Lib.hid hwa
  have hlt : w.heap.size < wa.heap.size := by omega
  clear hb hbyt hba hwa hrow hsa
  go_enter Try.func19, Try.ntmps19
  go_wp2_with fail
  rw [Hwa.out]
  refine (l6Open_c A n c _ hn hnc Hb.out).mono ?_
  rintro e w0 ⟨n1, c1, rfl, hr0, hb0, hs0⟩
  have H0 := Lib.hid hr0
  have HB0 := Lib.hid (below_step Hba.out hb0)
  have hrow0 := (hb0.block _ hlt).trans Hrow.out
  obtain ⟨R, hR⟩ : ∃ R, wa.heap.size = R := ⟨_, rfl⟩
  rw [hR] at H0 hs0 hlt
  have HR0 := Lib.hid hrow0
  clear hr0 hb0 hrow0
  go_wp2_with fail
  refine (l91Spares_c R A n1 c1 0 6 _ H0.out hs0 (by omega) (by omega)).mono ?_
  rintro e w1 ⟨B, d, zs, q, rfl, hzl, _, ho1, hr1, hq, hg1⟩
  have s1 := hg1.size
  have HA1 := Lib.hid ho1
  have HR1 := Lib.hid hr1
  have HG1 := Lib.hid hg1
  clear ho1 hr1 hg1 H0
  go_wp2_with fail
  refine (pick_c R A n1 c1 q 9 _ HR1.out (by omega) (by omega) (by omega)).mono ?_
  rintro e w2 ⟨k2, rfl, k20, k21, hr2, hg2⟩
  have s2 := hg2.size
  have HA2 := Lib.hid (HA1.out.kept hg2 (fun r e => by cases e; exact .inl hs0))
  have HR2 := Lib.hid hr2
  have HG2 := Lib.hid (grown_then HG1.out hg2)
  clear hr2 hg2 HA1 HR1 HG1
  go_wp2_with fail
  refine (pick_c R A n1 c1 (q + 1) 20 _ HR2.out (by omega) (by omega) (by omega)).mono ?_
  rintro e w3 ⟨k3, rfl, k30, k31, hr3, hg3⟩
  obtain ⟨y3, ht3, y30, y31⟩ := quo_pick (d := 19) k30 k31 (by omega) (by omega)
  have s3 := hg3.size
  have HA3 := Lib.hid (HA2.out.kept hg3 (fun r e => by cases e; exact .inl hs0))
  have HR3 := Lib.hid hr3
  have HG3 := Lib.hid (grown_then HG2.out hg3)
  clear hr3 hg3 HA2 HR2 HG2
  go_wp2_with fail
  refine (pick_c R A n1 c1 (q + 2) 3 _ HR3.out (by omega) (by omega) (by omega)).mono ?_
  rintro e w4 ⟨k4, rfl, k40, k41, hr4, hg4⟩
  obtain ⟨y4, ht4, y40, y41⟩ := quo_pick (d := 2) k40 k41 (by omega) (by omega)
  have s4 := hg4.size
  have HA4 := Lib.hid (HA3.out.kept hg4 (fun r e => by cases e; exact .inl hs0))
  have HG4 := Lib.hid (grown_then HG3.out hg4)
  clear hr4 hg4 HA3 HR3 HG3
  have hrow4 := (HG4.out.block w.heap.size (by omega) (by simp; omega)).trans HR0.out
  have e0 := cell_of_row _ _ 0 _ _ _ hrow4
  have e1 := cell_of_row _ _ 1 _ _ _ hrow4
  have f0 := frozen_of_row _ _ 0 _ _ hrow4
  have f1 := frozen_of_row _ _ 1 _ _ hrow4
  have Hrow4 := Lib.hid hrow4
  simp at e0 e1
  clear hrow4
  obtain ⟨u, hu⟩ : ∃ u, 1 + k2 - y3 * 9 = u := ⟨_, rfl⟩
  have hb5 := block_set (block_set Hrow4.out 0 (.int .i64 u)) 1 (.int .i64 y4)
  have x0 := cell_of_row _ _ 0 _ _ _ hb5
  have x1 := cell_of_row _ _ 1 _ _ _ hb5
  simp at x0 x1
  have hg5 : Below w.heap.size w ((w4.setCell ⟨w.heap.size, 0, none⟩ (.int .i64 u)).setCell ⟨w.heap.size, 1, none⟩ (.int .i64 y4)) :=
    ((draw_below HB0.out (by omega) HG4.out).grown (grown_set _ w.heap.size 0 _) (draw_below HB0.out (by omega) HG4.out).size (fun k e => by cases e; exact Nat.le_refl _)).grown (grown_set _ w.heap.size 1 _) (by have := (draw_below HB0.out (by omega) HG4.out).size; simp [World.setCell]; exact this) (fun k e => by cases e; exact Nat.le_refl _)
  have ha5 : ArgZ ((w4.setCell ⟨w.heap.size, 0, none⟩ (.int .i64 u)).setCell ⟨w.heap.size, 1, none⟩ (.int .i64 y4)) B d zs :=
    ((HA4.out.kept (grown_set _ w.heap.size 0 _) (fun k e => by cases e; exact .inl (by have := HB0.out.size; omega))).kept (grown_set _ w.heap.size 1 _) (fun k e => by cases e; exact .inl (by have := HB0.out.size; omega))).arg (by omega) (by simp [World.setCell]; omega)
  have Hg5 := Lib.hid hg5
  have Ha5 := Lib.hid ha5
  clear hb5 hg5 ha5 hR
  go_wp2
  exact bodyPost_ret (v := .tuple #[.slice B zs.length d, .agg #[.int .i64 u, .int .i64 y4]]) (by simp [results, Try.results19, go_sem, x0, x1]) rfl ⟨B, d, zs, ⟨u, y4⟩, rfl, hzl, Ha5.out, Hg5.out⟩

end Go.Proofs.Ytkicifkigbciaaa
