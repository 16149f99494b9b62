/-
  ChartValid of both; sides, crossings of two routes, RoutesCross and RouteSide of both.
-/
import Derived.Test.YtjboamhjfncgdaaRng0
import Derived.Test.YtjboamhjfncgdaaRtM
import Derived.BigQuiet
import Derived.Deep.RegionHeld3
namespace Go.Proofs.Ytjboamhjfncgdaa
open Go.RowKit

/-! ### small steps of the mathematics -/
theorem on_no1 {x y : Int} (h : inB x 0 20 = false) : onB x y = false := by unfold onB; rw [h]; rfl
theorem on_no2 {x y : Int} (h : inB y 0 20 = false) : onB x y = false := by unfold onB; rw [h, Bool.and_false]
theorem on_yes {x y : Int} (h1 : inB x 0 20 = true) (h2 : inB y 0 20 = true) : onB x y = true := by unfold onB; rw [h1, h2]; rfl
theorem rt_no1 {r : Rot} (h : onB r.a r.b = false) : rtOk r = false := by unfold rtOk; rw [h]; rfl
theorem rt_no2 {r : Rot} (h : onB r.c r.d = false) : rtOk r = false := by unfold rtOk; rw [h, Bool.and_false]; rfl
theorem rt_yes1 {r : Rot} (h1 : onB r.a r.b = true) (h2 : onB r.c r.d = true) (h : ¬ r.a = r.c) : rtOk r = true := by unfold rtOk; rw [h1, h2, decide_eq_true h]; rfl
theorem rt_yes2 {r : Rot} (h1 : onB r.a r.b = true) (h2 : onB r.c r.d = true) (h : ¬ r.b = r.d) : rtOk r = true := by unfold rtOk; rw [h1, h2, decide_eq_true h, Bool.or_true]; rfl
theorem rt_no3 {r : Rot} (h1 : r.a = r.c) (h2 : r.b = r.d) : rtOk r = false := by
  unfold rtOk
  have e1 : decide (r.a ≠ r.c) = false := decide_eq_false (fun h => h h1)
  have e2 : decide (r.b ≠ r.d) = false := decide_eq_false (fun h => h h2)
  rw [e1, e2, Bool.or_false, Bool.and_false]
theorem part_val (r s : Rot) {x y : Int} (h1 : sideV r s.a s.b = x) (h2 : sideV r s.c s.d = y) : partB r s = decide (x * y < 0) := by unfold partB; rw [h1, h2]
theorem cr_no {r s : Rot} (h : partB r s = false) : crB r s = false := by unfold crB; rw [h]; rfl
theorem cr_yes {r s : Rot} (h : partB r s = true) : crB r s = partB s r := by unfold crB; rw [h]; rfl

/-! ### the program -/
set_option maxHeartbeats 1000000 in
theorem onChart_c (x y : Int) (w : World) :
    Calls Try.prog 83 #[.int .i64 x, .int .i64 y] w fun e w' => e = .returned (.bool (onB x y)) ∧ w = w' := by
  go_enter Try.func83, Try.ntmps83
  go_wp2_with fail
  refine (inRange_c _ _ _ _).mono ?_
  rintro e w' ⟨rfl, rfl⟩
  cases e1 : inB x 0 20
  · have Hv := Lib.hid (on_no1 (y := y) e1)
    clear e1
    go_wp2
    go_ret
    exact ⟨by rw [Hv.out] <;> rfl, rfl⟩
  have E1 := Lib.hid e1
  clear e1
  go_wp2_with fail
  refine (inRange_c _ _ _ _).mono ?_
  rintro e w' ⟨rfl, rfl⟩
  cases e2 : inB y 0 20
  · have Hv := Lib.hid (on_no2 (x := x) e2)
    clear e2
    go_wp2
    go_ret
    exact ⟨by rw [Hv.out] <;> rfl, rfl⟩
  · have Hv := Lib.hid (on_yes E1.out e2)
    clear e2
    go_wp2
    go_ret
    exact ⟨by rw [Hv.out] <;> rfl, rfl⟩

theorem isnan_c (x : Int) (w : World) : Calls Try.prog 106 #[.int .i64 x] w fun e w' => e = .returned (.bool false) ∧ w = w' := by
  have g : (x != x) = false := by simp
  go_enter Try.func106, Try.ntmps106
  go_wp2
  go_ret
  exact ⟨rfl, rfl⟩
theorem compare_c (x y : Int) (w : World) : Calls Try.prog 103 #[.int .i64 x, .int .i64 y] w fun e w' => e = .returned (.int .i64 (sgn (x - y))) ∧ w = w' := by
  go_enter Try.func103, Try.ntmps103
  go_wp2_with fail
  refine (isnan_c x w).mono ?_
  rintro e w1 ⟨rfl, rfl⟩
  go_wp2_with fail
  refine (isnan_c y w).mono ?_
  rintro e w1 ⟨rfl, rfl⟩
  by_cases h1 : x < y
  · have Hv := Lib.hid (show sgn (x - y) = -1 from sgn_neg (by omega))
    go_wp2
    go_ret
    exact ⟨by rw [Hv.out]; rfl, rfl⟩
  · by_cases h2 : y < x
    · have Hv := Lib.hid (show sgn (x - y) = 1 from sgn_pos (by omega))
      go_wp2
      go_ret
      exact ⟨by rw [Hv.out]; rfl, rfl⟩
    · have Hv := Lib.hid (show sgn (x - y) = 0 from sgn_zero (by omega))
      go_wp2
      go_ret
      exact ⟨by rw [Hv.out]; rfl, rfl⟩

set_option maxHeartbeats 1000000 in
theorem valid_c (r : Rot) (w : World) :
    Calls Try.prog 89 #[r.v] w (RetB (.bool (rtOk r)) w) := by
  have Bx := Lib.hid (show Below w.heap.size w (w.alloc (.cells #[.int .i64 r.a, .int .i64 r.b, .int .i64 r.c, .int .i64 r.d] 37)) from (Below.refl _ _).alloc (Nat.le_refl _) _)
  unfold Rot.v
  go_enter Try.func89, Try.ntmps89
  go_wp2_with fail
  refine (onChart_c _ _ _).mono ?_
  rintro e w' ⟨rfl, rfl⟩
  cases e1 : onB r.a r.b
  · have Hv := Lib.hid (rt_no1 e1)
    clear e1
    go_wp2
    go_ret
    exact ⟨by rw [Hv.out] <;> rfl, Bx.out⟩
  have E1 := Lib.hid e1
  clear e1
  go_wp2_with fail
  refine (onChart_c _ _ _).mono ?_
  rintro e w' ⟨rfl, rfl⟩
  cases e2 : onB r.c r.d
  · have Hv := Lib.hid (rt_no2 e2)
    clear e2
    go_wp2
    go_ret
    exact ⟨by rw [Hv.out] <;> rfl, Bx.out⟩
  have E2 := Lib.hid e2
  clear e2
  by_cases h1 : r.a = r.c
  · by_cases h2 : r.b = r.d
    · have Hv := Lib.hid (rt_no3 h1 h2)
      have g1 : (r.a != r.c) = false := by simp [h1]
      have g2 : (r.b != r.d) = false := by simp [h2]
      clear h1 h2
      go_wp2
      go_ret
      exact ⟨by rw [Hv.out] <;> rfl, Bx.out⟩
    · have Hv := Lib.hid (rt_yes2 E1.out E2.out h2)
      have g1 : (r.a != r.c) = false := by simp [h1]
      have g2 : (r.b != r.d) = true := by simp [h2]
      clear h1 h2
      go_wp2
      go_ret
      exact ⟨by rw [Hv.out] <;> rfl, Bx.out⟩
  · have Hv := Lib.hid (rt_yes1 E1.out E2.out h1)
    have g1 : (r.a != r.c) = true := by simp [h1]
    clear h1
    go_wp2
    go_ret
    exact ⟨by rw [Hv.out] <;> rfl, Bx.out⟩

set_option maxHeartbeats 1000000 in
theorem side_c (r : Rot) (x y : Int) (w : World) (hr : RtIn r) (hx : 0 ≤ x ∧ x ≤ 20) (hy : 0 ≤ y ∧ y ≤ 20) :
    Calls Try.prog 84 #[r.v, .int .i64 x, .int .i64 y] w (RetB (.int .i64 (sideV r x y)) w) := by
  have Bx := Lib.hid (show Below w.heap.size w (w.alloc (.cells #[.int .i64 r.a, .int .i64 r.b, .int .i64 r.c, .int .i64 r.d] 37)) from (Below.refl _ _).alloc (Nat.le_refl _) _)
  obtain ⟨⟨⟨a1, a2⟩, b1, b2⟩, ⟨c1, c2⟩, d1, d2⟩ := hr
  have p1 := rprod_bd (r.c - r.a) (y - r.b) (by omega) (by omega) (by omega) (by omega)
  have p2 := rprod_bd (r.d - r.b) (x - r.a) (by omega) (by omega) (by omega) (by omega)
  have q1 : IntKind.i64.wrap (r.c - r.a) = r.c - r.a := IntWalk.i64_in _ (by omega)
  have q2 : IntKind.i64.wrap (y - r.b) = y - r.b := IntWalk.i64_in _ (by omega)
  have q3 : IntKind.i64.wrap ((r.c - r.a) * (y - r.b)) = (r.c - r.a) * (y - r.b) := IntWalk.i64_in _ (by omega)
  have q4 : IntKind.i64.wrap (r.d - r.b) = r.d - r.b := IntWalk.i64_in _ (by omega)
  have q5 : IntKind.i64.wrap (x - r.a) = x - r.a := IntWalk.i64_in _ (by omega)
  have q6 : IntKind.i64.wrap ((r.d - r.b) * (x - r.a)) = (r.d - r.b) * (x - r.a) := IntWalk.i64_in _ (by omega)
  have Hv := Lib.hid (show sideV r x y = sgn ((r.c - r.a) * (y - r.b) - (r.d - r.b) * (x - r.a)) from rfl)
  clear p1 p2
  unfold Rot.v
  go_enter Try.func84, Try.ntmps84
  go_wp2_with fail
  refine (compare_c _ _ _).mono ?_
  rintro e w' ⟨rfl, rfl⟩
  go_wp2
  go_ret
  exact ⟨by rw [Hv.out]; rfl, Bx.out⟩

set_option maxHeartbeats 1000000 in
theorem l9Side_c (r : Rot) (x y : Int) (w : World) (hr : RtIn r) (hx : 0 ≤ x ∧ x ≤ 20) (hy : 0 ≤ y ∧ y ≤ 20) :
    Calls Try.prog 87 #[r.v, .int .i64 x, .int .i64 y] w (RetB (.int .i64 (sideV r x y)) w) := by
  have Bx := Lib.hid (show Below w.heap.size w (w.alloc (.cells #[.int .i64 r.a, .int .i64 r.b, .int .i64 r.c, .int .i64 r.d] 37)) from (Below.refl _ _).alloc (Nat.le_refl _) _)
  obtain ⟨⟨⟨a1, a2⟩, b1, b2⟩, ⟨c1, c2⟩, d1, d2⟩ := hr
  have p1 := rprod_bd (r.c - r.a) (y - r.b) (by omega) (by omega) (by omega) (by omega)
  have p2 := rprod_bd (r.d - r.b) (x - r.a) (by omega) (by omega) (by omega) (by omega)
  have q1 : IntKind.i64.wrap (r.c - r.a) = r.c - r.a := IntWalk.i64_in _ (by omega)
  have q2 : IntKind.i64.wrap (y - r.b) = y - r.b := IntWalk.i64_in _ (by omega)
  have q3 : IntKind.i64.wrap ((r.c - r.a) * (y - r.b)) = (r.c - r.a) * (y - r.b) := IntWalk.i64_in _ (by omega)
  have q4 : IntKind.i64.wrap (r.d - r.b) = r.d - r.b := IntWalk.i64_in _ (by omega)
  have q5 : IntKind.i64.wrap (x - r.a) = x - r.a := IntWalk.i64_in _ (by omega)
  have q6 : IntKind.i64.wrap ((r.d - r.b) * (x - r.a)) = (r.d - r.b) * (x - r.a) := IntWalk.i64_in _ (by omega)
  have q7 : IntKind.i64.wrap ((r.c - r.a) * (y - r.b) - (r.d - r.b) * (x - r.a)) = (r.c - r.a) * (y - r.b) - (r.d - r.b) * (x - r.a) := IntWalk.i64_in _ (by omega)
  have Hv := Lib.hid (show sideV r x y = sgn ((r.c - r.a) * (y - r.b) - (r.d - r.b) * (x - r.a)) from rfl)
  clear p1 p2
  unfold Rot.v
  rcases (by omega : 0 < (r.c - r.a) * (y - r.b) - (r.d - r.b) * (x - r.a) ∨ (r.c - r.a) * (y - r.b) - (r.d - r.b) * (x - r.a) < 0 ∨ (r.c - r.a) * (y - r.b) - (r.d - r.b) * (x - r.a) = 0) with h | h | h
  · have Hw := Lib.hid (sgn_pos h)
    go_enter Try.func87, Try.ntmps87
    go_wp2
    go_ret
    exact ⟨by rw [Hv.out, Hw.out]; rfl, Bx.out⟩
  · have Hw := Lib.hid (sgn_neg h)
    have g1 : ¬ 0 < (r.c - r.a) * (y - r.b) - (r.d - r.b) * (x - r.a) := by omega
    go_enter Try.func87, Try.ntmps87
    go_wp2
    go_ret
    exact ⟨by rw [Hv.out, Hw.out]; rfl, Bx.out⟩
  · have Hw := Lib.hid (sgn_zero h)
    have g1 : ¬ 0 < (r.c - r.a) * (y - r.b) - (r.d - r.b) * (x - r.a) := by omega
    have g2 : ¬ (r.c - r.a) * (y - r.b) - (r.d - r.b) * (x - r.a) < 0 := by omega
    clear h
    go_enter Try.func87, Try.ntmps87
    go_wp2
    go_ret
    exact ⟨by rw [Hv.out, Hw.out]; rfl, Bx.out⟩

/-! ### do they cross -/
/-- two routes in boxes of their own, the first two blocks behind w -/
def Two2 (w W : World) (r s : Rot) : Prop := W.cell? ⟨w.heap.size, 0, none⟩ = some (.int .i64 r.a) ∧ W.cell? ⟨w.heap.size, 1, none⟩ = some (.int .i64 r.b) ∧ W.cell? ⟨w.heap.size, 2, none⟩ = some (.int .i64 r.c) ∧ W.cell? ⟨w.heap.size, 3, none⟩ = some (.int .i64 r.d) ∧ W.cell? ⟨w.heap.size + 1, 0, none⟩ = some (.int .i64 s.a) ∧ W.cell? ⟨w.heap.size + 1, 1, none⟩ = some (.int .i64 s.b) ∧ W.cell? ⟨w.heap.size + 1, 2, none⟩ = some (.int .i64 s.c) ∧ W.cell? ⟨w.heap.size + 1, 3, none⟩ = some (.int .i64 s.d) ∧ Hid (w.heap.size + 2 ≤ W.heap.size ∧ Below w.heap.size w W)
theorem heap_new2 (w : World) (o o2 : Obj) : ((w.alloc o).alloc o2).heap[w.heap.size + 1]? = some o2 := by
  have h := heap_alloc_new (w.alloc o) o2
  have e : (w.alloc o).heap.size = w.heap.size + 1 := by simp
  rwa [e] at h
theorem Two2.start (w : World) (r s : Rot) (t : TypeId) : Two2 w (((w.alloc (.cells #[.int .i64 r.a, .int .i64 r.b, .int .i64 r.c, .int .i64 r.d] t)).alloc (.cells #[.int .i64 s.a, .int .i64 s.b, .int .i64 s.c, .int .i64 s.d] t))) r s := by
  have h1 : ((w.alloc (.cells #[.int .i64 r.a, .int .i64 r.b, .int .i64 r.c, .int .i64 r.d] t)).alloc (.cells #[.int .i64 s.a, .int .i64 s.b, .int .i64 s.c, .int .i64 s.d] t)).heap[w.heap.size]? = some (.cells #[.int .i64 r.a, .int .i64 r.b, .int .i64 r.c, .int .i64 r.d] t (0, 0)) := by
    rw [Below.heap_alloc _ _ _ (by simp)]
    exact heap_alloc_new w _
  have h2 : ((w.alloc (.cells #[.int .i64 r.a, .int .i64 r.b, .int .i64 r.c, .int .i64 r.d] t)).alloc (.cells #[.int .i64 s.a, .int .i64 s.b, .int .i64 s.c, .int .i64 s.d] t)).heap[w.heap.size + 1]? = some (.cells #[.int .i64 s.a, .int .i64 s.b, .int .i64 s.c, .int .i64 s.d] t (0, 0)) := heap_new2 w _ _
  exact ⟨cell_of_row _ _ 0 _ _ _ h1, cell_of_row _ _ 1 _ _ _ h1, cell_of_row _ _ 2 _ _ _ h1, cell_of_row _ _ 3 _ _ _ h1, cell_of_row _ _ 0 _ _ _ h2, cell_of_row _ _ 1 _ _ _ h2, cell_of_row _ _ 2 _ _ _ h2, cell_of_row _ _ 3 _ _ _ h2,
    Lib.hid ⟨by simp, ((Below.refl _ _).alloc (Nat.le_refl _) _).alloc (by simp) _⟩⟩
theorem Two2.go {w W W' : World} {r s : Rot} (h : Two2 w W r s) (hb : Below W.heap.size W W') : Two2 w W' r s := by
  obtain ⟨h1, h2, h3, h4, h5, h6, h7, h8, H⟩ := h
  obtain ⟨hs, hB⟩ := H.out
  have k0 : w.heap.size < W.heap.size := by omega
  have k1 : w.heap.size + 1 < W.heap.size := by omega
  exact ⟨(hb.cell (p := ⟨w.heap.size, 0, none⟩) k0).trans h1, (hb.cell (p := ⟨w.heap.size, 1, none⟩) k0).trans h2, (hb.cell (p := ⟨w.heap.size, 2, none⟩) k0).trans h3, (hb.cell (p := ⟨w.heap.size, 3, none⟩) k0).trans h4,
    (hb.cell (p := ⟨w.heap.size + 1, 0, none⟩) k1).trans h5, (hb.cell (p := ⟨w.heap.size + 1, 1, none⟩) k1).trans h6, (hb.cell (p := ⟨w.heap.size + 1, 2, none⟩) k1).trans h7, (hb.cell (p := ⟨w.heap.size + 1, 3, none⟩) k1).trans h8,
    Lib.hid ⟨Nat.le_trans hs hb.size, below_step hB hb⟩⟩
theorem Two2.drew {w W : World} {r s : Rot} (h : Two2 w W r s) : Two2 w W.drew r s := h.go (below_drewN (Below.refl _ _) 1)
theorem Two2.end_ {w W : World} {r s : Rot} (h : Two2 w W r s) : Below w.heap.size w W := h.2.2.2.2.2.2.2.2.out.2

set_option maxRecDepth 100000 in
set_option maxHeartbeats 4000000 in
theorem parts_c (r s : Rot) (w : World) (hr : RtIn r) (hs : RtIn s) :
    Calls Try.prog 104 #[r.v, s.v] w (RetB (.bool (partB r s)) w) := by
  have T := Lib.hid (Two2.start w r s 37)
  have Hgo := Lib.hid (fun (W W' : World) => @Two2.go w W W' r s)
  have HA := Lib.hid (fun (W : World) => side_c r s.a s.b W hr hs.1.1 hs.1.2)
  have HC := Lib.hid (fun (W : World) => side_c r s.c s.d W hr hs.2.1 hs.2.2)
  obtain ⟨x, hx⟩ : ∃ x, sideV r s.a s.b = x := ⟨_, rfl⟩
  obtain ⟨y, hy⟩ : ∃ y, sideV r s.c s.d = y := ⟨_, rfl⟩
  have Hv := Lib.hid (part_val r s hx hy)
  have bx := side_bd r s.a s.b
  have bw' := side_bd r s.c s.d
  rw [hx] at bx HA
  rw [hy] at bw' HC
  have bz := sides_bd x y bx bw'
  have q1 : IntKind.i64.wrap (x * y) = x * y := IntWalk.i64_in _ (by omega)
  clear hx hy hr hs bx bw' bz
  unfold Rot.v at HA HC ⊢
  go_enter Try.func104, Try.ntmps104
  go_wp2
  refine wp_region_held_drew (S := (fun W => Two2 w W r s)) (by kernel_rfl) (T.out.drew) (fun hHeld => ?_)
  refine wpAnyH_take (i := 0) (oi := { dst := some 5, op := _, type := _, pos := _, after := _, guard := _ }) (v := ?va0) rfl (by kernel_rfl) (by kernel_rfl) (by kernel_rfl) (fun _ _ _ h => h) (Or.inl ⟨by kernel_rfl, ?ya0⟩) (by assumption) ?ra0
  case ya0 => intro w hSw; obtain ⟨c1, c2, c3, c4, c5, c6, c7, c8, _⟩ := hSw; (try dsimp only at hSw); go_simp; try with_reducible rfl
  try simp only [Act.put, List.setIfInBounds_toArray, List.set_cons_zero, List.set_cons_succ]
  refine wpAnyH_take (i := 1) (oi := { dst := some 6, op := _, type := _, pos := _, after := _, guard := _ }) (v := ?va1) rfl (by kernel_rfl) (by kernel_rfl) (by kernel_rfl) (fun _ _ _ h => h) (Or.inl ⟨by kernel_rfl, ?ya1⟩) (by assumption) ?ra1
  case ya1 => intro w hSw; obtain ⟨c1, c2, c3, c4, c5, c6, c7, c8, _⟩ := hSw; (try dsimp only at hSw); go_simp; try with_reducible rfl
  try simp only [Act.put, List.setIfInBounds_toArray, List.set_cons_zero, List.set_cons_succ]
  refine wpAnyH_take (i := 2) (oi := { dst := some 7, op := _, type := _, pos := _, after := _, guard := _ }) (v := ?va2) rfl (by kernel_rfl) (by kernel_rfl) (by kernel_rfl) (fun _ _ _ h => h) (Or.inl ⟨by kernel_rfl, ?ya2⟩) (by assumption) ?ra2
  case ya2 => intro w hSw; obtain ⟨c1, c2, c3, c4, c5, c6, c7, c8, _⟩ := hSw; (try dsimp only at hSw); go_simp; try with_reducible rfl
  try simp only [Act.put, List.setIfInBounds_toArray, List.set_cons_zero, List.set_cons_succ]
  refine wpAnyH_take (i := 3) (oi := { dst := some 8, op := _, type := _, pos := _, after := _, guard := _ }) (v := ?va3) rfl (by kernel_rfl) (by kernel_rfl) (by kernel_rfl) (fun _ _ _ h => h) (Or.inl ⟨by kernel_rfl, ?ya3⟩) (by assumption) ?ra3
  case ya3 => intro w hSw; obtain ⟨c1, c2, c3, c4, c5, c6, c7, c8, _⟩ := hSw; (try dsimp only at hSw); go_simp; try with_reducible rfl
  try simp only [Act.put, List.setIfInBounds_toArray, List.set_cons_zero, List.set_cons_succ]
  refine wpAnyH_take (i := 4) (oi := { dst := some 9, op := _, type := _, pos := _, after := _, guard := _ }) (v := ?va4) rfl (by kernel_rfl) (by kernel_rfl) (by kernel_rfl) (fun _ _ _ h => h) (Or.inl ⟨by kernel_rfl, ?ya4⟩) (by assumption) ?ra4
  case ya4 => intro w hSw; obtain ⟨c1, c2, c3, c4, c5, c6, c7, c8, _⟩ := hSw; (try dsimp only at hSw); go_simp; try with_reducible rfl
  try simp only [Act.put, List.setIfInBounds_toArray, List.set_cons_zero, List.set_cons_succ]
  refine wpAnyH_take (i := 6) (oi := { dst := some 11, op := _, type := _, pos := _, after := _, guard := _ }) (v := ?va6) rfl (by kernel_rfl) (by kernel_rfl) (by kernel_rfl) (fun _ _ _ h => h) (Or.inl ⟨by kernel_rfl, ?ya6⟩) (by assumption) ?ra6
  case ya6 => intro w hSw; obtain ⟨c1, c2, c3, c4, c5, c6, c7, c8, _⟩ := hSw; (try dsimp only at hSw); go_simp; try with_reducible rfl
  try simp only [Act.put, List.setIfInBounds_toArray, List.set_cons_zero, List.set_cons_succ]
  refine wpAnyH_take (i := 7) (oi := { dst := some 12, op := _, type := _, pos := _, after := _, guard := _ }) (v := ?va7) rfl (by kernel_rfl) (by kernel_rfl) (by kernel_rfl) (fun _ _ _ h => h) (Or.inl ⟨by kernel_rfl, ?ya7⟩) (by assumption) ?ra7
  case ya7 => intro w hSw; obtain ⟨c1, c2, c3, c4, c5, c6, c7, c8, _⟩ := hSw; (try dsimp only at hSw); go_simp; try with_reducible rfl
  try simp only [Act.put, List.setIfInBounds_toArray, List.set_cons_zero, List.set_cons_succ]
  refine wpAnyH_take (i := 8) (oi := { dst := some 13, op := _, type := _, pos := _, after := _, guard := _ }) (v := ?va8) rfl (by kernel_rfl) (by kernel_rfl) (by kernel_rfl) (fun _ _ _ h => h) (Or.inl ⟨by kernel_rfl, ?ya8⟩) (by assumption) ?ra8
  case ya8 => intro w hSw; obtain ⟨c1, c2, c3, c4, c5, c6, c7, c8, _⟩ := hSw; (try dsimp only at hSw); go_simp; try with_reducible rfl
  try simp only [Act.put, List.setIfInBounds_toArray, List.set_cons_zero, List.set_cons_succ]
  refine wpAnyH_take (i := 9) (oi := { dst := some 14, op := _, type := _, pos := _, after := _, guard := _ }) (v := ?va9) rfl (by kernel_rfl) (by kernel_rfl) (by kernel_rfl) (fun _ _ _ h => h) (Or.inl ⟨by kernel_rfl, ?ya9⟩) (by assumption) ?ra9
  case ya9 => intro w hSw; obtain ⟨c1, c2, c3, c4, c5, c6, c7, c8, _⟩ := hSw; (try dsimp only at hSw); go_simp; try with_reducible rfl
  try simp only [Act.put, List.setIfInBounds_toArray, List.set_cons_zero, List.set_cons_succ]
  refine wpAnyH_take (i := 10) (oi := { dst := some 15, op := _, type := _, pos := _, after := _, guard := _ }) (v := ?va10) rfl (by kernel_rfl) (by kernel_rfl) (by kernel_rfl) (fun _ _ _ h => h) (Or.inl ⟨by kernel_rfl, ?ya10⟩) (by assumption) ?ra10
  case ya10 => intro w hSw; obtain ⟨c1, c2, c3, c4, c5, c6, c7, c8, _⟩ := hSw; (try dsimp only at hSw); go_simp; try with_reducible rfl
  try simp only [Act.put, List.setIfInBounds_toArray, List.set_cons_zero, List.set_cons_succ]
  refine wpAnyH_ready (rs := [5]) (by kernel_rfl) (by simp) ?_
  refine AllReadyH.cons (o := { dst := some 10, op := _, type := _, pos := _, after := _, guard := _ }) rfl (fun K hK => ?_) AllReadyH.nil
  go_simp
  refine (HA.out _).mono ?_
  rintro e w4 ⟨rfl, hb4⟩
  go_wp2_with fail
  refine hK.out _ _ (Hgo.out _ _ hHeld hb4) (fun hHeld2 => ?_)
  clear hK K
  try simp only [Act.put, List.setIfInBounds_toArray, List.set_cons_zero, List.set_cons_succ]
  refine wpAnyH_ready (rs := [11]) (by kernel_rfl) (by simp) ?_
  refine AllReadyH.cons (o := { dst := some 16, op := _, type := _, pos := _, after := _, guard := _ }) rfl (fun K hK => ?_) AllReadyH.nil
  go_simp
  refine (HC.out _).mono ?_
  rintro e w5 ⟨rfl, hb5⟩
  go_wp2_with fail
  refine hK.out _ _ (Hgo.out _ _ hHeld2 hb5) (fun hHeld3 => ?_)
  clear hK K
  try simp only [Act.put, List.setIfInBounds_toArray, List.set_cons_zero, List.set_cons_succ]
  refine wpAnyH_take (i := 12) (oi := { dst := some 17, op := _, type := _, pos := _, after := _, guard := _ }) (v := ?vb12) rfl (by kernel_rfl) (by kernel_rfl) (by kernel_rfl) (fun _ _ _ h => h) (Or.inl ⟨by kernel_rfl, ?yb12⟩) (by assumption) ?rb12
  case yb12 => intro w hSw; obtain ⟨c1, c2, c3, c4, c5, c6, c7, c8, _⟩ := hSw; (try dsimp only at hSw); go_simp; try with_reducible rfl
  try simp only [Act.put, List.setIfInBounds_toArray, List.set_cons_zero, List.set_cons_succ]
  refine wpAnyH_take (i := 13) (oi := { dst := some 18, op := _, type := _, pos := _, after := _, guard := _ }) (v := ?vb13) rfl (by kernel_rfl) (by kernel_rfl) (by kernel_rfl) (fun _ _ _ h => h) (Or.inl ⟨by kernel_rfl, ?yb13⟩) (by assumption) ?rb13
  case yb13 => intro w hSw; obtain ⟨c1, c2, c3, c4, c5, c6, c7, c8, _⟩ := hSw; (try dsimp only at hSw); go_simp; try with_reducible rfl
  try simp only [Act.put, List.setIfInBounds_toArray, List.set_cons_zero, List.set_cons_succ]
  refine wpAnyH_take (i := 14) (oi := { dst := some 4, op := _, type := _, pos := _, after := _, guard := _ }) (v := ?vb14) rfl (by kernel_rfl) (by kernel_rfl) (by kernel_rfl) (fun _ _ _ h => h) (Or.inl ⟨by kernel_rfl, ?yb14⟩) (by assumption) ?rb14
  case yb14 => intro w hSw; obtain ⟨c1, c2, c3, c4, c5, c6, c7, c8, _⟩ := hSw; (try dsimp only at hSw); go_simp; try with_reducible rfl
  try simp only [Act.put, List.setIfInBounds_toArray, List.set_cons_zero, List.set_cons_succ]
  refine wpAnyH_done (by kernel_rfl) ?_ _
  go_wp2
  go_ret
  exact ⟨by rw [Hv.out]; rfl, hHeld3.end_⟩

end Go.Proofs.Ytjboamhjfncgdaa
