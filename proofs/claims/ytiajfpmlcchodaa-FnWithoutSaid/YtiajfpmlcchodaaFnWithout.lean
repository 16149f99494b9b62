/-
  The law FnWithout: for all codes the law answers true. No condition.
-/
import Derived.Test.YtiajfpmlcchodaaFac
import Derived.Test.YtiajfpmlcchodaaRowB
import Derived.Test.YtiajfpmlcchodaaSameL
import Derived.Test.YtiajfpmlcchodaaNdX
import Derived.Test.YtiajfpmlcchodaaTfXn
import Derived.Test.YtiajfpmlcchodaaTfX
import Derived.Test.YtiajfpmlcchodaaChpK
import Derived.Deep.RegionHeld3
import Derived.BigQuiet
namespace Go.Proofs.Ytiajfpmlcchodaa
open Go.ChangeShapes Go.WideShapes Go.ChangeAt Go.RowKit

theorem rem_other {a v m : Int} (h0 : 0 ≤ a) (h1 : a < m) (hv0 : 0 ≤ v) (hv1 : v < m - 1) (hm2 : 2 ≤ m) (hm : m ≤ 5) : ∃ b : Int, (a + 1 + v).tmod m = b ∧ (0 ≤ b ∧ b < m) ∧ a ≠ b := by
  rw [Int.tmod_eq_emod_of_nonneg (by omega)]
  refine ⟨_, rfl, ?_⟩
  rcases (by omega : m = 2 ∨ m = 3 ∨ m = 4 ∨ m = 5) with rfl | rfl | rfl | rfl <;> omega
theorem quo_seven {n : Nat} (hn : n ≤ 1048576) : ∃ u : Int, (n : Int).tdiv 7 = u ∧ 0 ≤ u ∧ u ≤ 1048576 := ⟨_, rfl, by rw [Int.tdiv_eq_ediv_of_nonneg (by omega)]; omega, by rw [Int.tdiv_eq_ediv_of_nonneg (by omega)]; omega⟩

set_option maxRecDepth 100000 in
set_option maxHeartbeats 8000000 in
theorem fnWithout_in (A0 : Option Addr) (n0 c0 : Nat) (A1 : Option Addr) (n1 c1 : Nat) (w : World) (hl0 : n0 ≤ 1048576) (hc0 : n0 ≤ c0) (hb0 : Bytes w.heap.size w A0 n0) (hl1 : n1 ≤ 1048576) (hc1 : n1 ≤ c1) (hb1 : Bytes w.heap.size w A1 n1) :
    Calls Try.prog 4 #[.slice A0 n0 c0, .slice A1 n1 c1] w (RetB (.bool true) w) := by
  have Hb := Lib.hid hb0
  have _ := hc1
  have _ := hb1
  clear hb0 hb1
  have u0 : decide ((1048576 : Int) < (n0 : Int)) = false := by simp; omega
  have u1 : decide ((1048576 : Int) < (n1 : Int)) = false := by simp; omega
  go_enter Try.func4, Try.ntmps4
  go_wp2_with fail
  refine (DrawNetWithout_c A0 n0 c0 _ (by omega) hc0 Hb.out).mono ?_
  rintro e w1 ⟨m, B, d, zs, kk, rfl, hm2, hm5, hzl, hA, hB⟩
  have Ha := Lib.hid hA
  have Bt := Lib.hid hB
  clear hA hB Hb
  have Himpl := Lib.hid (fun W h => implNetWithout_b (m : Int) B d zs kk W h)
  have Hspec := Lib.hid (fun W h => specNetWithout_b (m : Int) B d zs kk W h)
  have HVd := Lib.hid (show woV (m : Int) zs kk = woV (m : Int) zs kk from rfl)
  obtain ⟨V, hV⟩ : ∃ V, woV (m : Int) zs kk = V := ⟨_, rfl⟩
  have HV := Lib.hid hV
  rw [hV] at Himpl Hspec
  clear hV HVd
  dsimp only
  cases hv : woB (m : Int) zs kk
  · rw [hv] at Himpl Hspec
    clear hv
    go_wp2_with fail
    refine (Himpl.out _ Ha.out).mono ?_
    rintro e w2 ⟨A7, c7, rfl, ra2, _, rb2⟩
    have Ra := Lib.hid ra2
    replace Ha := Lib.hid (Ha.out.go rb2)
    replace Bt := Lib.hid (below_step Bt.out rb2)
    clear ra2 rb2
    dsimp only
    go_wp2_with fail
    refine (Hspec.out _ Ha.out).mono ?_
    rintro e w3 ⟨A9, c9, rfl, ra3, _, rb3⟩
    have Rb := Lib.hid ra3
    replace Ra := Lib.hid (Ra.out.go rb3)
    replace Bt := Lib.hid (below_step Bt.out rb3)
    clear ra3 rb3
    dsimp only
    go_wp2_with fail
    refine (sameLines_c _ _ _ _ _ _ _ Ra.out Rb.out).mono ?_
    rintro e w4 ⟨rfl, rb4⟩
    replace Ra := Lib.hid (Ra.out.go rb4)
    replace Rb := Lib.hid (Rb.out.go rb4)
    replace Bt := Lib.hid (below_step Bt.out rb4)
    clear rb4
    rw [decide_eq_true (rfl : V = V)]
    go_wp2_with fail
    refine (sameLines_c _ _ _ _ _ _ _ Ra.out Rb.out).mono ?_
    rintro e w5 ⟨rfl, rb5⟩
    replace Bt := Lib.hid (below_step Bt.out rb5)
    clear rb5
    rw [decide_eq_true (rfl : V = V)]
    go_wp2
    go_ret
    exact ⟨rfl, Bt.out⟩
  have hv2 := hv
  unfold woB at hv2
  rw [Bool.and_eq_true] at hv2
  obtain ⟨hnet, hin⟩ := hv2
  obtain ⟨k, rfl⟩ : ∃ k : Nat, kk = (k : Int) := ⟨kk.toNat, by have := (inB_true.1 hin).1; omega⟩
  have hk : k < zs.length := by have := (inB_true.1 hin).2; omega
  have hVV : dropN zs k = V := by rw [← HV.out, (wo_yes hnet hk).2]
  have hVl : V.length = zs.length - 1 := by rw [← hVV, dropN_len hk]
  rw [hv] at Himpl Hspec
  have Hnet := Lib.hid hnet
  have HVV := Lib.hid hVV
  obtain ⟨v1, v2⟩ : V.length ≤ zs.length - 1 ∧ zs.length - 1 ≤ V.length := by omega
  clear hv hnet hin hVV hVl HV
  go_wp2_with fail
  refine (Himpl.out _ Ha.out).mono ?_
  rintro e w2 ⟨A7, c7, rfl, ra2, _, rb2⟩
  have Ra := Lib.hid ra2
  replace Ha := Lib.hid (Ha.out.go rb2)
  replace Bt := Lib.hid (below_step Bt.out rb2)
  clear ra2 rb2
  dsimp only
  go_wp2_with fail
  refine (Hspec.out _ Ha.out).mono ?_
  rintro e w3 ⟨A9, c9, rfl, ra3, _, rb3⟩
  have Rb := Lib.hid ra3
  replace Ra := Lib.hid (Ra.out.go rb3)
  replace Ha := Lib.hid (Ha.out.go rb3)
  replace Bt := Lib.hid (below_step Bt.out rb3)
  clear ra3 rb3
  dsimp only
  go_wp2_with fail
  refine (sameLines_c _ _ _ _ _ _ _ Ra.out Rb.out).mono ?_
  rintro e w4 ⟨rfl, rb4⟩
  replace Ra := Lib.hid (Ra.out.go rb4)
  replace Ha := Lib.hid (Ha.out.go rb4)
  replace Bt := Lib.hid (below_step Bt.out rb4)
  clear rb4 Rb Himpl Hspec
  rw [decide_eq_true (rfl : V = V)]
  have m1 : ((m : Int) == 0) = false := by rw [beq_eq_false_iff_ne]; omega
  have m2 : ¬ (m : Int) = 0 := by omega
  have m3 : ¬ m = 0 := by omega
  have m4 : ((m : Int) - 1 == 0) = false := by rw [beq_eq_false_iff_ne]; omega
  have m5 : ¬ (m : Int) - 1 = 0 := by omega
  have m6 : ¬ (m : Int) = 1 := by omega
  have m7 : ¬ m = 1 := by omega
  have q0 : IntKind.i64.wrap ((m : Int) - 1) = (m : Int) - 1 := IntWalk.i64_in _ (by omega)
  obtain ⟨a, hra, a0, a1⟩ := rem_pick (a := (n1 : Int)) (m := (m : Int)) (by omega) (by omega)
  obtain ⟨u, hu, uu0, uu1⟩ := quo_seven hl1
  obtain ⟨v, hrv, v0, v3⟩ := rem_pick (a := u) (m := (m : Int) - 1) uu0 (by omega)
  obtain ⟨b, hrb, ⟨b0, b1⟩, hab⟩ := rem_other a0 a1 v0 v3 (by omega) (by omega)
  have q1 : IntKind.i64.wrap a = a := IntWalk.i64_in _ (by omega)
  have q2 : IntKind.i64.wrap (a + 1) = a + 1 := IntWalk.i64_in _ (by omega)
  have q3 : IntKind.i64.wrap u = u := IntWalk.i64_in _ (by omega)
  have q4 : IntKind.i64.wrap v = v := IntWalk.i64_in _ (by omega)
  have q5 : IntKind.i64.wrap (a + 1 + v) = a + 1 + v := IntWalk.i64_in _ (by omega)
  have q6 : IntKind.i64.wrap b = b := IntWalk.i64_in _ (by omega)
  have he := endB_true.2 ⟨Hnet.out, ⟨a0, a1⟩, ⟨b0, b1⟩, hab⟩
  have hd := most_drop he hk
  have hown := most_own (own_end Hnet.out hk) hk
  have hbd1 := most_bd (m : Int) zs (linAt zs k).a (linAt zs k).b
  have hbd2 := most_bd (m : Int) (dropN zs k) (linAt zs k).a (linAt zs k).b
  have hbd3 := most_bd (m : Int) zs a b
  have hbd4 := most_bd (m : Int) (dropN zs k) a b
  rw [HVV.out] at hd hown hbd2 hbd4
  obtain ⟨bn, off, rfl, _, hbn, e0, e1, e2⟩ := Ha.out.rd.at_ hk
  obtain ⟨s, hs⟩ : ∃ s, linAt zs k = s := ⟨_, rfl⟩
  rw [hs] at hd hown hbd1 hbd2 e0 e1 e2
  have Y1 := fun (W : World) h => implTrafficMost_b (m : Int) (some ⟨bn, off, none⟩) d zs a b W h
  have Y2 := fun (W : World) h => implTrafficMost_b (m : Int) A7 c7 V a b W h
  have Y3 := fun (W : World) h => implTrafficMost_b (m : Int) (some ⟨bn, off, none⟩) d zs s.a s.b W h
  have Y4 := fun (W : World) h => implTrafficMost_b (m : Int) A7 c7 V s.a s.b W h
  obtain ⟨x1, hx1⟩ : ∃ x, mostV (m : Int) zs a b = x := ⟨_, rfl⟩
  obtain ⟨x2, hx2⟩ : ∃ x, mostV (m : Int) V a b = x := ⟨_, rfl⟩
  obtain ⟨x3, hx3⟩ : ∃ x, mostV (m : Int) zs s.a s.b = x := ⟨_, rfl⟩
  obtain ⟨x4, hx4⟩ : ∃ x, mostV (m : Int) V s.a s.b = x := ⟨_, rfl⟩
  rw [hx1] at hd hbd3 Y1
  rw [hx2] at hd hbd4 Y2
  rw [hx3] at hown hbd1 Y3
  rw [hx4] at hown hbd2 Y4
  have X1 := Lib.hid Y1
  have X2 := Lib.hid Y2
  have X3 := Lib.hid Y3
  have X4 := Lib.hid Y4
  obtain ⟨d1, d2⟩ := hd
  have g1 : (k : Int) < (zs.length : Int) := by omega
  have r1 : IntKind.i64.wrap (x1 - x2) = x1 - x2 := IntWalk.i64_in _ (by omega)
  have r2 : IntKind.i64.wrap (x3 - x4) = x3 - x4 := IntWalk.i64_in _ (by omega)
  have r3 : IntKind.i64.wrap ((zs.length : Int) - 1) = (zs.length : Int) - 1 := IntWalk.i64_in _ (by omega)
  have r4 : (0 : Int) ≤ x1 - x2 := by omega
  have r5 : x1 - x2 ≤ s.c := by omega
  have r6 : (x3 - x4 == s.c) = true := by rw [beq_iff_eq]; exact hown
  have r7 : ((V.length : Int) == (zs.length : Int) - 1) = true := by rw [beq_iff_eq]; omega
  clear Y1 Y2 Y3 Y4 hx1 hx2 hx3 hx4 hs he hown hbd1 hbd2 hbd3 hbd4 HVV
  go_wp2_with fail
  obtain ⟨W, hW⟩ : ∃ W, w4.alloc (.cells #[.int .i64 s.a, .int .i64 s.b, .int .i64 s.c] 38) = W := ⟨_, rfl⟩
  have hbW : Below w4.heap.size w4 W := by rw [← hW]; exact (Below.refl _ _).alloc (Nat.le_refl _) _
  have hrow : W.heap[w4.heap.size]? = some (.cells #[.int .i64 s.a, .int .i64 s.b, .int .i64 s.c] 38 (0, 0)) := by rw [← hW]; exact heap_alloc_new w4 _
  have hbxW : w4.heap.size < W.heap.size := (Array.getElem?_eq_some_iff.1 hrow).1
  have pkW : W.cell? ⟨w4.heap.size, 0, none⟩ = some (.int .i64 s.a) ∧ W.cell? ⟨w4.heap.size, 1, none⟩ = some (.int .i64 s.b) ∧ W.cell? ⟨w4.heap.size, 2, none⟩ = some (.int .i64 s.c) := ⟨cell_of_row _ _ 0 _ _ _ hrow, cell_of_row _ _ 1 _ _ _ hrow, cell_of_row _ _ 2 _ _ _ hrow⟩
  have HaW := Lib.hid (Ha.out.go hbW)
  have RaW := Lib.hid (Ra.out.go hbW)
  have BtW := Lib.hid (below_step Bt.out hbW)
  obtain ⟨bx, hbxe⟩ : ∃ b, w4.heap.size = b := ⟨_, rfl⟩
  rw [hbxe] at pkW hbxW
  rw [hW, hbxe]
  clear hW hbW hrow hbxe Ha Ra Bt
  refine (X1.out _ HaW.out).mono ?_
  rintro e w11 ⟨rfl, rb11⟩
  have pk11 : w11.cell? ⟨bx, 0, none⟩ = some (.int .i64 s.a) ∧ w11.cell? ⟨bx, 1, none⟩ = some (.int .i64 s.b) ∧ w11.cell? ⟨bx, 2, none⟩ = some (.int .i64 s.c) := ⟨below_cell rb11 hbxW pkW.1, below_cell rb11 hbxW pkW.2.1, below_cell rb11 hbxW pkW.2.2⟩
  have hbx11 : bx < w11.heap.size := Nat.lt_of_lt_of_le hbxW rb11.size
  have Ha11 := Lib.hid (HaW.out.go rb11)
  have Ra11 := Lib.hid (RaW.out.go rb11)
  have Bt11 := Lib.hid (below_step BtW.out rb11)
  clear rb11 pkW hbxW
  go_wp2_with fail
  refine (X2.out _ Ra11.out).mono ?_
  rintro e w12 ⟨rfl, rb12⟩
  have pk12w : w12.cell? ⟨bx, 0, none⟩ = some (.int .i64 s.a) ∧ w12.cell? ⟨bx, 1, none⟩ = some (.int .i64 s.b) ∧ w12.cell? ⟨bx, 2, none⟩ = some (.int .i64 s.c) := ⟨below_cell rb12 hbx11 pk11.1, below_cell rb12 hbx11 pk11.2.1, below_cell rb12 hbx11 pk11.2.2⟩
  have pk12 : w12.drew.cell? ⟨bx, 0, none⟩ = some (.int .i64 s.a) ∧ w12.drew.cell? ⟨bx, 1, none⟩ = some (.int .i64 s.b) ∧ w12.drew.cell? ⟨bx, 2, none⟩ = some (.int .i64 s.c) := pk12w
  have hbx : bx < w12.heap.size := Nat.lt_of_lt_of_le hbx11 rb12.size
  have Ha12 := Lib.hid (Ha11.out.go rb12)
  have Rv12 := Lib.hid (Ra11.out.go rb12)
  have Bt12 := Lib.hid (below_step Bt11.out rb12)
  clear rb12 pk11 hbx11
  go_wp2
  refine wp_region_held_drew (S := (fun w9 => w9.cell? ⟨bx, 0, none⟩ = some (.int .i64 s.a) ∧ w9.cell? ⟨bx, 1, none⟩ = some (.int .i64 s.b) ∧ w9.cell? ⟨bx, 2, none⟩ = some (.int .i64 s.c))) (by kernel_rfl) (pk12) (fun hHeld => ?_)
  refine wpAnyH_take (i := 0) (oi := { dst := some 96, op := _, type := _, pos := _, after := _, guard := _ }) (v := ?v0) rfl (by kernel_rfl) (by kernel_rfl) (by kernel_rfl) (fun _ _ _ h => h) (Or.inl ⟨by kernel_rfl, ?y0⟩) (by assumption) ?r0
  case y0 => intro w hSw; (try dsimp only at hSw); go_simp; try with_reducible rfl
  try simp only [Act.put, List.setIfInBounds_toArray, List.set_cons_zero, List.set_cons_succ]
  refine wpAnyH_take (i := 1) (oi := { dst := some 97, op := _, type := _, pos := _, after := _, guard := _ }) (v := ?v1) rfl (by kernel_rfl) (by kernel_rfl) (by kernel_rfl) (fun _ _ _ h => h) (Or.inl ⟨by kernel_rfl, ?y1⟩) (by assumption) ?r1
  case y1 => intro w hSw; (try dsimp only at hSw); go_simp; try with_reducible rfl
  try simp only [Act.put, List.setIfInBounds_toArray, List.set_cons_zero, List.set_cons_succ]
  refine wpAnyH_take (i := 2) (oi := { dst := some 98, op := _, type := _, pos := _, after := _, guard := _ }) (v := ?v2) rfl (by kernel_rfl) (by kernel_rfl) (by kernel_rfl) (fun _ _ _ h => h) (Or.inl ⟨by kernel_rfl, ?y2⟩) (by assumption) ?r2
  case y2 => intro w hSw; (try dsimp only at hSw); go_simp; try with_reducible rfl
  try simp only [Act.put, List.setIfInBounds_toArray, List.set_cons_zero, List.set_cons_succ]
  refine wpAnyH_take (i := 3) (oi := { dst := some 99, op := _, type := _, pos := _, after := _, guard := _ }) (v := ?v3) rfl (by kernel_rfl) (by kernel_rfl) (by kernel_rfl) (fun _ _ _ h => h) (Or.inl ⟨by kernel_rfl, ?y3⟩) (by assumption) ?r3
  case y3 => intro w hSw; (try dsimp only at hSw); go_simp; try with_reducible rfl
  try simp only [Act.put, List.setIfInBounds_toArray, List.set_cons_zero, List.set_cons_succ]
  refine wpAnyH_take (i := 4) (oi := { dst := some 100, op := _, type := _, pos := _, after := _, guard := _ }) (v := ?v4) rfl (by kernel_rfl) (by kernel_rfl) (by kernel_rfl) (fun _ _ _ h => h) (Or.inl ⟨by kernel_rfl, ?y4⟩) (by assumption) ?r4
  case y4 => intro w hSw; (try dsimp only at hSw); go_simp; try with_reducible rfl
  try simp only [Act.put, List.setIfInBounds_toArray, List.set_cons_zero, List.set_cons_succ]
  refine wpAnyH_take (i := 5) (oi := { dst := some 101, op := _, type := _, pos := _, after := _, guard := _ }) (v := ?v5) rfl (by kernel_rfl) (by kernel_rfl) (by kernel_rfl) (fun _ _ _ h => h) (Or.inl ⟨by kernel_rfl, ?y5⟩) (by assumption) ?r5
  case y5 => intro w hSw; (try dsimp only at hSw); go_simp; try with_reducible rfl
  try simp only [Act.put, List.setIfInBounds_toArray, List.set_cons_zero, List.set_cons_succ]
  refine wpAnyH_take (i := 7) (oi := { dst := some 103, op := _, type := _, pos := _, after := _, guard := _ }) (v := ?v6) rfl (by kernel_rfl) (by kernel_rfl) (by kernel_rfl) (fun _ _ _ h => h) (Or.inl ⟨by kernel_rfl, ?y6⟩) (by assumption) ?r6
  case y6 => intro w hSw; (try dsimp only at hSw); go_simp; try with_reducible rfl
  try simp only [Act.put, List.setIfInBounds_toArray, List.set_cons_zero, List.set_cons_succ]
  refine wpAnyH_take (i := 8) (oi := { dst := some 104, op := _, type := _, pos := _, after := _, guard := _ }) (v := ?v7) rfl (by kernel_rfl) (by kernel_rfl) (by kernel_rfl) (fun _ _ _ h => h) (Or.inl ⟨by kernel_rfl, ?y7⟩) (by assumption) ?r7
  case y7 => intro w hSw; (try dsimp only at hSw); go_simp; try with_reducible rfl
  try simp only [Act.put, List.setIfInBounds_toArray, List.set_cons_zero, List.set_cons_succ]
  refine wpAnyH_take (i := 9) (oi := { dst := some 105, op := _, type := _, pos := _, after := _, guard := _ }) (v := ?v8) rfl (by kernel_rfl) (by kernel_rfl) (by kernel_rfl) (fun _ _ _ h => h) (Or.inl ⟨by kernel_rfl, ?y8⟩) (by assumption) ?r8
  case y8 => intro w hSw; (try dsimp only at hSw); go_simp; try with_reducible rfl
  try simp only [Act.put, List.setIfInBounds_toArray, List.set_cons_zero, List.set_cons_succ]
  refine wpAnyH_take (i := 10) (oi := { dst := some 106, op := _, type := _, pos := _, after := _, guard := _ }) (v := ?v9) rfl (by kernel_rfl) (by kernel_rfl) (by kernel_rfl) (fun _ _ _ h => h) (Or.inl ⟨by kernel_rfl, ?y9⟩) (by assumption) ?r9
  case y9 => intro w hSw; (try dsimp only at hSw); go_simp; try with_reducible rfl
  try simp only [Act.put, List.setIfInBounds_toArray, List.set_cons_zero, List.set_cons_succ]
  refine wpAnyH_take (i := 11) (oi := { dst := some 107, op := _, type := _, pos := _, after := _, guard := _ }) (v := ?v10) rfl (by kernel_rfl) (by kernel_rfl) (by kernel_rfl) (fun _ _ _ h => h) (Or.inl ⟨by kernel_rfl, ?y10⟩) (by assumption) ?r10
  case y10 => intro w hSw; (try dsimp only at hSw); go_simp; try with_reducible rfl
  try simp only [Act.put, List.setIfInBounds_toArray, List.set_cons_zero, List.set_cons_succ]
  refine wpAnyH_take (i := 12) (oi := { dst := some 108, op := _, type := _, pos := _, after := _, guard := _ }) (v := ?v11) rfl (by kernel_rfl) (by kernel_rfl) (by kernel_rfl) (fun _ _ _ h => h) (Or.inl ⟨by kernel_rfl, ?y11⟩) (by assumption) ?r11
  case y11 => intro w hSw; (try dsimp only at hSw); go_simp; try with_reducible rfl
  try simp only [Act.put, List.setIfInBounds_toArray, List.set_cons_zero, List.set_cons_succ]
  refine wpAnyH_ready (rs := [6]) (by kernel_rfl) (by simp) ?_
  refine AllReadyH.cons (o := { dst := some 102, op := _, type := _, pos := _, after := _, guard := _ }) rfl (fun K hK => ?_) AllReadyH.nil
  go_simp
  refine (X3.out _ (Ha12.out.go (below_drewN (Below.refl _ _) 1))).mono ?_
  rintro e w13 ⟨rfl, rb13⟩
  have rbx : Below w12.heap.size w12 w13 := (below_drewN (Below.refl _ _) 1 : Below w12.heap.size w12 w12.drew).trans rb13
  have pk13 : w13.cell? ⟨bx, 0, none⟩ = some (.int .i64 s.a) ∧ w13.cell? ⟨bx, 1, none⟩ = some (.int .i64 s.b) ∧ w13.cell? ⟨bx, 2, none⟩ = some (.int .i64 s.c) := ⟨below_cell rbx hbx pk12w.1, below_cell rbx hbx pk12w.2.1, below_cell rbx hbx pk12w.2.2⟩
  have Rv13 := Lib.hid (Rv12.out.go rbx)
  have Bt13 := Lib.hid (below_step Bt12.out rbx)
  have hsz13 := rbx.size
  clear rb13 rbx
  go_wp2_with fail
  refine hK.out _ _ (pk13) (fun hHeld2 => ?_)
  clear hK K
  try simp only [Act.put, List.setIfInBounds_toArray, List.set_cons_zero, List.set_cons_succ]
  refine wpAnyH_ready (rs := [13]) (by kernel_rfl) (by simp) ?_
  refine AllReadyH.cons (o := { dst := some 109, op := _, type := _, pos := _, after := _, guard := _ }) rfl (fun K hK => ?_) AllReadyH.nil
  go_simp
  refine (X4.out _ Rv13.out).mono ?_
  rintro e w14 ⟨rfl, rb14⟩
  have pk14 : w14.cell? ⟨bx, 0, none⟩ = some (.int .i64 s.a) ∧ w14.cell? ⟨bx, 1, none⟩ = some (.int .i64 s.b) ∧ w14.cell? ⟨bx, 2, none⟩ = some (.int .i64 s.c) := ⟨below_cell rb14 (Nat.lt_of_lt_of_le hbx hsz13) pk13.1, below_cell rb14 (Nat.lt_of_lt_of_le hbx hsz13) pk13.2.1, below_cell rb14 (Nat.lt_of_lt_of_le hbx hsz13) pk13.2.2⟩
  have Bt14 := Lib.hid (below_step Bt13.out rb14)
  clear rb14
  go_wp2_with fail
  refine hK.out _ _ (pk14) (fun hHeld2 => ?_)
  clear hK K
  try simp only [Act.put, List.setIfInBounds_toArray, List.set_cons_zero, List.set_cons_succ]
  refine wpAnyH_take (i := 14) (oi := { dst := some 110, op := _, type := _, pos := _, after := _, guard := _ }) (v := ?v14) rfl (by kernel_rfl) (by kernel_rfl) (by kernel_rfl) (fun _ _ _ h => h) (Or.inl ⟨by kernel_rfl, ?y14⟩) (by assumption) ?r14
  case y14 => intro w hSw; (try dsimp only at hSw); go_simp; try with_reducible rfl
  try simp only [Act.put, List.setIfInBounds_toArray, List.set_cons_zero, List.set_cons_succ]
  refine wpAnyH_take (i := 15) (oi := { dst := some 16, op := _, type := _, pos := _, after := _, guard := _ }) (v := ?v15) rfl (by kernel_rfl) (by kernel_rfl) (by kernel_rfl) (fun _ _ _ h => h) (Or.inl ⟨by kernel_rfl, ?y15⟩) (by assumption) ?r15
  case y15 => intro w hSw; (try dsimp only at hSw); go_simp; try with_reducible rfl
  try simp only [Act.put, List.setIfInBounds_toArray, List.set_cons_zero, List.set_cons_succ]
  refine wpAnyH_done (by kernel_rfl) ?_ _
  go_wp2
  go_ret
  exact ⟨rfl, Bt14.out⟩

theorem fnWithout_walk (A0 : Option Addr) (n0 c0 : Nat) (A1 : Option Addr) (n1 c1 : Nat) (w : World) (hb0 : Byt0 w A0 n0 c0) (hb1 : Byt0 w A1 n1 c1) :
    Calls Try.prog 4 #[.slice A0 n0 c0, .slice A1 n1 c1] w (RetB (.bool true) w) := by
  by_cases hl0 : 1048576 < n0
  · clear hb0; clear hb1
    have u0 : decide ((1048576 : Int) < (n0 : Int)) = true := by simp; omega
    go_enter Try.func4, Try.ntmps4
    go_wp2
    go_ret
    exact ⟨rfl, Below.refl _ _⟩
  by_cases hl1 : 1048576 < n1
  · clear hb0; clear hb1
    have u0 : decide ((1048576 : Int) < (n0 : Int)) = false := by simp; omega
    have u1 : decide ((1048576 : Int) < (n1 : Int)) = true := by simp; omega
    go_enter Try.func4, Try.ntmps4
    go_wp2
    go_ret
    exact ⟨rfl, Below.refl _ _⟩
  exact fnWithout_in A0 n0 c0 A1 n1 c1 w (by omega) hb0.1 hb0.2.2 (by omega) hb1.1 hb1.2.2

set_option maxRecDepth 100000 in
theorem fnWithout_lifted (os : Os) (started : os.Started) (H : Type) (enc : TypeId × Value → H) :
    ReturnsInHanded {} Try.checked os 4 .any (Rows.fnWithoutSpec.pre6 enc Try.prog Try.f4 Rows.fnWithoutRow.domain false) (Rows.fnWithoutSpec.post enc Try.prog Try.f4 false true false false) := by
  refine returnsInHanded_of_change (C := Try.checked) row_own started (by kernel_rfl) Try.func4
    (ChangeSpec.witness6 (enc := enc) (C := Try.checked) false ⟨#[], #[.slice none 0 0, .slice none 0 0], []⟩ 8 (by kernel_rfl) (by kernel_rfl) (by kernel_rfl) (by kernel_rfl)) ?_
  intro W base args ds gs before hval0 hW hcnd _
  have hval : ∀ (j : Nat) t v, Try.f4.params[j]? = some t → args[j]? = some v → Value.okWide Try.prog W .any base t v := hval0
  have hW' := hW
  obtain ⟨p, q, hA0, hV, rfl, _, _⟩ := hW
  have hA : DataW.TrodAll enc Try.prog W 0 (fun _ => true) true Try.f4.params.toList args.toList ds p := hA0
  rw [Try.params4] at hA hval
  obtain ⟨v0, vs0, d0, ds0, p0, q0, hargs, rfl, rfl, h0, r0⟩ := trodAll_cons hA
  obtain ⟨v1, vs1, d1, ds1, p1, q1, rfl, rfl, rfl, h1, r1⟩ := trodAll_cons r0
  obtain ⟨rfl, rfl, rfl⟩ := trodAll_nil r1
  obtain rfl : args = #[v0, v1] := by cases args; simp_all
  obtain ⟨rfl, rfl⟩ := trodVars_none hV
  have hlt0 : ∀ x ∈ p0, x.block < W.heap.size := fun x hx => by exact hW'.lt x (by simp [hx])
  obtain ⟨A0, n0, c0, rfl, hb0⟩ := open_bytes (hval 0 22 v0 rfl rfl) h0 hlt0
  have hlt1 : ∀ x ∈ p1, x.block < W.heap.size := fun x hx => by exact hW'.lt x (by simp [hx])
  obtain ⟨A1, n1, c1, rfl, hb1⟩ := open_bytes (hval 1 22 v1 rfl rfl) h1 hlt1
  clear hA0 hval0
  refine (fnWithout_walk A0 n0 c0 A1 n1 c1 W hb0 hb1).mono fun e W' ⟨he, hb⟩ => ?_
  subst he
  exact ⟨_, rfl, _, _, _, [], _, [], hW', (trodAll_cons_mk (shut_bool Try.underlying4 _) trodAll_mk0), (trodAll_cons_mk (read_again_bytes h0 hlt0 hb) (trodAll_cons_mk (read_again_bytes h1 hlt1 hb) trodAll_mk0)), rfl, hb.frame _, fun h => by cases h⟩

set_option maxRecDepth 100000 in
theorem fnWithout_closed : joinedFacts Try.prog 4 Try.f4 Rows.fnWithoutSpec Rows.fnWithoutRow = true := by
  unfold joinedFacts
  repeat' (with_reducible apply facAnd)
  all_goals first | (with_reducible exact facEnter) | (with_reducible exact facLaid) | (with_reducible exact facMaps) | (with_reducible exact facStops) | (with_reducible exact facKnobs) | (with_reducible exact facHeard) | (rw [facLifts]; as_aux_lemma => kernel_rfl) | (rw [facMake]; as_aux_lemma => kernel_rfl) | (as_aux_lemma => kernel_rfl)

/-- THE STATEMENT -/
theorem fnWithout_holds : Rows.FnWithoutSaid :=
  OpenClaim.holds_of_wide 4 Try.f4 rfl rfl rfl rfl rfl rfl rfl ⟨rfl, rfl, rfl, rfl, rfl⟩ rfl rfl rfl rfl rfl (by kernel_rfl) Try.func4 fnWithout_closed
    (of_decide_eq_true (by kernel_rfl)) (by unfold Func.isWrapper; first | (rw [if_pos (by decide +kernel)]; kernel_rfl) | (rw [if_neg (by decide +kernel)]; exact ⟨rfl, rfl⟩))
    (fun os started H enc _ => fnWithout_lifted os started H enc)
#print axioms fnWithout_holds
end Go.Proofs.Ytiajfpmlcchodaa
