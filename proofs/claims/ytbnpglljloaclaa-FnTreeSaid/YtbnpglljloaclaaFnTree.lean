/-
  The law FnTree: for all codes the law answers true. No condition.
-/
import Derived.Test.YtbnpglljloaclaaFac
import Derived.Test.YtbnpglljloaclaaRowB
import Derived.Test.YtbnpglljloaclaaSame
import Derived.Test.YtbnpglljloaclaaNdC
import Derived.Test.YtbnpglljloaclaaTfXm
import Derived.Test.YtbnpglljloaclaaTfH
import Derived.Deep.RegionHeld3
import Derived.BigQuiet
namespace Go.Proofs.Ytbnpglljloaclaa
open Go.ChangeShapes Go.WideShapes Go.ChangeAt Go.RowKit

theorem tree_more (n : Int) (N : List Lin) (m k : Nat) : ∀ j, ∃ R, trTo n N m (k + j) = trTo n N m k ++ R
  | 0 => ⟨[], by simp⟩
  | j + 1 => by
    obtain ⟨R, h⟩ := tree_more n N m k j
    exact ⟨R ++ trIn n N (k + j) m, by rw [show k + (j + 1) = (k + j) + 1 by omega, trTo, h, List.append_assoc]⟩
theorem tree_at {n : Int} {N : List Lin} {m a b : Nat} (h1 : a + 1 ≤ b) (h2 : b < m) : (trTo n N m a).length + (b - (a + 1)) < (trTo n N m m).length ∧ (trTo n N m m)[(trTo n N m a).length + (b - (a + 1))]?.getD 0 = mostV n N (a : Int) (b : Int) := by
  obtain ⟨R, hR⟩ := tree_more n N m (a + 1) (m - (a + 1))
  rw [show a + 1 + (m - (a + 1)) = m by omega, trTo] at hR
  have hl := trIn_len (n := n) (N := N) a m
  have hlt : b - (a + 1) < (trIn n N a m).length := by omega
  constructor
  · rw [hR, List.length_append, List.length_append]; omega
  · rw [hR, List.append_assoc, List.getElem?_append_right (by omega), Nat.add_sub_cancel_left, List.getElem?_append_left hlt]
    simp only [trIn, List.getElem?_map]
    rw [List.getElem?_range (by omega)]
    simp only [Option.map_some, Option.getD_some]
    rw [show a + 1 + (b - (a + 1)) = b by omega]
theorem tree_row (n : Int) (N : List Lin) (m k : Nat) : (trTo n N m k).length + (m - (k + 1)) = (trTo n N m (k + 1)).length := by rw [trTo, List.length_append, trIn_len]
theorem rem_three {a m : Int} (h0 : 0 ≤ a) (h1 : a < m) (hm : 3 ≤ m) (hm5 : m ≤ 5) : ∃ b c : Int, (a + 1).tmod m = b ∧ (a + 2).tmod m = c ∧ (0 ≤ b ∧ b < m) ∧ (0 ≤ c ∧ c < m) ∧ a ≠ b ∧ b ≠ c ∧ a ≠ c := by
  rw [Int.tmod_eq_emod_of_nonneg (by omega), Int.tmod_eq_emod_of_nonneg (by omega)]
  refine ⟨_, _, rfl, rfl, ?_⟩
  rcases (by omega : m = 3 ∨ m = 4 ∨ m = 5) with rfl | rfl | rfl <;> omega

set_option maxRecDepth 100000 in
set_option maxHeartbeats 8000000 in
theorem fnTree_in (A0 : Option Addr) (n0 c0 : Nat) (A1 : Option Addr) (n1 c1 : Nat) (w : World) (hl0 : n0 ≤ 1048576) (hc0 : n0 ≤ c0) (hb0 : Bytes w.heap.size w A0 n0) (hl1 : n1 ≤ 1048576) (hc1 : n1 ≤ c1) (hb1 : Bytes w.heap.size w A1 n1) :
    Calls Try.prog 5 #[.slice A0 n0 c0, .slice A1 n1 c1] w (RetB (.bool true) w) := by
  have Hb := Lib.hid hb0
  have _ := hc1
  have _ := hb1
  clear hb0 hb1
  have u0 : decide ((1048576 : Int) < (n0 : Int)) = false := by simp; omega
  have u1 : decide ((1048576 : Int) < (n1 : Int)) = false := by simp; omega
  go_enter Try.func5, Try.ntmps5
  go_wp2_with fail
  refine (DrawNetTree_c A0 n0 c0 _ (by omega) hc0 Hb.out).mono ?_
  rintro e w1 ⟨m, B, d, zs, rfl, hm2, hm5, hzl, hA, hB⟩
  have Ha := Lib.hid hA
  have Bt := Lib.hid hB
  clear hA hB Hb
  have Himpl := Lib.hid (fun W h => implNetTree_b (m : Int) B d zs W h)
  have Hspec := Lib.hid (fun W h => specNetTree_b (m : Int) B d zs W h)
  have hyes := fun h => tree_yes (n := (m : Int)) (N := zs) h
  rw [Int.toNat_natCast] at hyes
  have Hyes := Lib.hid hyes
  obtain ⟨T, hT⟩ : ∃ T, treeV (m : Int) zs = T := ⟨_, rfl⟩
  rw [hT] at Himpl Hspec Hyes
  clear hT hyes
  dsimp only
  cases hv : netB (m : Int) zs
  · rw [hv] at Himpl Hspec
    clear hv
    go_wp2_with fail
    refine (Himpl.out _ Ha.out).mono ?_
    rintro e w2 ⟨A7, c7, rfl, ra2, _, rb2⟩
    have Ra := Lib.hid ra2
    replace Ha := Lib.hid (Ha.out.go rb2)
    replace Bt := Lib.hid (below_step Bt.out rb2)
    clear ra2 rb2
    dsimp only
    go_wp2_with fail
    refine (Hspec.out _ Ha.out).mono ?_
    rintro e w3 ⟨A9, c9, rfl, ra3, _, rb3⟩
    have Rb := Lib.hid ra3
    replace Ra := Lib.hid (Ra.out.go rb3)
    replace Bt := Lib.hid (below_step Bt.out rb3)
    clear ra3 rb3
    dsimp only
    go_wp2_with fail
    refine (sameInts_c _ _ _ _ _ _ _ Ra.out Rb.out).mono ?_
    rintro e w4 ⟨rfl, q4, rfl⟩
    rw [decide_eq_true (rfl : T = T)]
    go_wp2_with fail
    refine (sameInts_c _ _ _ _ _ _ _ (Ra.out.go (below_drewN (Below.refl _ _) q4)) (Rb.out.go (below_drewN (Below.refl _ _) q4))).mono ?_
    rintro e w5 ⟨rfl, q5, rfl⟩
    rw [decide_eq_true (rfl : T = T)]
    go_wp2
    go_ret
    exact ⟨rfl, below_drewN Bt.out (q4 + q5)⟩
  rw [hv] at Himpl Hspec
  have HT := Lib.hid (Hyes.out hv)
  have Hv := Lib.hid hv
  clear hv Hyes
  go_wp2_with fail
  refine (Himpl.out _ Ha.out).mono ?_
  rintro e w2 ⟨A7, c7, rfl, ra2, _, rb2⟩
  have Ra := Lib.hid ra2
  replace Ha := Lib.hid (Ha.out.go rb2)
  replace Bt := Lib.hid (below_step Bt.out rb2)
  clear ra2 rb2
  dsimp only
  go_wp2_with fail
  refine (Hspec.out _ Ha.out).mono ?_
  rintro e w3 ⟨A9, c9, rfl, ra3, _, rb3⟩
  have Rb := Lib.hid ra3
  replace Ra := Lib.hid (Ra.out.go rb3)
  replace Ha := Lib.hid (Ha.out.go rb3)
  replace Bt := Lib.hid (below_step Bt.out rb3)
  clear ra3 rb3
  dsimp only
  go_wp2_with fail
  refine (sameInts_c _ _ _ _ _ _ _ Ra.out Rb.out).mono ?_
  rintro e w4 ⟨rfl, q4, hq4⟩
  have hb4 : Below w3.heap.size w3 w4 := by rw [hq4]; exact below_drewN (Below.refl _ _) q4
  replace Ra := Lib.hid (Ra.out.go hb4)
  replace Ha := Lib.hid (Ha.out.go hb4)
  replace Bt := Lib.hid (below_step Bt.out hb4)
  rw [decide_eq_true (rfl : T = T)]
  have m1 : ((m : Int) == 0) = false := by rw [beq_eq_false_iff_ne]; omega
  have m2 : ¬ (m : Int) = 0 := by omega
  have m3 : ¬ m = 0 := by omega
  have HtL := Lib.hid (show T.length = (trTo (m : Int) zs m m).length by rw [HT.out])
  have Hlen := Lib.hid (fun k => trTo_len (n := (m : Int)) (N := zs) (m := m) (by omega) k)
  clear hb4 hq4 Rb Himpl Hspec
  go_wp2
  go_loopw [11, 12] (fun i a wr => ∃ k : Nat, k ≤ m ∧ a = .int .i64 k ∧ i = .int .i64 ((trTo (m : Int) zs m k).length : Nat) ∧ Below w4.heap.size w4 wr) (fun _ a _ => m - (intOf a).toNat)
  case atStart => exact ⟨0, Nat.zero_le _, rfl, rfl, Below.refl _ _⟩
  case round =>
    obtain ⟨k, hk, rfl, rfl, hbr⟩ := hrel
    have Hbr := Lib.hid hbr
    clear hbr
    by_cases hlt : k < m
    · have g1 : (k : Int) < (m : Int) := by omega
      have q1 : IntKind.i64.wrap ((k : Int) + 1) = (k : Int) + 1 := IntWalk.i64_in _ (by omega)
      have hbl := Hlen.out k
      have Hrow := Lib.hid (tree_row (m : Int) zs m k)
      have Hat := Lib.hid (fun b h1 h2 => tree_at (n := (m : Int)) (N := zs) (m := m) (a := k) (b := b) h1 h2)
      obtain ⟨P, hP⟩ : ∃ P, (trTo (m : Int) zs m k).length = P := ⟨_, rfl⟩
      rw [hP] at hbl Hrow Hat ⊢
      clear hP
      go_wp2
      go_loopw [11, 13] (fun i a wr => ∃ b : Nat, k + 1 ≤ b ∧ b ≤ m ∧ a = .int .i64 b ∧ i = .int .i64 ((P + (b - (k + 1)) : Nat)) ∧ Below w4.heap.size w4 wr) (fun _ a _ => m - (intOf a).toNat)
      case atStart => exact ⟨k + 1, Nat.le_refl _, by omega, by go_num, by simp, Hbr.out⟩
      case round =>
        obtain ⟨b, hb1, hb2, rfl, rfl, hbr⟩ := hrel
        have Hbr := Lib.hid hbr
        clear hbr
        by_cases hlt2 : b < m
        · have g2 : (b : Int) < (m : Int) := by omega
          obtain ⟨hx1, hx2⟩ := Hat.out b hb1 hlt2
          rw [← HtL.out] at hx1
          rw [← HT.out] at hx2
          have Hm := Lib.hid (fun (W : World) (h : Below w4.heap.size w4 W) => implTrafficMost_b (m : Int) B d zs (k : Int) (b : Int) W (Ha.out.go h))
          obtain ⟨x, hx⟩ : ∃ x, P + (b - (k + 1)) = x := ⟨_, rfl⟩
          have hxs : P + (b + 1 - (k + 1)) = x + 1 := by omega
          rw [hx] at hx1 hx2 ⊢
          obtain ⟨b0, off0, rfl, _, hb0, hc0⟩ := Ra.out.rd.at_ hx1
          rw [hx2] at hc0
          obtain ⟨y, hy⟩ : ∃ y, mostV (m : Int) zs (k : Int) (b : Int) = y := ⟨_, rfl⟩
          rw [hy] at hc0 Hm
          have Hxs := Lib.hid hxs
          have nv : (y != y) = false := by simp
          have g3 : (x : Int) < (T.length : Int) := by omega
          have hx36 : x ≤ 100 := by omega
          have pk1 : wr.drew.cell? ⟨b0, off0 + x, none⟩ = some (.int .i64 y) := below_cell (below_drewN Hbr.out 1) hb0 hc0
          clear hxs hx hx2 hy
          go_wp2
          · skip
            refine wp_region_held_drew (S := (fun w9 => w9.cell? ⟨b0, off0 + x, none⟩ = some (.int .i64 y))) (by kernel_rfl) (pk1) (fun hHeld => ?_)
            refine wpAnyH_take (i := 0) (oi := { dst := some 78, op := _, type := _, pos := _, after := _, guard := _ }) (v := ?v0) rfl (by kernel_rfl) (by kernel_rfl) (by kernel_rfl) (fun _ _ _ h => h) (Or.inl ⟨by kernel_rfl, ?y0⟩) (by assumption) ?r0
            case y0 => intro w hSw; (try dsimp only at hSw); go_simp; try with_reducible rfl
            try simp only [Act.put, List.setIfInBounds_toArray, List.set_cons_zero, List.set_cons_succ]
            refine wpAnyH_take (i := 1) (oi := { dst := some 79, op := _, type := _, pos := _, after := _, guard := _ }) (v := ?v1) rfl (by kernel_rfl) (by kernel_rfl) (by kernel_rfl) (fun _ _ _ h => h) (Or.inl ⟨by kernel_rfl, ?y1⟩) (by assumption) ?r1
            case y1 => intro w hSw; (try dsimp only at hSw); go_simp; try with_reducible rfl
            try simp only [Act.put, List.setIfInBounds_toArray, List.set_cons_zero, List.set_cons_succ]
            refine wpAnyH_take (i := 2) (oi := { dst := some 80, op := _, type := _, pos := _, after := _, guard := _ }) (v := ?v2) rfl (by kernel_rfl) (by kernel_rfl) (by kernel_rfl) (fun _ _ _ h => h) (Or.inl ⟨by kernel_rfl, ?y2⟩) (by assumption) ?r2
            case y2 => intro w hSw; (try dsimp only at hSw); go_simp; try with_reducible rfl
            try simp only [Act.put, List.setIfInBounds_toArray, List.set_cons_zero, List.set_cons_succ]
            refine wpAnyH_take (i := 3) (oi := { dst := some 81, op := _, type := _, pos := _, after := _, guard := _ }) (v := ?v3) rfl (by kernel_rfl) (by kernel_rfl) (by kernel_rfl) (fun _ _ _ h => h) (Or.inl ⟨by kernel_rfl, ?y3⟩) (by assumption) ?r3
            case y3 => intro w hSw; (try dsimp only at hSw); go_simp; try with_reducible rfl
            try simp only [Act.put, List.setIfInBounds_toArray, List.set_cons_zero, List.set_cons_succ]
            refine wpAnyH_take (i := 4) (oi := { dst := some 82, op := _, type := _, pos := _, after := _, guard := _ }) (v := ?v4) rfl (by kernel_rfl) (by kernel_rfl) (by kernel_rfl) (fun _ _ _ h => h) (Or.inl ⟨by kernel_rfl, ?y4⟩) (by assumption) ?r4
            case y4 => intro w hSw; (try dsimp only at hSw); go_simp; try with_reducible rfl
            try simp only [Act.put, List.setIfInBounds_toArray, List.set_cons_zero, List.set_cons_succ]
            refine wpAnyH_take (i := 5) (oi := { dst := some 83, op := _, type := _, pos := _, after := _, guard := _ }) (v := ?v5) rfl (by kernel_rfl) (by kernel_rfl) (by kernel_rfl) (fun _ _ _ h => h) (Or.inl ⟨by kernel_rfl, ?y5⟩) (by assumption) ?r5
            case y5 => intro w hSw; (try dsimp only at hSw); go_simp; try with_reducible rfl
            try simp only [Act.put, List.setIfInBounds_toArray, List.set_cons_zero, List.set_cons_succ]
            refine wpAnyH_take (i := 6) (oi := { dst := some 84, op := _, type := _, pos := _, after := _, guard := _ }) (v := ?v6) rfl (by kernel_rfl) (by kernel_rfl) (by kernel_rfl) (fun _ _ _ h => h) (Or.inl ⟨by kernel_rfl, ?y6⟩) (by assumption) ?r6
            case y6 => intro w hSw; (try dsimp only at hSw); go_simp; try with_reducible rfl
            try simp only [Act.put, List.setIfInBounds_toArray, List.set_cons_zero, List.set_cons_succ]
            refine wpAnyH_take (i := 7) (oi := { dst := some 85, op := _, type := _, pos := _, after := _, guard := _ }) (v := ?v7) rfl (by kernel_rfl) (by kernel_rfl) (by kernel_rfl) (fun _ _ _ h => h) (Or.inl ⟨by kernel_rfl, ?y7⟩) (by assumption) ?r7
            case y7 => intro w hSw; (try dsimp only at hSw); go_simp; try with_reducible rfl
            try simp only [Act.put, List.setIfInBounds_toArray, List.set_cons_zero, List.set_cons_succ]
            refine wpAnyH_ready (rs := [8]) (by kernel_rfl) (by simp) ?_
            refine AllReadyH.cons (o := { dst := some 86, op := _, type := _, pos := _, after := _, guard := _ }) rfl (fun K hK => ?_) AllReadyH.nil
            go_simp
            refine (Hm.out wr.drew (below_drewN Hbr.out 1)).mono ?_
            rintro e w9 ⟨rfl, rb9⟩
            have pk9 : w9.cell? ⟨b0, off0 + x, none⟩ = some (.int .i64 y) := below_cell (below_step (below_drewN Hbr.out 1) rb9) hb0 hc0
            have Hb9 := Lib.hid (below_step (below_drewN Hbr.out 1) rb9)
            clear rb9
            go_wp2_with fail
            refine hK.out _ _ (pk9) (fun hHeld2 => ?_)
            clear hK K
            try simp only [Act.put, List.setIfInBounds_toArray, List.set_cons_zero, List.set_cons_succ]
            refine wpAnyH_take (i := 9) (oi := { dst := some 87, op := _, type := _, pos := _, after := _, guard := _ }) (v := ?v9) rfl (by kernel_rfl) (by kernel_rfl) (by kernel_rfl) (fun _ _ _ h => h) (Or.inl ⟨by kernel_rfl, ?y9⟩) (by assumption) ?r9
            case y9 => intro w hSw; (try dsimp only at hSw); go_simp; try with_reducible rfl
            try simp only [Act.put, List.setIfInBounds_toArray, List.set_cons_zero, List.set_cons_succ]
            refine wpAnyH_done (by kernel_rfl) ?_ _
            go_wp2
            go_roundw
            case rel => exact ⟨b + 1, by omega, by omega, by go_num, by rw [Hxs.out]; go_num, Hb9.out⟩
            case measure => simp [intOf]; omega
        · obtain rfl : b = m := by omega
          go_wp2
          go_roundw
          case rel => exact ⟨k + 1, by omega, by go_num, by rw [← Hrow.out], Hbr.out⟩
          case measure => simp [intOf]; omega
    · obtain rfl : k = m := by omega
      have Hb0 := Lib.hid (below_step Bt.out Hbr.out)
      have Ha0 := Lib.hid (Ha.out.go Hbr.out)
      have hel := HtL.out.symm
      obtain ⟨P, hP⟩ : ∃ P, (trTo (k : Int) zs k k).length = P := ⟨_, rfl⟩
      rw [hP] at hel ⊢
      have np : ((T.length : Int) == (P : Int)) = true := by rw [beq_iff_eq]; omega
      have np2 : ((T.length : Int) == (T.length : Int)) = true := by simp
      subst hel
      clear hP
      obtain ⟨a, hra, a0, a1⟩ := rem_pick (a := (n1 : Int)) (m := (k : Int)) (by omega) (by omega)
      have q1 : IntKind.i64.wrap a = a := IntWalk.i64_in _ (by omega)
      have q2 : IntKind.i64.wrap (a + 1) = a + 1 := IntWalk.i64_in _ (by omega)
      have q3 : IntKind.i64.wrap (a + 2) = a + 2 := IntWalk.i64_in _ (by omega)
      by_cases h3 : k < 3
      · have g3 : (k : Int) < 3 := by omega
        obtain ⟨b, hrb, b0, b1⟩ := rem_pick (a := a + 1) (m := (k : Int)) (by omega) (by omega)
        obtain ⟨c, hrc, c0, c1⟩ := rem_pick (a := a + 2) (m := (k : Int)) (by omega) (by omega)
        have q4 : IntKind.i64.wrap b = b := IntWalk.i64_in _ (by omega)
        have q5 : IntKind.i64.wrap c = c := IntWalk.i64_in _ (by omega)
        go_wp2
        go_ret
        exact ⟨rfl, Hb0.out⟩
      · have g3 : ¬ (k : Int) < 3 := by omega
        obtain ⟨b, c, hrb, hrc, ⟨b0, b1⟩, ⟨c0, c1⟩, nab, nbc, nac⟩ := rem_three a0 a1 (by omega) (by omega)
        have q4 : IntKind.i64.wrap b = b := IntWalk.i64_in _ (by omega)
        have q5 : IntKind.i64.wrap c = c := IntWalk.i64_in _ (by omega)
        have e1 := endB_true.2 ⟨Hv.out, ⟨a0, a1⟩, ⟨b0, b1⟩, nab⟩
        have e2 := endB_true.2 ⟨Hv.out, ⟨a0, a1⟩, ⟨c0, c1⟩, nac⟩
        have e3 := endB_true.2 ⟨Hv.out, ⟨b0, b1⟩, ⟨c0, c1⟩, nbc⟩
        have t1 := tri e1 e2 (by rw [end_swap]; exact e3)
        have t2 := tri e3 (by rw [end_swap]; exact e1) e2
        have t3 := tri e2 e1 e3
        rw [most_swap (k : Int) zs a c, most_swap (k : Int) zs a b] at t2
        rw [most_swap (k : Int) zs b c] at t3
        have X1 := fun (W : World) (h : ArgL W B d zs) => implTrafficMost_b (k : Int) B d zs a b W h
        have X2 := fun (W : World) (h : ArgL W B d zs) => implTrafficMost_b (k : Int) B d zs b c W h
        have X3 := fun (W : World) (h : ArgL W B d zs) => implTrafficMost_b (k : Int) B d zs a c W h
        obtain ⟨x, hx⟩ : ∃ x, mostV (k : Int) zs a b = x := ⟨_, rfl⟩
        obtain ⟨y, hy⟩ : ∃ y, mostV (k : Int) zs b c = y := ⟨_, rfl⟩
        obtain ⟨z, hz⟩ : ∃ z, mostV (k : Int) zs a c = z := ⟨_, rfl⟩
        rw [hx] at t1 t2 t3 X1
        rw [hy] at t1 t2 t3 X2
        rw [hz] at t1 t2 t3 X3
        have f1 : min y z ≤ x := t1
        have f2 : min x z ≤ y := by omega
        have f3 : min x y ≤ z := by omega
        have Y1 := Lib.hid X1
        have Y2 := Lib.hid X2
        have Y3 := Lib.hid X3
        clear X1 X2 X3 e1 e2 e3 t1 t2 t3 hx hy hz
        go_wp2_with fail
        refine (Y1.out _ Ha0.out).mono ?_
        rintro e w6 ⟨rfl, rb6⟩
        have Ha6 := Lib.hid (Ha0.out.go rb6)
        have Hb6 := Lib.hid (below_step Hb0.out rb6)
        clear rb6
        go_wp2_with fail
        refine (Y2.out _ Ha6.out).mono ?_
        rintro e w7 ⟨rfl, rb7⟩
        have Ha7 := Lib.hid (Ha6.out.go rb7)
        have Hb7 := Lib.hid (below_step Hb6.out rb7)
        clear rb7
        go_wp2_with fail
        refine (Y3.out _ Ha7.out).mono ?_
        rintro e w8 ⟨rfl, rb8⟩
        have Hb8 := Lib.hid (below_step Hb7.out rb8)
        clear rb8
        go_wp2
        go_ret
        exact ⟨rfl, Hb8.out⟩

theorem fnTree_walk (A0 : Option Addr) (n0 c0 : Nat) (A1 : Option Addr) (n1 c1 : Nat) (w : World) (hb0 : Byt0 w A0 n0 c0) (hb1 : Byt0 w A1 n1 c1) :
    Calls Try.prog 5 #[.slice A0 n0 c0, .slice A1 n1 c1] w (RetB (.bool true) w) := by
  by_cases hl0 : 1048576 < n0
  · clear hb0; clear hb1
    have u0 : decide ((1048576 : Int) < (n0 : Int)) = true := by simp; omega
    go_enter Try.func5, Try.ntmps5
    go_wp2
    go_ret
    exact ⟨rfl, Below.refl _ _⟩
  by_cases hl1 : 1048576 < n1
  · clear hb0; clear hb1
    have u0 : decide ((1048576 : Int) < (n0 : Int)) = false := by simp; omega
    have u1 : decide ((1048576 : Int) < (n1 : Int)) = true := by simp; omega
    go_enter Try.func5, Try.ntmps5
    go_wp2
    go_ret
    exact ⟨rfl, Below.refl _ _⟩
  exact fnTree_in A0 n0 c0 A1 n1 c1 w (by omega) hb0.1 hb0.2.2 (by omega) hb1.1 hb1.2.2

set_option maxRecDepth 100000 in
theorem fnTree_lifted (os : Os) (started : os.Started) (H : Type) (enc : TypeId × Value → H) :
    ReturnsInHanded {} Try.checked os 5 .any (Rows.fnTreeSpec.pre6 enc Try.prog Try.f5 Rows.fnTreeRow.domain false) (Rows.fnTreeSpec.post enc Try.prog Try.f5 false true false false) := by
  refine returnsInHanded_of_change (C := Try.checked) row_own started (by kernel_rfl) Try.func5
    (ChangeSpec.witness6 (enc := enc) (C := Try.checked) false ⟨#[], #[.slice none 0 0, .slice none 0 0], []⟩ 8 (by kernel_rfl) (by kernel_rfl) (by kernel_rfl) (by kernel_rfl)) ?_
  intro W base args ds gs before hval0 hW hcnd _
  have hval : ∀ (j : Nat) t v, Try.f5.params[j]? = some t → args[j]? = some v → Value.okWide Try.prog W .any base t v := hval0
  have hW' := hW
  obtain ⟨p, q, hA0, hV, rfl, _, _⟩ := hW
  have hA : DataW.TrodAll enc Try.prog W 0 (fun _ => true) true Try.f5.params.toList args.toList ds p := hA0
  rw [Try.params5] at hA hval
  obtain ⟨v0, vs0, d0, ds0, p0, q0, hargs, rfl, rfl, h0, r0⟩ := trodAll_cons hA
  obtain ⟨v1, vs1, d1, ds1, p1, q1, rfl, rfl, rfl, h1, r1⟩ := trodAll_cons r0
  obtain ⟨rfl, rfl, rfl⟩ := trodAll_nil r1
  obtain rfl : args = #[v0, v1] := by cases args; simp_all
  obtain ⟨rfl, rfl⟩ := trodVars_none hV
  have hlt0 : ∀ x ∈ p0, x.block < W.heap.size := fun x hx => by exact hW'.lt x (by simp [hx])
  obtain ⟨A0, n0, c0, rfl, hb0⟩ := open_bytes (hval 0 22 v0 rfl rfl) h0 hlt0
  have hlt1 : ∀ x ∈ p1, x.block < W.heap.size := fun x hx => by exact hW'.lt x (by simp [hx])
  obtain ⟨A1, n1, c1, rfl, hb1⟩ := open_bytes (hval 1 22 v1 rfl rfl) h1 hlt1
  clear hA0 hval0
  refine (fnTree_walk A0 n0 c0 A1 n1 c1 W hb0 hb1).mono fun e W' ⟨he, hb⟩ => ?_
  subst he
  exact ⟨_, rfl, _, _, _, [], _, [], hW', (trodAll_cons_mk (shut_bool Try.underlying4 _) trodAll_mk0), (trodAll_cons_mk (read_again_bytes h0 hlt0 hb) (trodAll_cons_mk (read_again_bytes h1 hlt1 hb) trodAll_mk0)), rfl, hb.frame _, fun h => by cases h⟩

set_option maxRecDepth 100000 in
theorem fnTree_closed : joinedFacts Try.prog 5 Try.f5 Rows.fnTreeSpec Rows.fnTreeRow = true := by
  unfold joinedFacts
  repeat' (with_reducible apply facAnd)
  all_goals first | (with_reducible exact facEnter) | (with_reducible exact facLaid) | (with_reducible exact facMaps) | (with_reducible exact facStops) | (with_reducible exact facKnobs) | (with_reducible exact facHeard) | (rw [facLifts]; as_aux_lemma => kernel_rfl) | (rw [facMake]; as_aux_lemma => kernel_rfl) | (as_aux_lemma => kernel_rfl)

/-- THE STATEMENT -/
theorem fnTree_holds : Rows.FnTreeSaid :=
  OpenClaim.holds_of_wide 5 Try.f5 rfl rfl rfl rfl rfl rfl rfl ⟨rfl, rfl, rfl, rfl, rfl⟩ rfl rfl rfl rfl rfl (by kernel_rfl) Try.func5 fnTree_closed
    (of_decide_eq_true (by kernel_rfl)) (by unfold Func.isWrapper; first | (rw [if_pos (by decide +kernel)]; kernel_rfl) | (rw [if_neg (by decide +kernel)]; exact ⟨rfl, rfl⟩))
    (fun os started H enc _ => fnTree_lifted os started H enc)
#print axioms fnTree_holds
end Go.Proofs.Ytbnpglljloaclaa
