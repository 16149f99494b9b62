/-
  LoadTraffic and LoadValid of the program. (Written by a program of mine, gen7l.py.)
-/
import Derived.Test.YtnekjhpocfdpnaaTfB
import Derived.Test.YtnekjhpocfdpnaaTfW0
namespace Go.Proofs.Ytnekjhpocfdpnaa
open Go.RowKit Go.Maps

/-- the first k stations keep what they get -/
def ksTo (N : List Lin) (f t : Int) (L : List Int) (k : Nat) : Prop := ∀ i : Nat, i < k → (i : Int) ≠ f → (i : Int) ≠ t → outV N L (i : Int) = 0
theorem ksTo_zero (N : List Lin) (f t : Int) (L : List Int) : ksTo N f t L 0 := fun i h => by omega
theorem ksTo_succ {N : List Lin} {f t : Int} {L : List Int} {k : Nat} (h : ksTo N f t L k) (hk : (k : Int) ≠ f → (k : Int) ≠ t → outV N L (k : Int) = 0) : ksTo N f t L (k + 1) := fun i hi => by
  rcases (by omega : i < k ∨ i = k) with h1 | rfl
  · exact h i h1
  · exact hk
theorem ks_all {n : Int} {N : List Lin} {f t : Int} {L : List Int} (he : endB n N f t = true) (hc : chB N L = true) (h : ksTo N f t L 6) : trafV n N f t L = if outV N L f < -1 then -1 else outV N L f := by
  have hn := (endB_true.1 he).1
  have h26 := (netB_true.1 hn).1
  by_cases h0 : 0 ≤ outV N L f
  · have hl : loadB n N f t L = true := loadB_true.2 ⟨he, hc, fun k k0 k1 k2 k3 => by
      have := h k.toNat (by omega)
      rw [Int.toNat_of_nonneg k0] at this
      exact this k2 k3, h0⟩
    have h1 : ¬ outV N L f < -1 := by omega
    unfold trafV
    rw [hl, if_pos rfl, if_neg h1]
  · have hl : loadB n N f t L = false := by
      apply eq_false_of_ne_true
      intro e
      exact h0 (loadB_true.1 e).2.2.2
    unfold trafV
    rw [hl, if_neg (by decide)]
    split <;> omega
theorem ks_not {n : Int} {N : List Lin} {f t : Int} {L : List Int} (he : endB n N f t = true) {k : Nat} (h1 : (k : Int) ≠ f) (h2 : (k : Int) ≠ t) (h3 : outV N L (k : Int) ≠ 0) : trafV n N f t L = -1 := by
  have hn := (endB_true.1 he).1
  have hl : loadB n N f t L = false := by
    apply eq_false_of_ne_true
    intro e
    by_cases hk : (k : Int) < n
    · exact h3 ((loadB_true.1 e).2.2.1 _ (by omega) hk h1 h2)
    · exact h3 (outV_none hn (by omega))
  unfold trafV
  rw [hl]; rfl
theorem traf_no1 {n : Int} {N : List Lin} {f t : Int} {L : List Int} (h : endB n N f t = false) : trafV n N f t L = -1 := by unfold trafV; rw [load_no1 h]; rfl
theorem traf_no2 {n : Int} {N : List Lin} {f t : Int} {L : List Int} (h : chB N L = false) : trafV n N f t L = -1 := by unfold trafV; rw [load_no2 h]; rfl

set_option maxRecDepth 100000 in
set_option maxHeartbeats 8000000 in
theorem implLoadTraffic_b (n f t : Int) (A B : Option Addr) (c d : Nat) (ss : List Lin) (L : List Int) (w : World) (ha : ArgL w A c ss) (hb : Arg w B d L) :
    Calls Try.prog 10 #[.int .i64 n, .slice A ss.length c, .int .i64 f, .int .i64 t, .slice B L.length d] w (RetB (.int .i64 (trafV n ss f t L)) w) := by
  have HA := Lib.hid ha
  have HB := Lib.hid hb
  clear ha hb
  go_enter Try.func10, Try.ntmps10
  go_wp2_with fail
  refine (ends_c _ _ _ _ _ _ _ HA.out).mono ?_
  rintro e w1 ⟨rfl, hb1⟩
  have Hb1 := Lib.hid hb1
  have HA1 := Lib.hid (HA.out.go hb1)
  have HB1 := Lib.hid (HB.out.go hb1)
  clear hb1
  cases e1 : endB n ss f t
  · have N := Lib.hid (traf_no1 (L := L) e1)
    clear e1
    go_wp2
    go_ret
    exact ⟨by rw [N.out] <;> rfl, Hb1.out⟩
  have E1 := Lib.hid e1
  clear e1
  go_wp2_with fail
  refine (enough_c n _ _ _ _ _ _ _ HA1.out HB1.out (endB_true.1 E1.out).1).mono ?_
  rintro e w2 ⟨rfl, hb2⟩
  have Hb2 := Lib.hid (below_step Hb1.out hb2)
  have HA2 := Lib.hid (HA1.out.go hb2)
  have HB2 := Lib.hid (HB1.out.go hb2)
  clear hb2 HA1 HB1 Hb1
  cases e2 : chB ss L
  · have N := Lib.hid (traf_no2 (n := n) (f := f) (t := t) e2)
    clear e2
    go_wp2
    go_ret
    exact ⟨by rw [N.out] <;> rfl, Hb2.out⟩
  have E2 := Lib.hid e2
  clear e2
  go_wp2_with fail
  refine (usageOf_c _ _ _ _ HB2.out (fun k hk => by have := ch9 (endB_true.1 E1.out).1 E2.out k hk; omega)).mono ?_
  rintro e w3 ⟨Bu, rfl, hBu, hu, hb3⟩
  have Hb3 := Lib.hid (below_step Hb2.out hb3)
  have HA3 := Lib.hid (HA2.out.go hb3)
  have HU := Lib.hid hu
  clear hb3 hu HA2 HB2 Hb2 hBu
  go_wp2_with fail
  refine (usgOut_c n _ _ _ _ _ _ HA3.out HU.out (endB_true.1 E1.out).1 E2.out).mono ?_
  rintro e w4 ⟨rfl, hb4⟩
  have Hb4 := Lib.hid (below_step Hb3.out hb4)
  clear hb4 HA3 Hb3 HU
  have hval := fun V (h : V = outV ss L f) => h
  have hbd := outV_bd (endB_true.1 E1.out).1 E2.out f
  have hends := endB_true.1 E1.out
  have h26 := (netB_true.1 hends.1).1
  obtain ⟨fn, rfl⟩ : ∃ fn : Nat, f = (fn : Int) := ⟨f.toNat, by omega⟩
  have hfn6 : fn < 6 := by omega
  have hsix : ∀ i : Nat, i < 6 → [outV ss L 0, outV ss L 1, outV ss L 2, outV ss L 3, outV ss L 4, outV ss L 5][i]?.getD 0 = outV ss L (i : Int) := fun i hi => by
    rcases (by omega : i = 0 ∨ i = 1 ∨ i = 2 ∨ i = 3 ∨ i = 4 ∨ i = 5) with rfl | rfl | rfl | rfl | rfl | rfl <;> rfl
  have hno0 := fun h1 h2 h3 => ks_not (N := ss) (L := L) (k := 0) E1.out h1 h2 h3
  have hyes0 := fun (h : ksTo ss fn t L 0) hk => ksTo_succ h hk
  have hno1 := fun h1 h2 h3 => ks_not (N := ss) (L := L) (k := 1) E1.out h1 h2 h3
  have hyes1 := fun (h : ksTo ss fn t L 1) hk => ksTo_succ h hk
  have hno2 := fun h1 h2 h3 => ks_not (N := ss) (L := L) (k := 2) E1.out h1 h2 h3
  have hyes2 := fun (h : ksTo ss fn t L 2) hk => ksTo_succ h hk
  have hno3 := fun h1 h2 h3 => ks_not (N := ss) (L := L) (k := 3) E1.out h1 h2 h3
  have hyes3 := fun (h : ksTo ss fn t L 3) hk => ksTo_succ h hk
  have hno4 := fun h1 h2 h3 => ks_not (N := ss) (L := L) (k := 4) E1.out h1 h2 h3
  have hyes4 := fun (h : ksTo ss fn t L 4) hk => ksTo_succ h hk
  have hno5 := fun h1 h2 h3 => ks_not (N := ss) (L := L) (k := 5) E1.out h1 h2 h3
  have hyes5 := fun (h : ksTo ss fn t L 5) hk => ksTo_succ h hk
  have hall := fun h => ks_all (n := n) (N := ss) (f := (fn : Int)) (t := t) (L := L) E1.out E2.out h
  have hs6 := hsix fn hfn6
  have hwV := hbd
  obtain ⟨V, hV⟩ : ∃ V, outV ss L (fn : Int) = V := ⟨_, rfl⟩
  rw [hV] at hbd hs6 hall
  obtain ⟨v0, hv0⟩ : ∃ v0, outV ss L 0 = v0 := ⟨_, rfl⟩
  obtain ⟨v1, hv1⟩ : ∃ v1, outV ss L 1 = v1 := ⟨_, rfl⟩
  obtain ⟨v2, hv2⟩ : ∃ v2, outV ss L 2 = v2 := ⟨_, rfl⟩
  obtain ⟨v3, hv3⟩ : ∃ v3, outV ss L 3 = v3 := ⟨_, rfl⟩
  obtain ⟨v4, hv4⟩ : ∃ v4, outV ss L 4 = v4 := ⟨_, rfl⟩
  obtain ⟨v5, hv5⟩ : ∃ v5, outV ss L 5 = v5 := ⟨_, rfl⟩
  have hqs : ∀ i : Nat, i < 6 → [v0, v1, v2, v3, v4, v5][i]?.getD 0 = outV ss L (i : Int) := by rw [← hv0, ← hv1, ← hv2, ← hv3, ← hv4, ← hv5]; exact hsix
  rw [hv0, hv1, hv2, hv3, hv4, hv5] at hs6 ⊢
  have Hs6 := Lib.hid hs6
  have Hno0 := Lib.hid hno0
  have Hyes0 := Lib.hid hyes0
  have Hv0 := Lib.hid hv0
  have Hno1 := Lib.hid hno1
  have Hyes1 := Lib.hid hyes1
  have Hv1 := Lib.hid hv1
  have Hno2 := Lib.hid hno2
  have Hyes2 := Lib.hid hyes2
  have Hv2 := Lib.hid hv2
  have Hno3 := Lib.hid hno3
  have Hyes3 := Lib.hid hyes3
  have Hv3 := Lib.hid hv3
  have Hno4 := Lib.hid hno4
  have Hyes4 := Lib.hid hyes4
  have Hv4 := Lib.hid hv4
  have Hno5 := Lib.hid hno5
  have Hyes5 := Lib.hid hyes5
  have Hv5 := Lib.hid hv5
  have Hall := Lib.hid hall
  obtain ⟨bd1, bd2⟩ := hbd
  clear hwV hval hends h26 hsix hs6 hqs hall hV hno0 hyes0 hv0 hno1 hyes1 hv1 hno2 hyes2 hv2 hno3 hyes3 hv3 hno4 hyes4 hv4 hno5 hyes5 hv5
  have Har := Lib.hid ((⟨rfl, heap_alloc_new w4 _⟩ : ArAt (w4.alloc (.cells #[.int .i64 v0, .int .i64 v1, .int .i64 v2, .int .i64 v3, .int .i64 v4, .int .i64 v5] 49)) w4.heap.size [v0, v1, v2, v3, v4, v5]))
  have hx0 : ∀ W : World, (Instr.index 49 (.agg #[.int .i64 v0, .int .i64 v1, .int .i64 v2, .int .i64 v3, .int .i64 v4, .int .i64 v5]) (.int .i64 0)).run Try.prog W = .ok (.int .i64 v0) W := fun W => by kernel_rfl
  have hx1 : ∀ W : World, (Instr.index 49 (.agg #[.int .i64 v0, .int .i64 v1, .int .i64 v2, .int .i64 v3, .int .i64 v4, .int .i64 v5]) (.int .i64 1)).run Try.prog W = .ok (.int .i64 v1) W := fun W => by kernel_rfl
  have hx2 : ∀ W : World, (Instr.index 49 (.agg #[.int .i64 v0, .int .i64 v1, .int .i64 v2, .int .i64 v3, .int .i64 v4, .int .i64 v5]) (.int .i64 2)).run Try.prog W = .ok (.int .i64 v2) W := fun W => by kernel_rfl
  have hx3 : ∀ W : World, (Instr.index 49 (.agg #[.int .i64 v0, .int .i64 v1, .int .i64 v2, .int .i64 v3, .int .i64 v4, .int .i64 v5]) (.int .i64 3)).run Try.prog W = .ok (.int .i64 v3) W := fun W => by kernel_rfl
  have hx4 : ∀ W : World, (Instr.index 49 (.agg #[.int .i64 v0, .int .i64 v1, .int .i64 v2, .int .i64 v3, .int .i64 v4, .int .i64 v5]) (.int .i64 4)).run Try.prog W = .ok (.int .i64 v4) W := fun W => by kernel_rfl
  have hx5 : ∀ W : World, (Instr.index 49 (.agg #[.int .i64 v0, .int .i64 v1, .int .i64 v2, .int .i64 v3, .int .i64 v4, .int .i64 v5]) (.int .i64 5)).run Try.prog W = .ok (.int .i64 v5) W := fun W => by kernel_rfl
  go_wp2
  go_loop [31] (fun i => ∃ k : Nat, k ≤ 6 ∧ ksTo ss fn t L k ∧ i = .int .i64 k) (fun i => 6 - (intOf i).toNat)
  case atStart => exact ⟨0, Nat.zero_le _, ksTo_zero _ _ _ _, rfl⟩
  case round =>
    obtain ⟨k, hk, ho, rfl⟩ := hrel
    have Ho := Lib.hid ho
    clear ho
    rcases (by omega : k = 0 ∨ k = 1 ∨ k = 2 ∨ k = 3 ∨ k = 4 ∨ k = 5 ∨ k = 6) with rfl | rfl | rfl | rfl | rfl | rfl | rfl
    · by_cases h1 : (0 : Int) = (fn : Int)
      · have q1 : ((0 : Int) != (fn : Int)) = false := by simp [h1]
        have N := Lib.hid (Hyes0.out Ho.out (fun h => absurd h1 h))
        clear h1
        go_wp2
        go_round
        case rel => exact ⟨1, by omega, N.out, by go_num⟩
        case measure => simp [intOf]
      have q1 : ((0 : Int) != (fn : Int)) = true := by simp; omega
      have H1 := Lib.hid h1
      clear h1
      by_cases h2 : (0 : Int) = t
      · have q2 : ((0 : Int) != t) = false := by simp [h2]
        have N := Lib.hid (Hyes0.out Ho.out (fun _ h => absurd h2 h))
        clear h2
        go_wp2
        go_round
        case rel => exact ⟨1, by omega, N.out, by go_num⟩
        case measure => simp [intOf]
      have q2 : ((0 : Int) != t) = true := by simp; omega
      have H2 := Lib.hid h2
      clear h2
      by_cases h3 : v0 = 0
      · have q3 : (v0 != 0) = false := by simp [h3]
        have N := Lib.hid (Hyes0.out Ho.out (fun _ _ => by have := Hv0.out; rw [← h3]; exact this))
        clear h3
        go_wp2
        go_round
        case rel => exact ⟨1, by omega, N.out, by go_num⟩
        case measure => simp [intOf]
      · have q3 : (v0 != 0) = true := by simp [h3]
        have N := Lib.hid (Hno0.out H1.out H2.out (by have := Hv0.out; intro e; exact h3 (by rw [← this]; exact e)))
        clear h3
        go_wp2
        go_ret
        exact ⟨by rw [N.out] <;> rfl, Hb4.out.alloc Hb4.out.size _⟩
    · by_cases h1 : (1 : Int) = (fn : Int)
      · have q1 : ((1 : Int) != (fn : Int)) = false := by simp [h1]
        have N := Lib.hid (Hyes1.out Ho.out (fun h => absurd h1 h))
        clear h1
        go_wp2
        go_round
        case rel => exact ⟨2, by omega, N.out, by go_num⟩
        case measure => simp [intOf]
      have q1 : ((1 : Int) != (fn : Int)) = true := by simp; omega
      have H1 := Lib.hid h1
      clear h1
      by_cases h2 : (1 : Int) = t
      · have q2 : ((1 : Int) != t) = false := by simp [h2]
        have N := Lib.hid (Hyes1.out Ho.out (fun _ h => absurd h2 h))
        clear h2
        go_wp2
        go_round
        case rel => exact ⟨2, by omega, N.out, by go_num⟩
        case measure => simp [intOf]
      have q2 : ((1 : Int) != t) = true := by simp; omega
      have H2 := Lib.hid h2
      clear h2
      by_cases h3 : v1 = 0
      · have q3 : (v1 != 0) = false := by simp [h3]
        have N := Lib.hid (Hyes1.out Ho.out (fun _ _ => by have := Hv1.out; rw [← h3]; exact this))
        clear h3
        go_wp2
        go_round
        case rel => exact ⟨2, by omega, N.out, by go_num⟩
        case measure => simp [intOf]
      · have q3 : (v1 != 0) = true := by simp [h3]
        have N := Lib.hid (Hno1.out H1.out H2.out (by have := Hv1.out; intro e; exact h3 (by rw [← this]; exact e)))
        clear h3
        go_wp2
        go_ret
        exact ⟨by rw [N.out] <;> rfl, Hb4.out.alloc Hb4.out.size _⟩
    · by_cases h1 : (2 : Int) = (fn : Int)
      · have q1 : ((2 : Int) != (fn : Int)) = false := by simp [h1]
        have N := Lib.hid (Hyes2.out Ho.out (fun h => absurd h1 h))
        clear h1
        go_wp2
        go_round
        case rel => exact ⟨3, by omega, N.out, by go_num⟩
        case measure => simp [intOf]
      have q1 : ((2 : Int) != (fn : Int)) = true := by simp; omega
      have H1 := Lib.hid h1
      clear h1
      by_cases h2 : (2 : Int) = t
      · have q2 : ((2 : Int) != t) = false := by simp [h2]
        have N := Lib.hid (Hyes2.out Ho.out (fun _ h => absurd h2 h))
        clear h2
        go_wp2
        go_round
        case rel => exact ⟨3, by omega, N.out, by go_num⟩
        case measure => simp [intOf]
      have q2 : ((2 : Int) != t) = true := by simp; omega
      have H2 := Lib.hid h2
      clear h2
      by_cases h3 : v2 = 0
      · have q3 : (v2 != 0) = false := by simp [h3]
        have N := Lib.hid (Hyes2.out Ho.out (fun _ _ => by have := Hv2.out; rw [← h3]; exact this))
        clear h3
        go_wp2
        go_round
        case rel => exact ⟨3, by omega, N.out, by go_num⟩
        case measure => simp [intOf]
      · have q3 : (v2 != 0) = true := by simp [h3]
        have N := Lib.hid (Hno2.out H1.out H2.out (by have := Hv2.out; intro e; exact h3 (by rw [← this]; exact e)))
        clear h3
        go_wp2
        go_ret
        exact ⟨by rw [N.out] <;> rfl, Hb4.out.alloc Hb4.out.size _⟩
    · by_cases h1 : (3 : Int) = (fn : Int)
      · have q1 : ((3 : Int) != (fn : Int)) = false := by simp [h1]
        have N := Lib.hid (Hyes3.out Ho.out (fun h => absurd h1 h))
        clear h1
        go_wp2
        go_round
        case rel => exact ⟨4, by omega, N.out, by go_num⟩
        case measure => simp [intOf]
      have q1 : ((3 : Int) != (fn : Int)) = true := by simp; omega
      have H1 := Lib.hid h1
      clear h1
      by_cases h2 : (3 : Int) = t
      · have q2 : ((3 : Int) != t) = false := by simp [h2]
        have N := Lib.hid (Hyes3.out Ho.out (fun _ h => absurd h2 h))
        clear h2
        go_wp2
        go_round
        case rel => exact ⟨4, by omega, N.out, by go_num⟩
        case measure => simp [intOf]
      have q2 : ((3 : Int) != t) = true := by simp; omega
      have H2 := Lib.hid h2
      clear h2
      by_cases h3 : v3 = 0
      · have q3 : (v3 != 0) = false := by simp [h3]
        have N := Lib.hid (Hyes3.out Ho.out (fun _ _ => by have := Hv3.out; rw [← h3]; exact this))
        clear h3
        go_wp2
        go_round
        case rel => exact ⟨4, by omega, N.out, by go_num⟩
        case measure => simp [intOf]
      · have q3 : (v3 != 0) = true := by simp [h3]
        have N := Lib.hid (Hno3.out H1.out H2.out (by have := Hv3.out; intro e; exact h3 (by rw [← this]; exact e)))
        clear h3
        go_wp2
        go_ret
        exact ⟨by rw [N.out] <;> rfl, Hb4.out.alloc Hb4.out.size _⟩
    · by_cases h1 : (4 : Int) = (fn : Int)
      · have q1 : ((4 : Int) != (fn : Int)) = false := by simp [h1]
        have N := Lib.hid (Hyes4.out Ho.out (fun h => absurd h1 h))
        clear h1
        go_wp2
        go_round
        case rel => exact ⟨5, by omega, N.out, by go_num⟩
        case measure => simp [intOf]
      have q1 : ((4 : Int) != (fn : Int)) = true := by simp; omega
      have H1 := Lib.hid h1
      clear h1
      by_cases h2 : (4 : Int) = t
      · have q2 : ((4 : Int) != t) = false := by simp [h2]
        have N := Lib.hid (Hyes4.out Ho.out (fun _ h => absurd h2 h))
        clear h2
        go_wp2
        go_round
        case rel => exact ⟨5, by omega, N.out, by go_num⟩
        case measure => simp [intOf]
      have q2 : ((4 : Int) != t) = true := by simp; omega
      have H2 := Lib.hid h2
      clear h2
      by_cases h3 : v4 = 0
      · have q3 : (v4 != 0) = false := by simp [h3]
        have N := Lib.hid (Hyes4.out Ho.out (fun _ _ => by have := Hv4.out; rw [← h3]; exact this))
        clear h3
        go_wp2
        go_round
        case rel => exact ⟨5, by omega, N.out, by go_num⟩
        case measure => simp [intOf]
      · have q3 : (v4 != 0) = true := by simp [h3]
        have N := Lib.hid (Hno4.out H1.out H2.out (by have := Hv4.out; intro e; exact h3 (by rw [← this]; exact e)))
        clear h3
        go_wp2
        go_ret
        exact ⟨by rw [N.out] <;> rfl, Hb4.out.alloc Hb4.out.size _⟩
    · by_cases h1 : (5 : Int) = (fn : Int)
      · have q1 : ((5 : Int) != (fn : Int)) = false := by simp [h1]
        have N := Lib.hid (Hyes5.out Ho.out (fun h => absurd h1 h))
        clear h1
        go_wp2
        go_round
        case rel => exact ⟨6, by omega, N.out, by go_num⟩
        case measure => simp [intOf]
      have q1 : ((5 : Int) != (fn : Int)) = true := by simp; omega
      have H1 := Lib.hid h1
      clear h1
      by_cases h2 : (5 : Int) = t
      · have q2 : ((5 : Int) != t) = false := by simp [h2]
        have N := Lib.hid (Hyes5.out Ho.out (fun _ h => absurd h2 h))
        clear h2
        go_wp2
        go_round
        case rel => exact ⟨6, by omega, N.out, by go_num⟩
        case measure => simp [intOf]
      have q2 : ((5 : Int) != t) = true := by simp; omega
      have H2 := Lib.hid h2
      clear h2
      by_cases h3 : v5 = 0
      · have q3 : (v5 != 0) = false := by simp [h3]
        have N := Lib.hid (Hyes5.out Ho.out (fun _ _ => by have := Hv5.out; rw [← h3]; exact this))
        clear h3
        go_wp2
        go_round
        case rel => exact ⟨6, by omega, N.out, by go_num⟩
        case measure => simp [intOf]
      · have q3 : (v5 != 0) = true := by simp [h3]
        have N := Lib.hid (Hno5.out H1.out H2.out (by have := Hv5.out; intro e; exact h3 (by rw [← this]; exact e)))
        clear h3
        go_wp2
        go_ret
        exact ⟨by rw [N.out] <;> rfl, Hb4.out.alloc Hb4.out.size _⟩
    · have N := Lib.hid (Hall.out Ho.out)
      have kf := ArAt.cell Har.out (j := fn) hfn6
      rw [Hs6.out] at kf
      have g2 : (fn : Int) < 6 := by omega
      by_cases h1 : V < -1
      · have q1 : (V < -1) = True := eq_true h1
        have M := Lib.hid (N.out.trans (if_pos h1))
        clear h1
        go_wp2
        go_ret
        exact ⟨by rw [M.out] <;> rfl, Hb4.out.alloc Hb4.out.size _⟩
      · have q1 : (V < -1) = False := eq_false h1
        have M := Lib.hid (N.out.trans (if_neg h1))
        clear h1
        go_wp2
        go_ret
        exact ⟨by rw [M.out] <;> rfl, Hb4.out.alloc Hb4.out.size _⟩

end Go.Proofs.Ytnekjhpocfdpnaa
