/-
  OrdersAgree of both.
-/
import Derived.Test.YthdbbppahloapaaTkO
namespace Go.Proofs.Ythdbbppahloapaa
open Go.RowKit

set_option maxHeartbeats 1000000 in
theorem implOrdersAgree_b (A0 : Option Addr) (c0 : Nat) (z0 : List Int) (a b : Int) (w : World) (h0 : Arg w A0 c0 z0) :
    Calls Try.prog 13 #[.slice A0 z0.length c0, .int .i64 a, .int .i64 b] w (RetB (.bool (agrB z0 a b)) w) := by
  have hl0 := h0.len
  have H0 := Lib.hid h0
  clear h0
  go_enter Try.func13, Try.ntmps13
  go_wp2_with fail
  refine (implOrdersValid_b A0 c0 z0 _ H0.out).mono ?_
  rintro e w1 ⟨rfl, hb1⟩
  have Hb1 := Lib.hid hb1
  replace H0 := Lib.hid (H0.out.go hb1)
  clear hb1
  cases hv : ordB z0
  · have Hn := Lib.hid (agr_no (a := a) (b := b) (.inl hv))
    clear hv
    go_wp2
    go_ret
    exact ⟨by rw [Hn.out]; rfl, Hb1.out⟩
  have Hv := Lib.hid hv
  clear hv
  go_wp2_with fail
  refine (inRange_c _ _ _ _).mono ?_
  rintro e w' ⟨rfl, rfl⟩
  cases h1 : inB a 0 ((z0.length : Int) - 1)
  · have Hn := Lib.hid (agr_no (b := b) (.inr (.inl h1)))
    clear h1
    go_wp2
    go_ret
    exact ⟨by rw [Hn.out]; rfl, Hb1.out⟩
  have H1 := Lib.hid h1
  clear h1
  go_wp2_with fail
  refine (inRange_c _ _ _ _).mono ?_
  rintro e w' ⟨rfl, rfl⟩
  cases h2 : inB b 0 ((z0.length : Int) - 1)
  · have Hn := Lib.hid (agr_no (a := a) (.inr (.inr h2)))
    clear h2
    go_wp2
    go_ret
    exact ⟨by rw [Hn.out]; rfl, Hb1.out⟩
  have Hval := Lib.hid (agr_val Hv.out H1.out h2)
  have g1 := inB_true.1 H1.out
  have g2 := inB_true.1 h2
  clear h2
  obtain ⟨i, rfl⟩ := Int.eq_ofNat_of_zero_le g1.1
  obtain ⟨j, rfl⟩ := Int.eq_ofNat_of_zero_le g2.1
  have hi : i < z0.length := by omega
  have hj : j < z0.length := by omega
  obtain ⟨b, off, rfl, _, hbw, hc0⟩ := H0.out.rd.at_ hi
  obtain ⟨b', off', e, _, _, hd0⟩ := H0.out.rd.at_ hj
  injection e with e
  injection e with e1 e2
  subst e1
  subst e2
  have G1 : (i : Int) < (z0.length : Int) := by omega
  have G2 : (j : Int) < (z0.length : Int) := by omega
  clear g1 g2
  have Hb2 := Lib.hid (below_drewN Hb1.out 1)
  have G3 : (0 : Int) ≤ (i : Int) := by omega
  have G4 : (0 : Int) ≤ (j : Int) := by omega
  rcases Nat.lt_trichotomy i j with hij | hij | hij
  · have m1 : (i : Int) < (j : Int) := by omega
    have m2 : ((j : Int) < (i : Int)) = False := eq_false (by omega)
    rw [show (max (i : Int) (j : Int)).toNat = j by omega, show (min (i : Int) (j : Int)).toNat = i by omega] at Hval
    obtain ⟨x, hx⟩ : ∃ x, z0[i]?.getD 0 = x := ⟨_, rfl⟩
    obtain ⟨y, hy⟩ : ∃ y, z0[j]?.getD 0 = y := ⟨_, rfl⟩
    rw [hx] at hc0 Hval
    rw [hy] at hd0 Hval
    clear hx hy
    go_wp2
    go_region_held3 (fun w9 => w9.cell? ⟨b, off + i, none⟩ = some (.int .i64 x) ∧ w9.cell? ⟨b, off + j, none⟩ = some (.int .i64 y)) (exact ⟨hc0, hd0⟩) (fail)
    all_goals
      go_wp2
      go_ret
      exact ⟨by rw [Hval.out]; rfl, Hb2.out⟩
  · subst hij
    rw [show (max (i : Int) (i : Int)).toNat = i by omega, show (min (i : Int) (i : Int)).toNat = i by omega] at Hval
    obtain ⟨x, hx⟩ : ∃ x, z0[i]?.getD 0 = x := ⟨_, rfl⟩
    rw [hx] at hc0 Hval
    have Hval2 := Lib.hid (Hval.out.trans (decide_eq_false (show ¬ x < x by omega)))
    clear hx hd0
    go_wp2
    go_region_held3 (fun w9 => w9.cell? ⟨b, off + i, none⟩ = some (.int .i64 x)) (exact hc0) (fail)
    all_goals
      go_wp2
      go_ret
      exact ⟨by first | rw [Hval.out]; rfl | rw [Hval2.out]; rfl, Hb2.out⟩
  · have m1 : ((i : Int) < (j : Int)) = False := eq_false (by omega)
    have m2 : (j : Int) < (i : Int) := by omega
    rw [show (max (i : Int) (j : Int)).toNat = i by omega, show (min (i : Int) (j : Int)).toNat = j by omega] at Hval
    obtain ⟨x, hx⟩ : ∃ x, z0[i]?.getD 0 = x := ⟨_, rfl⟩
    obtain ⟨y, hy⟩ : ∃ y, z0[j]?.getD 0 = y := ⟨_, rfl⟩
    rw [hx] at hc0 Hval
    rw [hy] at hd0 Hval
    clear hx hy
    go_wp2
    go_region_held3 (fun w9 => w9.cell? ⟨b, off + i, none⟩ = some (.int .i64 x) ∧ w9.cell? ⟨b, off + j, none⟩ = some (.int .i64 y)) (exact ⟨hc0, hd0⟩) (fail)
    all_goals
      go_wp2
      go_ret
      exact ⟨by rw [Hval.out]; rfl, Hb2.out⟩

set_option maxHeartbeats 1000000 in
theorem specOrdersAgree_q (A0 : Option Addr) (c0 : Nat) (z0 : List Int) (a b : Int) (w : World) (h0 : Arg w A0 c0 z0) :
    Calls Try.prog 40 #[.slice A0 z0.length c0, .int .i64 a, .int .i64 b] w (RetQ (.bool (agrB z0 a b)) w) := by
  have hl0 := h0.len
  have H0 := Lib.hid h0
  clear h0
  go_enter Try.func40, Try.ntmps40
  go_wp2_with fail
  refine (specOrdersValid_q A0 c0 z0 _ H0.out).mono ?_
  rintro e w1 ⟨rfl, hw1⟩
  have Hw := Lib.hid (fun (n : Nat) => (show ∃ m, w1.drewN n = w.drewN m by obtain ⟨m, rfl⟩ := hw1; exact ⟨m + n, World.drewN_drewN _ _ _⟩))
  have hbb : Below w.heap.size w w1 := by obtain ⟨m, rfl⟩ := hw1; exact below_drewN (Below.refl _ _) m
  replace H0 := Lib.hid (H0.out.go hbb)
  clear hw1 hbb
  cases hv : ordB z0
  · have Hn := Lib.hid (agr_no (a := a) (b := b) (.inl hv))
    clear hv
    go_wp2
    go_ret
    exact ⟨by rw [Hn.out]; rfl, Hw.out 0⟩
  have Hv := Lib.hid hv
  clear hv
  go_wp2_with fail
  refine (l6In_c _ _ _ _).mono ?_
  rintro e w' ⟨rfl, rfl⟩
  cases h1 : inB a 0 ((z0.length : Int) - 1)
  · have Hn := Lib.hid (agr_no (b := b) (.inr (.inl h1)))
    clear h1
    go_wp2
    go_ret
    exact ⟨by rw [Hn.out]; rfl, Hw.out 0⟩
  have H1 := Lib.hid h1
  clear h1
  go_wp2_with fail
  refine (l6In_c _ _ _ _).mono ?_
  rintro e w' ⟨rfl, rfl⟩
  cases h2 : inB b 0 ((z0.length : Int) - 1)
  · have Hn := Lib.hid (agr_no (a := a) (.inr (.inr h2)))
    clear h2
    go_wp2
    go_ret
    exact ⟨by rw [Hn.out]; rfl, Hw.out 0⟩
  by_cases hab : a = b
  · subst hab
    have Hn := Lib.hid (agrB_self z0 a)
    clear h2
    go_wp2
    go_ret
    exact ⟨by rw [Hn.out]; rfl, Hw.out 0⟩
  have Hval := Lib.hid (agr_spec Hv.out H1.out h2 hab)
  have g1 := inB_true.1 H1.out
  have g2 := inB_true.1 h2
  clear h2
  obtain ⟨i, rfl⟩ := Int.eq_ofNat_of_zero_le g1.1
  obtain ⟨j, rfl⟩ := Int.eq_ofNat_of_zero_le g2.1
  have hi : i < z0.length := by omega
  have hj : j < z0.length := by omega
  obtain ⟨b, off, rfl, _, hbw, hc0⟩ := H0.out.rd.at_ hi
  obtain ⟨b', off', e, _, _, hd0⟩ := H0.out.rd.at_ hj
  injection e with e
  injection e with e1 e2
  subst e1
  subst e2
  have G1 : (i : Int) < (z0.length : Int) := by omega
  have G2 : (j : Int) < (z0.length : Int) := by omega
  have G3 : (0 : Int) ≤ (i : Int) := by omega
  have G4 : (0 : Int) ≤ (j : Int) := by omega
  clear g1 g2
  rw [Int.toNat_natCast, Int.toNat_natCast] at Hval
  obtain ⟨x, hx⟩ : ∃ x, z0[i]?.getD 0 = x := ⟨_, rfl⟩
  obtain ⟨y, hy⟩ : ∃ y, z0[j]?.getD 0 = y := ⟨_, rfl⟩
  rw [hx] at hc0 Hval
  rw [hy] at hd0 Hval
  clear hx hy
  go_wp2
  go_quiet (fail)
  all_goals
    go_wp2
    go_ret
    exact ⟨by rw [Hval.out]; simp, Hw.out nq⟩
theorem specOrdersAgree_b (A0 : Option Addr) (c0 : Nat) (z0 : List Int) (a b : Int) (w : World) (h0 : Arg w A0 c0 z0) :
    Calls Try.prog 40 #[.slice A0 z0.length c0, .int .i64 a, .int .i64 b] w (RetB (.bool (agrB z0 a b)) w) := (specOrdersAgree_q A0 c0 z0 a b w h0).mono fun _ _ h => h.toB

end Go.Proofs.Ythdbbppahloapaa
