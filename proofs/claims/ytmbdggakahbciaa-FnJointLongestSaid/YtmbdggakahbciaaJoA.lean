/-
  l4Ahead of the model.
-/
import Derived.Test.YtmbdggakahbciaaJoSet
namespace Go.Proofs.Ytmbdggakahbciaa
open Go.RowKit

theorem lexB_drop {x y : List Int} {k : Nat} (h1 : k < x.length) (h2 : k < y.length) : lexB (x.drop k) (y.drop k) = if x[k]?.getD 0 = y[k]?.getD 0 then lexB (x.drop (k + 1)) (y.drop (k + 1)) else decide (x[k]?.getD 0 < y[k]?.getD 0) := by
  rw [List.drop_eq_getElem_cons h1, List.drop_eq_getElem_cons h2, lexB, List.getElem?_eq_getElem h1, List.getElem?_eq_getElem h2]
  rfl
theorem lexB_same {x y : List Int} {k : Nat} (h1 : k < x.length) (h2 : k < y.length) (h : x[k]?.getD 0 = y[k]?.getD 0) : lexB (x.drop k) (y.drop k) = lexB (x.drop (k + 1)) (y.drop (k + 1)) := by rw [lexB_drop h1 h2, if_pos h]
theorem lexB_other {x y : List Int} {k : Nat} (h1 : k < x.length) (h2 : k < y.length) (h : ¬ x[k]?.getD 0 = y[k]?.getD 0) : lexB (x.drop k) (y.drop k) = decide (x[k]?.getD 0 < y[k]?.getD 0) := by rw [lexB_drop h1 h2, if_neg h]

set_option maxRecDepth 100000 in
set_option maxHeartbeats 2000000 in
theorem l4Ahead_c (L : List Spr) (kind : Int) (hL : sprB 10 L = true) (A0 : Option Addr) (c0 : Nat) (A1 : Option Addr) (c1 : Nat) (x : List Int) (A2 : Option Addr) (c2 : Nat) (y : List Int) (w : World) (h0 : ArgZ w A0 c0 L) (h1 : Arg w A1 c1 x) (h2 : Arg w A2 c2 y)
    (hx : ascP L.length x) (hy : ascP L.length y) (kx : allK L kind x) (ky : allK L kind y) (hlx : x.length ≤ 10) (hly : y.length ≤ 10) :
    Calls Try.prog 75 #[.slice A0 L.length c0, .slice A1 x.length c1, .slice A2 y.length c2, .int .i64 kind] w (RetB (.bool (ahead L x y)) w) := by
  have Hj1 := Lib.hid (fun w => l4Joint_c L kind hL A0 c0 A1 c1 x w)
  have Hj2 := Lib.hid (fun w => l4Joint_c L kind hL A0 c0 A2 c2 y w)
  rw [jval_yes kx] at Hj1
  rw [jval_yes ky] at Hj2
  have H0 := Lib.hid h0
  have H1 := Lib.hid h1
  have H2 := Lib.hid h2
  have Hx := Lib.hid hx
  have Hy := Lib.hid hy
  clear hL h0 h1 h2 hx hy kx ky
  by_cases hl : x.length = y.length
  · have g0 : (x.length : Int) = (y.length : Int) := by omega
    have gb : ((x.length : Int) != (y.length : Int)) = false := by simp [hl]
    have Ha := Lib.hid (show ahead L x y = if sumZ L x = sumZ L y then lexB x y else decide (sumZ L x < sumZ L y) by unfold ahead; rw [if_pos hl])
    have Hl := Lib.hid hl
    clear hl g0
    obtain ⟨a, hae⟩ : ∃ a, sumZ L x = a := ⟨_, rfl⟩
    obtain ⟨b, hbe⟩ : ∃ b, sumZ L y = b := ⟨_, rfl⟩
    rw [hae] at Hj1 Ha
    rw [hbe] at Hj2 Ha
    clear hae hbe
    by_cases hab : a = b
    · have hs : (a != b) = false := by simp [hab]
      have Ha2 := Lib.hid (Ha.out.trans (if_pos hab))
      have Hab := Lib.hid hab
      clear hab
      go_enter Try.func75, Try.ntmps75
      go_wp2_with fail
      refine (Hj1.out _ H0.out H1.out Hx.out hlx).mono ?_
      rintro e w1 ⟨rfl, rfl⟩
      go_wp2_with fail
      refine (Hj2.out _ H0.out H2.out Hy.out hly).mono ?_
      rintro e w1 ⟨rfl, rfl⟩
      go_wp2
      go_loopw [11] (fun iv wr => ∃ k : Nat, k ≤ x.length ∧ iv = .int .i64 k ∧ lexB (x.drop k) (y.drop k) = lexB x y ∧ Below w.heap.size w wr) (fun iv _ => x.length - (intOf iv).toNat)
      case atStart => exact ⟨0, Nat.zero_le _, rfl, rfl, Below.refl _ _⟩
      case round =>
        obtain ⟨k, hk, rfl, hlex, hb⟩ := hrel
        have Hb := Lib.hid hb
        have Hlex := Lib.hid hlex
        clear hb hlex
        by_cases hlt : k < x.length
        · have hlt2 : k < y.length := by have := Hl.out; omega
          obtain ⟨b1, o1, rfl, _, _, hc1⟩ := (H1.out.go Hb.out).rd.at_ hlt
          obtain ⟨b2, o2, rfl, _, _, hc2⟩ := (H2.out.go Hb.out).rd.at_ hlt2
          have Hsame := Lib.hid (fun h => (lexB_same hlt hlt2 h).symm.trans Hlex.out)
          have Hother := Lib.hid (fun h => Hlex.out.symm.trans (lexB_other hlt hlt2 h))
          obtain ⟨u, hu⟩ : ∃ u, x[k]?.getD 0 = u := ⟨_, rfl⟩
          obtain ⟨v, hv⟩ : ∃ v, y[k]?.getD 0 = v := ⟨_, rfl⟩
          rw [hu] at hc1 Hsame Hother
          rw [hv] at hc2 Hsame Hother
          have g1 : (k : Int) < (x.length : Int) := by omega
          have g2 : (k : Int) < (y.length : Int) := by omega
          clear hu hv
          by_cases huv : u = v
          · have hub : (u != v) = false := by simp [huv]
            have Hs := Lib.hid (Hsame.out huv)
            clear huv
            go_wp2
            go_quiet (fail)
            go_wp2
            go_roundw
            case rel => exact ⟨k + 1, by omega, by go_num, Hs.out, below_drewN Hb.out nq⟩
            case measure => simp [intOf]; omega
          · have hub : (u != v) = true := by simp [huv]
            have Hs := Lib.hid (Hother.out huv)
            clear huv
            go_wp2
            go_quiet (fail)
            go_wp2
            go_quiet (fail)
            go_wp2
            go_ret
            exact ⟨by rw [Ha2.out, Hs.out]; rfl, below_drewN (below_drewN Hb.out _) _⟩
        · obtain rfl : k = x.length := by omega
          have Hs := Lib.hid (show lexB x y = false by rw [← Hlex.out, List.drop_length]; rfl)
          go_wp2
          go_ret
          exact ⟨by rw [Ha2.out, Hs.out]; rfl, Hb.out⟩
    · have hs : (a != b) = true := by simp [hab]
      have Ha2 := Lib.hid (Ha.out.trans (if_neg hab))
      clear hab
      go_enter Try.func75, Try.ntmps75
      go_wp2_with fail
      refine (Hj1.out _ H0.out H1.out Hx.out hlx).mono ?_
      rintro e w1 ⟨rfl, rfl⟩
      go_wp2_with fail
      refine (Hj2.out _ H0.out H2.out Hy.out hly).mono ?_
      rintro e w1 ⟨rfl, rfl⟩
      go_wp2
      go_ret
      exact ⟨by rw [Ha2.out]; rfl, Below.refl _ _⟩
  · have gb : ((x.length : Int) != (y.length : Int)) = true := by simp; omega
    have Ha := Lib.hid (show ahead L x y = decide (x.length < y.length) by unfold ahead; rw [if_neg hl])
    clear hl
    go_enter Try.func75, Try.ntmps75
    go_wp2
    go_ret
    exact ⟨by rw [Ha.out]; rfl, Below.refl _ _⟩

end Go.Proofs.Ytmbdggakahbciaa
