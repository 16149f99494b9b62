/-
  A signal with an error.
-/
import Derived.Test.YtgnolhikphoagaaDoorSDraw
namespace Go.Proofs.YtgnolhikphoagaaDoor
open Go.RowKit

set_option maxHeartbeats 4000000 in
theorem l92Wrong_c (R : Nat) (A : Option Addr) (n c p : Nat) (s : ByteArray) (w : World) (h : Reader w R A n c p) (hRw : R < w.heap.size) (hp : p ≤ 10000) (hs : s.size ≤ 80) :
    Calls Tryd.prog 55 #[.pointer (some ⟨R, 0, none⟩), .string s] w (RetTS R A n c p 80 3 w) := by
  have H := Lib.hid h
  clear h
  by_cases h0 : s.size = 0
  · have hnl : byL s = [] := List.eq_nil_of_length_eq_zero (by rw [byL_len]; exact h0)
    have e1 : s.toList.isEmpty = true := by rw [toList_by, hnl]; rfl
    have e2 : (s.toList == (⟨#[]⟩ : ByteArray).toList) = true := by rw [toList_by, toList_by, hnl]; rfl
    clear hnl h0
    go_enter Tryd.func55, Tryd.ntmps55
    go_wp2
    go_ret
    exact ⟨s, p, rfl, hs, H.out, by omega, World.grownBy.refl w _⟩
  · have hne : byL s ≠ [] := fun e => h0 (by rw [← byL_len, e]; rfl)
    have e1 : s.toList.isEmpty = false := by rw [toList_by]; cases h : byL s with | nil => exact absurd h hne | cons a b => rfl
    have e2 : (s.toList == (⟨#[]⟩ : ByteArray).toList) = false := by
      rw [toList_by, toList_by, beq_eq_false_iff_ne]
      exact hne
    clear hne
    go_enter Tryd.func55, Tryd.ntmps55
    go_wp2_with fail
    refine (pick_c R A n c p 3 _ H.out (by omega) (by omega) (by omega)).mono ?_
    rintro e w1 ⟨x, rfl, hx0, hx1, hr1, hg1⟩
    have H1 := Lib.hid hr1
    have Hg1 := Lib.hid hg1
    have hR1 := Nat.lt_of_lt_of_le hRw hg1.size
    clear hr1 hg1
    by_cases hx : x = 0
    · subst hx
      go_wp2
      go_ret
      exact ⟨s, p + 1, rfl, hs, H1.out, by omega, Hg1.out⟩
    · have g2 : (x == 0) = false := by simp [hx]
      go_wp2_with fail
      refine (pick_c R A n c (p + 1) (s.size : Int) _ H1.out (by omega) (by omega) (by omega)).mono ?_
      rintro e w2 ⟨k, rfl, hk0, hk1, hr2, hg2⟩
      obtain ⟨k, rfl⟩ := Int.eq_ofNat_of_zero_le hk0
      have H2 := Lib.hid hr2
      have Hg2 := Lib.hid (grown_thenS Hg1.out hg2)
      have hR2 := Nat.lt_of_lt_of_le hR1 hg2.size
      have Hof := Lib.hid (ofS_new R A n c (p + 1 + 1) w2.drew (H2.out.drewN 1) (by omega) hR2)
      have q1 : IntKind.i64.wrap ((k : Int) + 1) = (k : Int) + 1 := IntWalk.i64_in _ (by omega)
      have s0 : (0 : Int) ≤ (k : Int) := by omega
      have s1 : (k : Int) ≤ (s.size : Int) := by omega
      have s2 : (0 : Int) ≤ (k : Int) + 1 := by omega
      have s3 : (k : Int) + 1 ≤ (s.size : Int) := by omega
      have s4 : ((k : Int) + 1).toNat = k + 1 := by omega
      clear hr2 hg2
      obtain ⟨X, hX⟩ : ∃ x, s.extract 0 k = x := ⟨_, rfl⟩
      obtain ⟨Y, hY⟩ : ∃ y, s.extract (k + 1) s.size = y := ⟨_, rfl⟩
      have zx : X.size = k := by rw [← hX, ByteArray.size_extract]; omega
      have zy : Y.size = s.size - (k + 1) := by rw [← hY, ByteArray.size_extract]; omega
      have c1 : (X.size : Int) ≤ 8388608 := by omega
      have c4 : (Y.size : Int) ≤ 8388608 := by omega
      go_wp2
      go_region_with (go_at_call 42; refine (Hof.out 1 3 _ (by rfl) (by omega) (by omega)).mono ?_; rintro e w3 ⟨t, q3, rfl, ht, hr3, hq3, hg3⟩; have Hr3 := Lib.hid hr3; have Hg3 := Lib.hid (grown_thenS (grown_drew Hg2.out) hg3); have zxt : (X ++ t).size ≤ k + 1 := (by rw [ByteArray.size_append]; omega); have zall : (X ++ t ++ Y).size ≤ 80 := (by rw [ByteArray.size_append]; omega); have c2 : (t.size : Int) ≤ 8388608 := (by omega); have c3 : ((X ++ t).size : Int) ≤ 8388608 := (by omega); have c5 : ¬ 9223372036854775807 < X.size + t.size := (by omega); have c6 : ¬ 9223372036854775807 < (X ++ t).size + Y.size := (by rw [ByteArray.size_append] at zall; omega); clear hr3 hg3 ht)
      all_goals
        go_wp2
        go_ret
        exact ⟨_, q3, rfl, zall, Hr3.out, by omega, Hg3.out⟩

end Go.Proofs.YtgnolhikphoagaaDoor
