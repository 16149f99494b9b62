/-
  l6Many of the model.
-/
import Derived.Test.YtodboccadccpfaaDoorOpen
import Derived.Lib.Hide
import Derived.Laws.Concat
namespace Go.Proofs.YtodboccadccpfaaDoor
open Go.RowKit

set_option maxRecDepth 100000 in
set_option maxHeartbeats 2000000 in
theorem l6Many_c (s : ByteArray) (n : Nat) (w : World) (hs : s.size = 1) (hn : n ≤ 100) :
    Calls Tryd.prog 60 #[.string s, .int .i64 n] w fun e w' => (∃ t : ByteArray, e = .returned (.string t) ∧ t.size ≤ n) ∧ w = w' := by
  have Hs := Lib.hid hs
  clear hs
  go_enter Tryd.func60, Tryd.ntmps60
  go_wp2
  go_loop [0, 1, 5] (fun sv nv ov => ∃ (a o : ByteArray) (k : Nat), sv = .string a ∧ nv = .int .i64 k ∧ ov = .string o ∧ k ≤ 100 ∧ a.size ≤ 200 ∧ o.size + a.size * k ≤ n ∧ 1 ≤ a.size) (fun _ nv _ => (intOf nv).toNat)
  case atStart => exact ⟨s, ⟨#[]⟩, n, rfl, rfl, rfl, by omega, by rw [Hs.out]; omega, by rw [Hs.out]; show 0 + 1 * n ≤ n; omega, by rw [Hs.out]; omega⟩
  case round =>
    obtain ⟨a, o, k, rfl, rfl, rfl, hk, ha, ho, ha1⟩ := hrel
    by_cases hk0 : 0 < k
    · have g1 : (0 : Int) < (k : Int) := by omega
      have hsum : o.size ≤ n := by omega
      have hmul : a.size ≤ a.size * k := Nat.le_mul_of_pos_right _ hk0
      have t1 : (k : Int).tmod 2 = (k : Int) % 2 := Int.tmod_eq_emod_of_nonneg (by omega)
      have t2 : (k : Int).tdiv 2 = ((k / 2 : Nat) : Int) := by rw [Int.tdiv_eq_ediv_of_nonneg (by omega)]; omega
      have q1 : IntKind.i64.wrap ((k : Int) % 2) = (k : Int) % 2 := IntWalk.i64_in _ (by omega)
      have q2 : IntKind.i64.wrap ((k / 2 : Nat) : Int) = ((k / 2 : Nat) : Int) := IntWalk.i64_in _ (by omega)
      have c1 : (a.size : Int) ≤ 8388608 := by omega
      have c2 : (o.size : Int) ≤ 8388608 := by omega
      have c3 : ¬ 9223372036854775807 < a.size + a.size := by omega
      have c4 : ¬ 9223372036854775807 < o.size + a.size := by omega
      have e1 := ByteArray.size_append (a := a) (b := a)
      have e2 := ByteArray.size_append (a := o) (b := a)
      have hdm : a.size * k = a.size * (k % 2) + (a.size + a.size) * (k / 2) := by
        rw [Nat.add_mul, ← Nat.add_assoc, Nat.add_assoc, ← Nat.mul_add, ← Nat.mul_add]
        congr 1; omega
      have H := Lib.hid (And.intro e1 (And.intro e2 (And.intro hdm (And.intro ha1 ho))))
      clear hmul hsum e1 e2 hdm
      have hk2 : k / 2 < k := by omega
      have hcases : k % 2 = 1 ∨ k % 2 = 0 := by omega
      rcases hcases with hm | hm
      · have g2 : ((k : Int) % 2 == 1) = true := by rw [beq_iff_eq]; omega
        go_wp2
        go_round
        case rel =>
          obtain ⟨e1, e2, hdm, ha1, ho⟩ := H.out
          rw [hm, Nat.mul_one] at hdm
          refine ⟨a ++ a, o ++ a, k / 2, rfl, rfl, rfl, by omega, ?_, by rw [e1, e2]; omega, by rw [e1]; omega⟩
          rw [e1]
          by_cases h1 : k / 2 = 0
          · have := Nat.le_mul_of_pos_right a.size hk0; omega
          · have := Nat.le_mul_of_pos_right (a.size + a.size) (show 0 < k / 2 by omega); omega
        case measure => simp [intOf]; omega
      · have g2 : ((k : Int) % 2 == 1) = false := by rw [beq_eq_false_iff_ne]; omega
        go_wp2
        go_round
        case rel =>
          obtain ⟨e1, e2, hdm, ha1, ho⟩ := H.out
          rw [hm, Nat.mul_zero, Nat.zero_add] at hdm
          refine ⟨a ++ a, o, k / 2, rfl, rfl, rfl, by omega, ?_, by rw [e1]; omega, by rw [e1]; omega⟩
          rw [e1]
          have := Nat.le_mul_of_pos_right (a.size + a.size) (show 0 < k / 2 by omega); omega
        case measure => simp [intOf]; omega
    · obtain rfl : k = 0 := by omega
      go_wp2
      go_ret
      exact ⟨⟨o, rfl, by omega⟩, rfl⟩

theorem many_any (x : Int) (h0 : 0 ≤ x) (h1 : x ≤ 54) (W : World) :
    Calls Tryd.prog 60 #[.string ⟨#[111]⟩, .int .i64 x] W fun e w' => (∃ t : ByteArray, e = .returned (.string t) ∧ t.size ≤ 54) ∧ W = w' := by
  obtain ⟨N, rfl⟩ := Int.eq_ofNat_of_zero_le h0
  refine (l6Many_c ⟨#[111]⟩ N W rfl (by omega)).mono ?_
  rintro e w' ⟨⟨t, h2, h3⟩, h4⟩
  exact ⟨⟨t, h2, by omega⟩, h4⟩

end Go.Proofs.YtodboccadccpfaaDoor
