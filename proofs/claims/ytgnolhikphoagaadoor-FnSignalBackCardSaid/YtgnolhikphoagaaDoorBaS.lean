/-
  SignalBack of the model.
-/
import Derived.Test.YtgnolhikphoagaaDoorVaS
import Derived.Test.YtgnolhikphoagaaDoorSgY
namespace Go.Proofs.YtgnolhikphoagaaDoor
open Go.RowKit

theorem turn_minus {c : UInt8} (h : c.toNat = 45) : turnP c = 43 := by unfold turnP; rw [if_pos h]
theorem turn_plus {c : UInt8} (h : c.toNat = 43) : turnP c = 45 := by unfold turnP; rw [if_neg (by omega), if_pos h]
theorem turn_zero {c : UInt8} (h1 : ¬ c.toNat = 45) (h2 : ¬ c.toNat = 43) : turnP c = 48 := by unfold turnP; rw [if_neg h1, if_neg h2]

set_option maxHeartbeats 2000000 in
theorem specSignalBack_b (s : ByteArray) (w : World) (hs : s.size ≤ 1048576) : Calls Tryd.prog 28 #[.string s] w (RetB (.tuple #[.string (str (tuV (byL s))), .bool (sigB (byL s))]) w) := by
  have HS := Lib.hid (fun w => specSignalValid_c s w (by omega))
  cases h1 : sigB (byL s)
  · have HV := Lib.hid (tuV_no h1)
    rw [h1] at HS
    clear h1
    by_cases h0 : 0 < s.size
    · have g1 : (0 : Int) < (s.size : Int) := by omega
      go_enter Tryd.func28, Tryd.ntmps28
      go_wp2
      go_loop [4, 5] (fun o i => o = .string ⟨#[]⟩ ∧ i = .int .i64 0) (fun _ _ => 0)
      case atStart => exact ⟨rfl, rfl⟩
      case round =>
        obtain ⟨rfl, rfl⟩ := hrel
        go_wp2_with fail
        refine (HS.out _).mono ?_
        rintro e w1 ⟨rfl, rfl⟩
        go_wp2_with fail
        refine (HS.out _).mono ?_
        rintro e w1 ⟨rfl, rfl⟩
        go_wp2
        go_ret2
        exact ⟨by rw [HV.out]; rfl, Below.refl _ _⟩
    · have g1 : ¬ (0 : Int) < (s.size : Int) := by omega
      go_enter Tryd.func28, Tryd.ntmps28
      go_wp2
      go_loop [4, 5] (fun o i => o = .string ⟨#[]⟩ ∧ i = .int .i64 0) (fun _ _ => 0)
      case atStart => exact ⟨rfl, rfl⟩
      case round =>
        obtain ⟨rfl, rfl⟩ := hrel
        go_wp2_with fail
        refine (HS.out _).mono ?_
        rintro e w1 ⟨rfl, rfl⟩
        go_wp2
        go_ret2
        exact ⟨by rw [HV.out]; rfl, Below.refl _ _⟩
  · have HV := Lib.hid (tuV_yes h1)
    have h80 := sigB_len h1
    rw [h1] at HS
    clear h1
    go_enter Tryd.func28, Tryd.ntmps28
    go_wp2
    go_loop [4, 5] (fun o i => ∃ k : Nat, k ≤ s.size ∧ i = .int .i64 k ∧ o = .string (str (((byL s).take k).map turnP))) (fun _ i => s.size - (intOf i).toNat)
    case atStart => exact ⟨0, Nat.zero_le _, rfl, rfl⟩
    case round =>
      obtain ⟨k, hk, rfl, rfl⟩ := hrel
      by_cases hlt : k < s.size
      · have hsu := turn_take hlt
        obtain ⟨b, hb⟩ : ∃ b : UInt8, s[k] = b := ⟨_, rfl⟩
        rw [hb] at hsu
        obtain ⟨acc, hacc⟩ : ∃ acc, str (((byL s).take k).map turnP) = acc := ⟨_, rfl⟩
        have za : acc.size ≤ 80 := by
          rw [← hacc, str_size, List.length_map]
          have := List.length_take_le k (byL s)
          omega
        rw [hacc]
        have Hsu := Lib.hid hsu
        have Hacc := Lib.hid hacc
        have g1 : (k : Int) < (s.size : Int) := by omega
        have z1 : (9223372036854775807 < acc.size + 1) = False := by rw [eq_iff_iff, iff_false]; omega
        clear hsu hacc
        by_cases e1 : b.toNat = 45
        · have f1 : ((b.toNat : Int) == 45) = true := beq_iff_eq.2 (by omega)
          have HT := Lib.hid (turn_minus e1)
          clear e1
          go_wp2_with fail
          refine (HS.out _).mono ?_
          rintro e w1 ⟨rfl, rfl⟩
          go_wp2
          go_round
          case rel => exact ⟨k + 1, by omega, by go_num, by rw [Hsu.out, ← str_append, Hacc.out, HT.out]; rfl⟩
          case measure => simp [intOf]; omega
        have f1 : ((b.toNat : Int) == 45) = false := beq_eq_false_iff_ne.2 (by omega)
        by_cases e2 : b.toNat = 43
        · have f2 : ((b.toNat : Int) == 43) = true := beq_iff_eq.2 (by omega)
          have HT := Lib.hid (turn_plus e2)
          clear e1 e2
          go_wp2_with fail
          refine (HS.out _).mono ?_
          rintro e w1 ⟨rfl, rfl⟩
          go_wp2
          go_round
          case rel => exact ⟨k + 1, by omega, by go_num, by rw [Hsu.out, ← str_append, Hacc.out, HT.out]; rfl⟩
          case measure => simp [intOf]; omega
        · have f2 : ((b.toNat : Int) == 43) = false := beq_eq_false_iff_ne.2 (by omega)
          have HT := Lib.hid (turn_zero e1 e2)
          clear e1 e2
          go_wp2_with fail
          refine (HS.out _).mono ?_
          rintro e w1 ⟨rfl, rfl⟩
          go_wp2
          go_round
          case rel => exact ⟨k + 1, by omega, by go_num, by rw [Hsu.out, ← str_append, Hacc.out, HT.out]; rfl⟩
          case measure => simp [intOf]; omega
      · obtain rfl : k = s.size := by omega
        rw [show (byL s).take s.size = byL s from List.take_of_length_le (by rw [byL_len]; omega)]
        go_wp2_with fail
        refine (HS.out _).mono ?_
        rintro e w1 ⟨rfl, rfl⟩
        go_wp2
        go_ret2
        exact ⟨by rw [HV.out]; rfl, Below.refl _ _⟩

end Go.Proofs.YtgnolhikphoagaaDoor
