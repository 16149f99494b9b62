/-
  countOf: how often a byte lies in a text.
-/
import Derived.Test.YtgnolhikphoagaaDoorSgM
import Derived.Test.YtgnolhikphoagaaDoorSoS
import Derived.Lib.Hide
namespace Go.Proofs.YtgnolhikphoagaaDoor
open Go.RowKit

/-! ### countOf -/
theorem count_take (l : List UInt8) (c : UInt8) {k : Nat} (h : k < l.length) : ((l.take (k + 1)).count c : Int) = (l.take k).count c + if l[k] = c then 1 else 0 := by
  rw [List.take_succ_eq_append_getElem h, List.count_append, List.count_singleton]
  by_cases e : l[k] = c <;> simp [e]
theorem countOf_c (s : ByteArray) (c : UInt8) (w : World) (hs : s.size ≤ 1048576) :
    Calls Tryd.prog 16 #[.string s, .int .u8 c.toNat] w fun e w' => e = .returned (.int .i64 (s.data.toList.count c : Nat)) ∧ w = w' := by
  go_enter Tryd.func16, Tryd.ntmps16
  go_wp2
  go_loop [5, 6] (fun n i => ∃ k : Nat, k ≤ s.size ∧ i = .int .i64 k ∧ n = .int .i64 ((s.data.toList.take k).count c : Nat)) (fun _ i => s.size - (intOf i).toNat)
  case atStart => exact ⟨0, Nat.zero_le _, rfl, rfl⟩
  case round =>
    obtain ⟨k, hk, rfl, rfl⟩ := hrel
    have hll : s.data.toList.length = s.size := by rw [Array.length_toList]; rfl
    have hc1 : (s.data.toList.take k).count c ≤ k := Nat.le_trans List.count_le_length (List.length_take_le _ _)
    by_cases hlt : k < s.size
    · have hkl : k < s.data.toList.length := by omega
      have hsk : s[k]'hlt = s.data.toList[k] := rfl
      have ht := count_take s.data.toList c (k := k) hkl
      obtain ⟨m, hm⟩ : ∃ m, (s.data.toList.take k).count c = m := ⟨_, rfl⟩
      rw [hm] at hc1 ht ⊢
      have Hm := Lib.hid hm
      clear hm
      by_cases e : s.data.toList[k] = c
      · rw [if_pos e] at ht
        have hb : (((s[k]'hlt).toNat : Int) == (c.toNat : Int)) = true := by rw [beq_iff_eq, hsk, e]
        have Ht := Lib.hid ht
        clear ht e hsk hkl hll
        go_wp2
        go_round
        case rel => exact ⟨k + 1, by omega, by go_num, by rw [Ht.out]⟩
        case measure => simp [intOf]; omega
      · rw [if_neg e] at ht
        have hb : (((s[k]'hlt).toNat : Int) == (c.toNat : Int)) = false := by
          rw [beq_eq_false_iff_ne]
          intro h
          apply e
          apply UInt8.toNat_inj.1
          rw [← hsk]
          omega
        have Ht := Lib.hid ht
        clear ht e hsk hkl hll
        go_wp2
        go_round
        case rel => exact ⟨k + 1, by omega, by go_num, by rw [Ht.out, Int.add_zero]⟩
        case measure => simp [intOf]; omega
    · obtain rfl : k = s.size := by omega
      have e : s.data.toList.take s.size = s.data.toList := List.take_of_length_le (by omega)
      rw [e]
      clear e hll hc1
      go_wp2
      go_ret
      exact ⟨rfl, rfl⟩

end Go.Proofs.YtgnolhikphoagaaDoor
