/-
  SignalValid of the model.
-/
import Derived.Test.YtgnolhikphoagaaDoorSgV
import Derived.Test.YtgnolhikphoagaaDoorMem
import Derived.Test.YtgnolhikphoagaaDoorProg
namespace Go.Proofs.YtgnolhikphoagaaDoor
open Go.RowKit

theorem pul_ways {c : UInt8} : isPul c = true ↔ c.toNat = 45 ∨ c.toNat = 43 ∨ c.toNat = 48 := by unfold isPul; simp [or_assoc]

set_option maxHeartbeats 1000000 in
theorem specSignalValid_c (s : ByteArray) (w : World) (hs : s.size ≤ 9223372036854775807) : Calls Tryd.prog 19 #[.string s] w fun e w' => e = .returned (.bool (sigB (byL s))) ∧ w = w' := by
  go_enter Tryd.func19, Tryd.ntmps19
  go_wp2
  go_loop [3] (fun i => ∃ k : Nat, k ≤ s.size ∧ i = .int .i64 k ∧ puT (byL s) k) (fun i => s.size - (intOf i).toNat)
  case atStart => exact ⟨0, Nat.zero_le _, rfl, puT_zero _⟩
  case round =>
    obtain ⟨k, hk, rfl, ho⟩ := hrel
    have Ho := Lib.hid ho
    clear ho
    by_cases hlt : k < s.size
    · have hsu := fun hx => puT_succ Ho.out hlt hx
      have hno := fun hx => sigB_not hlt hx
      have g1 : (k : Int) < (s.size : Int) := by omega
      obtain ⟨b, hb⟩ : ∃ b : UInt8, s[k] = b := ⟨_, rfl⟩
      rw [hb] at hsu hno
      have hpw := pul_ways (c := b)
      cases hp : isPul b
      · have Hn := Lib.hid (hno hp)
        have hn3 : ¬ (b.toNat = 45 ∨ b.toNat = 43 ∨ b.toNat = 48) := fun h => by have := hpw.2 h; rw [hp] at this; cases this
        have f1 : ((b.toNat : Int) != 45) = true := bne_iff_ne.2 (by omega)
        have f2 : ((b.toNat : Int) != 43) = true := bne_iff_ne.2 (by omega)
        have f3 : ((b.toNat : Int) != 48) = true := bne_iff_ne.2 (by omega)
        clear hsu hno hp hpw hn3
        go_wp2
        go_ret
        exact ⟨by rw [Hn.out]; rfl, rfl⟩
      · have Hs := Lib.hid (hsu hp)
        have h3 := hpw.1 hp
        clear hsu hno hp hpw
        rcases h3 with h3 | h3 | h3
        · have f1 : ((b.toNat : Int) != 45) = false := bne_eq_false_iff_eq.2 (by omega)
          clear h3
          go_wp2
          go_round
          case rel => exact ⟨k + 1, by omega, by go_num, Hs.out⟩
          case measure => simp [intOf]; omega
        · have f1 : ((b.toNat : Int) != 45) = true := bne_iff_ne.2 (by omega)
          have f2 : ((b.toNat : Int) != 43) = false := bne_eq_false_iff_eq.2 (by omega)
          clear h3
          go_wp2
          go_round
          case rel => exact ⟨k + 1, by omega, by go_num, Hs.out⟩
          case measure => simp [intOf]; omega
        · have f1 : ((b.toNat : Int) != 45) = true := bne_iff_ne.2 (by omega)
          have f2 : ((b.toNat : Int) != 43) = true := bne_iff_ne.2 (by omega)
          have f3 : ((b.toNat : Int) != 48) = false := bne_eq_false_iff_eq.2 (by omega)
          clear h3
          go_wp2
          go_round
          case rel => exact ⟨k + 1, by omega, by go_num, Hs.out⟩
          case measure => simp [intOf]; omega
    · obtain rfl : k = s.size := by omega
      have hv := sigB_all Ho.out
      have Hv := Lib.hid hv
      clear hv
      by_cases h80 : s.size ≤ 80
      · have g1 : decide ((s.size : Int) ≤ 80) = true := by simp; omega
        have Hd := Lib.hid (decide_eq_true h80)
        go_wp2
        go_ret
        exact ⟨by rw [Hv.out, Hd.out]; rfl, rfl⟩
      · have g1 : decide ((s.size : Int) ≤ 80) = false := by simp; omega
        have Hd := Lib.hid (decide_eq_false h80)
        go_wp2
        go_ret
        exact ⟨by rw [Hv.out, Hd.out]; rfl, rfl⟩
theorem specSignalValid_b (s : ByteArray) (w : World) (hs : s.size ≤ 1048576) : Calls Tryd.prog 19 #[.string s] w (RetB (.bool (sigB (byL s))) w) :=
  (specSignalValid_c s w (by omega)).mono fun _ _ h => RetB.same h

end Go.Proofs.YtgnolhikphoagaaDoor
