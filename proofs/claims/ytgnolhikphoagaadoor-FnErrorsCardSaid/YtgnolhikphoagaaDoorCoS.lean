/-
  SignalCode of the model.
-/
import Derived.Test.YtgnolhikphoagaaDoorSgM
import Derived.Test.YtgnolhikphoagaaDoorMem
import Derived.Test.YtgnolhikphoagaaDoorProg
import Derived.Laws.Concat
import Derived.IntWalk
namespace Go.Proofs.YtgnolhikphoagaaDoor
open Go.RowKit

theorem codN_step {f n : Nat} (h : ¬ n ≤ 1) : codN (f + 1) n = codN f (n / 2) ++ [if n % 2 = 1 then 43 else 45] := by
  conv => lhs; unfold codN
  rw [if_neg h]
theorem codN_end {f n : Nat} (h : n ≤ 1) : codN f n = [] := by
  cases f with
  | zero => rfl
  | succ f => unfold codN; rw [if_pos h]
theorem pulse_of (n : Nat) : (⟨#[45, 43]⟩ : ByteArray).extract (n % 2) (n % 2 + 1) = str [if n % 2 = 1 then 43 else 45] := by
  rcases Nat.mod_two_eq_zero_or_one n with h | h <;> rw [h] <;> decide +kernel

/-- the text is one letter -/
def isOne (l : List UInt8) : Bool := match l with | [c] => isLet c | _ => false
theorem codeV_one {l : List UInt8} (h : isOne l = true) : ∃ c : UInt8, l = [c] ∧ isLet c = true ∧ codeV l = codN 5 (c.toNat - 95) := by
  match l, h with
  | [c], h =>
    refine ⟨c, rfl, h, ?_⟩
    have h2 : 97 ≤ c.toNat ∧ c.toNat ≤ 122 := by simpa [isOne, isLet] using h
    simp [codeV, h2]

theorem one_byte' (s : ByteArray) (h : s.size = 1) : ∃ c : UInt8, s = ⟨#[c]⟩ := by
  obtain ⟨⟨l⟩⟩ := s
  cases l with
  | nil => simp [ByteArray.size] at h
  | cons c t =>
    cases t with
    | nil => exact ⟨c, rfl⟩
    | cons _ _ => simp [ByteArray.size] at h

set_option maxHeartbeats 1000000 in
theorem specSignalCode_c (s : ByteArray) (w : World) (hs : s.size ≤ 9223372036854775807) : Calls Tryd.prog 13 #[.string s] w fun e w' => e = .returned (.string (str (codeV (byL s)))) ∧ w = w' := by
  by_cases h1 : s.size = 1
  · obtain ⟨c, rfl⟩ := one_byte' s h1
    have hcv : codeV (byL ⟨#[c]⟩) = if isLet c then codN 5 (c.toNat - 95) else [] := by simp [codeV, isLet, byL]
    have hc256 := c.toNat_lt
    have zc : (⟨#[c]⟩ : ByteArray).size = 1 := rfl
    clear hs h1
    have zi : (⟨#[c]⟩ : ByteArray)[0]'(by show 0 < 1; decide) = c := rfl
    by_cases hA : 97 ≤ c.toNat
    · have gA : decide ((c.toNat : Int) < 97) = false := by simp; omega
      by_cases hB : c.toNat ≤ 122
      · have gB : decide ((122 : Int) < (c.toNat : Int)) = false := by simp; omega
        have hlet : isLet c = true := by unfold isLet; simp [hA, hB]
        rw [hlet, if_pos rfl] at hcv
        have HV := Lib.hid hcv
        have hu8 : IntKind.u8.wrap ((c.toNat : Int) - 97) = (c.toNat : Int) - 97 := IntWalk.u8_in _ (by omega)
        obtain ⟨n0, hn0⟩ : ∃ n0, c.toNat = n0 + 97 := ⟨c.toNat - 97, by omega⟩
        clear hcv
        go_enter Tryd.func13, Tryd.ntmps13
        go_wp2
        go_loop [3, 4] (fun n o => ∃ (f k : Nat) (r : List UInt8), k < 2 ^ f ∧ k ≤ 27 ∧ n = .int .i64 k ∧ o = .string (str r) ∧ r.length + f ≤ 5 ∧ codN f k ++ r = codN 5 (c.toNat - 95)) (fun n _ => (intOf n).toNat)
        case atStart => exact ⟨5, n0 + 2, [], by omega, by omega, by rw [show ((n0 + 2 : Nat) : Int) = (n0 : Int) + 2 by omega], rfl, by simp, by rw [List.append_nil, hn0, show n0 + 97 - 95 = n0 + 2 by omega]⟩
        case round =>
          obtain ⟨f, k, r, hk, hk27, rfl, rfl, hrf, he⟩ := hrel
          have He := Lib.hid he
          clear he
          by_cases hlt : 1 < k
          · cases f with
            | zero => simp at hk; omega
            | succ f =>
            have g1 : (1 : Int) < (k : Int) := by omega
            have hk2 : k / 2 < 2 ^ f := by rw [Nat.pow_succ] at hk; omega
            have hst := codN_step (f := f) (n := k) (by omega)
            have Hst := Lib.hid hst
            have Hk2 := Lib.hid hk2
            have Hp := Lib.hid (pulse_of k)
            have zr : (str r).size ≤ 5 := by rw [str_size]; omega
            have g2 : (0 : Int) ≤ (k : Int) % 2 := by omega
            have g3 : (k : Int) % 2 + 1 ≤ 2 := by omega
            have g4 : (0 : Int) ≤ (k : Int) % 2 + 1 := by omega
            have g5 : (k : Int) % 2 ≤ (k : Int) % 2 + 1 := by omega
            have e1 : ((k : Int) % 2).toNat = k % 2 := by omega
            have e2 : ((k : Int) % 2 + 1).toNat = k % 2 + 1 := by omega
            have Hrf := Lib.hid hrf
            clear hst hk2 hk hrf zi hn0
            go_wp2
            go_round
            case rel => exact ⟨f, k / 2, (if k % 2 = 1 then 43 else 45) :: r, Hk2.out, by omega, by go_num, by rw [Hp.out, str_append]; rfl, by have := Hrf.out; simp; omega, by rw [← He.out, Hst.out]; simp⟩
            case measure => simp [intOf]; omega
          · have hend := codN_end (f := f) (n := k) (by omega)
            have Hend := Lib.hid hend
            clear hend hk zi hn0
            go_wp2
            go_ret
            exact ⟨by rw [HV.out, ← He.out, Hend.out]; rfl, rfl⟩
      · have gB : decide ((122 : Int) < (c.toNat : Int)) = true := by simp; omega
        have hlet : isLet c = false := by unfold isLet; simp [hA, hB]
        rw [hlet, if_neg (by simp)] at hcv
        have HV := Lib.hid hcv
        clear hcv
        go_enter Tryd.func13, Tryd.ntmps13
        go_wp2
        go_ret
        exact ⟨by rw [HV.out]; rfl, rfl⟩
    · have gA : decide ((c.toNat : Int) < 97) = true := by simp; omega
      have hlet : isLet c = false := by unfold isLet; simp [hA]
      rw [hlet, if_neg (by simp)] at hcv
      have HV := Lib.hid hcv
      clear hcv
      go_enter Tryd.func13, Tryd.ntmps13
      go_wp2
      go_ret
      exact ⟨by rw [HV.out]; rfl, rfl⟩
  · have hcv : codeV (byL s) = [] := codeV_no (by rw [byL_len]; exact h1)
    have g1 : ((s.size : Int) != 1) = true := by simp; omega
    have HV := Lib.hid hcv
    clear hcv h1
    go_enter Tryd.func13, Tryd.ntmps13
    go_wp2
    go_ret
    exact ⟨by rw [HV.out]; rfl, rfl⟩

theorem specSignalCode_b (s : ByteArray) (w : World) (hs : s.size ≤ 1048576) : Calls Tryd.prog 13 #[.string s] w (RetB (.string (str (codeV (byL s)))) w) :=
  (specSignalCode_c s w (by omega)).mono fun _ _ h => RetB.same h

end Go.Proofs.YtgnolhikphoagaaDoor
