/-
  openDays of the program: the open days of a forecast as a set.
-/
import Derived.Test.YtodboccadccpfaaDoorFcI
import Derived.Lib.Hide
namespace Go.Proofs.YtodboccadccpfaaDoor
open Go.RowKit

/-- the bytes of a string -/
def byL (s : ByteArray) : List UInt8 := s.data.toList
theorem byL_len (s : ByteArray) : (byL s).length = s.size := Array.length_toList
theorem byL_at (s : ByteArray) (k : Nat) (h : k < s.size) : (byL s)[k]? = some s[k] := by
  unfold byL
  rw [List.getElem?_eq_getElem (by rw [Array.length_toList]; exact h)]
  rfl
theorem byL_take (s : ByteArray) (k : Nat) (h : k < s.size) : (byL s).take (k + 1) = (byL s).take k ++ [s[k]] := by
  unfold byL
  rw [List.take_succ_eq_append_getElem (by rw [Array.length_toList]; exact h)]
  rfl
/-- the first k letters are those of a forecast -/
def oxT (L : List UInt8) (k : Nat) : Prop := (L.take k).all isOX = true
theorem oxT_zero (L : List UInt8) : oxT L 0 := by simp [oxT]
theorem oxT_succ {s : ByteArray} {k : Nat} (h : oxT (byL s) k) (hk : k < s.size) (hx : isOX s[k] = true) : oxT (byL s) (k + 1) := by
  unfold oxT at *
  rw [byL_take s k hk, List.all_append, h]
  simp [hx]
theorem oxT_not {s : ByteArray} {k : Nat} (hk : k < s.size) (hx : isOX s[k] = false) : fcB (byL s) = false := by
  have h : (byL s).all isOX = false := by
    rw [Bool.eq_false_iff]
    intro h2
    rw [List.all_eq_true] at h2
    have h3 := h2 s[k] (List.mem_of_getElem? (byL_at s k hk))
    rw [hx] at h3
    cases h3
  unfold fcB
  rw [h]
  rfl
theorem oxT_all {s : ByteArray} (h : oxT (byL s) s.size) : fcB (byL s) = decide (s.size ≤ 30) := by
  unfold oxT at h
  rw [List.take_of_length_le (by rw [byL_len]; omega)] at h
  unfold fcB
  rw [h, byL_len]
  rfl
theorem bits_next {s : ByteArray} {k : Nat} (hk : k < s.size) : bitsV ((byL s).take (k + 1)) = bitsV ((byL s).take k) + (if isO s[k] then 2 ^ k else 0) := by
  rw [byL_take s k hk, bitsV_snoc, List.length_take, byL_len, Nat.min_eq_left (by omega)]
theorem bitsT_lt (L : List UInt8) (k : Nat) : bitsV (L.take k) < 2 ^ k :=
  Nat.lt_of_lt_of_le (bitsV_lt _) (Nat.pow_le_pow_right (by omega) (List.length_take_le _ _))
theorem or_next (x k : Nat) (h : x < 2 ^ k) : x ||| 2 ^ k = x + 2 ^ k := by
  have := Nat.two_pow_add_eq_or_of_lt h 1
  rw [Nat.mul_one] at this
  rw [Nat.or_comm, ← this, Nat.add_comm]

/-- the set that openDays answers -/
def setV (L : List UInt8) : Nat := if fcB L then bitsV L else 0
theorem setV_yes {L : List UInt8} (h : fcB L = true) : setV L = bitsV L := by unfold setV; rw [if_pos h]
theorem setV_no {L : List UInt8} (h : fcB L = false) : setV L = 0 := by unfold setV; rw [h]; rfl
theorem bits_lt {L : List UInt8} (h : fcB L = true) : bitsV L < 1073741824 := by
  have h1 := bitsV_lt L
  have h2 : L.length ≤ 30 := by unfold fcB at h; simp at h; exact h.2
  have h3 : 2 ^ L.length ≤ 2 ^ 30 := Nat.pow_le_pow_right (by omega) h2
  omega
theorem pow_small {k : Nat} (h : k ≤ 30) : 2 ^ k < 4294967296 := by
  have : 2 ^ k ≤ 2 ^ 30 := Nat.pow_le_pow_right (by omega) h
  omega
theorem pow_mod {k : Nat} (h : k ≤ 30) : (2 : Int) ^ k % 4294967296 = ((2 ^ k : Nat) : Int) := by
  have h1 := pow_small h
  have h2 : (2 : Int) ^ k = ((2 ^ k : Nat) : Int) := by simp
  rw [h2]
  generalize (2 ^ k : Nat) = n at h1 ⊢
  omega

set_option maxRecDepth 100000 in
set_option maxHeartbeats 1000000 in
theorem openDays_c (s : ByteArray) (w : World) :
    Calls Tryd.prog 33 #[.string s] w fun e w' => e = .returned (.tuple #[.int .u32 (setV (byL s) : Int), .bool (fcB (byL s))]) ∧ w = w' := by
  by_cases hlen : 30 < s.size
  · have hv : fcB (byL s) = false := by unfold fcB; rw [byL_len, decide_eq_false (by omega)]; simp
    have Hv := Lib.hid (And.intro hv (setV_no hv))
    have g0 : (30 : Int) < (s.size : Int) := by omega
    clear hv
    go_enter Tryd.func33, Tryd.ntmps33
    go_wp2
    go_ret2
    exact ⟨by rw [Hv.out.1, Hv.out.2]; rfl, rfl⟩
  have g0 : ¬ (30 : Int) < (s.size : Int) := by omega
  have g9 : s.size ≤ 30 := by omega
  clear hlen
  go_enter Tryd.func33, Tryd.ntmps33
  go_wp2
  go_loop [4, 11] (fun x i => ∃ k : Nat, k ≤ s.size ∧ i = .int .i64 k ∧ x = .int .u32 (bitsV ((byL s).take k) : Int) ∧ oxT (byL s) k) (fun _ i => s.size - (intOf i).toNat)
  case atStart => exact ⟨0, Nat.zero_le _, rfl, by simp [bitsV], oxT_zero _⟩
  case round =>
    obtain ⟨k, hk, rfl, rfl, ho⟩ := hrel
    have Ho := Lib.hid ho
    clear ho
    by_cases hlt : k < s.size
    · have g1 : (k : Int) < (s.size : Int) := by omega
      have hbn := bits_next hlt
      have hsu := fun hx => oxT_succ Ho.out hlt hx
      have hno := fun hx => oxT_not hlt hx
      have hb := bitsT_lt (byL s) k
      have hp := pow_small (k := k) (by omega)
      have hor := or_next _ _ hb
      have hpm := pow_mod (k := k) (by omega)
      obtain ⟨X, hX⟩ : ∃ X, bitsV ((byL s).take k) = X := ⟨_, rfl⟩
      rw [hX] at hbn hb hor
      have hor2 : bits .or .u32 (X : Int) (2 ^ k % 4294967296) = ((X + 2 ^ k : Nat) : Int) := by rw [hpm, or32 X (2 ^ k) (by omega) (by omega), hor]
      rw [hX]
      obtain ⟨b, hbb⟩ : ∃ b : UInt8, s[k] = b := ⟨_, rfl⟩
      rw [hbb] at hbn hsu hno
      by_cases e1 : b.toNat = 111
      · have f1 : ((b.toNat : Int) == 111) = true := by simp [e1]
        have hO : isO b = true := by simp [isO, e1]
        have hOX : isOX b = true := by simp [isOX, e1]
        rw [hO, if_pos rfl] at hbn
        have Hn := Lib.hid hbn
        have Hs := Lib.hid (hsu hOX)
        clear hbn hsu hno hb hp hor hpm hX hO hOX e1
        go_wp2
        go_round
        case rel => exact ⟨k + 1, by omega, by go_num, by rw [Hn.out]; simp, Hs.out⟩
        case measure => simp [intOf]; omega
      · have f1 : ((b.toNat : Int) == 111) = false := by simp; omega
        have hO : isO b = false := by simp [isO, e1]
        rw [hO, if_neg (by simp), Nat.add_zero] at hbn
        have Hn := Lib.hid hbn
        by_cases e2 : b.toNat = 120
        · have f2 : ((b.toNat : Int) == 120) = true := by simp [e2]
          have hOX : isOX b = true := by simp [isOX, e2]
          have Hs := Lib.hid (hsu hOX)
          clear hbn hsu hno hb hp hor hpm hX hO hOX e1 e2
          go_wp2
          go_round
          case rel => exact ⟨k + 1, by omega, by go_num, by rw [Hn.out]; simp, Hs.out⟩
          case measure => simp [intOf]; omega
        · have f2 : ((b.toNat : Int) == 120) = false := by simp; omega
          have hOX : isOX b = false := by simp [isOX, e1, e2]
          have hv := hno hOX
          have Hv := Lib.hid (And.intro hv (setV_no hv))
          clear hbn hsu hno hb hp hor hpm hX hO hOX e1 e2 hv
          go_wp2
          go_ret2
          exact ⟨by rw [Hv.out.1, Hv.out.2]; rfl, rfl⟩
    · obtain rfl : k = s.size := by omega
      have hv := oxT_all Ho.out
      rw [decide_eq_true g9] at hv
      have Hv := Lib.hid (And.intro hv (setV_yes hv))
      rw [show (byL s).take s.size = byL s from List.take_of_length_le (by rw [byL_len]; omega)]
      clear hv
      go_wp2
      go_ret2
      exact ⟨by rw [Hv.out.1, Hv.out.2]; rfl, rfl⟩

end Go.Proofs.YtodboccadccpfaaDoor
