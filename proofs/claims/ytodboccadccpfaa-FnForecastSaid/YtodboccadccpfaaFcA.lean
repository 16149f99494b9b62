/-
  ForecastValid and ForecastOpen of both.
-/
import Derived.Test.YtodboccadccpfaaFcO
import Derived.Test.YtodboccadccpfaaRng0
namespace Go.Proofs.Ytodboccadccpfaa
open Go.RowKit

set_option maxRecDepth 100000 in
theorem size_c (x : Nat) (hx : x < 4294967296) (w : World) :
    Calls Try.prog 58 #[.int .u32 x] w (RetQ (.int .i64 (Lib.popAux 32 x)) w) := by
  go_enter Try.func58, Try.ntmps58
  go_wp2_with fail
  refine (ones_c x hx w).mono ?_
  rintro e w1 ⟨rfl, n, rfl⟩
  go_wp2
  go_ret
  exact ⟨rfl, n, rfl⟩
set_option maxRecDepth 100000 in
theorem ahead_c (x d : Nat) (hx : x < 4294967296) (hd : d ≤ 30) (w : World) :
    Calls Try.prog 57 #[.int .u32 x, .int .i64 d] w fun e w' => e = .returned (.int .u32 (x % 2 ^ d : Nat)) ∧ w = w' := by
  have h1 := pow_mod hd
  have h2 := pow_small hd
  have h3 := Nat.two_pow_pos d
  have Hm := Lib.hid (show bits .and .u32 (x : Int) ((2 ^ d - 1 : Nat) : Int) = ((x % 2 ^ d : Nat) : Int) by
    rw [and32 x (2 ^ d - 1) hx (by omega), Nat.and_two_pow_sub_one_eq_mod])
  obtain ⟨q, hq⟩ : ∃ q, 2 ^ d = q := ⟨_, rfl⟩
  rw [hq] at h1 h2 h3 Hm ⊢
  have h4 : (2 ^ d : Int) % 4294967296 - 1 = ((q - 1 : Nat) : Int) := by rw [h1]; omega
  have h5 : IntKind.u32.wrap ((2 ^ d : Int) % 4294967296 - 1) = ((q - 1 : Nat) : Int) := by rw [h4]; exact wrapU _ (by omega)
  clear hq h1 h2 h3 h4
  go_enter Try.func57, Try.ntmps57
  go_wp2
  go_ret
  exact ⟨by rw [Hm.out]; rfl, rfl⟩

/-- the value of ForecastOpen -/
def opV (L : List UInt8) (d : Int) : Int := if fcB L && inB d 0 L.length then (opT L d.toNat : Int) else -1
theorem opV_yes {L : List UInt8} {d : Int} (h : fcB L = true) (h2 : inB d 0 L.length = true) : opV L d = (opT L d.toNat : Int) := by unfold opV; rw [h, h2]; rfl
theorem opV_no1 {L : List UInt8} (h : fcB L = false) (d : Int) : opV L d = -1 := by unfold opV; rw [h]; rfl
theorem opV_no2 {L : List UInt8} {d : Int} (h : inB d 0 L.length = false) : opV L d = -1 := by unfold opV; rw [h]; simp

set_option maxRecDepth 100000 in
theorem implForecastValid_q (s : ByteArray) (w : World) :
    Calls Try.prog 12 #[.string s] w (RetQ (.bool (fcB (byL s))) w) := by
  go_enter Try.func12, Try.ntmps12
  go_wp2_with fail
  refine (openDays_c s w).mono ?_
  rintro e w1 ⟨rfl, rfl⟩
  go_wp2
  go_ret
  exact ⟨rfl, 0, rfl⟩
set_option maxRecDepth 100000 in
theorem implForecastOpen_q (s : ByteArray) (d : Int) (w : World) :
    Calls Try.prog 14 #[.string s, .int .i64 d] w (RetQ (.int .i64 (opV (byL s) d)) w) := by
  go_enter Try.func14, Try.ntmps14
  go_wp2_with fail
  refine (openDays_c s w).mono ?_
  rintro e w1 ⟨rfl, rfl⟩
  cases hv : fcB (byL s)
  · have Hn := Lib.hid (opV_no1 hv d)
    clear hv
    go_wp2
    go_ret
    exact ⟨by rw [Hn.out]; rfl, 0, rfl⟩
  cases hr : inB d 0 (s.size : Int)
  · have Hn := Lib.hid (opV_no2 (L := byL s) (d := d) (by rw [byL_len]; exact hr))
    have Hr := Lib.hid hr
    clear hv hr
    go_wp2_with fail
    refine (inRange_c d 0 (s.size : Int) w).mono ?_
    rintro e w2 ⟨rfl, rfl⟩
    rw [Hr.out]
    go_wp2
    go_ret
    exact ⟨by rw [Hn.out]; rfl, 0, rfl⟩
  have hy := opV_yes hv (d := d) (by rw [byL_len]; exact hr)
  have hb := bits_lt hv
  obtain ⟨h0, h1⟩ := inB_true.1 hr
  obtain ⟨k, rfl⟩ := Int.eq_ofNat_of_zero_le h0
  have h30 : s.size ≤ 30 := by rw [← byL_len]; unfold fcB at hv; simp at hv; exact hv.2
  have hset := setV_yes hv
  have hmod : bitsV (byL s) % 2 ^ k < 4294967296 := Nat.lt_of_le_of_lt (Nat.mod_le _ _) (by omega)
  have Hpop := Lib.hid (show Lib.popAux 32 (bitsV (byL s) % 2 ^ k) = opT (byL s) k by
    rw [bitsV_take, pop_bits _ 32 (by rw [List.length_take, byL_len]; omega)]
    unfold opT
    rw [List.take_of_length_le (Nat.le_refl _)])
  rw [Int.toNat_natCast] at hy
  rw [hset]
  have Hy := Lib.hid hy
  have Hr := Lib.hid hr
  have Hmod := Lib.hid hmod
  obtain ⟨X, hX⟩ : ∃ X, bitsV (byL s) = X := ⟨_, rfl⟩
  rw [hX] at hb Hmod Hpop ⊢
  clear hy hr hset hX hmod hv
  go_wp2_with fail
  refine (inRange_c (k : Int) 0 (s.size : Int) w).mono ?_
  rintro e w2 ⟨rfl, rfl⟩
  rw [Hr.out]
  go_wp2_with fail
  refine (ahead_c X k (by omega) (by omega) w).mono ?_
  rintro e w3 ⟨rfl, rfl⟩
  go_wp2_with fail
  refine (size_c (X % 2 ^ k) Hmod.out w).mono ?_
  rintro e w4 ⟨rfl, n, rfl⟩
  go_wp2
  go_ret
  exact ⟨by rw [Hy.out, Hpop.out]; rfl, n, rfl⟩

set_option maxRecDepth 100000 in
set_option maxHeartbeats 1000000 in
theorem specForecastValid_c (s : ByteArray) (hs : s.size ≤ 2097152) (w : World) :
    Calls Try.prog 13 #[.string s] w fun e w' => e = .returned (.bool (fcB (byL s))) ∧ w = w' := by
  go_enter Try.func13, Try.ntmps13
  go_wp2
  go_loop [3] (fun i => ∃ k : Nat, k ≤ s.size ∧ i = .int .i64 k ∧ oxT (byL s) k) (fun i => s.size - (intOf i).toNat)
  case atStart => exact ⟨0, Nat.zero_le _, rfl, oxT_zero _⟩
  case round =>
    obtain ⟨k, hk, rfl, ho⟩ := hrel
    have Ho := Lib.hid ho
    clear ho
    by_cases hlt : k < s.size
    · have g1 : (k : Int) < (s.size : Int) := by omega
      have hsu := fun hx => oxT_succ Ho.out hlt hx
      have hno := fun hx => oxT_not hlt hx
      obtain ⟨b, hbb⟩ : ∃ b : UInt8, s[k] = b := ⟨_, rfl⟩
      rw [hbb] at hsu hno
      by_cases e1 : b.toNat = 111
      · have f1 : ((b.toNat : Int) != 111) = false := by simp [e1]
        have Hs := Lib.hid (hsu (by simp [isOX, e1]))
        clear hsu hno e1
        go_wp2
        go_round
        case rel => exact ⟨k + 1, by omega, by go_num, Hs.out⟩
        case measure => simp [intOf]; omega
      · have f1 : ((b.toNat : Int) != 111) = true := by simp; omega
        by_cases e2 : b.toNat = 120
        · have f2 : ((b.toNat : Int) != 120) = false := by simp [e2]
          have Hs := Lib.hid (hsu (by simp [isOX, e2]))
          clear hsu hno e1 e2
          go_wp2
          go_round
          case rel => exact ⟨k + 1, by omega, by go_num, Hs.out⟩
          case measure => simp [intOf]; omega
        · have f2 : ((b.toNat : Int) != 120) = true := by simp; omega
          have Hv := Lib.hid (hno (by simp [isOX, e1, e2]))
          clear hsu hno e1 e2
          go_wp2
          go_ret
          exact ⟨by rw [Hv.out]; rfl, rfl⟩
    · obtain rfl : k = s.size := by omega
      have Hv := Lib.hid (oxT_all Ho.out)
      by_cases g9 : s.size ≤ 30
      · have g8 : (s.size : Int) ≤ 30 := by omega
        go_wp2
        go_ret
        exact ⟨by rw [Hv.out, decide_eq_true g9]; rfl, rfl⟩
      · have g8 : ¬ (s.size : Int) ≤ 30 := by omega
        go_wp2
        go_ret
        exact ⟨by rw [Hv.out, decide_eq_false g9]; rfl, rfl⟩
theorem RetQ.of_same {v : Value} {w w' : World} {e : Ending} (h : e = .returned v ∧ w = w') : RetQ v w e w' := by
  obtain ⟨h1, rfl⟩ := h
  exact ⟨h1, 0, rfl⟩
theorem RetQ.of_drew {v : Value} {w w' : World} {e : Ending} {n : Nat} (h : RetQ v (w.drewN n) e w') : RetQ v w e w' := by
  obtain ⟨h1, m, rfl⟩ := h
  exact ⟨h1, n + m, World.drewN_drewN _ _ _⟩

end Go.Proofs.Ytodboccadccpfaa
