/-
  ForecastValid and ForecastOpen of both.
-/
import Derived.Test.YtodboccadccpfaaDoorFcO
import Derived.Test.YtodboccadccpfaaDoorRng0
namespace Go.Proofs.YtodboccadccpfaaDoor
open Go.RowKit

set_option maxRecDepth 100000 in
theorem size_c (x : Nat) (hx : x < 4294967296) (w : World) :
    Calls Tryd.prog 36 #[.int .u32 x] w (RetQ (.int .i64 (Lib.popAux 32 x)) w) := by
  go_enter Tryd.func36, Tryd.ntmps36
  go_wp2_with fail
  refine (ones_c x hx w).mono ?_
  rintro e w1 ⟨rfl, n, rfl⟩
  go_wp2
  go_ret
  exact ⟨rfl, n, rfl⟩
set_option maxRecDepth 100000 in
theorem ahead_c (x d : Nat) (hx : x < 4294967296) (hd : d ≤ 30) (w : World) :
    Calls Tryd.prog 35 #[.int .u32 x, .int .i64 d] w fun e w' => e = .returned (.int .u32 (x % 2 ^ d : Nat)) ∧ w = w' := by
  have h1 := pow_mod hd
  have h2 := pow_small hd
  have h3 := Nat.two_pow_pos d
  have Hm := Lib.hid (show bits .and .u32 (x : Int) ((2 ^ d - 1 : Nat) : Int) = ((x % 2 ^ d : Nat) : Int) by
    rw [and32 x (2 ^ d - 1) hx (by omega), Nat.and_two_pow_sub_one_eq_mod])
  obtain ⟨q, hq⟩ : ∃ q, 2 ^ d = q := ⟨_, rfl⟩
  rw [hq] at h1 h2 h3 Hm ⊢
  have h4 : (2 ^ d : Int) % 4294967296 - 1 = ((q - 1 : Nat) : Int) := by rw [h1]; omega
  have h5 : IntKind.u32.wrap ((2 ^ d : Int) % 4294967296 - 1) = ((q - 1 : Nat) : Int) := by rw [h4]; exact wrapU _ (by omega)
  clear hq h1 h2 h3 h4
  go_enter Tryd.func35, Tryd.ntmps35
  go_wp2
  go_ret
  exact ⟨by rw [Hm.out]; rfl, rfl⟩

/-- the value of ForecastOpen -/
def opV (L : List UInt8) (d : Int) : Int := if fcB L && inB d 0 L.length then (opT L d.toNat : Int) else -1
theorem opV_yes {L : List UInt8} {d : Int} (h : fcB L = true) (h2 : inB d 0 L.length = true) : opV L d = (opT L d.toNat : Int) := by unfold opV; rw [h, h2]; rfl
theorem opV_no1 {L : List UInt8} (h : fcB L = false) (d : Int) : opV L d = -1 := by unfold opV; rw [h]; rfl
theorem opV_no2 {L : List UInt8} {d : Int} (h : inB d 0 L.length = false) : opV L d = -1 := by unfold opV; rw [h]; simp

set_option maxRecDepth 100000 in
theorem implForecastOpen_q (s : ByteArray) (d : Int) (w : World) :
    Calls Tryd.prog 12 #[.string s, .int .i64 d] w (RetQ (.int .i64 (opV (byL s) d)) w) := by
  go_enter Tryd.func12, Tryd.ntmps12
  go_wp2_with fail
  refine (openDays_c s w).mono ?_
  rintro e w1 ⟨rfl, rfl⟩
  cases hv : fcB (byL s)
  · have Hn := Lib.hid (opV_no1 hv d)
    clear hv
    go_wp2
    go_ret
    exact ⟨by rw [Hn.out]; rfl, 0, rfl⟩
  cases hr : inB d 0 (s.size : Int)
  · have Hn := Lib.hid (opV_no2 (L := byL s) (d := d) (by rw [byL_len]; exact hr))
    have Hr := Lib.hid hr
    clear hv hr
    go_wp2_with fail
    refine (inRange_c d 0 (s.size : Int) w).mono ?_
    rintro e w2 ⟨rfl, rfl⟩
    rw [Hr.out]
    go_wp2
    go_ret
    exact ⟨by rw [Hn.out]; rfl, 0, rfl⟩
  have hy := opV_yes hv (d := d) (by rw [byL_len]; exact hr)
  have hb := bits_lt hv
  obtain ⟨h0, h1⟩ := inB_true.1 hr
  obtain ⟨k, rfl⟩ := Int.eq_ofNat_of_zero_le h0
  have h30 : s.size ≤ 30 := by rw [← byL_len]; unfold fcB at hv; simp at hv; exact hv.2
  have hset := setV_yes hv
  have hmod : bitsV (byL s) % 2 ^ k < 4294967296 := Nat.lt_of_le_of_lt (Nat.mod_le _ _) (by omega)
  have Hpop := Lib.hid (show Lib.popAux 32 (bitsV (byL s) % 2 ^ k) = opT (byL s) k by
    rw [bitsV_take, pop_bits _ 32 (by rw [List.length_take, byL_len]; omega)]
    unfold opT
    rw [List.take_of_length_le (Nat.le_refl _)])
  rw [Int.toNat_natCast] at hy
  rw [hset]
  have Hy := Lib.hid hy
  have Hr := Lib.hid hr
  have Hmod := Lib.hid hmod
  obtain ⟨X, hX⟩ : ∃ X, bitsV (byL s) = X := ⟨_, rfl⟩
  rw [hX] at hb Hmod Hpop ⊢
  clear hy hr hset hX hmod hv
  go_wp2_with fail
  refine (inRange_c (k : Int) 0 (s.size : Int) w).mono ?_
  rintro e w2 ⟨rfl, rfl⟩
  rw [Hr.out]
  go_wp2_with fail
  refine (ahead_c X k (by omega) (by omega) w).mono ?_
  rintro e w3 ⟨rfl, rfl⟩
  go_wp2_with fail
  refine (size_c (X % 2 ^ k) Hmod.out w).mono ?_
  rintro e w4 ⟨rfl, n, rfl⟩
  go_wp2
  go_ret
  exact ⟨by rw [Hy.out, Hpop.out]; rfl, n, rfl⟩

set_option maxRecDepth 100000 in
set_option maxHeartbeats 1000000 in
theorem specForecastValid_c (s : ByteArray) (hs : s.size ≤ 2097152) (w : World) :
    Calls Tryd.prog 56 #[.string s] w fun e w' => e = .returned (.bool (fcB (byL s))) ∧ w = w' := by
  go_enter Tryd.func56, Tryd.ntmps56
  go_wp2
  go_loop [3] (fun i => ∃ k : Nat, k ≤ s.size ∧ i = .int .i64 k ∧ oxT (byL s) k) (fun i => s.size - (intOf i).toNat)
  case atStart => exact ⟨0, Nat.zero_le _, rfl, oxT_zero _⟩
  case round =>
    obtain ⟨k, hk, rfl, ho⟩ := hrel
    have Ho := Lib.hid ho
    clear ho
    by_cases hlt : k < s.size
    · have g1 : (k : Int) < (s.size : Int) := by omega
      have hsu := fun hx => oxT_succ Ho.out hlt hx
      have hno := fun hx => oxT_not hlt hx
      obtain ⟨b, hbb⟩ : ∃ b : UInt8, s[k] = b := ⟨_, rfl⟩
      rw [hbb] at hsu hno
      by_cases e1 : b.toNat = 111
      · have f1 : ((b.toNat : Int) != 111) = false := by simp [e1]
        have Hs := Lib.hid (hsu (by simp [isOX, e1]))
        clear hsu hno e1
        go_wp2
        go_round
        case rel => exact ⟨k + 1, by omega, by go_num, Hs.out⟩
        case measure => simp [intOf]; omega
      · have f1 : ((b.toNat : Int) != 111) = true := by simp; omega
        by_cases e2 : b.toNat = 120
        · have f2 : ((b.toNat : Int) != 120) = false := by simp [e2]
          have Hs := Lib.hid (hsu (by simp [isOX, e2]))
          clear hsu hno e1 e2
          go_wp2
          go_round
          case rel => exact ⟨k + 1, by omega, by go_num, Hs.out⟩
          case measure => simp [intOf]; omega
        · have f2 : ((b.toNat : Int) != 120) = true := by simp; omega
          have Hv := Lib.hid (hno (by simp [isOX, e1, e2]))
          clear hsu hno e1 e2
          go_wp2
          go_ret
          exact ⟨by rw [Hv.out]; rfl, rfl⟩
    · obtain rfl : k = s.size := by omega
      have Hv := Lib.hid (oxT_all Ho.out)
      by_cases g9 : s.size ≤ 30
      · have g8 : (s.size : Int) ≤ 30 := by omega
        go_wp2
        go_ret
        exact ⟨by rw [Hv.out, decide_eq_true g9]; rfl, rfl⟩
      · have g8 : ¬ (s.size : Int) ≤ 30 := by omega
        go_wp2
        go_ret
        exact ⟨by rw [Hv.out, decide_eq_false g9]; rfl, rfl⟩
set_option maxRecDepth 100000 in
set_option maxHeartbeats 1000000 in
theorem specForecastOpen_c (s : ByteArray) (hs : s.size ≤ 2097152) (d : Int) (w : World) :
    Calls Tryd.prog 57 #[.string s, .int .i64 d] w fun e w' => e = .returned (.int .i64 (opV (byL s) d)) ∧ w = w' := by
  go_enter Tryd.func57, Tryd.ntmps57
  go_wp2_with fail
  refine (specForecastValid_c s hs w).mono ?_
  rintro e w1 ⟨rfl, rfl⟩
  cases hv : fcB (byL s)
  · have Hn := Lib.hid (opV_no1 hv d)
    clear hv
    go_wp2
    go_ret
    exact ⟨by rw [Hn.out]; rfl, rfl⟩
  cases hr : inB d 0 (s.size : Int)
  · have Hn := Lib.hid (opV_no2 (L := byL s) (d := d) (by rw [byL_len]; exact hr))
    have Hr := Lib.hid hr
    clear hv hr
    go_wp2_with fail
    refine (l6In_c d 0 (s.size : Int) _).mono ?_
    rintro e w2 ⟨rfl, rfl⟩
    rw [Hr.out]
    go_wp2
    go_ret
    exact ⟨by rw [Hn.out]; rfl, rfl⟩
  have hy := opV_yes hv (d := d) (by rw [byL_len]; exact hr)
  obtain ⟨h0, h1⟩ := inB_true.1 hr
  obtain ⟨m, rfl⟩ := Int.eq_ofNat_of_zero_le h0
  have h30 : s.size ≤ 30 := by rw [← byL_len]; unfold fcB at hv; simp at hv; exact hv.2
  rw [Int.toNat_natCast] at hy
  have Hy := Lib.hid hy
  have Hr := Lib.hid hr
  clear hy hr hv
  go_wp2_with fail
  refine (l6In_c (m : Int) 0 (s.size : Int) _).mono ?_
  rintro e w2 ⟨rfl, rfl⟩
  rw [Hr.out]
  go_wp2
  go_loop [5, 6] (fun c i => ∃ k : Nat, k ≤ m ∧ i = .int .i64 k ∧ c = .int .i64 (opT (byL s) k)) (fun _ i => m - (intOf i).toNat)
  case atStart => exact ⟨0, Nat.zero_le _, rfl, by rw [opT_zero]; rfl⟩
  case round =>
    obtain ⟨k, hk, rfl, rfl⟩ := hrel
    by_cases hlt : k < m
    · have g1 : (k : Int) < (m : Int) := by omega
      have g2 : k < s.size := by omega
      have hsu := opT_succ (byL s) k (by rw [byL_len]; omega)
      have hle := opT_le (byL s) k
      have e0 : (byL s)[k]'(by rw [byL_len]; omega) = s[k] := by have := byL_at s k g2; rw [List.getElem?_eq_getElem (by rw [byL_len]; omega)] at this; exact Option.some.inj this
      rw [e0] at hsu
      obtain ⟨b, hbb⟩ : ∃ b : UInt8, s[k] = b := ⟨_, rfl⟩
      rw [hbb] at hsu
      obtain ⟨c, hc⟩ : ∃ c, opT (byL s) k = c := ⟨_, rfl⟩
      rw [hc] at hsu hle ⊢
      by_cases e1 : b.toNat = 111
      · have f1 : ((b.toNat : Int) == 111) = true := by simp [e1]
        rw [if_pos (by simp [isO, e1])] at hsu
        have Hs := Lib.hid hsu
        clear hsu e1 hc e0
        go_wp2
        go_round
        case rel => exact ⟨k + 1, by omega, by go_num, by rw [Hs.out]; go_num⟩
        case measure => simp [intOf]; omega
      · have f1 : ((b.toNat : Int) == 111) = false := by simp; omega
        rw [if_neg (by simp [isO, e1])] at hsu
        have Hs := Lib.hid hsu
        clear hsu e1 hc e0
        go_wp2
        go_round
        case rel => exact ⟨k + 1, by omega, by go_num, by rw [Hs.out]; rfl⟩
        case measure => simp [intOf]; omega
    · obtain rfl : k = m := by omega
      go_wp2
      go_ret
      exact ⟨by rw [Hy.out]; rfl, rfl⟩
theorem RetQ.of_same {v : Value} {w w' : World} {e : Ending} (h : e = .returned v ∧ w = w') : RetQ v w e w' := by
  obtain ⟨h1, rfl⟩ := h
  exact ⟨h1, 0, rfl⟩
theorem RetQ.of_drew {v : Value} {w w' : World} {e : Ending} {n : Nat} (h : RetQ v (w.drewN n) e w') : RetQ v w e w' := by
  obtain ⟨h1, m, rfl⟩ := h
  exact ⟨h1, n + m, World.drewN_drewN _ _ _⟩

end Go.Proofs.YtodboccadccpfaaDoor
