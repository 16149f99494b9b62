/-
  ForecastDay, ForecastWindow and ForecastLongest of the program. (The table of math/bits is read: it lies as its text lays it.)
-/
import Derived.Test.YtodboccadccpfaaDoorFcS
import Derived.Lib.TrailingZeros
namespace Go.Proofs.YtodboccadccpfaaDoor
open Go.RowKit

/-- math/bits.deBruijn32tab as its text lays it -/
def Tab (w : World) : Prop := ∀ j : Nat, j < 32 → w.cell? ⟨0, j, none⟩ = some (.int .u8 ((Lib.deBruijn32tab.getD j 0 : Nat) : Int))
theorem Tab.drewN {w : World} (h : Tab w) (n : Nat) : Tab (w.drewN n) := fun j hj => h j hj
theorem Tab.lt {w : World} (h : Tab w) : 0 < w.heap.size := World.block_lt_of_cell? _ _ (h 0 (by omega))
theorem Tab.below {B : Nat} {w w' : World} (h : Tab w) (hb : Below B w w') (hB : 0 < B) : Tab w' := fun j hj => (hb.cell (p := ⟨0, j, none⟩) hB).trans (h j hj)
theorem Tab.go {w w' : World} (h : Tab w) (hb : Below w.heap.size w w') : Tab w' := h.below hb h.lt

theorem tz_key (x a : Nat) (hx : x < 4294967296) (hx0 : 0 < x) (hlow : x &&& (4294967296 - x) = a) :
    bits BinOp.and IntKind.u32 (x : Int) (-(x : Int) % 4294967296) * 125613361 % 4294967296 / 134217728 = ((a * 125613361 % 4294967296 / 134217728 : Nat) : Int) := by
  have e1 : -(x : Int) % 4294967296 = ((4294967296 - x : Nat) : Int) := by omega
  rw [e1, and32 x _ hx (by omega), hlow]
  omega
set_option maxRecDepth 100000 in
set_option maxHeartbeats 1000000 in
theorem tz_c (x : Nat) (hx0 : 0 < x) (hx : x < 4294967296) (w : World) (hT : Tab w) :
    Calls Tryd.prog 67 #[.int .u32 x] w fun e w' => e = .returned (.int .i64 (Lib.ctzFrom 32 x)) ∧ w = w' := by
  obtain ⟨hlow, hk⟩ := Lib.lowest_bit 32 x (by omega) (by omega)
  have e0 : Lib.ctz 32 x = Lib.ctzFrom 32 x := by unfold Lib.ctz; rw [if_neg (by omega)]
  rw [e0] at hlow hk
  obtain ⟨hi, htab⟩ := Lib.deBruijn32_at _ hk
  have key := tz_key x _ hx hx0 hlow
  have hcell := hT _ hi
  rw [htab] at hcell
  obtain ⟨k, hkk⟩ : ∃ k, Lib.ctzFrom 32 x = k := ⟨_, rfl⟩
  rw [hkk] at hk hcell ⊢
  obtain ⟨i, hii⟩ : ∃ i, 2 ^ Lib.ctzFrom 32 x * 125613361 % 4294967296 / 134217728 = i := ⟨_, rfl⟩
  rw [hkk] at hii key
  rw [hkk] at hi
  rw [hii] at key hi hcell
  have g0 : ((x : Int) == 0) = false := by simp; omega
  have Key := Lib.hid key
  clear hT hkk hii e0 hlow htab key
  go_enter Tryd.func67, Tryd.ntmps67
  go_wp2_with (simp only [Key.out])
  go_ret
  exact ⟨rfl, rfl⟩
set_option maxRecDepth 100000 in
theorem first_c (x : Nat) (hx0 : 0 < x) (hx : x < 4294967296) (w : World) (hT : Tab w) :
    Calls Tryd.prog 58 #[.int .u32 x] w fun e w' => e = .returned (.int .i64 (Lib.ctzFrom 32 x)) ∧ w = w' := by
  go_enter Tryd.func58, Tryd.ntmps58
  go_wp2_with fail
  refine (tz_c x hx0 hx w hT).mono ?_
  rintro e w1 ⟨rfl, rfl⟩
  go_wp2
  go_ret
  exact ⟨rfl, rfl⟩

theorem clr_bits_lt {L : List UInt8} (hL : L.length ≤ 30) (k : Nat) : bitsV (clrN L k) < 1073741824 := by
  have h1 := bitsV_lt (clrN L k)
  rw [clrN_len] at h1
  have h3 : 2 ^ L.length ≤ 2 ^ 30 := Nat.pow_le_pow_right (by omega) hL
  omega
set_option maxRecDepth 100000 in
set_option maxHeartbeats 1000000 in
theorem end_c (L : List UInt8) (hL : L.length ≤ 30) (m : Nat) (hm : m ≤ opT L L.length) (w : World) (hT : Tab w) :
    Calls Tryd.prog 39 #[.int .u32 (bitsV L : Int), .int .i64 m] w fun e w' => e = .returned (.int .i64 (dyL L m)) ∧ w = w' := by
  have HT := Lib.hid hT
  have Hz := Lib.hid (dyL_zero L)
  have H0 := Lib.hid (clrN_zero L)
  have hdl := dyL_le L
  have Hdl := Lib.hid hdl
  have hmb : m ≤ 30 := by have := opT_all L; omega
  clear hT hdl
  go_enter Tryd.func39, Tryd.ntmps39
  go_wp2
  go_loop [0, 5, 7] (fun x c i => ∃ k : Nat, k ≤ m ∧ i = .int .i64 k ∧ c = .int .i64 (dyL L k) ∧ x = .int .u32 (bitsV (clrN L k) : Int)) (fun _ _ i => m - (intOf i).toNat)
  case atStart => exact ⟨0, Nat.zero_le _, rfl, by rw [Hz.out]; rfl, by rw [H0.out]⟩
  case round =>
    obtain ⟨k, hk, rfl, rfl, rfl⟩ := hrel
    by_cases hlt : k < m
    · have g1 : (k : Int) < (m : Int) := by omega
      have hp := clrN_pos L k (by omega)
      have hx := clr_bits_lt hL k
      have hc := ctzFrom_clr L k 32 (by omega) (by omega)
      have hs := clr_step L k (by omega)
      have hd := Hdl.out (k + 1)
      obtain ⟨X, hX⟩ : ∃ X, bitsV (clrN L k) = X := ⟨_, rfl⟩
      obtain ⟨Y, hY⟩ : ∃ Y, bitsV (clrN L (k + 1)) = Y := ⟨_, rfl⟩
      rw [hX] at hp hx hc hs
      rw [hX]
      rw [hY] at hs
      have q1 : IntKind.u32.wrap ((X : Int) - 1) = ((X - 1 : Nat) : Int) := by rw [show (X : Int) - 1 = ((X - 1 : Nat) : Int) by omega]; exact wrapU _ (by omega)
      have q2 : bits .and .u32 (X : Int) ((X - 1 : Nat) : Int) = (Y : Int) := by rw [and32 X (X - 1) (by omega) (by omega), hs]
      obtain ⟨z, hz⟩ : ∃ z, Lib.ctzFrom 32 X = z := ⟨_, rfl⟩
      have Hf := Lib.hid (first_c X hp (by omega) w HT.out)
      rw [hz] at hc Hf
      have Hc := Lib.hid hc
      have HY := Lib.hid hY
      have hz30 : z ≤ 30 := by omega
      clear hp hx hc hs hX hY hz hd
      go_wp2_with fail
      refine Hf.out.mono ?_
      rintro e w1 ⟨rfl, rfl⟩
      go_wp2
      go_round
      case rel => exact ⟨k + 1, by omega, by go_num, by rw [← Hc.out]; go_num, by rw [HY.out]⟩
      case measure => simp [intOf]; omega
    · obtain rfl : k = m := by omega
      go_wp2
      go_ret
      exact ⟨rfl, rfl⟩

theorem wnd_next (x k : Nat) : wnd x (k + 1) = wnd x k &&& (wnd x k / 2) := by
  rw [wnd, Nat.shiftRight_eq_div_pow]
set_option maxRecDepth 100000 in
set_option maxHeartbeats 1000000 in
theorem implForecastDay_q (s : ByteArray) (d : Int) (w : World) (hT : Tab w) :
    Calls Tryd.prog 19 #[.string s, .int .i64 d] w (RetQ (.int .i64 (dyV (byL s) d)) w) := by
  have HT := Lib.hid hT
  clear hT
  go_enter Tryd.func19, Tryd.ntmps19
  go_wp2_with fail
  refine (openDays_c s w).mono ?_
  rintro e w1 ⟨rfl, rfl⟩
  cases hv : fcB (byL s)
  · have Hn := Lib.hid (dyV_no1 hv d)
    clear hv
    go_wp2
    go_ret
    exact ⟨by rw [Hn.out]; rfl, 0, rfl⟩
  have hb := bits_lt hv
  have hl := fc_l30 hv
  have hset := setV_yes hv
  have hpop := pop_bits (byL s) 32 (by omega)
  have Hyes := Lib.hid (fun h => dyV_yes hv (d := d) h)
  have Hno := Lib.hid (fun h => dyV_no2 (L := byL s) (d := d) h)
  have Hend := Lib.hid (fun (m : Nat) (hm : m ≤ opT (byL s) (byL s).length) (W : World) (h : Tab W) => end_c (byL s) hl m hm W h)
  have hop := opT_all (byL s)
  rw [hset]
  obtain ⟨X, hX⟩ : ∃ X, bitsV (byL s) = X := ⟨_, rfl⟩
  obtain ⟨t, ht⟩ : ∃ t, opT (byL s) (byL s).length = t := ⟨_, rfl⟩
  rw [hX] at hb hpop Hend ⊢
  rw [ht] at hpop Hyes Hno Hend hop
  have Hpop := Lib.hid hpop
  clear hset hX ht hpop hv
  go_wp2_with fail
  refine (size_c X (by omega) w).mono ?_
  rintro e w2 ⟨rfl, n, rfl⟩
  rw [Hpop.out]
  cases hr : inB d 0 (t : Int)
  · have Hn := Lib.hid (Hno.out hr)
    have Hr := Lib.hid hr
    clear hr
    go_wp2_with fail
    refine (inRange_c d 0 (t : Int) _).mono ?_
    rintro e w2 ⟨rfl, rfl⟩
    rw [Hr.out]
    go_wp2
    go_ret
    exact ⟨by rw [Hn.out]; rfl, n, rfl⟩
  have hy := Hyes.out hr
  obtain ⟨h0, h1⟩ := inB_true.1 hr
  obtain ⟨m, rfl⟩ := Int.eq_ofNat_of_zero_le h0
  rw [Int.toNat_natCast] at hy
  have Hy := Lib.hid hy
  have Hr := Lib.hid hr
  clear hy hr
  go_wp2_with fail
  refine (inRange_c (m : Int) 0 (t : Int) _).mono ?_
  rintro e w2 ⟨rfl, rfl⟩
  rw [Hr.out]
  go_wp2_with fail
  refine (Hend.out m (by omega) _ (HT.out.drewN n)).mono ?_
  rintro e w3 ⟨rfl, rfl⟩
  go_wp2
  go_ret
  exact ⟨by rw [Hy.out]; rfl, n, rfl⟩

/-- the value of ForecastWindow -/
def wiN (L : List UInt8) (n : Nat) : Int := match winF L n with | none => -1 | some d => (d : Int)
def wiV (L : List UInt8) (d : Int) : Int := if fcB L && inB d 1 30 then wiN L d.toNat else -1
theorem wiV_yes {L : List UInt8} {d : Int} (h : fcB L = true) (h2 : inB d 1 30 = true) : wiV L d = wiN L d.toNat := by unfold wiV; rw [h, h2]; rfl
theorem wiV_no1 {L : List UInt8} (h : fcB L = false) (d : Int) : wiV L d = -1 := by unfold wiV; rw [h]; rfl
theorem wiV_no2 {L : List UInt8} {d : Int} (h : inB d 1 30 = false) : wiV L d = -1 := by unfold wiV; rw [h]; simp
theorem wiN_some {L : List UInt8} {n d : Nat} (h : winF L n = some d) : wiN L n = (d : Int) := by unfold wiN; rw [h]
theorem wiN_none {L : List UInt8} {n : Nat} (h : winF L n = none) : wiN L n = -1 := by unfold wiN; rw [h]
/-- the value of ForecastLongest -/
def loV (L : List UInt8) : Int := if fcB L then (lgT L : Int) else -1
theorem loV_yes {L : List UInt8} (h : fcB L = true) : loV L = (lgT L : Int) := by unfold loV; rw [if_pos h]
theorem loV_no {L : List UInt8} (h : fcB L = false) : loV L = -1 := by unfold loV; rw [h]; rfl
theorem lg_more {L : List UInt8} (h : fcB L = true) {k : Nat} (hk : k < lgT L) : 0 ≤ wiV L ((k : Int) + 1) := by
  have h1 := lgT_le L
  have h2 := fc_l30 h
  have h3 := (lgT_win L (k + 1) (by omega)).1 (by omega)
  rw [show (k : Int) + 1 = ((k + 1 : Nat) : Int) by omega, wiV_yes h (inB_true.2 (by omega)), Int.toNat_natCast]
  cases hw : winF L (k + 1) with
  | none => rw [hw] at h3; cases h3
  | some d => rw [wiN_some hw]; omega
theorem lg_end {L : List UInt8} (h : fcB L = true) : wiV L ((lgT L : Int) + 1) = -1 := by
  cases hr : inB ((lgT L : Int) + 1) 1 30 with
  | false => exact wiV_no2 hr
  | true =>
    have h3 := lgT_win L (lgT L + 1) (by omega)
    rw [wiV_yes h hr, show ((lgT L : Int) + 1).toNat = lgT L + 1 by omega]
    cases hw : winF L (lgT L + 1) with
    | none => exact wiN_none hw
    | some d => rw [hw] at h3; have := h3.2 rfl; omega
end Go.Proofs.YtodboccadccpfaaDoor
