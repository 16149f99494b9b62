/-
  ForecastWindow and ForecastLongest of the model.
-/
import Derived.Test.YtbcgglkgdjafiaaDoorFcD
import Derived.Test.YtbcgglkgdjafiaaDoorFcS
namespace Go.Proofs.YtbcgglkgdjafiaaDoor
open Go.RowKit

theorem win_test (L : List UInt8) {n k : Nat} (h : k + n ≤ L.length) : winB L n k = ((((opT L (k + n) : Nat) : Int) - (opT L k : Int)) == (n : Int)) := by
  unfold winB
  rw [decide_eq_true h, Bool.true_and, Bool.eq_iff_iff, decide_eq_true_eq, beq_iff_eq]
  omega
theorem win_stop {L : List UInt8} {n k : Nat} (hp : ∀ e, e < k → winB L n e = false) (h : L.length < k + n) : winF L n = none :=
  winF_no fun d hd => hp d (by omega)
set_option maxHeartbeats 1000000 in
theorem specForecastWindow_c (s : ByteArray) (hs : s.size ≤ 2097152) (d : Int) (w : World) :
    Calls Tryd.prog 27 #[.string s, .int .i64 d] w fun e w' => e = .returned (.int .i64 (wiV (byL s) d)) ∧ w = w' := by
  go_enter Tryd.func27, Tryd.ntmps27
  go_wp2_with fail
  refine (specForecastValid_c s hs w).mono ?_
  rintro e w1 ⟨rfl, rfl⟩
  cases hv : fcB (byL s)
  · have Hn := Lib.hid (wiV_no1 hv d)
    clear hv
    go_wp2
    go_ret
    exact ⟨by rw [Hn.out]; rfl, rfl⟩
  cases hr : inB d 1 30
  · have Hn := Lib.hid (wiV_no2 (L := byL s) (d := d) hr)
    have Hr := Lib.hid hr
    clear hv hr
    go_wp2_with fail
    refine (l6In_c d 1 30 w).mono ?_
    rintro e w2 ⟨rfl, rfl⟩
    rw [Hr.out]
    go_wp2
    go_ret
    exact ⟨by rw [Hn.out]; rfl, rfl⟩
  have hl := fc_l30 hv
  have hy := wiV_yes hv hr
  obtain ⟨h0, h1⟩ := inB_true.1 hr
  obtain ⟨m, rfl⟩ := Int.eq_ofNat_of_zero_le (show 0 ≤ d by omega)
  rw [Int.toNat_natCast] at hy
  have Hin := Lib.hid (fun (k : Nat) (hk : k ≤ (byL s).length) => opV_in hv hk)
  have Htest := Lib.hid (fun (k : Nat) (h : k + m ≤ (byL s).length) => win_test (byL s) h)
  have Hstop := Lib.hid (fun (k : Nat) (hp : ∀ e, e < k → winB (byL s) m e = false) (h : (byL s).length < k + m) => wiN_none (win_stop hp h))
  have Hfnd := Lib.hid (fun (k : Nat) (h : winB (byL s) m k = true) (h2 : ∀ e, e < k → winB (byL s) m e = false) => wiN_some (winF_of h h2))
  have hlen := byL_len s
  rw [hlen] at hl Hin Htest Hstop
  have Hole := Lib.hid (opT_le (byL s))
  have Hr := Lib.hid hr
  have Hy := Lib.hid hy
  clear hv hr hy hlen
  go_wp2_with fail
  refine (l6In_c (m : Int) 1 30 w).mono ?_
  rintro e w2 ⟨rfl, rfl⟩
  rw [Hr.out]
  go_wp2
  go_loop [5] (fun i => ∃ k : Nat, k ≤ s.size ∧ i = .int .i64 k ∧ ∀ e, e < k → winB (byL s) m e = false) (fun i => s.size - (intOf i).toNat)
  case atStart => exact ⟨0, Nat.zero_le _, rfl, fun e he => absurd he (by omega)⟩
  case round =>
    obtain ⟨k, hk, rfl, hp⟩ := hrel
    have Hp := Lib.hid hp
    clear hp
    by_cases hlt : k + m ≤ s.size
    · have g1 : (k : Int) + (m : Int) ≤ (s.size : Int) := by omega
      have ha := Hin.out (k + m) hlt
      have hb := Hin.out k (by omega)
      have htt := Htest.out k hlt
      have hla := Hole.out (k + m)
      have hlb := Hole.out k
      have ca := specForecastOpen_c s hs ((k + m : Nat) : Int) w
      have cb := specForecastOpen_c s hs (k : Int) w
      rw [ha] at ca
      rw [hb] at cb
      obtain ⟨x, hx⟩ : ∃ x, opT (byL s) (k + m) = x := ⟨_, rfl⟩
      obtain ⟨y, hy⟩ : ∃ y, opT (byL s) k = y := ⟨_, rfl⟩
      rw [hx] at ca htt hla
      rw [hy] at cb htt hlb
      rw [Int.natCast_add] at ca
      have Ca := Lib.hid ca
      have Cb := Lib.hid cb
      have Ht := Lib.hid htt
      clear ha hb htt ca cb hx hy
      by_cases hw : ((x : Int) - (y : Int)) = (m : Int)
      · have gw : (((x : Int) - (y : Int)) == (m : Int)) = true := by simp [hw]
        have Hf := Lib.hid (Hfnd.out k (by rw [Ht.out]; exact gw) Hp.out)
        clear hw
        go_wp2_with fail
        refine Ca.out.mono ?_
        rintro e w2 ⟨rfl, rfl⟩
        go_wp2_with fail
        refine Cb.out.mono ?_
        rintro e w3 ⟨rfl, rfl⟩
        go_wp2
        go_ret
        exact ⟨by rw [Hy.out, Hf.out]; rfl, rfl⟩
      · have gw : (((x : Int) - (y : Int)) == (m : Int)) = false := by simpa using hw
        have Hf := Lib.hid (show winB (byL s) m k = false by rw [Ht.out]; exact gw)
        clear hw
        go_wp2_with fail
        refine Ca.out.mono ?_
        rintro e w2 ⟨rfl, rfl⟩
        go_wp2_with fail
        refine Cb.out.mono ?_
        rintro e w3 ⟨rfl, rfl⟩
        go_wp2
        go_round
        case rel =>
          refine ⟨k + 1, by omega, by go_num, fun e he => ?_⟩
          rcases Nat.lt_or_ge e k with h | h
          · exact Hp.out e h
          · obtain rfl : e = k := by omega
            exact Hf.out
        case measure => simp [intOf]; omega
    · have g1 : ¬ (k : Int) + (m : Int) ≤ (s.size : Int) := by omega
      have Hn := Lib.hid (Hstop.out k Hp.out (by omega))
      go_wp2
      go_ret
      exact ⟨by rw [Hy.out, Hn.out]; rfl, rfl⟩

theorem run_next {s : ByteArray} {k : Nat} (hk : k < s.size) : runT (byL s) (k + 1) = if isO s[k] then runT (byL s) k + 1 else 0 := by
  rw [runT, byL_at s k hk]; rfl
theorem fc_letter {s : ByteArray} (h : fcB (byL s) = true) {k : Nat} (hk : k < s.size) : s[k].toNat = 111 ∨ s[k].toNat = 120 := by
  unfold fcB at h
  rw [Bool.and_eq_true, List.all_eq_true] at h
  have := h.1 s[k] (List.mem_of_getElem? (byL_at s k hk))
  simpa [isOX] using this
set_option maxHeartbeats 1000000 in
theorem specForecastLongest_c (s : ByteArray) (hs : s.size ≤ 2097152) (w : World) :
    Calls Tryd.prog 24 #[.string s] w fun e w' => e = .returned (.int .i64 (loV (byL s))) ∧ w = w' := by
  go_enter Tryd.func24, Tryd.ntmps24
  go_wp2_with fail
  refine (specForecastValid_c s hs w).mono ?_
  rintro e w1 ⟨rfl, rfl⟩
  cases hv : fcB (byL s)
  · have Hn := Lib.hid (loV_no hv)
    clear hv
    go_wp2
    go_ret
    exact ⟨by rw [Hn.out]; rfl, rfl⟩
  have hl := fc_l30 hv
  have hlen := byL_len s
  have hy := loV_yes hv
  unfold lgT at hy
  rw [hlen] at hl hy
  have Hy := Lib.hid hy
  have Hlet := Lib.hid (fun (k : Nat) (hk : k < s.size) => fc_letter hv hk)
  have Hrun := Lib.hid (runT_le (byL s))
  have Hmost := Lib.hid (runT_most (byL s))
  clear hv hlen hy
  go_wp2
  go_loop [3, 4, 5] (fun a b i => ∃ k : Nat, k ≤ s.size ∧ i = .int .i64 k ∧ a = .int .i64 (mostT (byL s) k) ∧ b = .int .i64 (runT (byL s) k)) (fun _ _ i => s.size - (intOf i).toNat)
  case atStart => exact ⟨0, Nat.zero_le _, rfl, rfl, rfl⟩
  case round =>
    obtain ⟨k, hk, rfl, rfl, rfl⟩ := hrel
    by_cases hlt : k < s.size
    · have g1 : (k : Int) < (s.size : Int) := by omega
      have hrn := run_next hlt
      have hlt2 := Hlet.out k hlt
      have hr := Hrun.out k
      have hm := Hmost.out k
      have hms : mostT (byL s) (k + 1) = max (mostT (byL s) k) (runT (byL s) (k + 1)) := rfl
      obtain ⟨b, hbb⟩ : ∃ b : UInt8, s[k] = b := ⟨_, rfl⟩
      rw [hbb] at hrn hlt2
      obtain ⟨R, hR⟩ : ∃ R, runT (byL s) k = R := ⟨_, rfl⟩
      obtain ⟨M, hM⟩ : ∃ M, mostT (byL s) k = M := ⟨_, rfl⟩
      rw [hR] at hrn hr ⊢
      rw [hM] at hms hm ⊢
      rcases hlt2 with e1 | e1
      · have f1 : ((b.toNat : Int) == 120) = false := by simp; omega
        rw [if_pos (by simp [isO, e1])] at hrn
        rw [hrn] at hms
        clear hR hM e1
        by_cases hc : M < R + 1
        · have c1 : ((M : Int) < (R : Int) + 1) = True := by simp; omega
          rw [Nat.max_eq_right (by omega)] at hms
          have Hrn := Lib.hid hrn
          have Hms := Lib.hid hms
          clear hrn hms hc
          go_wp2
          go_round
          case rel => exact ⟨k + 1, by omega, by go_num, by rw [Hms.out]; go_num, by rw [Hrn.out]; go_num⟩
          case measure => simp [intOf]; omega
        · have c1 : ((M : Int) < (R : Int) + 1) = False := by simp; omega
          rw [Nat.max_eq_left (by omega)] at hms
          have Hrn := Lib.hid hrn
          have Hms := Lib.hid hms
          clear hrn hms hc
          go_wp2
          go_round
          case rel => exact ⟨k + 1, by omega, by go_num, by rw [Hms.out], by rw [Hrn.out]; go_num⟩
          case measure => simp [intOf]; omega
      · have f1 : ((b.toNat : Int) == 120) = true := by simp [e1]
        rw [if_neg (by simp [isO, e1])] at hrn
        rw [hrn, Nat.max_eq_left (by omega)] at hms
        have c1 : ((M : Int) < 0) = False := by simp
        have Hrn := Lib.hid hrn
        have Hms := Lib.hid hms
        clear hrn hms hR hM e1
        go_wp2
        go_round
        case rel => exact ⟨k + 1, by omega, by go_num, by rw [Hms.out], by rw [Hrn.out]; rfl⟩
        case measure => simp [intOf]; omega
    · obtain rfl : k = s.size := by omega
      go_wp2
      go_ret
      exact ⟨by rw [Hy.out]; rfl, rfl⟩

end Go.Proofs.YtbcgglkgdjafiaaDoor
