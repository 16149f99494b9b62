/-
  SignalFar of the program.
-/
import Derived.Test.YtgnolhikphoagaaDoorVaI
import Derived.Deep.QuietTactic
import Derived.BigQuiet
namespace Go.Proofs.YtgnolhikphoagaaDoor
open Go.RowKit

set_option maxHeartbeats 2000000 in
theorem implSignalFar_b (s t : ByteArray) (w : World) (hs : s.size ≤ 1048576) (ht : t.size ≤ 1048576) : Calls Tryd.prog 29 #[.string s, .string t] w (RetB (.int .i64 (farV (byL s) (byL t))) w) := by
  have HS := Lib.hid (fun w => implSignalValid_b s w hs)
  have HT := Lib.hid (fun w => implSignalValid_b t w ht)
  cases h1 : sigB (byL s)
  · have HV := Lib.hid (farV_no (twoB_a (b := byL t) h1))
    rw [h1] at HS
    clear h1
    go_enter Tryd.func29, Tryd.ntmps29
    go_wp2_with fail
    refine (HS.out _).mono ?_
    rintro e w1 ⟨rfl, hb1⟩
    have Hb1 := Lib.hid hb1
    clear hb1
    go_wp2
    go_ret
    exact ⟨by rw [HV.out]; rfl, Hb1.out⟩
  cases h2 : sigB (byL t)
  · have HV := Lib.hid (farV_no (twoB_b (a := byL s) h2))
    rw [h1] at HS
    rw [h2] at HT
    clear h1 h2
    go_enter Tryd.func29, Tryd.ntmps29
    go_wp2_with fail
    refine (HS.out _).mono ?_
    rintro e w1 ⟨rfl, hb1⟩
    have Hb1 := Lib.hid hb1
    clear hb1
    go_wp2_with fail
    refine (HT.out _).mono ?_
    rintro e w2 ⟨rfl, hb2⟩
    have Hb2 := Lib.hid hb2
    clear hb2
    go_wp2
    go_ret
    exact ⟨by rw [HV.out]; rfl, below_step Hb1.out Hb2.out⟩
  by_cases h3 : s.size = t.size
  · have hl : (byL s).length = (byL t).length := by rw [byL_len, byL_len]; exact h3
    have HV := Lib.hid (farV_yes (twoB_mk h1 h2 hl))
    have h80 := sigB_len h1
    have g1 : ((s.size : Int) != (t.size : Int)) = false := bne_eq_false_iff_eq.2 (by omega)
    have H3 := Lib.hid h3
    rw [h1] at HS
    rw [h2] at HT
    clear h1 h2 h3 hl
    go_enter Tryd.func29, Tryd.ntmps29
    go_wp2_with fail
    refine (HS.out _).mono ?_
    rintro e w1 ⟨rfl, hb1⟩
    have Hb1 := Lib.hid hb1
    clear hb1
    go_wp2_with fail
    refine (HT.out _).mono ?_
    rintro e w2 ⟨rfl, hb2⟩
    have Hb2 := Lib.hid (below_step Hb1.out hb2)
    clear hb2
    go_wp2
    go_loopw [5, 24] (fun q i wr => ∃ k : Nat, k ≤ s.size ∧ i = .int .i64 k ∧ q = .int .i64 (farT (byL s) (byL t) k : Nat) ∧ Below w.heap.size w wr) (fun _ i _ => s.size - (intOf i).toNat)
    case atStart => exact ⟨0, Nat.zero_le _, rfl, rfl, Hb2.out⟩
    case round =>
      clear Hb1 Hb2
      obtain ⟨k, hk, rfl, rfl, hbk⟩ := hrel
      have Hbk := Lib.hid hbk
      clear hbk
      by_cases hlt : k < s.size
      · have hlt2 : k < t.size := by have := H3.out; omega
        have hsm := farT_same hlt hlt2
        have hdf := farT_diff hlt hlt2
        have hfl := farT_le (byL s) (byL t) k
        obtain ⟨x, hx⟩ : ∃ x : UInt8, s[k] = x := ⟨_, rfl⟩
        obtain ⟨y, hy⟩ : ∃ y : UInt8, t[k] = y := ⟨_, rfl⟩
        rw [hx, hy] at hsm hdf
        obtain ⟨n, hn⟩ : ∃ n, farT (byL s) (byL t) k = n := ⟨_, rfl⟩
        rw [hn] at hsm hdf hfl
        rw [hn]
        clear hn
        have g2 : (k : Int) < (s.size : Int) := by omega
        have g3 : (k : Int) < (t.size : Int) := by omega
        have g4 : (0 : Int) ≤ (k : Int) := by omega
        by_cases he : x = y
        · have Hs := Lib.hid (hsm he)
          have f1 : ((x.toNat : Int) != (y.toNat : Int)) = false := bne_eq_false_iff_eq.2 (by rw [he])
          clear hsm hdf he
          go_wp2
          go_quiet (fail)
          go_wp2
          go_roundw
          case rel => exact ⟨k + 1, by omega, by go_num, by rw [Hs.out], by first | exact below_drewN Hbk.out _ | exact Hbk.out.drew⟩
          case measure => simp [intOf]; omega
        · have Hs := Lib.hid (hdf he)
          have hne : x.toNat ≠ y.toNat := fun e => he (UInt8.toNat_inj.1 e)
          have f1 : ((x.toNat : Int) != (y.toNat : Int)) = true := bne_iff_ne.2 (by omega)
          clear hsm hdf he hne
          go_wp2
          go_quiet (fail)
          go_wp2
          go_roundw
          case rel => exact ⟨k + 1, by omega, by go_num, by rw [Hs.out]; go_num, by first | exact below_drewN Hbk.out _ | exact Hbk.out.drew⟩
          case measure => simp [intOf]; omega
      · obtain rfl : k = s.size := by omega
        go_wp2
        go_ret
        exact ⟨by rw [HV.out, byL_len]; rfl, Hbk.out⟩
  · have HV := Lib.hid (farV_no (twoB_l (a := byL s) (b := byL t) (by rw [byL_len, byL_len]; exact h3)))
    have g1 : ((s.size : Int) != (t.size : Int)) = true := bne_iff_ne.2 (by omega)
    rw [h1] at HS
    rw [h2] at HT
    clear h1 h2 h3
    go_enter Tryd.func29, Tryd.ntmps29
    go_wp2_with fail
    refine (HS.out _).mono ?_
    rintro e w1 ⟨rfl, hb1⟩
    have Hb1 := Lib.hid hb1
    clear hb1
    go_wp2_with fail
    refine (HT.out _).mono ?_
    rintro e w2 ⟨rfl, hb2⟩
    have Hb2 := Lib.hid hb2
    clear hb2
    go_wp2
    go_ret
    exact ⟨by rw [HV.out]; rfl, below_step Hb1.out Hb2.out⟩

end Go.Proofs.YtgnolhikphoagaaDoor
