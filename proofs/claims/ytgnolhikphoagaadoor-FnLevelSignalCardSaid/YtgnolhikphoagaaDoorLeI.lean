/-
  SignalLevel of the program.
-/
import Derived.Test.YtgnolhikphoagaaDoorDrI
import Derived.Test.YtgnolhikphoagaaDoorSgZ
import Derived.Laws.Concat
namespace Go.Proofs.YtgnolhikphoagaaDoor
open Go.RowKit

theorem repeat_c (c : UInt8) (d : Int) (h0 : 0 ≤ d) (h1 : d ≤ 1000) (w : World) : Calls Tryd.prog 58 #[.string ⟨#[c]⟩, .int .i64 d] w fun e w' => e = .returned (.string (str (List.replicate d.toNat c))) ∧ Below w.heap.size w w' := by
  obtain ⟨n, rfl⟩ := Int.eq_ofNat_of_zero_le h0
  have h := Tryd.strings_Repeat ⟨#[c]⟩ n w (by omega) (by show 1 * n ≤ _; omega)
  have e : Lib.repeatL (⟨#[c]⟩ : ByteArray).data.toList n = List.replicate n c := rep_L c n
  rw [e] at h
  exact h

set_option maxHeartbeats 2000000 in
theorem implSignalLevel_b (s : ByteArray) (w : World) (hs : s.size ≤ 1048576) : Calls Tryd.prog 38 #[.string s] w (RetB (.tuple #[.string (str (levR (byL s))), .bool (levB (byL s))]) w) := by
  have HS := Lib.hid (fun w => implSignalValid_b s w hs)
  cases h1 : sigB (byL s)
  · have hl : levB (byL s) = false := by unfold levB; rw [h1]; rfl
    have HV := Lib.hid (And.intro hl (levR_no hl))
    rw [h1] at HS
    clear h1 hl
    go_enter Tryd.func38, Tryd.ntmps38
    go_wp2_with fail
    refine (HS.out _).mono ?_
    rintro e w1 ⟨rfl, hb1⟩
    have Hb1 := Lib.hid hb1
    clear hb1
    go_wp2
    go_ret2
    exact ⟨by rw [HV.out.1, HV.out.2]; rfl, Hb1.out⟩
  have h80 := sigB_len h1
  have hdl := driV_le (byL s)
  rw [byL_len] at hdl
  have hD := fun w => driftAtEnd_c s w hs
  by_cases h0 : driV (byL s) = 0
  · have hv := levV_same h0
    have hl : levB (byL s) = true := by unfold levB; rw [hv, h1]; rfl
    have hr : levR (byL s) = byL s := by rw [levR_yes hl, hv]
    have HV := Lib.hid (And.intro hl hr)
    rw [h0] at hD
    rw [h1] at HS
    have HD := Lib.hid hD
    clear h1 hl hr hv h0 hD hdl
    go_enter Tryd.func38, Tryd.ntmps38
    go_wp2_with fail
    refine (HS.out _).mono ?_
    rintro e w1 ⟨rfl, hb1⟩
    have Hb1 := Lib.hid hb1
    clear hb1
    go_wp2_with fail
    refine (HD.out _).mono ?_
    rintro e w2 ⟨rfl, rfl⟩
    go_wp2
    go_ret2
    exact ⟨by rw [HV.out.1, HV.out.2, str_by]; rfl, Hb1.out⟩
  · have hv := levV_more h0
    have hlv : levB (byL s) = sigB (levV (byL s)) := by unfold levB; rw [h1]; rfl
    obtain ⟨d, hd⟩ : ∃ d, driV (byL s) = d := ⟨_, rfl⟩
    rw [hd] at hv hD h0 hdl
    have HD := Lib.hid hD
    have HLv := Lib.hid hlv
    rw [h1] at HS
    obtain ⟨R1, hR1⟩ : ∃ R, str (List.replicate d.toNat 45) = R := ⟨_, rfl⟩
    obtain ⟨R2, hR2⟩ : ∃ R, str (List.replicate (-d).toNat 43) = R := ⟨_, rfl⟩
    have z1 : R1.size ≤ 80 := by rw [← hR1, str_size, List.length_replicate]; omega
    have z2 : R2.size ≤ 80 := by rw [← hR2, str_size, List.length_replicate]; omega
    have hlev : s ++ ⟨#[48]⟩ ++ R1 ++ R2 = str (levV (byL s)) := by
      rw [hv, ← hR1, ← hR2, ← str_append, ← str_append, ← str_append, str_by]
      rfl
    have hVs : (s ++ ⟨#[48]⟩ ++ R1 ++ R2).size ≤ 1048576 := by
      rw [ByteArray.size_append, ByteArray.size_append, ByteArray.size_append]
      show s.size + 1 + R1.size + R2.size ≤ _
      omega
    have hSV := fun w => implSignalValid_b (s ++ ⟨#[48]⟩ ++ R1 ++ R2) w hVs
    rw [show byL (s ++ ⟨#[48]⟩ ++ R1 ++ R2) = levV (byL s) by rw [hlev, by_str]] at hSV
    have HSV := Lib.hid hSV
    have HVV := Lib.hid hlev
    have y1 : (9223372036854775807 < s.size + 1) = False := by rw [eq_iff_iff, iff_false]; omega
    have y2 : (9223372036854775807 < s.size + 1 + R1.size) = False := by rw [eq_iff_iff, iff_false]; omega
    have y3 : (9223372036854775807 < s.size + 1 + R1.size + R2.size) = False := by rw [eq_iff_iff, iff_false]; omega
    have f0 : (d == 0) = false := beq_eq_false_iff_ne.2 h0
    have c1 : ∀ w, Calls Tryd.prog 58 #[.string ⟨#[45]⟩, .int .i64 (max d 0)] w fun e w' => e = .returned (.string R1) ∧ Below w.heap.size w w' := by
      intro w
      rw [← hR1]
      have := repeat_c 45 (max d 0) (by omega) (by omega) w
      rwa [show (max d 0).toNat = d.toNat by omega] at this
    have c2 : ∀ w, Calls Tryd.prog 58 #[.string ⟨#[43]⟩, .int .i64 (max (-d) 0)] w fun e w' => e = .returned (.string R2) ∧ Below w.heap.size w w' := by
      intro w
      rw [← hR2]
      have := repeat_c 43 (max (-d) 0) (by omega) (by omega) w
      rwa [show (max (-d) 0).toNat = (-d).toNat by omega] at this
    have d0 : -80 ≤ d := by omega
    have d1 : d ≤ 80 := by omega
    have C1 := Lib.hid c1
    have C2 := Lib.hid c2
    clear c1 c2 hlev hVs hSV hR1 hR2 hv hd hlv hD h1 hdl h0
    cases hsv : sigB (levV (byL s))
    · have hl : levB (byL s) = false := by rw [HLv.out, hsv]
      have HV := Lib.hid (And.intro hl (levR_no hl))
      rw [hsv] at HSV
      clear hl hsv
      go_enter Tryd.func38, Tryd.ntmps38
      go_wp2_with fail
      refine (HS.out _).mono ?_
      rintro e w1 ⟨rfl, hb1⟩
      have Hb1 := Lib.hid hb1
      clear hb1
      go_wp2_with fail
      refine (HD.out _).mono ?_
      rintro e w2 ⟨rfl, rfl⟩
      go_wp2_with fail
      refine (C1.out _).mono ?_
      rintro e w3 ⟨rfl, hb3⟩
      have Hb3 := Lib.hid (below_step Hb1.out hb3)
      clear hb3
      go_wp2_with fail
      refine (C2.out _).mono ?_
      rintro e w4 ⟨rfl, hb4⟩
      have Hb4 := Lib.hid (below_step Hb3.out hb4)
      clear hb4
      go_wp2_with fail
      refine (HSV.out _).mono ?_
      rintro e w5 ⟨rfl, hb5⟩
      have Hb5 := Lib.hid (below_step Hb4.out hb5)
      clear hb5
      go_wp2
      go_ret2
      exact ⟨by rw [HV.out.1, HV.out.2]; rfl, Hb5.out⟩
    · have hl : levB (byL s) = true := by rw [HLv.out, hsv]
      have HV := Lib.hid (And.intro hl (levR_yes hl))
      rw [hsv] at HSV
      clear hl hsv
      go_enter Tryd.func38, Tryd.ntmps38
      go_wp2_with fail
      refine (HS.out _).mono ?_
      rintro e w1 ⟨rfl, hb1⟩
      have Hb1 := Lib.hid hb1
      clear hb1
      go_wp2_with fail
      refine (HD.out _).mono ?_
      rintro e w2 ⟨rfl, rfl⟩
      go_wp2_with fail
      refine (C1.out _).mono ?_
      rintro e w3 ⟨rfl, hb3⟩
      have Hb3 := Lib.hid (below_step Hb1.out hb3)
      clear hb3
      go_wp2_with fail
      refine (C2.out _).mono ?_
      rintro e w4 ⟨rfl, hb4⟩
      have Hb4 := Lib.hid (below_step Hb3.out hb4)
      clear hb4
      go_wp2_with fail
      refine (HSV.out _).mono ?_
      rintro e w5 ⟨rfl, hb5⟩
      have Hb5 := Lib.hid (below_step Hb4.out hb5)
      clear hb5
      go_wp2
      go_ret2
      exact ⟨by rw [HV.out.1, HV.out.2, ← HVV.out]; rfl, Hb5.out⟩

end Go.Proofs.YtgnolhikphoagaaDoor
