/-
  l6Many and SignalLevel of the model.
-/
import Derived.Test.YtgnolhikphoagaaDoorDrS
import Derived.Test.YtgnolhikphoagaaDoorSgZ
import Derived.Laws.Concat
namespace Go.Proofs.YtgnolhikphoagaaDoor
open Go.RowKit

theorem rep_add (c : UInt8) (m n : Nat) : str (List.replicate m c) ++ str (List.replicate n c) = str (List.replicate (m + n) c) := by
  rw [str_append, List.replicate_append_replicate]

set_option maxHeartbeats 1000000 in
theorem l6Many_cs (c : UInt8) (d : Int) (w : World) (h1 : d ≤ 1000) : Calls Tryd.prog 49 #[.string ⟨#[c]⟩, .int .i64 d] w fun e w' => e = .returned (.string (str (List.replicate d.toNat c))) ∧ w = w' := by
  by_cases h0 : d ≤ 0
  · have HV := Lib.hid (show str (List.replicate d.toNat c) = ⟨#[]⟩ by rw [show d.toNat = 0 by omega]; rfl)
    have g1 : ¬ (0 : Int) < d := by omega
    go_enter Tryd.func49, Tryd.ntmps49
    go_wp2
    go_loop [0, 1, 5] (fun s n o => s = .string ⟨#[c]⟩ ∧ n = .int .i64 d ∧ o = .string ⟨#[]⟩) (fun _ _ _ => 0)
    case atStart => exact ⟨rfl, rfl, rfl⟩
    case round =>
      obtain ⟨rfl, rfl, rfl⟩ := hrel
      go_wp2
      go_ret
      exact ⟨by rw [HV.out]; rfl, rfl⟩
  · obtain ⟨N, rfl⟩ := Int.eq_ofNat_of_zero_le (show 0 ≤ d by omega)
    have hN : N ≤ 1000 := by omega
    rw [Int.toNat_natCast]
    clear h0 h1
    go_enter Tryd.func49, Tryd.ntmps49
    go_wp2
    go_loop [0, 1, 5] (fun s n o => ∃ m p q : Nat, n = .int .i64 m ∧ s = .string (str (List.replicate p c)) ∧ o = .string (str (List.replicate q c)) ∧ q + m * p = N ∧ p ≤ 2000 ∧ 1 ≤ p) (fun _ n _ => (intOf n).toNat)
    case atStart => exact ⟨N, 1, 0, rfl, rfl, rfl, by omega, by omega, by omega⟩
    case round =>
      obtain ⟨m, p, q, rfl, rfl, rfl, he, hp, hp1⟩ := hrel
      by_cases hm : 0 < m
      · have hmp : p ≤ m * p := Nat.le_mul_of_pos_left p hm
        have g1 : (0 : Int) < (m : Int) := by omega
        have hmm : m ≤ m * p := Nat.le_mul_of_pos_right m hp1
        have g3 : (0 : Int) ≤ (m : Int) := by omega
        have g4 : (m : Int) ≤ 1000 := by omega
        clear hmm
        obtain ⟨S, hS⟩ : ∃ S, str (List.replicate p c) = S := ⟨_, rfl⟩
        obtain ⟨O, hO⟩ : ∃ O, str (List.replicate q c) = O := ⟨_, rfl⟩
        have zS : S.size ≤ 1000 := by rw [← hS, str_size, List.length_replicate]; omega
        have zO : O.size ≤ 1000 := by rw [← hO, str_size, List.length_replicate]; omega
        have y1 : (9223372036854775807 < S.size + S.size) = False := by rw [eq_iff_iff, iff_false]; omega
        have y2 : (9223372036854775807 < O.size + S.size) = False := by rw [eq_iff_iff, iff_false]; omega
        have HSS := Lib.hid (show S ++ S = str (List.replicate (p + p) c) by rw [← hS, rep_add])
        have HOS := Lib.hid (show O ++ S = str (List.replicate (q + p) c) by rw [← hO, ← hS, rep_add])
        have HO := Lib.hid hO
        have hpb : p + p ≤ 2000 := by omega
        rw [hS, hO]
        clear hS hO hp
        by_cases hmod : m % 2 = 1
        · have g2 : (((m : Int) % 2) == 1) = true := beq_iff_eq.2 (by omega)
          have hd : m = 2 * (m / 2) + 1 := by omega
          have he2 : q + p + m / 2 * (p + p) = N := by
            have : m * p = 2 * (m / 2) * p + p := by conv => lhs; rw [hd, Nat.add_mul, Nat.one_mul]
            rw [Nat.mul_add]
            rw [Nat.mul_assoc, Nat.two_mul] at this
            omega
          have He := Lib.hid he2
          clear he he2 hd hmod hmp
          go_wp2
          go_round
          case rel => exact ⟨m / 2, p + p, q + p, by go_num, by rw [HSS.out], by rw [HOS.out], He.out, hpb, by omega⟩
          case measure => simp [intOf]; omega
        · have g2 : (((m : Int) % 2) == 1) = false := beq_eq_false_iff_ne.2 (by omega)
          have hd : m = 2 * (m / 2) := by omega
          have he2 : q + m / 2 * (p + p) = N := by
            have : m * p = 2 * (m / 2) * p := by conv => lhs; rw [hd]
            rw [Nat.mul_add]
            rw [Nat.mul_assoc, Nat.two_mul] at this
            omega
          have He := Lib.hid he2
          clear he he2 hd hmod hmp
          go_wp2
          go_round
          case rel => exact ⟨m / 2, p + p, q, by go_num, by rw [HSS.out], by rw [HO.out], He.out, hpb, by omega⟩
          case measure => simp [intOf]; omega
      · obtain rfl : m = 0 := by omega
        obtain rfl : q = N := by omega
        go_wp2
        go_ret
        exact ⟨rfl, rfl⟩

set_option maxHeartbeats 2000000 in
theorem specSignalLevel_b (s : ByteArray) (w : World) (hs : s.size ≤ 1048576) : Calls Tryd.prog 39 #[.string s] w (RetB (.tuple #[.string (str (levR (byL s))), .bool (levB (byL s))]) w) := by
  have HS := Lib.hid (fun w => specSignalValid_c s w (by omega))
  cases h1 : sigB (byL s)
  · have hl : levB (byL s) = false := by unfold levB; rw [h1]; rfl
    have HV := Lib.hid (And.intro hl (levR_no hl))
    rw [h1] at HS
    clear h1 hl
    go_enter Tryd.func39, Tryd.ntmps39
    go_wp2_with fail
    refine (HS.out _).mono ?_
    rintro e w1 ⟨rfl, rfl⟩
    go_wp2
    go_ret2
    exact ⟨by rw [HV.out.1, HV.out.2]; rfl, Below.refl _ _⟩
  have h80 := sigB_len h1
  have hdl := driV_le (byL s)
  rw [byL_len] at hdl
  have hD := fun w => l8Drift_b s w h80
  have hlast := dr0_last (byL s)
  have hL := dr0_len (byL s) s.size
  rw [byL_len] at hlast
  obtain ⟨X, hX⟩ : ∃ X, dr0 (byL s) s.size = X := ⟨_, rfl⟩
  rw [hX] at hlast hL
  rw [hX] at hD
  have HDr := Lib.hid hD
  have HL := Lib.hid hL
  have hXl : X.length ≤ 81 := by omega
  by_cases h0 : driV (byL s) = 0
  · have hv := levV_same h0
    have hl : levB (byL s) = true := by unfold levB; rw [hv, h1]; rfl
    have hr : levR (byL s) = byL s := by rw [levR_yes hl, hv]
    have HV := Lib.hid (And.intro hl hr)
    rw [h0] at hlast
    have Hlast := Lib.hid hlast
    rw [h1] at HS
    clear h1 hl hr hv h0 hD hdl hX hlast hL
    go_enter Tryd.func39, Tryd.ntmps39
    go_wp2_with fail
    refine (HS.out _).mono ?_
    rintro e w1 ⟨rfl, rfl⟩
    go_wp2_with fail
    refine (HDr.out _).mono ?_
    rintro e w2 ⟨A, c, rfl, ha, ho, hb⟩
    obtain ⟨b, off, rfl, _, _, hc⟩ := ha.rd.at_ (k := s.size) (by have := HL.out; omega)
    rw [Hlast.out] at hc
    have g1 : (X.length : Int) - 1 = (s.size : Int) := by have := HL.out; omega
    have g2 : (s.size : Int) < (X.length : Int) := by have := HL.out; omega
    have Hb := Lib.hid hb
    clear ha ho hb
    dsimp only [id]
    go_wp2_with fail
    refine (HS.out _).mono ?_
    rintro e w3 ⟨rfl, rfl⟩
    go_wp2
    go_ret2
    exact ⟨by rw [HV.out.1, HV.out.2, str_by]; rfl, Hb.out⟩
  · have hv := levV_more h0
    have hlv : levB (byL s) = sigB (levV (byL s)) := by unfold levB; rw [h1]; rfl
    obtain ⟨d, hd⟩ : ∃ d, driV (byL s) = d := ⟨_, rfl⟩
    rw [hd] at hv h0 hdl hlast
    have HLv := Lib.hid hlv
    have Hlast := Lib.hid hlast
    rw [h1] at HS
    have c1 := fun w => l6Many_cs 45 d w (by omega)
    have c2 := fun w => l6Many_cs 43 (-d) w (by omega)
    obtain ⟨R1, hR1⟩ : ∃ R, str (List.replicate d.toNat 45) = R := ⟨_, rfl⟩
    obtain ⟨R2, hR2⟩ : ∃ R, str (List.replicate (-d).toNat 43) = R := ⟨_, rfl⟩
    have z1 : R1.size ≤ 80 := by rw [← hR1, str_size, List.length_replicate]; omega
    have z2 : R2.size ≤ 80 := by rw [← hR2, str_size, List.length_replicate]; omega
    have hlev : s ++ ⟨#[48]⟩ ++ R1 ++ R2 = str (levV (byL s)) := by
      rw [hv, ← hR1, ← hR2, ← str_append, ← str_append, ← str_append, str_by]
      rfl
    rw [hR1] at c1
    rw [hR2] at c2
    have C1 := Lib.hid c1
    have C2 := Lib.hid c2
    have hVs : (s ++ ⟨#[48]⟩ ++ R1 ++ R2).size ≤ 1048576 := by
      rw [ByteArray.size_append, ByteArray.size_append, ByteArray.size_append]
      show s.size + 1 + R1.size + R2.size ≤ _
      omega
    have hSV := fun w => specSignalValid_c (s ++ ⟨#[48]⟩ ++ R1 ++ R2) w (by omega)
    rw [show byL (s ++ ⟨#[48]⟩ ++ R1 ++ R2) = levV (byL s) by rw [hlev, by_str]] at hSV
    have HSV := Lib.hid hSV
    have HVV := Lib.hid hlev
    have y1 : (9223372036854775807 < s.size + 1) = False := by rw [eq_iff_iff, iff_false]; omega
    have y2 : (9223372036854775807 < s.size + 1 + R1.size) = False := by rw [eq_iff_iff, iff_false]; omega
    have y3 : (9223372036854775807 < s.size + 1 + R1.size + R2.size) = False := by rw [eq_iff_iff, iff_false]; omega
    have f0 : (d != 0) = true := bne_iff_ne.2 h0
    have d0 : -80 ≤ d := by omega
    have d1 : d ≤ 80 := by omega
    clear c1 c2 hlev hVs hSV hR1 hR2 hv hd hlv hD h1 hdl h0 hX hL hlast
    cases hsv : sigB (levV (byL s))
    · have hl : levB (byL s) = false := by rw [HLv.out, hsv]
      have HV := Lib.hid (And.intro hl (levR_no hl))
      rw [hsv] at HSV
      clear hl hsv
      go_enter Tryd.func39, Tryd.ntmps39
      go_wp2_with fail
      refine (HS.out _).mono ?_
      rintro e w1 ⟨rfl, rfl⟩
      go_wp2_with fail
      refine (HDr.out _).mono ?_
      rintro e w2 ⟨A, c, rfl, ha, ho, hb⟩
      obtain ⟨b, off, rfl, _, _, hc⟩ := ha.rd.at_ (k := s.size) (by have := HL.out; omega)
      rw [Hlast.out] at hc
      have g1 : (X.length : Int) - 1 = (s.size : Int) := by have := HL.out; omega
      have g2 : (s.size : Int) < (X.length : Int) := by have := HL.out; omega
      have Hb := Lib.hid hb
      clear ha ho hb
      dsimp only [id]
      go_wp2_with fail
      refine (C1.out _).mono ?_
      rintro e w3 ⟨rfl, rfl⟩
      go_wp2_with fail
      refine (C2.out _).mono ?_
      rintro e w4 ⟨rfl, rfl⟩
      go_wp2_with fail
      refine (HSV.out _).mono ?_
      rintro e w5 ⟨rfl, rfl⟩
      go_wp2
      go_ret2
      exact ⟨by rw [HV.out.1, HV.out.2]; rfl, Hb.out⟩
    · have hl : levB (byL s) = true := by rw [HLv.out, hsv]
      have HV := Lib.hid (And.intro hl (levR_yes hl))
      rw [hsv] at HSV
      clear hl hsv
      go_enter Tryd.func39, Tryd.ntmps39
      go_wp2_with fail
      refine (HS.out _).mono ?_
      rintro e w1 ⟨rfl, rfl⟩
      go_wp2_with fail
      refine (HDr.out _).mono ?_
      rintro e w2 ⟨A, c, rfl, ha, ho, hb⟩
      obtain ⟨b, off, rfl, _, _, hc⟩ := ha.rd.at_ (k := s.size) (by have := HL.out; omega)
      rw [Hlast.out] at hc
      have g1 : (X.length : Int) - 1 = (s.size : Int) := by have := HL.out; omega
      have g2 : (s.size : Int) < (X.length : Int) := by have := HL.out; omega
      have Hb := Lib.hid hb
      clear ha ho hb
      dsimp only [id]
      go_wp2_with fail
      refine (C1.out _).mono ?_
      rintro e w3 ⟨rfl, rfl⟩
      go_wp2_with fail
      refine (C2.out _).mono ?_
      rintro e w4 ⟨rfl, rfl⟩
      go_wp2_with fail
      refine (HSV.out _).mono ?_
      rintro e w5 ⟨rfl, rfl⟩
      go_wp2
      go_ret2
      exact ⟨by rw [HV.out.1, HV.out.2, ← HVV.out]; rfl, Hb.out⟩

end Go.Proofs.YtgnolhikphoagaaDoor
