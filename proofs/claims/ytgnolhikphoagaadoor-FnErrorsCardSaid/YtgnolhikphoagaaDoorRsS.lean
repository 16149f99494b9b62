/-
  SignalRead of the model.
-/
import Derived.Test.YtgnolhikphoagaaDoorReS
namespace Go.Proofs.YtgnolhikphoagaaDoor
open Go.RowKit

theorem pul_pm {c : UInt8} (h : isPul c = true) (h2 : c ≠ 48) : c = 45 ∨ c = 43 := by
  unfold isPul at h
  simp only [Bool.or_eq_true, decide_eq_true_eq] at h
  rcases h with (h | h) | h
  · exact .inl (UInt8.toNat_inj.1 h)
  · exact .inr (UInt8.toNat_inj.1 h)
  · exact absurd (UInt8.toNat_inj.1 h) h2

set_option maxHeartbeats 2000000 in
theorem specSignalRead_b (s : ByteArray) (w : World) (hs : s.size ≤ 1048576) : Calls Tryd.prog 56 #[.string s] w (RetB (.tuple #[.string (str (rdV (byL s))), .bool (rdB (byL s))]) w) := by
  have HS := Lib.hid (fun w => specSignalValid_c s w (by omega))
  cases h1 : sigB (byL s)
  · have HV := Lib.hid (rdV_no h1)
    rw [h1] at HS
    clear h1
    go_enter Tryd.func56, Tryd.ntmps56
    go_wp2_with fail
    refine (HS.out _).mono ?_
    rintro e w1 ⟨rfl, rfl⟩
    go_wp2
    go_ret2
    exact ⟨by rw [HV.out.1, HV.out.2]; rfl, Below.refl _ _⟩
  have hrd := rdV_yes h1
  rw [h1] at HS
  by_cases h0 : byL s = []
  · have hem : s.toList.isEmpty = true := by rw [toList_by, h0]; rfl
    rw [h0, msB_nil, msV_nil] at hrd
    have HV := Lib.hid hrd
    have H0 := Lib.hid h0
    clear h0 h1 hrd
    go_enter Tryd.func56, Tryd.ntmps56
    go_wp2_with fail
    refine (HS.out _).mono ?_
    rintro e w1 ⟨rfl, rfl⟩
    go_wp2
    go_ret2
    exact ⟨by rw [H0.out, HV.out.1, HV.out.2]; rfl, Below.refl _ _⟩
  have hem : s.toList.isEmpty = false := by
    rw [toList_by]
    cases e : byL s with
    | nil => exact absurd e h0
    | cons x r => rfl
  have HCut := Lib.hid (fun w => l8Cut_b s w hs)
  have hpm : ∀ p ∈ splitL (byL s), ∀ c ∈ p, c = 45 ∨ c = 43 := fun p hp c hc => pul_pm ((sigB_true.1 h1).2 c ((splitL_part _ p hp).1 c hc).1) ((splitL_part _ p hp).1 c hc).2
  have hpl := splitL_len (byL s)
  have hlong := fun h => msB_long h0 h
  have hnot := fun p hp h2 => msB_not (p := p) h0 hp h2
  have hyes := fun h2 h3 => msB_yes h0 h2 h3
  have h80 := sigB_len h1
  obtain ⟨P, hP⟩ : ∃ P, splitL (byL s) = P := ⟨_, rfl⟩
  rw [byL_len] at hpl
  simp only [hP] at HCut hpm hlong hnot hyes
  rw [hP] at hpl
  have hPs : P.length ≤ 81 := by omega
  have Hpm := Lib.hid hpm
  have Hnot := Lib.hid hnot
  have Hyes := Lib.hid hyes
  have Hlong := Lib.hid hlong
  have HR := Lib.hid hrd
  clear hpm hnot hyes hlong h0 h1 hP hpl hrd
  go_enter Tryd.func56, Tryd.ntmps56
  go_wp2_with fail
  refine (HS.out _).mono ?_
  rintro e w1 ⟨rfl, rfl⟩
  go_wp2_with fail
  refine (HCut.out _).mono ?_
  rintro e w2 ⟨g, cap, rfl, hcell, hg, hb2⟩
  have Hcell := Lib.hid hcell
  have Hb2 := Lib.hid hb2
  have hs2 := hb2.size
  clear hcell hb2
  go_wp2
  go_loopw [4, 6] (fun t i wr => ∃ k : Nat, k ≤ P.length ∧ i = .int .i64 k ∧ t = .string (str (msT (P.take k))) ∧ (∀ j, j < k → lt5 (P[j]?.getD []) ≠ []) ∧ (k = 0 ∨ P.length ≤ 12) ∧ Below w2.heap.size w2 wr) (fun _ i _ => P.length - (intOf i).toNat)
  case atStart => exact ⟨0, Nat.zero_le _, rfl, rfl, fun j hj => absurd hj (by omega), .inl rfl, Below.refl _ _⟩
  case round =>
    obtain ⟨k, hk, rfl, rfl, hall, h12o, hbk⟩ := hrel
    have Hall := Lib.hid hall
    have H12o := Lib.hid h12o
    have Hbk := Lib.hid hbk
    clear hall h12o hbk
    by_cases hlt : k < P.length
    · have hpk : P[k]? = some P[k] := List.getElem?_eq_getElem hlt
      have hpmem : P[k] ∈ P := List.getElem_mem hlt
      have hc := (Hbk.out.cell (p := ⟨g, k, none⟩) hg).trans (Hcell.out k P[k] hpk)
      have hpms := Hpm.out _ hpmem
      have hnk := fun h => Hnot.out _ hpmem h
      have htk : P.take (k + 1) = P.take k ++ [P[k]] := List.take_succ_eq_append_getElem hlt
      obtain ⟨p, hp⟩ : ∃ p, P[k] = p := ⟨_, rfl⟩
      rw [hp] at hc hpms hnk htk hpk
      have hlc := fun w => l8Letter_b (str p) w (by rw [by_str]; exact hpms)
      rw [by_str] at hlc
      have hll := lt5_len p
      obtain ⟨X, hX⟩ : ∃ X, str p = X := ⟨_, rfl⟩
      rw [hX] at hc hlc
      have Htk := Lib.hid htk
      have g2 : (k : Int) < (P.length : Int) := by omega
      have Hpk := Lib.hid hpk
      by_cases hl0 : lt5 p = []
      · have hb := hnk hl0
        have hv := msV_no hb
        have HV := Lib.hid (show rdB (byL s) = false ∧ rdV (byL s) = [] from ⟨HR.out.1.trans hb, HR.out.2.trans hv⟩)
        simp only [hl0] at hlc
        have he : (str []).toList.isEmpty = true := str_empty
        obtain ⟨E, hE⟩ : ∃ E, str [] = E := ⟨_, rfl⟩
        simp only [hE] at hlc he
        have HLc := Lib.hid hlc
        clear hE hlc hb hv hl0 hnk hpms hll htk hp hpmem hX hpk
        go_wp2_with fail
        refine (HLc.out _).mono ?_
        rintro e w3 ⟨rfl, hb3⟩
        have Hb3 := Lib.hid (below_step Hbk.out hb3)
        clear hb3
        go_wp2
        go_ret2
        exact ⟨by rw [HV.out.1, HV.out.2]; rfl, Hb2.out.trans (Hb3.out.mono hs2)⟩
      · have he : (str (lt5 p)).toList.isEmpty = false := str_full hl0
        have Hl0 := Lib.hid hl0
        obtain ⟨L, hL⟩ : ∃ L, str (lt5 p) = L := ⟨_, rfl⟩
        have zL : L.size ≤ 1 := by rw [← hL, str_size]; exact hll
        simp only [hL] at hlc
        rw [hL] at he
        have HLc := Lib.hid hlc
        have HL := Lib.hid hL
        by_cases h12 : 12 < P.length
        · have hb := Hlong.out h12
          have hv := msV_no hb
          have HV := Lib.hid (show rdB (byL s) = false ∧ rdV (byL s) = [] from ⟨HR.out.1.trans hb, HR.out.2.trans hv⟩)
          have g3 : decide ((12 : Int) < (P.length : Int)) = true := decide_eq_true (by omega)
          clear hL hlc hb hv hl0 hnk hpms hll htk hp hpmem hX hpk h12
          go_wp2_with fail
          refine (HLc.out _).mono ?_
          rintro e w3 ⟨rfl, hb3⟩
          have Hb3 := Lib.hid (below_step Hbk.out hb3)
          clear hb3
          go_wp2
          go_ret2
          exact ⟨by rw [HV.out.1, HV.out.2]; rfl, Hb2.out.trans (Hb3.out.mono hs2)⟩
        · have g3 : decide ((12 : Int) < (P.length : Int)) = false := decide_eq_false (by omega)
          obtain ⟨acc, hacc⟩ : ∃ acc, str (msT (P.take k)) = acc := ⟨_, rfl⟩
          have za : acc.size ≤ 12 := by
            rw [← hacc, str_size]
            have := msT_len (P.take k)
            have := List.length_take_le k P
            omega
          rw [hacc]
          have Hacc := Lib.hid hacc
          have H12 := Lib.hid h12
          have y1 : (9223372036854775807 < acc.size + L.size) = False := by rw [eq_iff_iff, iff_false]; omega
          clear hL hlc hl0 hnk hpms hll htk hp hpmem hX hpk hacc h12
          go_wp2_with fail
          refine (HLc.out _).mono ?_
          rintro e w3 ⟨rfl, hb3⟩
          have Hb3 := Lib.hid (below_step Hbk.out hb3)
          clear hb3
          go_wp2
          go_roundw
          case rel =>
            refine ⟨k + 1, by omega, by go_num, by rw [Htk.out, msT_snoc, ← str_append, Hacc.out, HL.out], ?_, .inr (by have := H12.out; omega), Hb3.out⟩
            intro j hj
            rcases Nat.lt_or_ge j k with h | h
            · exact Hall.out j h
            · obtain rfl : j = k := by omega
              rw [Hpk.out]
              exact Hl0.out
          case measure => simp [intOf]; omega
    · obtain rfl : k = P.length := by omega
      have h12 : P.length ≤ 12 := by
        rcases H12o.out with h | h
        · omega
        · exact h
      have hy := Hyes.out h12 (fun p hp => by
        obtain ⟨j, hj, rfl⟩ := List.mem_iff_getElem.1 hp
        have := Hall.out j hj
        rw [List.getElem?_eq_getElem hj] at this
        exact this)
      have HV := Lib.hid (show rdB (byL s) = true ∧ rdV (byL s) = msT P from ⟨HR.out.1.trans hy.1, HR.out.2.trans hy.2⟩)
      rw [List.take_length]
      clear hy h12
      go_wp2
      go_ret2
      exact ⟨by rw [HV.out.1, HV.out.2]; rfl, Hb2.out.trans (Hbk.out.mono hs2)⟩

end Go.Proofs.YtgnolhikphoagaaDoor
