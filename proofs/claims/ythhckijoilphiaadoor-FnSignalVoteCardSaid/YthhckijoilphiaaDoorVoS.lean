/-
  SignalVote of the model.
-/
import Derived.Test.YthhckijoilphiaaDoorFaS
import Derived.Test.YthhckijoilphiaaDoorSgU
namespace Go.Proofs.YthhckijoilphiaaDoor
open Go.RowKit

set_option maxHeartbeats 2000000 in
theorem specSignalVote_b (a b c : ByteArray) (w : World) (ha : a.size ≤ 1048576) (hb : b.size ≤ 1048576) (hc : c.size ≤ 1048576) :
    Calls Tryd.prog 25 #[.string a, .string b, .string c] w (RetB (.tuple #[.string (str (voV (byL a) (byL b) (byL c))), .bool (voB (byL a) (byL b) (byL c))]) w) := by
  have h1f := fun w => specSignalFar_b a b w ha hb
  have h2f := fun w => specSignalFar_b a c w ha hc
  cases h1 : twoB (byL a) (byL b)
  · have hn := far_neg h1
    have hv : voB (byL a) (byL b) (byL c) = false := by unfold voB; rw [h1]; rfl
    have HV := Lib.hid (And.intro hv (voV_no hv))
    obtain ⟨f, hf⟩ : ∃ f, farV (byL a) (byL b) = f := ⟨_, rfl⟩
    rw [hf] at hn
    simp only [hf] at h1f
    have H1 := Lib.hid h1f
    clear h1f h2f h1 hv hf
    have g1 : decide (f < 0) = true := decide_eq_true hn
    go_enter Tryd.func25, Tryd.ntmps25
    go_wp2_with fail
    refine (H1.out _).mono ?_
    rintro e w1 ⟨rfl, hb1⟩
    have Hb1 := Lib.hid hb1
    clear hb1
    go_wp2
    go_ret2
    exact ⟨by rw [HV.out.1, HV.out.2]; rfl, Hb1.out⟩
  cases h2 : twoB (byL a) (byL c)
  · have hn := far_pos h1
    have hm := far_neg h2
    have hv : voB (byL a) (byL b) (byL c) = false := by rw [voB_ac h1]; exact h2
    have HV := Lib.hid (And.intro hv (voV_no hv))
    obtain ⟨f, hf⟩ : ∃ f, farV (byL a) (byL b) = f := ⟨_, rfl⟩
    obtain ⟨g, hg⟩ : ∃ g, farV (byL a) (byL c) = g := ⟨_, rfl⟩
    rw [hf] at hn
    rw [hg] at hm
    simp only [hf] at h1f
    simp only [hg] at h2f
    have H1 := Lib.hid h1f
    have H2 := Lib.hid h2f
    clear h1f h2f h1 h2 hv hf hg
    have g1 : decide (f < 0) = false := decide_eq_false hn
    have g2 : decide (g < 0) = true := decide_eq_true hm
    go_enter Tryd.func25, Tryd.ntmps25
    go_wp2_with fail
    refine (H1.out _).mono ?_
    rintro e w1 ⟨rfl, hb1⟩
    have Hb1 := Lib.hid hb1
    clear hb1
    go_wp2_with fail
    refine (H2.out _).mono ?_
    rintro e w2 ⟨rfl, hb2⟩
    have Hb2 := Lib.hid (below_step Hb1.out hb2)
    clear hb2
    go_wp2
    go_ret2
    exact ⟨by rw [HV.out.1, HV.out.2]; rfl, Hb2.out⟩
  · have hn := far_pos h1
    have hm := far_pos h2
    have hv : voB (byL a) (byL b) (byL c) = true := by rw [voB_ac h1]; exact h2
    have HV := Lib.hid (And.intro hv (voV_yes hv))
    have h80 := sigB_len (twoB_true.1 h1).1
    have hl1 := (twoB_true.1 h1).2.2
    have hl2 := (twoB_true.1 h2).2.2
    rw [byL_len, byL_len] at hl1 hl2
    have HL := Lib.hid (And.intro hl1 hl2)
    obtain ⟨f, hf⟩ : ∃ f, farV (byL a) (byL b) = f := ⟨_, rfl⟩
    obtain ⟨g, hg⟩ : ∃ g, farV (byL a) (byL c) = g := ⟨_, rfl⟩
    rw [hf] at hn
    rw [hg] at hm
    simp only [hf] at h1f
    simp only [hg] at h2f
    have H1 := Lib.hid h1f
    have H2 := Lib.hid h2f
    clear h1f h2f h1 h2 hv hf hg hl1 hl2
    have g1 : decide (f < 0) = false := decide_eq_false hn
    have g2 : decide (g < 0) = false := decide_eq_false hm
    go_enter Tryd.func25, Tryd.ntmps25
    go_wp2_with fail
    refine (H1.out _).mono ?_
    rintro e w1 ⟨rfl, hb1⟩
    have Hb1 := Lib.hid hb1
    clear hb1
    go_wp2_with fail
    refine (H2.out _).mono ?_
    rintro e w2 ⟨rfl, hb2⟩
    have Hb2 := Lib.hid (below_step Hb1.out hb2)
    clear hb2 Hb1
    go_wp2
    go_loopw [8, 9] (fun o i wr => ∃ k : Nat, k ≤ a.size ∧ i = .int .i64 k ∧ o = .string (str (voT (byL a) (byL b) (byL c) k)) ∧ Below w.heap.size w wr) (fun _ i _ => a.size - (intOf i).toNat)
    case atStart => exact ⟨0, Nat.zero_le _, rfl, rfl, Hb2.out⟩
    case round =>
      clear Hb2
      obtain ⟨k, hk, rfl, rfl, hbk⟩ := hrel
      have Hbk := Lib.hid hbk
      clear hbk
      by_cases hlt : k < a.size
      · have hlb : k < b.size := by have := HL.out.1; omega
        have hlc : k < c.size := by have := HL.out.2; omega
        have hsu := voT_succ hlt hlb hlc
        have b1 := byL_one a k hlt
        have b2 := byL_one b k hlb
        have b3 := byL_one c k hlc
        obtain ⟨p, hp⟩ : ∃ p : UInt8, a[k] = p := ⟨_, rfl⟩
        obtain ⟨q, hq⟩ : ∃ q : UInt8, b[k] = q := ⟨_, rfl⟩
        obtain ⟨r, hr⟩ : ∃ r : UInt8, c[k] = r := ⟨_, rfl⟩
        rw [hp, hq, hr] at hsu
        rw [hp] at b1
        rw [hq] at b2
        rw [hr] at b3
        have e1 : a.extract k (k + 1) = str [p] := by rw [← b1, str_by]
        have e2 : b.extract k (k + 1) = str [q] := by rw [← b2, str_by]
        have e3 : c.extract k (k + 1) = str [r] := by rw [← b3, str_by]
        obtain ⟨acc, hacc⟩ : ∃ acc, str (voT (byL a) (byL b) (byL c) k) = acc := ⟨_, rfl⟩
        have za : acc.size ≤ 80 := by rw [← hacc, str_size, voT_len]; omega
        rw [hacc]
        have Hsu := Lib.hid hsu
        have Hacc := Lib.hid hacc
        have g3 : (k : Int) < (a.size : Int) := by omega
        have g4 : (k : Int) + 1 ≤ (a.size : Int) := by omega
        have g5 : (k : Int) + 1 ≤ (b.size : Int) := by omega
        have g6 : (k : Int) + 1 ≤ (c.size : Int) := by omega
        have g7 : (k : Int) < (b.size : Int) := by omega
        have g8 : (k : Int) < (c.size : Int) := by omega
        have q1 : (0 : Int) ≤ (k : Int) := by omega
        have q2 : (k : Int) ≤ (k : Int) + 1 := by omega
        have q3 : ((k : Int) + 1).toNat = k + 1 := by omega
        have q4 : (0 : Int) ≤ (k : Int) + 1 := by omega
        have z1 : ¬ (9223372036854775807 < acc.size + 1) := by omega
        have z2 : (9223372036854775807 < acc.size + 1) = False := by rw [eq_iff_iff, iff_false]; omega
        have sz1 : (str [p]).size = 1 := by rw [str_size]; rfl
        have sz2 : (str [q]).size = 1 := by rw [str_size]; rfl
        clear hsu hacc b1 b2 b3 e3
        by_cases w1 : p = q
        · have f1 : ((p.toNat : Int) == (q.toNat : Int)) = true := beq_iff_eq.2 (by rw [w1])
          have HV2 := Lib.hid (voP_first (z := r) (.inl w1))
          clear w1
          go_wp2
          go_quiet (fail)
          go_wp2
          go_roundw
          case rel => exact ⟨k + 1, by omega, by go_num, by rw [Hsu.out, ← str_append, Hacc.out, HV2.out], by first | exact below_drewN Hbk.out _ | exact Hbk.out.drew⟩
          case measure => simp [intOf]; omega
        have f1 : ((p.toNat : Int) == (q.toNat : Int)) = false := beq_eq_false_iff_ne.2 (fun e => w1 (UInt8.toNat_inj.1 (by omega)))
        by_cases w2 : p = r
        · have f2 : ((p.toNat : Int) == (r.toNat : Int)) = true := beq_iff_eq.2 (by rw [w2])
          have HV2 := Lib.hid (voP_first (y := q) (.inr w2))
          clear w1 w2
          go_wp2
          go_quiet (fail)
          go_wp2
          go_roundw
          case rel => exact ⟨k + 1, by omega, by go_num, by rw [Hsu.out, ← str_append, Hacc.out, HV2.out], by first | exact below_drewN Hbk.out _ | exact Hbk.out.drew⟩
          case measure => simp [intOf]; omega
        have f2 : ((p.toNat : Int) == (r.toNat : Int)) = false := beq_eq_false_iff_ne.2 (fun e => w2 (UInt8.toNat_inj.1 (by omega)))
        by_cases w3 : q = r
        · have f3 : ((q.toNat : Int) == (r.toNat : Int)) = true := beq_iff_eq.2 (by rw [w3])
          have HV2 := Lib.hid (voP_second w1 w2 w3)
          clear w1 w2 w3
          go_wp2
          go_quiet (fail)
          go_wp2
          go_quiet (fail)
          go_wp2
          go_roundw
          case rel => exact ⟨k + 1, by omega, by go_num, by rw [Hsu.out, ← str_append, Hacc.out, HV2.out], by first | exact below_drewN Hbk.out _ | exact below_drewN (below_drewN Hbk.out _) _ | exact Hbk.out.drew⟩
          case measure => simp [intOf]; omega
        · have f3 : ((q.toNat : Int) == (r.toNat : Int)) = false := beq_eq_false_iff_ne.2 (fun e => w3 (UInt8.toNat_inj.1 (by omega)))
          have HV2 := Lib.hid (voP_none w1 w2 w3)
          clear w1 w2 w3
          go_wp2
          go_quiet (fail)
          go_wp2
          go_quiet (fail)
          go_wp2
          go_roundw
          case rel => exact ⟨k + 1, by omega, by go_num, by rw [Hsu.out, ← str_append, Hacc.out, HV2.out]; rfl, by first | exact below_drewN Hbk.out _ | exact below_drewN (below_drewN Hbk.out _) _ | exact Hbk.out.drew⟩
          case measure => simp [intOf]; omega
      · obtain rfl : k = a.size := by omega
        go_wp2
        go_ret2
        exact ⟨by rw [HV.out.1, HV.out.2, byL_len]; rfl, Hbk.out⟩

end Go.Proofs.YthhckijoilphiaaDoor
