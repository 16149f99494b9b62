/-
  SignalVote of the program.
-/
import Derived.Test.YthhckijoilphiaaDoorFaI
import Derived.Test.YthhckijoilphiaaDoorSgU
namespace Go.Proofs.YthhckijoilphiaaDoor
open Go.RowKit

theorem str_eq {p q : UInt8} (h : p = q) : ((str [p]).toList == (str [q]).toList) = true := by rw [h]; exact beq_self_eq_true _
theorem str_ne {p q : UInt8} (h : ¬ p = q) : ((str [p]).toList == (str [q]).toList) = false := by
  rw [beq_eq_false_iff_ne, str_list, str_list]
  intro e
  exact h (List.cons.inj e).1

set_option maxHeartbeats 1000000 in
theorem votePulse_c (p q r : UInt8) (w : World) : Calls Tryd.prog 61 #[.string (str [p]), .string (str [q]), .string (str [r])] w fun e w' => e = .returned (.string (str [voP p q r])) ∧ w' = w := by
  by_cases h1 : p = q
  · have e1 := str_eq h1
    have HV := Lib.hid (voP_first (z := r) (.inl h1))
    obtain ⟨x, hx⟩ : ∃ x, str [p] = x := ⟨_, rfl⟩
    obtain ⟨y, hy⟩ : ∃ y, str [q] = y := ⟨_, rfl⟩
    have Hx := Lib.hid hx
    rw [hx, hy] at e1
    rw [hx, hy]
    clear hx hy h1
    go_enter Tryd.func61, Tryd.ntmps61
    go_wp2
    go_ret
    exact ⟨by rw [HV.out, Hx.out]; rfl, rfl⟩
  have e1 := str_ne h1
  by_cases h2 : p = r
  · have e2 := str_eq h2
    have HV := Lib.hid (voP_first (y := q) (.inr h2))
    obtain ⟨x, hx⟩ : ∃ x, str [p] = x := ⟨_, rfl⟩
    obtain ⟨y, hy⟩ : ∃ y, str [q] = y := ⟨_, rfl⟩
    obtain ⟨z, hz⟩ : ∃ z, str [r] = z := ⟨_, rfl⟩
    have Hx := Lib.hid hx
    rw [hx, hy] at e1
    rw [hx, hz] at e2
    rw [hx, hy, hz]
    clear hx hy hz h1 h2
    go_enter Tryd.func61, Tryd.ntmps61
    go_wp2
    go_ret
    exact ⟨by rw [HV.out, Hx.out]; rfl, rfl⟩
  have e2 := str_ne h2
  by_cases h3 : q = r
  · have e3 := str_eq h3
    have HV := Lib.hid (voP_second h1 h2 h3)
    obtain ⟨x, hx⟩ : ∃ x, str [p] = x := ⟨_, rfl⟩
    obtain ⟨y, hy⟩ : ∃ y, str [q] = y := ⟨_, rfl⟩
    obtain ⟨z, hz⟩ : ∃ z, str [r] = z := ⟨_, rfl⟩
    have Hy := Lib.hid hy
    rw [hx, hy] at e1
    rw [hx, hz] at e2
    rw [hy, hz] at e3
    rw [hx, hy, hz]
    clear hx hy hz h1 h2 h3
    go_enter Tryd.func61, Tryd.ntmps61
    go_wp2
    go_ret
    exact ⟨by rw [HV.out, Hy.out]; rfl, rfl⟩
  · have e3 := str_ne h3
    have HV := Lib.hid (voP_none h1 h2 h3)
    obtain ⟨x, hx⟩ : ∃ x, str [p] = x := ⟨_, rfl⟩
    obtain ⟨y, hy⟩ : ∃ y, str [q] = y := ⟨_, rfl⟩
    obtain ⟨z, hz⟩ : ∃ z, str [r] = z := ⟨_, rfl⟩
    rw [hx, hy] at e1
    rw [hx, hz] at e2
    rw [hy, hz] at e3
    rw [hx, hy, hz]
    clear hx hy hz h1 h2 h3
    go_enter Tryd.func61, Tryd.ntmps61
    go_wp2
    go_ret
    exact ⟨by rw [HV.out]; rfl, rfl⟩

set_option maxHeartbeats 2000000 in
theorem implSignalVote_b (a b c : ByteArray) (w : World) (ha : a.size ≤ 1048576) (hb : b.size ≤ 1048576) (hc : c.size ≤ 1048576) :
    Calls Tryd.prog 24 #[.string a, .string b, .string c] w (RetB (.tuple #[.string (str (voV (byL a) (byL b) (byL c))), .bool (voB (byL a) (byL b) (byL c))]) w) := by
  have h1f := fun w => implSignalFar_b a b w ha hb
  have h2f := fun w => implSignalFar_b b c w hb hc
  cases h1 : twoB (byL a) (byL b)
  · have hn := far_neg h1
    have hv : voB (byL a) (byL b) (byL c) = false := by unfold voB; rw [h1]; rfl
    have HV := Lib.hid (And.intro hv (voV_no hv))
    obtain ⟨f, hf⟩ : ∃ f, farV (byL a) (byL b) = f := ⟨_, rfl⟩
    rw [hf] at hn
    simp only [hf] at h1f
    have H1 := Lib.hid h1f
    clear h1f h2f h1 hv hf
    have g1 : decide (f < 0) = true := decide_eq_true hn
    go_enter Tryd.func24, Tryd.ntmps24
    go_wp2_with fail
    refine (H1.out _).mono ?_
    rintro e w1 ⟨rfl, hb1⟩
    have Hb1 := Lib.hid hb1
    clear hb1
    go_wp2
    go_ret2
    exact ⟨by rw [HV.out.1, HV.out.2]; rfl, Hb1.out⟩
  cases h2 : twoB (byL b) (byL c)
  · have hn := far_pos h1
    have hm := far_neg h2
    have hv : voB (byL a) (byL b) (byL c) = false := by unfold voB; rw [h1, h2]; rfl
    have HV := Lib.hid (And.intro hv (voV_no hv))
    obtain ⟨f, hf⟩ : ∃ f, farV (byL a) (byL b) = f := ⟨_, rfl⟩
    obtain ⟨g, hg⟩ : ∃ g, farV (byL b) (byL c) = g := ⟨_, rfl⟩
    rw [hf] at hn
    rw [hg] at hm
    simp only [hf] at h1f
    simp only [hg] at h2f
    have H1 := Lib.hid h1f
    have H2 := Lib.hid h2f
    clear h1f h2f h1 h2 hv hf hg
    have g1 : decide (f < 0) = false := decide_eq_false hn
    have g2 : decide (g < 0) = true := decide_eq_true hm
    go_enter Tryd.func24, Tryd.ntmps24
    go_wp2_with fail
    refine (H1.out _).mono ?_
    rintro e w1 ⟨rfl, hb1⟩
    have Hb1 := Lib.hid hb1
    clear hb1
    go_wp2_with fail
    refine (H2.out _).mono ?_
    rintro e w2 ⟨rfl, hb2⟩
    have Hb2 := Lib.hid (below_step Hb1.out hb2)
    clear hb2
    go_wp2
    go_ret2
    exact ⟨by rw [HV.out.1, HV.out.2]; rfl, Hb2.out⟩
  · have hn := far_pos h1
    have hm := far_pos h2
    have hv : voB (byL a) (byL b) (byL c) = true := by unfold voB; rw [h1, h2]; rfl
    have HV := Lib.hid (And.intro hv (voV_yes hv))
    have h80 := sigB_len (twoB_true.1 h1).1
    have hl1 := (twoB_true.1 h1).2.2
    have hl2 := (twoB_true.1 h2).2.2
    rw [byL_len, byL_len] at hl1 hl2
    have HL := Lib.hid (And.intro hl1 hl2)
    obtain ⟨f, hf⟩ : ∃ f, farV (byL a) (byL b) = f := ⟨_, rfl⟩
    obtain ⟨g, hg⟩ : ∃ g, farV (byL b) (byL c) = g := ⟨_, rfl⟩
    rw [hf] at hn
    rw [hg] at hm
    simp only [hf] at h1f
    simp only [hg] at h2f
    have H1 := Lib.hid h1f
    have H2 := Lib.hid h2f
    clear h1f h2f h1 h2 hv hf hg hl1 hl2
    have g1 : decide (f < 0) = false := decide_eq_false hn
    have g2 : decide (g < 0) = false := decide_eq_false hm
    go_enter Tryd.func24, Tryd.ntmps24
    go_wp2_with fail
    refine (H1.out _).mono ?_
    rintro e w1 ⟨rfl, hb1⟩
    have Hb1 := Lib.hid hb1
    clear hb1
    go_wp2_with fail
    refine (H2.out _).mono ?_
    rintro e w2 ⟨rfl, hb2⟩
    have Hb2 := Lib.hid (below_step Hb1.out hb2)
    clear hb2 Hb1
    go_wp2
    go_loopw [8, 22] (fun o i wr => ∃ k : Nat, k ≤ a.size ∧ i = .int .i64 k ∧ o = .string (str (voT (byL a) (byL b) (byL c) k)) ∧ Below w.heap.size w wr) (fun _ i _ => a.size - (intOf i).toNat)
    case atStart => exact ⟨0, Nat.zero_le _, rfl, rfl, Hb2.out⟩
    case round =>
      clear Hb2
      obtain ⟨k, hk, rfl, rfl, hbk⟩ := hrel
      have Hbk := Lib.hid hbk
      clear hbk
      by_cases hlt : k < a.size
      · have hlb : k < b.size := by have := HL.out.1; omega
        have hlc : k < c.size := by have := HL.out.2; omega
        have hsu := voT_succ hlt hlb hlc
        have b1 := byL_one a k hlt
        have b2 := byL_one b k hlb
        have b3 := byL_one c k hlc
        obtain ⟨p, hp⟩ : ∃ p : UInt8, a[k] = p := ⟨_, rfl⟩
        obtain ⟨q, hq⟩ : ∃ q : UInt8, b[k] = q := ⟨_, rfl⟩
        obtain ⟨r, hr⟩ : ∃ r : UInt8, c[k] = r := ⟨_, rfl⟩
        rw [hp, hq, hr] at hsu
        rw [hp] at b1
        rw [hq] at b2
        rw [hr] at b3
        have e1 : a.extract k (k + 1) = str [p] := by rw [← b1, str_by]
        have e2 : b.extract k (k + 1) = str [q] := by rw [← b2, str_by]
        have e3 : c.extract k (k + 1) = str [r] := by rw [← b3, str_by]
        obtain ⟨acc, hacc⟩ : ∃ acc, str (voT (byL a) (byL b) (byL c) k) = acc := ⟨_, rfl⟩
        have za : acc.size ≤ 80 := by rw [← hacc, str_size, voT_len]; omega
        rw [hacc]
        have hvp := fun w => votePulse_c p q r w
        obtain ⟨x, hx⟩ : ∃ x, str [p] = x := ⟨_, rfl⟩
        obtain ⟨y, hy⟩ : ∃ y, str [q] = y := ⟨_, rfl⟩
        obtain ⟨z, hz⟩ : ∃ z, str [r] = z := ⟨_, rfl⟩
        obtain ⟨d, hd⟩ : ∃ d, str [voP p q r] = d := ⟨_, rfl⟩
        have zd : d.size = 1 := by rw [← hd, str_size]; rfl
        rw [hx] at e1 hvp
        rw [hy] at e2 hvp
        rw [hz] at e3 hvp
        rw [hd] at hvp
        have Hsu := Lib.hid hsu
        have Hacc := Lib.hid hacc
        have Hd := Lib.hid hd
        have HVP := Lib.hid hvp
        have g3 : (k : Int) < (a.size : Int) := by omega
        have g4 : (k : Int) + 1 ≤ (a.size : Int) := by omega
        have g5 : (k : Int) + 1 ≤ (b.size : Int) := by omega
        have g6 : (k : Int) + 1 ≤ (c.size : Int) := by omega
        have q1 : (0 : Int) ≤ (k : Int) := by omega
        have q2 : (k : Int) ≤ (k : Int) + 1 := by omega
        have q3 : ((k : Int) + 1).toNat = k + 1 := by omega
        have q4 : (0 : Int) ≤ (k : Int) + 1 := by omega
        have q5 : IntKind.i64.wrap ((k : Int) + 1) = (k : Int) + 1 := IntWalk.i64_in _ (by omega)
        have z1 : ¬ (9223372036854775807 < acc.size + d.size) := by omega
        have z2 : (9223372036854775807 < acc.size + d.size) = False := by rw [eq_iff_iff, iff_false]; omega
        clear hsu hacc hd hvp hx hy hz hp hq hr b1 b2 b3 zd
        go_wp2
        go_quiet ((go_at_call 61; (with_reducible exact Calls.quiet_of_same (HVP.out _))))
        go_wp2
        go_roundw
        case rel => exact ⟨k + 1, by omega, by go_num, by rw [Hsu.out, ← str_append, Hacc.out, Hd.out], by first | exact below_drewN Hbk.out _ | exact Hbk.out.drew⟩
        case measure => simp [intOf]; omega
      · obtain rfl : k = a.size := by omega
        go_wp2
        go_ret2
        exact ⟨by rw [HV.out.1, HV.out.2, byL_len]; rfl, Hbk.out⟩

end Go.Proofs.YthhckijoilphiaaDoor
