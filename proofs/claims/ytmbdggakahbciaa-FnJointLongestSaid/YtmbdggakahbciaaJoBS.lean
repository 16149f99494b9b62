/-
  JointBest and JointFewest of the model.
-/
import Derived.Test.YtmbdggakahbciaaJoA
namespace Go.Proofs.Ytmbdggakahbciaa
open Go.RowKit

theorem joint_bad {L : List Spr} (kind : Int) {miles : Int} (h : sprB 10 L = false ∨ inB miles 1 500 = false) : jointG L kind miles = none := by
  unfold jointG
  rw [if_neg]
  rintro ⟨h1, h2, h3⟩
  rcases h with h | h
  · rw [h1] at h; cases h
  · rw [inB_true.2 ⟨h2, h3⟩] at h; cases h
theorem bestN_asc {L : List Spr} {kind miles : Int} (hm : 1 ≤ miles) (t : Nat) : ascP L.length (bestN L kind miles t) ∧ (bestN L kind miles t ≠ [] → allK L kind (bestN L kind miles t)) := by
  rcases bestN_inv (L := L) (kind := kind) hm t with ⟨h, _⟩ | ⟨h, _⟩
  · rw [h]; exact ⟨⟨by simp, by simp⟩, fun h => absurd rfl h⟩
  · exact ⟨h.1, fun _ => h.2.1⟩
theorem bestN_length (L : List Spr) (kind miles : Int) : ∀ t, (bestN L kind miles t).length ≤ L.length
  | 0 => by simp [bestN]
  | t + 1 => by
    rw [bestN]
    split
    · exact bits_length _ _
    · exact bestN_length L kind miles t
theorem pow_le_2000 {n : Nat} (h : n ≤ 10) : 2 ^ n ≤ 1024 := Nat.pow_le_pow_right (by omega) h

set_option maxRecDepth 100000 in
set_option maxHeartbeats 4000000 in
theorem specJointBest_b (A0 : Option Addr) (c0 : Nat) (L : List Spr) (kind miles : Int) (w : World) (h0 : ArgZ w A0 c0 L) :
    Calls Try.prog 64 #[.slice A0 L.length c0, .int .i64 kind, .int .i64 miles] w (RetS 3 (fun v => .tuple #[v, .bool (jointB L kind miles)]) (jointL L kind miles) w) := by
  have H0 := Lib.hid h0
  have Ho0 := Lib.hid (show OnI w (w.alloc (.cells #[] 3)) _ [] from ⟨own_none w _, below_none w _⟩)
  clear h0
  go_enter Try.func64, Try.ntmps64
  go_wp2_with fail
  refine (specSparesValid_b A0 c0 L _ (H0.out.go Ho0.out.2)).mono ?_
  rintro e w1 ⟨rfl, hb1⟩
  have Ho1 := Lib.hid (Ho0.out.go hb1)
  clear hb1
  cases hv : sprB 10 L
  · have Hn := Lib.hid (joint_none (joint_bad (L := L) kind (miles := miles) (.inl hv)))
    clear hv
    go_wp2
    go_ret2
    rw [Hn.out.1, Hn.out.2]
    exact RetS.mk (f := fun v => .tuple #[v, .bool false]) (by simp) Ho1.out.1 Ho1.out.2
  have Hv := Lib.hid hv
  have hl10 := (sprB_true.1 hv).1
  clear hv
  go_wp2_with fail
  refine (l6In_c _ _ _ _).mono ?_
  rintro e w2 ⟨rfl, rfl⟩
  cases hm : inB miles 1 500
  · have Hn := Lib.hid (joint_none (joint_bad (L := L) kind (miles := miles) (.inr hm)))
    clear hm
    go_wp2
    go_ret2
    rw [Hn.out.1, Hn.out.2]
    exact RetS.mk (f := fun v => .tuple #[v, .bool false]) (by simp) Ho1.out.1 Ho1.out.2
  have hmm := inB_true.1 hm
  have Hm := Lib.hid hmm
  obtain ⟨hm1, hm2⟩ := hmm
  have hp := pow_le_2000 hl10
  clear hm
  go_wp2
  go_loopw [9, 10] (fun av iv wr => ∃ i : Nat, i ≤ L.length ∧ iv = .int .i64 i ∧ av = .int .i64 ((2 ^ i : Nat) : Int) ∧ w1 = wr) (fun _ iv _ => L.length - (intOf iv).toNat)
  case atStart => exact ⟨0, Nat.zero_le _, rfl, rfl, rfl⟩
  case round =>
    obtain ⟨i, hi, rfl, rfl, rfl⟩ := hrel
    have hpi := pow_le_2000 (n := i) (by omega)
    by_cases hlt : i < L.length
    · have g1 : (i : Int) < (L.length : Int) := by omega
      have Hpw := Lib.hid (show 2 ^ i + 2 ^ i = 2 ^ (i + 1) by rw [Nat.pow_succ]; omega)
      obtain ⟨p, hpp⟩ : ∃ p, 2 ^ i = p := ⟨_, rfl⟩
      rw [hpp] at hpi Hpw ⊢
      clear hpp
      go_wp2
      go_roundw
      case rel => exact ⟨i + 1, by omega, by go_num, by rw [← Hpw.out]; congr 1, trivial⟩
      case measure => simp [intOf]; omega
    · obtain rfl : i = L.length := by omega
      obtain ⟨p, hpp⟩ : ∃ p, 2 ^ L.length = p := ⟨_, rfl⟩
      rw [hpp] at hp hpi ⊢
      have hp0 : 0 < p := by rw [← hpp]; exact Nat.two_pow_pos _
      have Hpp := Lib.hid hpp
      clear hpp
      go_wp2
      go_loopw [8, 11] (fun bv tv wr => ∃ (t : Nat) (sv : Value), t + 1 ≤ p ∧ tv = .int .i64 ((t : Int) + 1) ∧ bv = sv ∧ OnI w wr sv (bestN L kind miles t)) (fun _ tv _ => p - (intOf tv).toNat)
      case atStart => exact ⟨0, _, by omega, rfl, rfl, Ho1.out⟩
      case round =>
        obtain ⟨t, sv, ht, rfl, rfl, ho⟩ := hrel
        have hbl := bestN_length L kind miles t
        obtain ⟨A9, c9, rfl, _, _, _⟩ := (Ow.of_own ho.1).form
        have Ho := Lib.hid ho
        clear ho
        by_cases hlt : t + 1 < p
        · have g1 : (t : Int) + 1 < (p : Int) := by omega
          have hset := fun W => l4Set_c L.length (t + 1) W hl10 (by omega)
          rw [show ((t + 1 : Nat) : Int) = (t : Int) + 1 by omega] at hset
          have Hset := Lib.hid hset
          clear hset
          go_wp2_with fail
          refine (Hset.out _).mono ?_
          rintro e w2 ⟨A2, c2, rfl, ra2, ro2, rb2⟩
          dsimp only [id]
          have hxa := bits_asc (t + 1) L.length
          have hxl := bits_length (t + 1) L.length
          have Hj := Lib.hid (fun w => l4Joint_c L kind Hv.out A0 c0 A2 c2 (bits (t + 1) L.length) w)
          have Hjoin := Lib.hid (join_iff (L := L) (kind := kind) (miles := miles) Hm.out.1 hxa)
          have Htake := Lib.hid (fun h1 h2 => bestN_take (L := L) (kind := kind) (miles := miles) (t := t) h1 h2)
          have Hk1 := Lib.hid (fun h1 => bestN_keep1 (L := L) (kind := kind) (miles := miles) (t := t) h1)
          have Hk2 := Lib.hid (fun h1 h2 => bestN_keep2 (L := L) (kind := kind) (miles := miles) (t := t) h1 h2)
          have Hba := Lib.hid (bestN_asc (L := L) (kind := kind) Hm.out.1 t)
          have Hnx := Lib.hid (show OnI w w2 (.slice A2 (bits (t + 1) L.length).length c2) (bits (t + 1) L.length) from ⟨OwnsRow.more ro2.own Ho.out.2.size, below_step Ho.out.2 rb2⟩)
          have Ho2 := Lib.hid (Ho.out.go rb2)
          have Hr2 := Lib.hid ra2
          clear ra2 ro2 rb2
          obtain ⟨x, hx⟩ : ∃ x, bits (t + 1) L.length = x := ⟨_, rfl⟩
          rw [hx] at hxa hxl Hj Hjoin Htake Hk1 Hk2 Hnx Hr2 ⊢
          have Hxa := Lib.hid hxa
          clear hx hxa
          go_wp2_with fail
          refine (Hj.out _ (H0.out.go Ho2.out.2) Hr2.out Hxa.out (by omega)).mono ?_
          rintro e w3 ⟨rfl, rfl⟩
          obtain ⟨jv, hjv⟩ : ∃ jv, jval L kind x = jv := ⟨_, rfl⟩
          rw [hjv] at Hjoin Htake Hk1 ⊢
          clear hjv
          by_cases hge : miles ≤ jv
          · have Hjp := Lib.hid (Hjoin.out.2 hge)
            by_cases he : (bestN L kind miles t).length = 0
            · have Hb2 := Lib.hid (Htake.out hge (.inl (List.eq_nil_of_length_eq_zero he)))
              have geb : (((bestN L kind miles t).length : Int) == 0) = true := by rw [he]; rfl
              clear he
              go_wp2
              go_roundw
              case rel => exact ⟨t + 1, _, by omega, by go_num, rfl, by rw [Hb2.out]; exact Hnx.out⟩
              case measure => simp [intOf]; omega
            · have hne : bestN L kind miles t ≠ [] := fun h => he (by rw [h]; rfl)
              have geb : (((bestN L kind miles t).length : Int) == 0) = false := beq_false_of_ne (by omega)
              have ha := l4Ahead_c L kind Hv.out A0 c0 A2 c2 x A9 c9 (bestN L kind miles t) w2 (H0.out.go Ho2.out.2) Hr2.out ((Ow.of_own Ho2.out.1).arg (by omega) (Nat.le_refl _)) Hxa.out Hba.out.1 Hjp.out.2.1 (Hba.out.2 hne) (by omega) (by omega)
              have Ha := Lib.hid ha
              clear ha
              go_wp2_with fail
              refine Ha.out.mono ?_
              rintro e w4 ⟨rfl, hb4⟩
              have Hb4 := Lib.hid hb4
              clear hb4
              cases hah : ahead L x (bestN L kind miles t)
              · have Hb2 := Lib.hid (Hk2.out hne hah)
                clear hah hne
                go_wp2
                go_roundw
                case rel => exact ⟨t + 1, _, by omega, by go_num, rfl, by rw [Hb2.out]; exact Ho2.out.go Hb4.out⟩
                case measure => simp [intOf]; omega
              · have Hb2 := Lib.hid (Htake.out hge (.inr hah))
                clear hah hne
                go_wp2
                go_roundw
                case rel => exact ⟨t + 1, _, by omega, by go_num, rfl, by rw [Hb2.out]; exact Hnx.out.go Hb4.out⟩
                case measure => simp [intOf]; omega
          · have Hb2 := Lib.hid (Hk1.out (by omega))
            go_wp2
            go_roundw
            case rel => exact ⟨t + 1, _, by omega, by go_num, rfl, by rw [Hb2.out]; exact Ho2.out⟩
            case measure => simp [intOf]; omega
        · have htp : t + 1 = p := by omega
          have g1 : ¬ (t : Int) + 1 < (p : Int) := by omega
          have Hfin := Lib.hid (bestN_all Hv.out kind Hm.out (t := t) (by rw [Hpp.out]; exact htp))
          clear htp
          go_wp2
          go_ret2
          rw [← Hfin.out.1, ← Hfin.out.2]
          exact RetS.mk (f := fun v => .tuple #[v, .bool (decide (0 < (bestN L kind miles t).length))]) (by omega) Ho.out.1 Ho.out.2

theorem fewV_joint (L : List Spr) (kind miles : Int) : fewV L kind miles = if jointB L kind miles then ((jointL L kind miles).length : Int) - 1 else -1 := by
  by_cases h : fewV L kind miles < 0
  · have h1 := joint_none (joint_neg h)
    rw [h1.2]
    unfold fewV at h ⊢
    by_cases h2 : sprB 10 L = true ∧ 1 ≤ miles ∧ miles ≤ 500
    · rw [if_pos h2] at h ⊢
      rcases joint_spec h2.1 kind h2.2 with ⟨h3, _⟩ | ⟨x, _, _, h4, h5, _⟩
      · rw [h3]; rfl
      · omega
    · rw [if_neg h2]; rfl
  · have hv : sprB 10 L = true ∧ 1 ≤ miles ∧ miles ≤ 500 := by
      apply Classical.byContradiction
      intro h2
      apply h
      unfold fewV
      rw [if_neg h2]
      decide
    rcases joint_spec hv.1 kind hv.2 with ⟨h3, _⟩ | ⟨x, h3, _, h4, _⟩
    · unfold fewV at h; rw [if_pos hv, h3] at h; exact absurd (by decide) h
    · have h1 := joint_some h3
      rw [h1.1, h1.2]
      unfold fewV
      rw [if_pos hv, h4]
      rfl

set_option maxRecDepth 100000 in
set_option maxHeartbeats 1000000 in
theorem specJointFewest_b (A : Option Addr) (c : Nat) (L : List Spr) (kind miles : Int) (w : World) (ha : ArgZ w A c L) :
    Calls Try.prog 34 #[.slice A L.length c, .int .i64 kind, .int .i64 miles] w (RetB (.int .i64 (fewV L kind miles)) w) := by
  have Hf := Lib.hid (fewV_joint L kind miles)
  have HA := Lib.hid ha
  clear ha
  go_enter Try.func34, Try.ntmps34
  go_wp2_with fail
  refine (specJointBest_b A c L kind miles _ HA.out).mono ?_
  rintro e w1 ⟨B1, d1, rfl, ra1, ro1, rb1⟩
  dsimp only
  have Hb1 := Lib.hid rb1
  have hl := ra1.len
  clear ra1 ro1 rb1
  cases hv : jointB L kind miles
  · have Hx := Lib.hid (show fewV L kind miles = -1 by rw [Hf.out, hv]; rfl)
    clear hv
    go_wp2
    go_ret
    exact ⟨by rw [Hx.out]; rfl, Hb1.out⟩
  · have Hx := Lib.hid (show fewV L kind miles = ((jointL L kind miles).length : Int) - 1 by rw [Hf.out, hv]; rfl)
    clear hv
    go_wp2
    go_ret
    exact ⟨by rw [Hx.out]; rfl, Hb1.out⟩

end Go.Proofs.Ytmbdggakahbciaa
