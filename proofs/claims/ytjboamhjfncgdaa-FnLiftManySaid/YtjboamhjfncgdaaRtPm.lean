/-
  LiftMany of the program: the table.
-/
import Derived.Test.YtjboamhjfncgdaaRtP
namespace Go.Proofs.Ytjboamhjfncgdaa
open Go.RowKit

theorem OnF.set0 {w wr : World} {g n : Nat} {F : Nat → Nat} (h : OnF w wr (.slice (some ⟨g, 0, none⟩) n n) n F) (k y : Nat) (hg : w.heap.size ≤ g) : OnF w (wr.setCell ⟨g, k, none⟩ (.int .i64 (y : Int))) (.slice (some ⟨g, 0, none⟩) n n) n (fun j => if j = k then y else F j) ∧ wr.grownBy (wr.setCell ⟨g, k, none⟩ (.int .i64 (y : Int))) (some g) := by
  obtain ⟨h1, h2⟩ := h.1.stored k (.int .i64 (y : Int))
  rw [cellsF_set] at h1
  exact ⟨⟨h1, h.2.grown h2 h.2.size (fun r e => by cases e; exact hg)⟩, h2⟩
theorem OnF.at_ {w wr : World} {g n : Nat} {F : Nat → Nat} (h : OnF w wr (.slice (some ⟨g, 0, none⟩) n n) n F) {k : Nat} (hk : k < n) : wr.cell? ⟨g, k, none⟩ = some (.int .i64 (F k : Int)) := (h.1.cellAt k (by omega)).trans (cellsF_at hk)
theorem shr_nat (a k : Nat) : (a : Int) / (2 ^ k) = ((a >>> k : Nat) : Int) := by
  rw [Nat.shiftRight_eq_div_pow]
  rw [show ((2 : Int) ^ k) = ((2 ^ k : Nat) : Int) by rw [Int.natCast_pow]; rfl]
  exact (Int.natCast_ediv ..).symm
theorem bit_one (a k : Nat) : (a >>> k) &&& 1 = one (a.testBit k) := by
  rw [Nat.testBit]
  have h : (a >>> k) &&& 1 = (a >>> k) % 2 := Nat.and_one_is_mod _
  have h2 : 1 &&& (a >>> k) = (a >>> k) % 2 := by rw [Nat.and_comm]; exact h
  rw [h]
  rcases Nat.mod_two_eq_zero_or_one (a >>> k) with h3 | h3
  · rw [h3, h2, h3]; rfl
  · rw [h3, h2, h3]; rfl
theorem wrap_two2 (y : Nat) (h : y < 32) : wrap64 ((2 : Int) ^ y) = ((2 ^ y : Nat) : Int) := wrap_two y h

set_option maxRecDepth 100000 in
set_option maxHeartbeats 4000000 in
theorem implLiftMany_b (A : Option Addr) (c : Nat) (ss : List Rot) (w : World) (ha : ArgK w A c ss) :
    Calls Try.prog 54 #[.slice A ss.length c] w (RetB (.int .i64 (manyV ss)) w) := by
  obtain ⟨i0, hi, hz0, hz1, hz2⟩ := info_parts int_info
  have HA := Lib.hid ha
  clear ha
  go_enter Try.func54, Try.ntmps54
  go_wp2_with fail
  refine (implChartValid_b _ _ _ _ HA.out).mono ?_
  rintro e w1 ⟨rfl, hb⟩
  have Hb1 := Lib.hid hb
  clear hb
  cases e1 : chartB ss
  · have Hv := Lib.hid (manyV_no e1)
    clear e1
    go_wp2
    go_ret
    exact ⟨by rw [Hv.out] <;> rfl, Hb1.out⟩
  have h8 := chart_len e1
  have hv := manyV_yes e1
  rw [← dpN_all h8] at hv
  have Hv := Lib.hid hv
  have HS := Lib.hid (setsAbove_c A c ss w1 e1 (HA.out.go Hb1.out))
  have Hch := Lib.hid e1
  clear e1 hv
  have hln : (ints ((List.range ss.length).map (aboveM ss))).length = ss.length := by rw [ints_length]; simp
  have HatS := Lib.hid (fun k (hk : k < ss.length) => show (ints ((List.range ss.length).map (aboveM ss)))[k]?.getD 0 = (aboveM ss k : Int) by rw [ints_at (by simp; exact hk)]; simp [hk])
  obtain ⟨Sx, hSx⟩ : ∃ S, ints ((List.range ss.length).map (aboveM ss)) = S := ⟨_, rfl⟩
  rw [hSx] at HS hln HatS
  have Hln := Lib.hid hln
  clear hSx hln
  go_wp2_with fail
  refine HS.out.mono ?_
  rintro e w2 ⟨A3, c3, rfl, ra, ro, rb⟩
  dsimp only [id]
  have HH0 := Lib.hid (ro.held (Nat.le_refl _) ra.len : Held w1.heap.size w2.heap.size w2 A3 c3 Sx)
  have Hb2 := Lib.hid (below_step Hb1.out rb)
  have hs12 := rb.size
  have hs01 := Hb1.out.size
  rw [Hln.out]
  clear ra ro rb HS
  obtain ⟨N, hN⟩ : ∃ N, 2 ^ ss.length = N := ⟨_, rfl⟩
  have hN256 : N ≤ 256 := by rw [← hN]; exact Nat.pow_le_pow_right (by omega) h8
  have hN1 : 1 ≤ N := by rw [← hN]; exact Nat.two_pow_pos _
  have hwN := wrap_two ss.length (by omega)
  rw [hN] at hwN
  have HwN := Lib.hid hwN
  have HN := Lib.hid hN
  have Hz := Lib.hid (cellsF_zero N)
  have hmin : min ss.length 64 = ss.length := by omega
  clear hwN hN
  go_wp2_with (at_make; refine wpList_make_full _ rfl (.tmp 14) (.tmp 14) 25 rfl w2.heap.size 3 i0 _ 1 Try.underlying25 hi hz0 hz1 .i64 .i64 _ _ N rfl rfl HwN.out HwN.out (by rw [hz2]; omega) (by unfold maxLen; omega) (Nat.le_refl _) ?_; intro w3 hown hg1; rw [Hz.out] at hown; have HO := Lib.hid (show OnF w2 w3 (.slice (some ⟨w2.heap.size, 0, none⟩) N N) N (fun _ => 0) from ⟨hown, (Below.refl _ _).grown hg1 (Nat.le_refl _) (by simp)⟩); have HH1 := Lib.hid (HH0.out.go (HO.out.2)); have hc0 := (HO.out.1.cellAt 0 (by omega)).trans (cellsF_at (show 0 < N by omega)); have hf0 := HO.out.1.frozenAt 0; have g0 : (0 : Int) < (N : Int) := (by omega); clear hown hg1)
  have hset := HO.out.set0 0 1 (Nat.le_refl _)
  have HO4 := Lib.hid hset.1
  have HH4 := Lib.hid (HH1.out.grown hset.2 (fun r e => by cases e; exact .inr (Nat.le_refl _)))
  clear hset hc0 hf0
  have HB2 := Lib.hid Hb2.out
  obtain ⟨g, hg⟩ : ∃ g, w2.heap.size = g := ⟨_, rfl⟩
  have Hg := Lib.hid hg
  go_wp2
  rw [hg] at HO4 HH4 ⊢
  rw [hg] at hs12
  clear hg HO HH1
  go_loopw [5] (fun i wr => ∃ (a : Nat) (F : Nat → Nat), 1 ≤ a ∧ a ≤ N ∧ i = .int .i64 a ∧ OnF w2 wr (.slice (some ⟨g, 0, none⟩) N N) N F ∧ (∀ j, j < a → F j = dpN ss j) ∧ (∀ j, a ≤ j → F j = 0) ∧ Held w1.heap.size g wr A3 c3 Sx) (fun i _ => N - (intOf i).toNat)
  case atStart => exact ⟨1, _, Nat.le_refl _, hN1, rfl, HO4.out, fun j hj => by rw [show j = 0 by omega, if_pos rfl, dpN_zero], fun j hj => by rw [if_neg (by omega)], HH4.out⟩
  case round =>
    obtain ⟨a, F, ha1, haN, rfl, ho, hF1, hF0, hh⟩ := hrel
    obtain ⟨wo, hwo⟩ : ∃ wo, wo = wr := ⟨_, rfl⟩
    subst hwo
    have Ho := Lib.hid ho
    have HF1 := Lib.hid hF1
    have HF0 := Lib.hid hF0
    have Hh := Lib.hid hh
    clear ho hF1 hF0 hh HO4 HH4
    by_cases hlt : a < N
    · have g1 : (a : Int) < (N : Int) := by omega
      go_wp2
      go_loopw [26] (fun i w3 => ∃ (k : Nat) (G : Nat → Nat), k ≤ ss.length ∧ i = .int .i64 k ∧ OnF w2 w3 (.slice (some ⟨g, 0, none⟩) N N) N G ∧ (∀ j, j < a → G j = dpN ss j) ∧ G a = dpTo ss a k ∧ (∀ j, a < j → G j = 0) ∧ Held w1.heap.size g w3 A3 c3 Sx) (fun i _ => ss.length - (intOf i).toNat)
      case atStart => exact ⟨0, F, Nat.zero_le _, rfl, Ho.out, HF1.out, by rw [dpTo_zero]; exact HF0.out a (Nat.le_refl _), fun j hj => HF0.out j (by omega), Hh.out⟩
      case round =>
        obtain ⟨k, G, hk, rfl, ho, hG1, hGa, hG0, hh⟩ := hrel
        by_cases hkl : k < ss.length
        · have g2 : (k : Int) < (ss.length : Int) := by omega
          have hm64 : min k 64 = k := by omega
          have hsh := shr_nat a k
          have hbo := bit_one a k
          have hand := and64 (a >>> k) 1 (Nat.lt_of_le_of_lt (Nat.shiftRight_le a k) (by omega)) (by omega)
          rw [hbo, ← hsh] at hand
          obtain ⟨b, off, eb, hcell⟩ := argI_at2 hh.arg (k := k) (by rw [Hln.out]; exact hkl)
          have hcs := hcell _ (Below.refl _ _)
          rw [HatS.out k hkl] at hcs
          have hok := okS_bits ss a k hkl
          have hy := fun h => dpTo_yes (R := ss) (j := a) (m := k) h8 (by omega) h
          have hn := fun h => dpTo_no (R := ss) (j := a) (m := k) h
          have hab := aboveM_lt ss k h8
          have hd1 := dpTo_le h8 a (m := k) hk
          have hd2 := dpTo_le h8 a (m := k + 1) hkl
          have ha256 : a < 256 := by omega
          have hk8 : k < 8 := by omega
          have hpow : a.testBit k = true → 2 ^ k ≤ a := bits_ge ⟨a, ha256⟩ ⟨k, hk8⟩
          subst eb
          obtain ⟨M, hM⟩ : ∃ M, aboveM ss k = M := ⟨_, rfl⟩
          obtain ⟨X, hX⟩ : ∃ X, dpTo ss a k = X := ⟨_, rfl⟩
          obtain ⟨Y, hY⟩ : ∃ Y, dpTo ss a (k + 1) = Y := ⟨_, rfl⟩
          rw [hM] at hcs hok hab
          rw [hX] at hGa hd1 hy hn
          rw [hY] at hd2 hy hn
          have hand2 := and64 a M (by omega) (by omega)
          obtain ⟨bt, hbt⟩ : ∃ bt, a.testBit k = bt := ⟨_, rfl⟩
          rw [hbt] at hok hand
          have Hand := Lib.hid hand
          have HY := Lib.hid hY
          have Hbt := Lib.hid hbt
          have Ho3 := Lib.hid ho
          have Hh3 := Lib.hid hh
          have HG1 := Lib.hid hG1
          have HG0 := Lib.hid hG0
          have HGa := Lib.hid hGa
          have Hy := Lib.hid hy
          have Hn := Lib.hid hn
          have Hok := Lib.hid hok
          have Hpow := Lib.hid hpow
          clear hcell ho hh hG1 hG0 hGa hy hn hok hbo hM hX hY hbt hpow hand hsh
          cases bt
          · have hand0 : bits .and .i64 ((a : Int) / 2 ^ k) 1 = 0 := Hand.out
            have hz := Hn.out (by rw [Hok.out]; rfl)
            clear hand2 hcs
            go_wp2
            go_roundw
            case rel => exact ⟨k + 1, G, by omega, by go_num, Ho3.out, HG1.out, by rw [HGa.out, HY.out, hz], HG0.out, Hh3.out⟩
            case measure => simp [intOf]; omega
          · have hand0 : bits .and .i64 ((a : Int) / 2 ^ k) 1 = 1 := Hand.out
            have hle := Hpow.out Hbt.out
            by_cases hz0 : a &&& M = 0
            · have hand3 : bits .and .i64 (a : Int) (M : Int) = 0 := by rw [hand2, hz0]; rfl
              have hz := Hy.out (by rw [Hok.out, hz0]; rfl)
              have Hand0 := Lib.hid hand0
              have Hand3 := Lib.hid hand3
              clear hand2 hz0 hand0 hand3
              obtain ⟨P, hP⟩ : ∃ P, 2 ^ k = P := ⟨_, rfl⟩
              have Hw2 := Lib.hid (show wrap64 ((2 : Int) ^ k) = (P : Int) by rw [← hP]; exact wrap_two k (by omega))
              rw [hP] at hle hz
              have hP1 : 1 ≤ P := hP ▸ Nat.two_pow_pos k
              clear hP
              obtain ⟨d, hd⟩ : ∃ d, a - P = d := ⟨_, rfl⟩
              have hda : d < a := by omega
              obtain ⟨D, hD⟩ : ∃ D, dpN ss d = D := ⟨_, rfl⟩
              rw [hd, hD] at hz
              have hD8 : D ≤ 16777216 := by rw [← hD]; exact dpN_le h8 d
              have x1 := Ho3.out.at_ (k := a) hlt
              rw [HGa.out] at x1
              have x2 := Ho3.out.at_ (k := d) (by omega)
              rw [HG1.out d hda, hD] at x2
              have x3 := Ho3.out.1.frozenAt a
              have Hset := Lib.hid (Ho3.out.set a (X + D) (by have := Hg.out; omega))
              have hgr : wr.grownBy (wr.setCell ⟨g, a, none⟩ (.int .i64 ((X + D : Nat) : Int))) (some g) := (Ho3.out.set0 a (X + D) (by have := Hg.out; omega)).2
              have Hgr := Lib.hid hgr
              have e1 : (a : Int) - (P : Int) = (d : Int) := by omega
              have e2 : (d : Int) < (N : Int) := by omega
              have q2 : IntKind.i64.wrap ((X : Int) + (D : Int)) = ((X + D : Nat) : Int) := by rw [IntWalk.i64_in _ (by omega)]; omega
              have e3 : IntKind.i64.wrap (d : Int) = (d : Int) := IntWalk.i64_in _ (by omega)
              have Hz := Lib.hid hz
              have hw2 := Hw2.out
              have hand0 := Hand0.out
              have hand3 := Hand3.out
              have q1 : IntKind.i64.wrap ((a : Int) - (P : Int)) = (d : Int) := by rw [e1]; exact e3
              clear hz hd hD hle e1 e3 hgr
              have eXD : (X : Int) + (D : Int) = ((X + D : Nat) : Int) := (Int.natCast_add ..).symm
              have HeXD := Lib.hid eXD
              clear eXD
              go_wp2
              go_region
              all_goals
                go_wp2
                rw [HeXD.out]
                go_roundw
                case rel => exact ⟨k + 1, _, by omega, by go_num, Hset.out, fun j hj => by rw [if_neg (by omega)]; exact HG1.out j hj, by rw [if_pos rfl, HY.out, Hz.out], fun j hj => by rw [if_neg (by omega)]; exact HG0.out j hj, (Hh3.out.grown Hgr.out (fun r e => by cases e; exact .inr (Nat.le_refl _))).go (below_drewN (Below.refl _ _) 1)⟩
                case measure => simp [intOf]; omega
            · have hand3 : bits .and .i64 (a : Int) (M : Int) = ((a &&& M : Nat) : Int) := hand2
              have hne : ((a &&& M : Nat) : Int) ≠ 0 := by omega
              have hz := Hn.out (by rw [Hok.out, decide_eq_false hz0]; rfl)
              obtain ⟨Z, hZ⟩ : ∃ Z, ((a &&& M : Nat) : Int) = Z := ⟨_, rfl⟩
              rw [hZ] at hand3 hne
              have hne1 : (Z == 0) = false := by simpa using hne
              have hne2 : (Z = 0) = False := eq_false hne
              clear hand2 hz0 hZ hne
              go_wp2
              go_roundw
              case rel => exact ⟨k + 1, G, by omega, by go_num, Ho3.out, HG1.out, by rw [HGa.out, HY.out, hz], HG0.out, Hh3.out⟩
              case measure => simp [intOf]; omega
        · obtain rfl : k = ss.length := by omega
          have hda := dpTo_all (R := ss) (j := a) h8 (by omega) (by rw [HN.out]; exact hlt)
          rw [hda] at hGa
          have Ho3 := Lib.hid ho
          have HF1' := Lib.hid (show ∀ j, j < a + 1 → G j = dpN ss j from fun j hj => by
            rcases (by omega : j < a ∨ j = a) with h | rfl
            · exact hG1 j h
            · exact hGa)
          have HF0' := Lib.hid (show ∀ j, a + 1 ≤ j → G j = 0 from fun j hj => hG0 j (by omega))
          have Hh3 := Lib.hid hh
          clear ho hh hG1 hG0 hGa hda
          go_wp2
          go_roundw
          case rel => exact ⟨a + 1, G, by omega, by omega, by go_num, Ho3.out, HF1'.out, HF0'.out, Hh3.out⟩
          case measure => simp [intOf]; omega
    · obtain rfl : a = N := by omega
      have q1 : IntKind.i64.wrap ((a : Int) - 1) = (a : Int) - 1 := IntWalk.i64_in _ (by omega)
      have hcl := Ho.out.at_ (k := a - 1) (by omega)
      rw [HF1.out (a - 1) (by omega)] at hcl
      have hvv : manyV ss = (dpN ss (a - 1) : Int) := by rw [Hv.out, HN.out]
      have Hvv := Lib.hid hvv
      have g3 : (a : Int) - 1 < (a : Int) := by omega
      have g4 : (0 : Int) ≤ (a : Int) - 1 := by omega
      have g5 : ((a : Int) - 1).toNat = a - 1 := by omega
      clear hvv
      go_wp2
      go_ret
      exact ⟨by rw [Hvv.out]; rfl, below_step HB2.out Ho.out.2⟩

end Go.Proofs.Ytjboamhjfncgdaa
