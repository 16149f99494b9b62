/-
  SignalLetters of the program.
-/
import Derived.Test.YthhckijoilphiaaDoorCdO
import Derived.Test.YthhckijoilphiaaDoorSgL
import Derived.Test.YthhckijoilphiaaDoorMade
import Derived.Test.YthhckijoilphiaaDoorStkA
import Derived.Deep.OwnRows
namespace Go.Proofs.YthhckijoilphiaaDoor
open Go.RowKit

theorem inRange_cs (n a b : Int) (w : World) : Calls Tryd.prog 62 #[.int .i64 n, .int .i64 a, .int .i64 b] w fun e w' => e = .returned (.bool (decide (a ≤ n) && decide (n ≤ b))) ∧ w = w' := by
  cases h1 : decide (a ≤ n) <;> cases h2 : decide (n ≤ b)
  all_goals
    go_enter Tryd.func62, Tryd.ntmps62
    go_wp2
    go_ret
    first | exact ⟨rfl, rfl⟩ | exact ⟨by simp_all, rfl⟩

theorem tree_codes {w : World} {A : Option Addr} (h : Tree w 5 1 A) (k : Nat) (hk : k ≤ 100) : Calls Tryd.prog 63 #[.pointer A, .int .i64 k] w (fun e w' => e = .returned (.int .i64 (cdo 5 1 k : Nat)) ∧ ∃ m, w' = w.drewN m) :=
  codesOf_c w 5 1 A h (by decide) k hk 0
theorem letters_no {n : Int} (h : ¬ (1 ≤ n ∧ n ≤ 16)) : lettersV n = -1 := by unfold lettersV; rw [if_neg h]
theorem letters_yes {n : Nat} (h1 : 1 ≤ n) (h2 : n ≤ 16) : lettersV (n : Int) = ((mesV n : Nat) : Int) := by unfold lettersV; rw [if_pos (by omega)]; rfl

set_option maxHeartbeats 4000000 in
theorem implSignalLetters_b (z : Int) (w : World) : Calls Tryd.prog 27 #[.int .i64 z] w (RetB (.int .i64 (lettersV z)) w) := by
  by_cases hr : 1 ≤ z ∧ z ≤ 16
  · obtain ⟨n, rfl⟩ := Int.eq_ofNat_of_zero_le (show 0 ≤ z by omega)
    have h1 : 1 ≤ n := by omega
    have h16 : n ≤ 16 := by omega
    have hd : (decide ((1 : Int) ≤ (n : Int)) && decide ((n : Int) ≤ 16)) = true := by simp; omega
    have HV := Lib.hid (letters_yes h1 h16)
    obtain ⟨i0, hi, hz0, hz1, hz2⟩ := info_parts int_info
    have HMI := Lib.hid (made_ints (n + 1))
    clear hr
    obtain ⟨N, hN⟩ : ∃ N, n + 1 = N := ⟨_, rfl⟩
    rw [hN] at HMI
    have n1 : (n : Int) + 1 = (N : Int) := by omega
    have HN := Lib.hid hN
    clear hN
    go_enter Tryd.func27, Tryd.ntmps27
    go_wp2_with fail
    refine (inRange_cs _ _ _ _).mono ?_
    rintro e w' ⟨rfl, rfl⟩
    rw [hd]
    go_wp2_with fail
    refine (codeTree_c _).mono ?_
    rintro e w1 ⟨A, rfl, ht, hb⟩
    have HT := Lib.hid ht
    have HB := Lib.hid hb
    clear ht hb
    go_wp2_with (at_make; refine wpList_make_full _ rfl (.tmp 12) (.tmp 12) 35 rfl w1.heap.size 3 i0 (.int .i64 0) 1 Tryd.underlying35 hi hz0 hz1 .i64 .i64 _ _ N rfl rfl rfl rfl (by rw [hz2]; have := HN.out; omega) (by have := HN.out; unfold maxLen; omega) (Nat.le_refl _) ?_; intro w2 hown hg1)
    rw [HMI.out] at hown
    have hb1 : Below w1.heap.size w1 w2 := (Below.refl _ _).grown hg1 (Nat.le_refl _) (by simp)
    obtain ⟨B, hB⟩ : ∃ B, B = w1.heap.size := ⟨_, rfl⟩
    rw [← hB] at hown hb1 ⊢
    have hBl : w.heap.size ≤ B := by have := HB.out.size; omega
    have HBe := Lib.hid hB
    have Hown := Lib.hid hown
    have Hb1 := Lib.hid hb1
    clear hB hg1 hown hb1 hi hz0 hz1 hz2 hd
    go_loopw [5] (fun i wr => ∃ (L : Nat) (y : List Int), 1 ≤ L ∧ L ≤ n + 1 ∧ i = .int .i64 L ∧ y.length = N ∧ isF y (fI L 0) ∧ wr.ownsRow B 3 1 (.slice (some ⟨B, 0, none⟩) N N) N (y.map (Value.int .i64)) ∧ Below B w1 wr) (fun i _ => n + 1 - (intOf i).toNat)
    case atStart =>
      refine ⟨1, List.replicate N 0, by omega, by omega, rfl, List.length_replicate, isF_zero _ _ ?_, Hown.out, Hb1.out⟩
      intro i hi
      unfold fI
      by_cases h : i < 1
      · rw [if_pos h, show i = 0 by omega]; rfl
      · rw [if_neg h]; split <;> rfl
    case round =>
      clear Hown Hb1
      obtain ⟨L, y, hL1, hL2, rfl, hyl, hF, hok, hbk⟩ := hrel
      have hbt : Below w1.heap.size w1 wr := by rw [← HBe.out]; exact hbk
      have HTr := Lib.hid (HT.out.go hbt)
      have Hbk := Lib.hid hbk
      have HF := Lib.hid hF
      clear hF hbk hbt
      by_cases hlt : L ≤ n
      · have hLN : L < y.length := by have := HN.out; omega
        have hcl := cdo_one_le L (by omega)
        have hc := tree_codes HTr.out L (by omega)
        obtain ⟨x, hx⟩ : ∃ x, cdo 5 1 L = x := ⟨_, rfl⟩
        rw [hx] at hc hcl
        have Hx := Lib.hid hx
        have HC := Lib.hid hc
        have Hok := Lib.hid hok
        have g1 : (L : Int) ≤ (n : Int) := by omega
        clear hx hc hok
        go_wp2_with fail
        refine HC.out.mono ?_
        rintro e w3 ⟨rfl, m, rfl⟩
        obtain ⟨wd, hwd⟩ : ∃ wd, wr.drewN m = wd := ⟨_, rfl⟩
        have hbd : Below B w1 wd := by rw [← hwd]; exact below_drewN Hbk.out m
        have hokd := own_below Hok.out (below_drewN' (w := wr) m)
        rw [hwd] at hokd ⊢
        obtain ⟨g, cap, hform, hck, hfk, hgb, ho', hg'⟩ := own_put (by rw [hyl]; exact hokd) hLN (x : Int)
        injection hform with e1 e2 e3
        injection e1 with e1
        injection e1 with e1 _ _
        subst e1
        subst e3
        clear e2
        obtain ⟨u0, hu0⟩ : ∃ u, y[L]'hLN = u := ⟨_, rfl⟩
        rw [hu0] at hck
        clear hu0
        rw [List.length_set] at ho'
        rw [hyl] at ho'
        have Ho' := Lib.hid ho'
        have Hb' := Lib.hid (show Below B w1 (wd.setCell ⟨B, L, none⟩ (.int .i64 x)) from hbd.setCell (Nat.le_refl _) _)
        have hF' : isF (y.set L (x : Int)) (fI L (pI L 1)) := isF_set HF.out (by rw [fI_at, ← Hx.out]; rfl) (fun i hi => fI_ne hi)
        have HF' := Lib.hid hF'
        have g2 : (0 : Int) ≤ (L : Int) := by omega
        have g3 : (L : Int) < (N : Int) := by omega
        have hyl' : (y.set L (x : Int)).length = N := by rw [List.length_set]; exact hyl
        have Hyl' := Lib.hid hyl'
        clear ho' hg' hF' hbd hwd hokd HC HF hLN hgb hyl' hyl
        go_wp2
        obtain ⟨w4, hw4⟩ : ∃ w4, wd.setCell ⟨B, L, none⟩ (.int .i64 x) = w4 := ⟨_, rfl⟩
        rw [hw4] at Ho' Hb' ⊢
        clear hw4 hck hfk
        go_loopw [6] (fun i wr2 => ∃ (j : Nat) (y : List Int), 1 ≤ j ∧ j ≤ L ∧ i = .int .i64 j ∧ y.length = N ∧ isF y (fI L (pI L j)) ∧ wr2.ownsRow B 3 1 (.slice (some ⟨B, 0, none⟩) N N) N (y.map (Value.int .i64)) ∧ Below B w1 wr2) (fun i _ => L - (intOf i).toNat)
        case atStart => exact ⟨1, _, by omega, by omega, rfl, Hyl'.out, HF'.out, Ho'.out, Hb'.out⟩
        case round =>
          clear Ho' Hb' HF' Hyl'
          obtain ⟨j, y2, hj1, hj2, rfl, hyl2, hF2, hok2, hbk2⟩ := hrel
          have hbt2 : Below w1.heap.size w1 wr := by rw [← HBe.out]; exact hbk2
          have HTr2 := Lib.hid (HT.out.go hbt2)
          have Hbk2 := Lib.hid hbk2
          have HF2 := Lib.hid hF2
          have Hok2 := Lib.hid hok2
          have Hyl2 := Lib.hid hyl2
          clear hF2 hbk2 hbt2 hok2 hyl2
          by_cases hjl : j < L
          · obtain ⟨d, hd⟩ : ∃ d, L = j + d + 1 := ⟨L - j - 1, by omega⟩
            obtain ⟨e, he⟩ : ∃ e, e = d + 1 := ⟨_, rfl⟩
            have hLN2 : L < y2.length := by rw [Hyl2.out]; have := HN.out; omega
            have hdN2 : d < y2.length := by omega
            have hcl := cdo_one_le j (by omega)
            have hml := mes_le d (by omega)
            have hcm := cdM_le j (by omega) d (by omega)
            have hpl := pI_le L (by omega) j (by omega)
            have hps : pI L (j + 1) = pI L j + cdo 5 1 j * mesV d := by
              show pI L j + (if j = 0 then 0 else cdo 5 1 j * mesV (L - j - 1)) = _
              rw [if_neg (by omega), show L - j - 1 = d by omega]
            have hpl2 := pI_le L (by omega) (j + 1) (by omega)
            have hc := tree_codes HTr2.out j (by omega)
            have hyd : y2[d]'hdN2 = ((mesV d : Nat) : Int) := by
              have := HF2.out d hdN2
              rw [fI_lt (by omega), List.getElem?_eq_getElem hdN2] at this
              exact this
            have hyL : y2[L]'hLN2 = ((pI L j : Nat) : Int) := by
              have := HF2.out L hLN2
              rw [fI_at, List.getElem?_eq_getElem hLN2] at this
              exact this
            have hok2 := Hok2.out
            rw [← Hyl2.out] at hok2
            obtain ⟨g, cap, hform, hck, hfk, hgb, ho', hg'⟩ := own_put hok2 hLN2 ((pI L (j + 1) : Nat) : Int)
            injection hform with e1 e2 e3
            injection e1 with e1
            injection e1 with e1 _ _
            subst e1
            subst e3
            clear e2
            have hcd := hok2.cellAt d (by omega)
            rw [List.getElem?_map, List.getElem?_eq_getElem hdN2, hyd] at hcd
            rw [hyL] at hck
            simp only [Option.map_some] at hcd
            have Hb' := Lib.hid (show Below B w1 (wr.setCell ⟨B, L, none⟩ (.int .i64 ((pI L (j + 1) : Nat) : Int))) from Hbk2.out.setCell (Nat.le_refl _) _)
            have hF' : isF (y2.set L ((pI L (j + 1) : Nat) : Int)) (fI L (pI L (j + 1))) := isF_set HF2.out (fI_at _ _) (fun i hi => fI_ne hi)
            have HF' := Lib.hid hF'
            have hyl' : (y2.set L ((pI L (j + 1) : Nat) : Int)).length = N := by rw [List.length_set]; exact Hyl2.out
            have Hyl' := Lib.hid hyl'
            rw [hyl', Hyl2.out] at ho'
            have Ho' := Lib.hid ho'
            clear ho' hg' hF' hok2 hgb hyl' hyd hyL hLN2 hdN2
            obtain ⟨p, hp⟩ : ∃ p, pI L j = p := ⟨_, rfl⟩
            obtain ⟨r, hr⟩ : ∃ r, pI L (j + 1) = r := ⟨_, rfl⟩
            obtain ⟨x, hx⟩ : ∃ x, cdo 5 1 j = x := ⟨_, rfl⟩
            obtain ⟨m, hm⟩ : ∃ m, mesV d = m := ⟨_, rfl⟩
            obtain ⟨q, hq⟩ : ∃ q, x * m = q := ⟨_, rfl⟩
            rw [hp] at hck hps hpl
            rw [hr] at hps hpl2 Ho' Hb' HF' Hyl'
            rw [hx] at hc hcl hcm hps
            rw [hm] at hcd hml hcm hps
            rw [hq] at hcm hps
            have v1 : IntKind.i64.wrap ((L : Int) - (j : Int)) = (e : Int) := by rw [show (L : Int) - (j : Int) = (e : Int) by omega]; exact IntWalk.i64_in _ (by omega)
            have v2 : IntKind.i64.wrap ((e : Int) - 1) = (d : Int) := by rw [show (e : Int) - 1 = (d : Int) by omega]; exact IntWalk.i64_in _ (by omega)
            have v3 : IntKind.i64.wrap ((x : Int) * (m : Int)) = (q : Int) := by rw [← Int.natCast_mul, hq]; exact IntWalk.i64_in _ (by omega)
            have v4 : IntKind.i64.wrap ((p : Int) + (q : Int)) = (r : Int) := by rw [show (p : Int) + (q : Int) = (r : Int) by omega]; exact IntWalk.i64_in _ (by omega)
            have HC := Lib.hid (fun W' => fun (h : W' = wr.drew) => hc)
            have hcW : ∀ q, Calls Tryd.prog 63 #[.pointer A, .int .i64 j] (wr.drewN q) (fun e w' => e = .returned (.int .i64 (x : Nat)) ∧ ∃ m, w' = wr.drewN m) := by
              intro q
              have := tree_codes (HTr2.out.go (below_drewN' q)) j (by omega)
              rw [hx] at this
              exact this.mono fun e w' ⟨he, m, hm⟩ => ⟨he, q + m, by rw [hm, World.drewN_drewN]⟩
            have HCW := Lib.hid hcW
            have g1 : (j : Int) < (L : Int) := by omega
            have g2 : (0 : Int) ≤ (L : Int) := by omega
            have g3 : (L : Int) < (N : Int) := by have := HN.out; omega
            have g4 : (0 : Int) ≤ (d : Int) := by omega
            have g5 : (d : Int) < (N : Int) := by omega
            have g6 : (0 : Int) ≤ (j : Int) := by omega
            have Hr := Lib.hid hr
            clear hc hcW HC hp hr hx hm hq hps hcm hml hcl hpl hpl2 he hd hj1
            go_wp2
            have hS : ∀ q, (wr.drewN q).cell? ⟨B, L, none⟩ = some (.int .i64 (p : Int)) ∧ (wr.drewN q).cell? ⟨B, d, none⟩ = some (.int .i64 (m : Int)) ∧ (wr.drewN q).frozen? ⟨B, L, none⟩ = false ∧ (∃ q2, wr.drewN q = wr.drewN q2) := fun q => ⟨hck, hcd, hfk, q, rfl⟩
            have HS := Lib.hid hS
            clear hS
            obtain ⟨dk1, dk2, dk3, _⟩ := HS.out 1
            go_region_with
              (first | (go_at_call 63; refine (HCW.out 1).mono ?_; rintro e w5 ⟨rfl, m5, hm5⟩; have pk5 := HS.out m5; rw [← hm5] at pk5; have Hm5 := Lib.hid hm5; clear hm5; obtain ⟨pk1, pk2, pk3, _⟩ := pk5))
            all_goals
              have Hb5 := Lib.hid (show Below B w1 (w5.setCell ⟨B, L, none⟩ (.int .i64 (r : Int))) by rw [Hm5.out]; exact (below_drewN Hbk2.out m5).setCell (Nat.le_refl _) _)
              have Ho5 := Lib.hid (show (w5.setCell ⟨B, L, none⟩ (.int .i64 (r : Int))).ownsRow B 3 1 (.slice (some ⟨B, 0, none⟩) N N) N ((y2.set L (r : Int)).map (Value.int .i64)) by rw [Hm5.out]; exact own_below Ho'.out (below_drewN' (w := wr.setCell ⟨B, L, none⟩ (.int .i64 (r : Int))) m5))
              go_wp2
              go_roundw
              case rel => exact ⟨j + 1, _, by omega, by omega, by go_num, Hyl'.out, by rw [Hr.out]; exact HF'.out, Ho5.out, Hb5.out⟩
              case measure => simp [intOf]; omega
          · obtain rfl : j = L := by omega
            have hnx : isF y2 (fI (j + 1) 0) := isF_same HF2.out (fun i _ => by rw [fI_next, pI_all j (by omega) hj1])
            have Hnx := Lib.hid hnx
            clear hnx
            go_wp2
            go_roundw
            case rel => exact ⟨j + 1, y2, by omega, by omega, by go_num, Hyl2.out, Hnx.out, Hok2.out, Hbk2.out⟩
            case measure => simp [intOf]; omega
      · obtain rfl : L = N := by have := HN.out; omega
        have hnl : n < y.length := by omega
        have hck := hok.cellAt n (by omega)
        have hyn : y[n]'hnl = ((mesV n : Nat) : Int) := by
          have := HF.out n hnl
          rw [fI_lt (by omega), List.getElem?_eq_getElem hnl] at this
          exact this
        rw [List.getElem?_map, List.getElem?_eq_getElem hnl, hyn] at hck
        simp only [Option.map_some] at hck
        clear hyn hok hyl hnl
        go_wp2
        go_ret
        exact ⟨by rw [HV.out]; rfl, HB.out.trans (Hbk.out.mono hBl)⟩
  · have HV := Lib.hid (letters_no hr)
    have hd : (decide ((1 : Int) ≤ z) && decide (z ≤ 16)) = false := by
      simp
      omega
    clear hr
    go_enter Tryd.func27, Tryd.ntmps27
    go_wp2_with fail
    refine (inRange_cs _ _ _ _).mono ?_
    rintro e w' ⟨rfl, rfl⟩
    rw [hd]
    go_wp2
    go_ret
    exact ⟨by rw [HV.out]; rfl, Below.refl _ _⟩

end Go.Proofs.YthhckijoilphiaaDoor
