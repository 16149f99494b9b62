/-
  SignalLetters of the model.
-/
import Derived.Test.YthhckijoilphiaaDoorSgL
import Derived.Test.YthhckijoilphiaaDoorMade
import Derived.Test.YthhckijoilphiaaDoorStkA
import Derived.Deep.OwnRows
import Derived.IntWalk
import Derived.BigRegion
import Derived.StillTailTactics
namespace Go.Proofs.YthhckijoilphiaaDoor
open Go.RowKit

theorem l6In_cs (n a b : Int) (w : World) : Calls Tryd.prog 64 #[.int .i64 n, .int .i64 a, .int .i64 b] w fun e w' => e = .returned (.bool (decide (a ≤ n) && decide (n ≤ b))) ∧ w = w' := by
  cases h1 : decide (a ≤ n) <;> cases h2 : decide (n ≤ b)
  all_goals
    go_enter Tryd.func64, Tryd.ntmps64
    go_wp2
    go_ret
    first | exact ⟨rfl, rfl⟩ | exact ⟨by simp_all, rfl⟩
theorem many_cell (w : World) : ∀ m, m < 5 → (w.alloc (.cells #[.int .i64 0, .int .i64 2, .int .i64 4, .int .i64 8, .int .i64 12] 3)).cell? ⟨w.heap.size, m, none⟩ = some (.int .i64 ((mnyV m : Nat) : Int)) := by
  intro m hm
  refine (World.cell?_alloc_at (w := w) _ 3 w.heap.size m rfl).trans ?_
  have : m = 0 ∨ m = 1 ∨ m = 2 ∨ m = 3 ∨ m = 4 := by omega
  rcases this with rfl | rfl | rfl | rfl | rfl <;> rfl
theorem first_way {w w2 : World} {N : Nat} {o : Obj} (h : w2.ownsRow (w.heap.size + 1) 3 1 (.slice (some ⟨(w.alloc o).heap.size, 0, none⟩) N N) N ((List.replicate N (0 : Int)).map (Value.int .i64))) (hN : 0 < N) (hg : (w.alloc o).grownBy w2 none) :
    w2.cell? ⟨w.heap.size + 1, 0, none⟩ = some (.int .i64 0) ∧ w2.frozen? ⟨w.heap.size + 1, 0, none⟩ = false ∧
      (w2.setCell ⟨w.heap.size + 1, 0, none⟩ (.int .i64 1)).ownsRow (w.heap.size + 1) 3 1 (.slice (some ⟨w.heap.size + 1, 0, none⟩) N N) N (((List.replicate N (0 : Int)).set 0 1).map (Value.int .i64)) ∧
      Below (w.heap.size + 1) (w.alloc o) (w2.setCell ⟨w.heap.size + 1, 0, none⟩ (.int .i64 1)) := by
  have hs : (w.alloc o).heap.size = w.heap.size + 1 := by simp
  rw [hs] at h
  have hl : (List.replicate N (0 : Int)).length = N := List.length_replicate
  obtain ⟨g, cap, hform, hck, hfk, hgb, ho', hg'⟩ := own_put (by rw [hl]; exact h) (i := 0) (by rw [hl]; exact hN) 1
  injection hform with e1 e2 e3
  injection e1 with e1
  injection e1 with e1 _ _
  subst e1
  subst e3
  rw [List.length_set, hl] at ho'
  refine ⟨by rw [hck]; simp, hfk, ho', ((Below.refl _ _).grown hg (Nat.le_of_eq hs.symm) (by simp)).setCell (Nat.le_refl _) _⟩
theorem way_of_mes {n : Nat} (h1 : 1 ≤ n) (h2 : n ≤ 16) : lettersV (n : Int) = ((wayV (n + 1) : Nat) : Int) := by
  unfold lettersV; rw [if_pos (by omega), way_mes n (by omega) h1]; rfl
theorem letters_none {n : Int} (h : ¬ (1 ≤ n ∧ n ≤ 16)) : lettersV n = -1 := by unfold lettersV; rw [if_neg h]

set_option maxHeartbeats 4000000 in
set_option maxRecDepth 100000 in
theorem specSignalLetters_b (z : Int) (w : World) : Calls Tryd.prog 28 #[.int .i64 z] w (RetB (.int .i64 (lettersV z)) w) := by
  by_cases hr : 1 ≤ z ∧ z ≤ 16
  · obtain ⟨n, rfl⟩ := Int.eq_ofNat_of_zero_le (show 0 ≤ z by omega)
    have h1 : 1 ≤ n := by omega
    have h16 : n ≤ 16 := by omega
    have hd : (decide ((1 : Int) ≤ (n : Int)) && decide ((n : Int) ≤ 16)) = true := by simp; omega
    have HV := Lib.hid (way_of_mes h1 h16)
    obtain ⟨i0, hi, hz0, hz1, hz2⟩ := info_parts int_info
    clear hr
    obtain ⟨N, hN⟩ : ∃ N, n + 2 = N := ⟨_, rfl⟩
    have HMI := Lib.hid (made_ints N)
    have n1 : (n : Int) + 2 = (N : Int) := by omega
    have HN := Lib.hid hN
    clear hN
    go_enter Tryd.func28, Tryd.ntmps28
    go_wp2_with fail
    refine (l6In_cs _ _ _ _).mono ?_
    rintro e w' ⟨rfl, rfl⟩
    rw [hd]
    go_wp2_with (at_make; refine wpList_make_full _ rfl (.tmp 12) (.tmp 12) 35 rfl (w.heap.size + 1) 3 i0 (.int .i64 0) 1 Tryd.underlying35 hi hz0 hz1 .i64 .i64 _ _ N rfl rfl rfl rfl (by rw [hz2]; have := HN.out; omega) (by have := HN.out; unfold maxLen; omega) (by simp) ?_; intro w2 hown hg1; rw [HMI.out] at hown; obtain ⟨hck, hfk, ho', hb2⟩ := first_way hown (by have := HN.out; omega) hg1; clear hown hg1)
    obtain ⟨B, hB⟩ : ∃ B, B = w.heap.size + 1 := ⟨_, rfl⟩
    rw [← hB] at ho' hb2 ⊢
    obtain ⟨wa, hwa⟩ : ∃ wa, wa = w.alloc (.cells #[.int .i64 0, .int .i64 2, .int .i64 4, .int .i64 8, .int .i64 12] 3) := ⟨_, rfl⟩
    rw [← hwa] at hb2
    have Hwa := Lib.hid (show ∀ m, m < 5 → wa.cell? ⟨w.heap.size, m, none⟩ = some (.int .i64 ((mnyV m : Nat) : Int)) by rw [hwa]; exact many_cell w)
    have Hbw := Lib.hid (show Below w.heap.size w wa by rw [hwa]; exact (Below.refl _ _).alloc (Nat.le_refl _) _)
    have HBe := Lib.hid hB
    have Ho := Lib.hid ho'
    have Hb := Lib.hid hb2
    obtain ⟨w3, hw3⟩ : ∃ w3, w2.setCell ⟨B, 0, none⟩ (.int .i64 1) = w3 := ⟨_, rfl⟩
    rw [hw3] at Ho Hb ⊢
    clear hw3 hck hfk hB ho' hb2 hwa hi hz0 hz1 hz2 hd
    go_loopw [5] (fun i wr => ∃ (k : Nat) (y : List Int), 1 ≤ k ∧ k ≤ n + 2 ∧ i = .int .i64 k ∧ y.length = N ∧ isF y (fS k 0) ∧ wr.ownsRow B 3 1 (.slice (some ⟨B, 0, none⟩) N N) N (y.map (Value.int .i64)) ∧ Below B wa wr) (fun i _ => n + 2 - (intOf i).toNat)
    case atStart =>
      refine ⟨1, (List.replicate N (0 : Int)).set 0 1, by omega, by omega, rfl, by simp, ?_, Ho.out, Hb.out⟩
      intro i hi
      rw [List.length_set, List.length_replicate] at hi
      by_cases h : i = 0
      · subst h
        rw [List.getElem?_set_self (by rw [List.length_replicate]; exact hi)]
        rfl
      · rw [List.getElem?_set_ne (Ne.symm h), List.getElem?_replicate_of_lt hi]
        unfold fS
        rw [if_neg (by omega)]
        split <;> rfl
    case round =>
      clear Ho Hb
      obtain ⟨k, y, hk1, hk2, rfl, hyl, hF, hok, hbk⟩ := hrel
      have Hbk := Lib.hid hbk
      have HF := Lib.hid hF
      have Hok := Lib.hid hok
      have Hyl := Lib.hid hyl
      clear hF hbk
      by_cases hlt : k ≤ n + 1
      · have g1 : (k : Int) ≤ (n : Int) + 1 := by omega
        clear hok hyl
        go_wp2
        go_loopw [6] (fun i wr2 => ∃ (m : Nat) (y : List Int), 1 ≤ m ∧ m ≤ 5 ∧ i = .int .i64 m ∧ y.length = N ∧ isF y (fS k (pS k m)) ∧ wr2.ownsRow B 3 1 (.slice (some ⟨B, 0, none⟩) N N) N (y.map (Value.int .i64)) ∧ Below B wa wr2) (fun i _ => 5 - (intOf i).toNat)
        case atStart => exact ⟨1, y, by omega, by omega, rfl, Hyl.out, by rw [pS_one k (by omega)]; exact HF.out, Hok.out, Hbk.out⟩
        case round =>
          clear Hok Hbk HF Hyl
          obtain ⟨m, y2, hm1, hm2, rfl, hyl2, hF2, hok2, hbk2⟩ := hrel
          have Hbk2 := Lib.hid hbk2
          have HF2 := Lib.hid hF2
          have Hok2 := Lib.hid hok2
          have Hyl2 := Lib.hid hyl2
          clear hF2 hbk2 hok2 hyl2
          by_cases hml : m ≤ 4
          · have g2 : (m : Int) ≤ 4 := by omega
            by_cases hkm : m + 1 ≤ k
            · obtain ⟨d, hd⟩ : ∃ d, k = m + d + 1 := ⟨k - m - 1, by omega⟩
              obtain ⟨e, he⟩ : ∃ e, e = d + 1 := ⟨_, rfl⟩
              have hLN2 : k < y2.length := by rw [Hyl2.out]; have := HN.out; omega
              have hdN2 : d < y2.length := by omega
              have hcl := mny_le m (by omega)
              have hml := way_le d (by omega)
              have hcm := myW_le m (by omega) d (by omega)
              have hpl := pS_le k (by omega) m (by omega)
              have hps : pS k (m + 1) = pS k m + mnyV m * wayV d := by
                show pS k m + (if 1 ≤ m ∧ m + 1 ≤ k then mnyV m * wayV (k - m - 1) else 0) = _
                rw [if_pos (by omega), show k - m - 1 = d by omega]
              have hpl2 := pS_le k (by omega) (m + 1) (by omega)
              have hyd : y2[d]'hdN2 = ((wayV d : Nat) : Int) := by
                have := HF2.out d hdN2
                rw [fS_lt (by omega), List.getElem?_eq_getElem hdN2] at this
                exact this
              have hyL : y2[k]'hLN2 = ((pS k m : Nat) : Int) := by
                have := HF2.out k hLN2
                rw [fS_at, List.getElem?_eq_getElem hLN2] at this
                exact this
              have hok2 := Hok2.out
              rw [← Hyl2.out] at hok2
              obtain ⟨g, cap, hform, hck, hfk, hgb, ho', hg'⟩ := own_put hok2 hLN2 ((pS k (m + 1) : Nat) : Int)
              injection hform with e1 e2 e3
              injection e1 with e1
              injection e1 with e1 _ _
              subst e1
              subst e3
              clear e2
              have hcd := hok2.cellAt d (by omega)
              rw [List.getElem?_map, List.getElem?_eq_getElem hdN2, hyd] at hcd
              rw [hyL] at hck
              simp only [Option.map_some] at hcd
              have hcM : wr.cell? ⟨w.heap.size, m, none⟩ = some (.int .i64 ((mnyV m : Nat) : Int)) := (Hbk2.out.cell (p := ⟨w.heap.size, m, none⟩) (by rw [HBe.out]; exact Nat.lt_succ_self _)).trans (Hwa.out m (by omega))
              have Hb' := Lib.hid (show Below B wa (wr.setCell ⟨B, k, none⟩ (.int .i64 ((pS k (m + 1) : Nat) : Int))) from Hbk2.out.setCell (Nat.le_refl _) _)
              have hF' : isF (y2.set k ((pS k (m + 1) : Nat) : Int)) (fS k (pS k (m + 1))) := isF_set HF2.out (fS_at _ _) (fun i hi => fS_ne hi)
              have HF' := Lib.hid hF'
              have hyl' : (y2.set k ((pS k (m + 1) : Nat) : Int)).length = N := by rw [List.length_set]; exact Hyl2.out
              have Hyl' := Lib.hid hyl'
              rw [hyl', Hyl2.out] at ho'
              have Ho' := Lib.hid ho'
              clear ho' hg' hF' hok2 hgb hyl' hyd hyL hLN2 hdN2
              obtain ⟨p, hp⟩ : ∃ p, pS k m = p := ⟨_, rfl⟩
              obtain ⟨r, hr⟩ : ∃ r, pS k (m + 1) = r := ⟨_, rfl⟩
              obtain ⟨x, hx⟩ : ∃ x, mnyV m = x := ⟨_, rfl⟩
              obtain ⟨u, hu⟩ : ∃ u, wayV d = u := ⟨_, rfl⟩
              obtain ⟨q, hq⟩ : ∃ q, x * u = q := ⟨_, rfl⟩
              rw [hp] at hck hps hpl
              rw [hr] at hps hpl2 Ho' Hb' HF' Hyl'
              rw [hx] at hcM hcl hcm hps
              rw [hu] at hcd hml hcm hps
              rw [hq] at hcm hps
              have v1 : IntKind.i64.wrap ((k : Int) - (m : Int)) = (e : Int) := by rw [show (k : Int) - (m : Int) = (e : Int) by omega]; exact IntWalk.i64_in _ (by omega)
              have v2 : IntKind.i64.wrap ((e : Int) - 1) = (d : Int) := by rw [show (e : Int) - 1 = (d : Int) by omega]; exact IntWalk.i64_in _ (by omega)
              have v3 : IntKind.i64.wrap ((x : Int) * (u : Int)) = (q : Int) := by rw [← Int.natCast_mul, hq]; exact IntWalk.i64_in _ (by omega)
              have v4 : IntKind.i64.wrap ((p : Int) + (q : Int)) = (r : Int) := by rw [show (p : Int) + (q : Int) = (r : Int) by omega]; exact IntWalk.i64_in _ (by omega)
              have V1 := Lib.hid v1
              have g3 : (0 : Int) ≤ (k : Int) - (m : Int) - 1 := by omega
              have g4 : (0 : Int) ≤ (k : Int) := by omega
              have g5 : (k : Int) < (N : Int) := by have := HN.out; omega
              have g6 : (0 : Int) ≤ (d : Int) := by omega
              have g7 : (d : Int) < (N : Int) := by omega
              have g8 : (0 : Int) ≤ (m : Int) := by omega
              have g9 : (m : Int) < 5 := by omega
              have Hr := Lib.hid hr
              have dck : wr.drew.cell? ⟨B, k, none⟩ = some (.int .i64 (p : Int)) := hck
              have dcd : wr.drew.cell? ⟨B, d, none⟩ = some (.int .i64 (u : Int)) := hcd
              have dcM : wr.drew.cell? ⟨w.heap.size, m, none⟩ = some (.int .i64 (x : Int)) := hcM
              have dfk : wr.drew.frozen? ⟨B, k, none⟩ = false := hfk
              clear hp hr hx hu hq hps hcm hml hcl hpl hpl2 v1 hd he
              go_wp2
              have v1 := V1.out
              go_still_tail 20, (by kernel_rfl)
              go_wp2
              go_roundw
              case rel => exact ⟨m + 1, _, by omega, by omega, by go_num, Hyl'.out, by rw [Hr.out]; exact HF'.out, Ho'.out, Hb'.out.drew⟩
              case measure => simp [intOf]; omega
            · have g3 : ¬ (0 : Int) ≤ (k : Int) - (m : Int) - 1 := by omega
              have hps : pS k (m + 1) = pS k m := by
                show pS k m + (if 1 ≤ m ∧ m + 1 ≤ k then mnyV m * wayV (k - m - 1) else 0) = _
                rw [if_neg (by omega)]; rfl
              have Hps := Lib.hid hps
              clear hps
              go_wp2
              go_roundw
              case rel => exact ⟨m + 1, y2, by omega, by omega, by go_num, Hyl2.out, by rw [Hps.out]; exact HF2.out, Hok2.out, Hbk2.out⟩
              case measure => simp [intOf]; omega
          · obtain rfl : m = 5 := by omega
            have hnx : isF y2 (fS (k + 1) 0) := isF_same HF2.out (fun i _ => by rw [fS_next, pS_all k (by omega) (by omega)])
            have Hnx := Lib.hid hnx
            clear hnx
            go_wp2
            go_roundw
            case rel => exact ⟨k + 1, y2, by omega, by omega, by go_num, Hyl2.out, Hnx.out, Hok2.out, Hbk2.out⟩
            case measure => simp [intOf]; omega
      · obtain rfl : k = N := by have := HN.out; omega
        have hnl : n + 1 < y.length := by have := HN.out; omega
        have hck := hok.cellAt (n + 1) (by have := HN.out; omega)
        have hyn : y[n + 1]'hnl = ((wayV (n + 1) : Nat) : Int) := by
          have := HF.out (n + 1) hnl
          rw [fS_lt (by omega), List.getElem?_eq_getElem hnl] at this
          exact this
        rw [List.getElem?_map, List.getElem?_eq_getElem hnl, hyn] at hck
        simp only [Option.map_some] at hck
        have g3 : ¬ (k : Int) ≤ (n : Int) + 1 := by omega
        have g4 : (0 : Int) ≤ (n : Int) + 1 := by omega
        have g5 : (n : Int) + 1 < (k : Int) := by omega
        have g6 : ((n : Int) + 1).toNat = n + 1 := by omega
        obtain ⟨x, hx⟩ : ∃ x, wayV (n + 1) = x := ⟨_, rfl⟩
        rw [hx] at hck
        have Hx := Lib.hid hx
        clear hyn hok hyl hnl hx
        go_wp2
        go_ret
        exact ⟨by rw [HV.out, Hx.out]; rfl, Hbw.out.trans (Hbk.out.mono (by rw [HBe.out]; omega))⟩
  · have HV := Lib.hid (letters_none hr)
    have hd : (decide ((1 : Int) ≤ z) && decide (z ≤ 16)) = false := by simp; omega
    clear hr
    go_enter Tryd.func28, Tryd.ntmps28
    go_wp2_with fail
    refine (l6In_cs _ _ _ _).mono ?_
    rintro e w' ⟨rfl, rfl⟩
    rw [hd]
    go_wp2
    go_ret
    exact ⟨by rw [HV.out]; rfl, Below.refl _ _⟩

end Go.Proofs.YthhckijoilphiaaDoor
