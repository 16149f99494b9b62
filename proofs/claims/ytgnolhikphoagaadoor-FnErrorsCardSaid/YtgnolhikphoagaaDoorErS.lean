/-
  SignalErrors of the model.
-/
import Derived.Test.YtgnolhikphoagaaDoorRsS
import Derived.Test.YtgnolhikphoagaaDoorMemX
import Derived.Test.YtgnolhikphoagaaDoorSgE
import Derived.Deep.RegionWith
namespace Go.Proofs.YtgnolhikphoagaaDoor
open Go.RowKit

theorem pulse_text (j : Nat) (h : j < 3) : (⟨#[45, 43, 48]⟩ : ByteArray).extract j (j + 1) = str [puA j] := by
  match j, h with
  | 0, _ => rfl
  | 1, _ => rfl
  | 2, _ => rfl

set_option maxHeartbeats 4000000 in
theorem specSignalErrors_b (s : ByteArray) (w : World) (hs : s.size ≤ 1048576) : Calls Tryd.prog 34 #[.string s] w (RetSX 9 (fun v => .tuple #[v, .bool (sigB (byL s))]) (errL (byL s)) w) := by
  have HS := Lib.hid (fun w => specSignalValid_c s w (by omega))
  cases h1 : sigB (byL s)
  · have HV := Lib.hid (errL_no h1)
    rw [h1] at HS
    clear h1
    by_cases h0 : 0 < s.size
    · have g1 : (0 : Int) < (s.size : Int) := by omega
      go_enter Tryd.func34, Tryd.ntmps34
      go_wp2
      go_loop [4, 5] (fun o i => o = .slice (some ⟨w.heap.size, 0, none⟩) 0 0 ∧ i = .int .i64 0) (fun _ _ => 0)
      case atStart => exact ⟨rfl, rfl⟩
      case round =>
        obtain ⟨rfl, rfl⟩ := hrel
        go_wp2_with fail
        refine (HS.out _).mono ?_
        rintro e w1 ⟨rfl, rfl⟩
        go_wp2_with fail
        refine (HS.out _).mono ?_
        rintro e w1 ⟨rfl, rfl⟩
        go_wp2
        go_ret2
        rw [HV.out]
        exact RetSX.mk (f := fun v => .tuple #[v, .bool false]) (zs := []) (by simp) (World.ownsRow_made w #[] 0 (Nat.le_refl _) (by simp) rfl) ((Below.refl _ _).alloc (Nat.le_refl _) _)
    · have g1 : ¬ (0 : Int) < (s.size : Int) := by omega
      go_enter Tryd.func34, Tryd.ntmps34
      go_wp2
      go_loop [4, 5] (fun o i => o = .slice (some ⟨w.heap.size, 0, none⟩) 0 0 ∧ i = .int .i64 0) (fun _ _ => 0)
      case atStart => exact ⟨rfl, rfl⟩
      case round =>
        obtain ⟨rfl, rfl⟩ := hrel
        go_wp2_with fail
        refine (HS.out _).mono ?_
        rintro e w1 ⟨rfl, rfl⟩
        go_wp2
        go_ret2
        rw [HV.out]
        exact RetSX.mk (f := fun v => .tuple #[v, .bool false]) (zs := []) (by simp) (World.ownsRow_made w #[] 0 (Nat.le_refl _) (by simp) rfl) ((Below.refl _ _).alloc (Nat.le_refl _) _)
  · have h80 := sigB_len h1
    have HV := Lib.hid (errL_yes h1)
    have Hsig := Lib.hid h1
    rw [h1] at HS
    obtain ⟨i0, hi, hz0, hz1, hz2⟩ := info_parts str_info
    have Hi := Lib.hid (And.intro hi (And.intro hz0 (And.intro hz1 hz2)))
    clear hi hz0 hz1 hz2 h1
    go_enter Tryd.func34, Tryd.ntmps34
    go_wp2
    go_loopw [4, 5] (fun o i wr => ∃ (k : Nat) (v : Value), k ≤ s.size ∧ i = .int .i64 k ∧ v = o ∧ wr.ownsRow w.heap.size 9 1 v (errT (byL s) k).length (txCells (errT (byL s) k)) ∧ Below w.heap.size w wr) (fun _ i _ => s.size - (intOf i).toNat)
    case atStart => exact ⟨0, _, Nat.zero_le _, rfl, rfl, World.ownsRow_made w #[] 0 (Nat.le_refl _) (by simp) rfl, (Below.refl _ _).alloc (Nat.le_refl _) _⟩
    case round =>
      obtain ⟨k, v, hk, rfl, rfl, hok, hbk⟩ := hrel
      have Hok := Lib.hid hok
      have Hbk := Lib.hid hbk
      have hbs := hbk.size
      clear hok hbk
      by_cases hlt : k < s.size
      · have g1 : (k : Int) < (s.size : Int) := by omega
        go_wp2_with fail
        refine (HS.out _).mono ?_
        rintro e w1 ⟨rfl, rfl⟩
        go_wp2
        go_loopw [4, 6] (fun o i wj => ∃ (j : Nat) (u : Value), j ≤ 3 ∧ i = .int .i64 j ∧ u = o ∧ wj.ownsRow w.heap.size 9 1 u (errT (byL s) k ++ errA (byL s) k j).length (txCells (errT (byL s) k ++ errA (byL s) k j)) ∧ Below w.heap.size w wj) (fun _ i _ => 3 - (intOf i).toNat)
        case atStart => exact ⟨0, v, by omega, rfl, rfl, by rw [show errA (byL s) k 0 = [] from rfl, List.append_nil]; exact Hok.out, Hbk.out⟩
        case round =>
          clear Hok Hbk hbs
          obtain ⟨j, u, hj, rfl, rfl, hok2, hbk2⟩ := hrel
          have Hok2 := Lib.hid hok2
          have Hbk2 := Lib.hid hbk2
          have hbs := hbk2.size
          clear hok2 hbk2
          by_cases hjl : j < 3
          · have hpt := pulse_text j hjl
            have hpul := puA_pul j
            have hst := fun (h : msB (subP (byL s) k (puA j)) = true) (h2 : subP (byL s) k (puA j) ≠ byL s) => hitP_yes h h2
            have hsn := fun (h : msB (subP (byL s) k (puA j)) = false ∨ subP (byL s) k (puA j) = byL s) => hitP_no h
            have hea : errA (byL s) k (j + 1) = errA (byL s) k j ++ hitP (byL s) k (puA j) := rfl
            have hll := errA_len (byL s) k j
            have hlt3 := errT_len (byL s) k
            have hsub := subP_str (s := s) (i := k) (puA j)
            have hkl : k < (byL s).length := by rw [byL_len]; exact hlt
            have hsl := subP_len (puA j) hkl
            have hsg := subP_sig hkl Hsig.out hpul
            have hsame := subP_same (p := puA j) hkl
            have hone := byL_one s k hlt
            obtain ⟨c, hc⟩ : ∃ c : UInt8, s[k]'hlt = c := ⟨_, rfl⟩
            have hck : (byL s)[k]'hkl = c := by
              have := byL_at s k hlt
              rw [List.getElem?_eq_getElem hkl] at this
              rw [Option.some.inj this]
              exact hc
            rw [hck] at hsame
            rw [hc] at hone
            obtain ⟨p, hp⟩ : ∃ p, puA j = p := ⟨_, rfl⟩
            rw [hp] at hea hsub hsl hpt hsg hsame
            simp only [hp] at hst hsn
            obtain ⟨q, hq⟩ : ∃ q, subP (byL s) k p = q := ⟨_, rfl⟩
            rw [hq] at hsub hsl hsg hsame
            simp only [hq] at hst hsn
            obtain ⟨X1, hx1⟩ : ∃ x, s.extract 0 k = x := ⟨_, rfl⟩
            obtain ⟨X2, hx2⟩ : ∃ x, s.extract (k + 1) s.size = x := ⟨_, rfl⟩
            have zx1 : X1.size ≤ 80 := by rw [← hx1, ByteArray.size_extract]; omega
            have zx2 : X2.size ≤ 80 := by rw [← hx2, ByteArray.size_extract]; omega
            rw [hx1, hx2] at hsub
            obtain ⟨PP, hPP⟩ : ∃ x, str [p] = x := ⟨_, rfl⟩
            have zpp : PP.size = 1 := by rw [← hPP, str_size]; rfl
            rw [hPP] at hsub hpt
            obtain ⟨SE, hS⟩ : ∃ x, X1 ++ PP ++ X2 = x := ⟨_, rfl⟩
            rw [hS] at hsub
            have hSs : SE.size ≤ 1048576 := by rw [hsub, str_size, hsl, byL_len]; omega
            have hSb : byL SE = q := by rw [hsub, by_str]
            have hmc := fun W => specSignalRead_b SE W hSs
            have hrd := rdV_yes hsg
            simp only [hSb, hrd.1, hrd.2] at hmc
            obtain ⟨C1, hC1⟩ : ∃ x, s.extract k (k + 1) = x := ⟨_, rfl⟩
            rw [hC1] at hone
            have HMC := Lib.hid hmc
            obtain ⟨Y, hY⟩ : ∃ Y, errT (byL s) k ++ errA (byL s) k j = Y := ⟨_, rfl⟩
            have hYl : Y.length ≤ 3 * 80 + 3 := by rw [← hY, List.length_append]; omega
            have hok2 := Hok2.out
            rw [hY] at hok2
            have HY := Lib.hid hY
            have Hon := Lib.hid hok2
            have Hea := Lib.hid hea
            have Hst := Lib.hid hst
            have Hsn := Lib.hid hsn
            have y1 : (9223372036854775807 < X1.size + PP.size) = False := by rw [eq_iff_iff, iff_false]; omega
            have y2 : (9223372036854775807 < X1.size + PP.size + X2.size) = False := by rw [eq_iff_iff, iff_false]; omega
            have y3 : (9223372036854775807 < X1.size + 1) = False := by rw [eq_iff_iff, iff_false]; omega
            have y4 : (9223372036854775807 < X1.size + 1 + X2.size) = False := by rw [eq_iff_iff, iff_false]; omega
            have q0 : (0 : Int) ≤ (k : Int) := by omega
            have q1 : (k : Int) ≤ (s.size : Int) := by omega
            have q2 : (k : Int) + 1 ≤ (s.size : Int) := by omega
            have q3 : ((k : Int) + 1).toNat = k + 1 := by omega
            have q4 : (0 : Int) ≤ (k : Int) + 1 := by omega
            have q6 : (k : Int) ≤ (k : Int) + 1 := by omega
            have q5 : IntKind.i64.wrap ((k : Int) + 1) = (k : Int) + 1 := IntWalk.i64_in _ (by omega)
            have r0 : (0 : Int) ≤ (j : Int) := by omega
            have r1 : (j : Int) ≤ (j : Int) + 1 := by omega
            have r2 : (j : Int) + 1 ≤ 3 := by omega
            have r3 : ((j : Int) + 1).toNat = j + 1 := by omega
            have r4 : (j : Int) < 3 := by omega
            have r5 : (0 : Int) ≤ (j : Int) + 1 := by omega
            have zth : (⟨#[45, 43, 48]⟩ : ByteArray).size = 3 := rfl
            have hcmp : PP.toList = C1.toList ↔ q = byL s := by
              rw [← hPP, str_list, toList_by, hone, hsame]
              exact ⟨fun h => (List.cons.inj h).1, fun h => by rw [h]⟩
            have Hcmp := Lib.hid hcmp
            clear hst hsn hea hll hlt3 hsub hsl hSs hSb hmc hok2 hY hp hq hPP hcmp hsame hone hsg hrd hck hc hpul Hok2 hkl
            cases hb : msB q
            · have hh := Hsn.out (.inl hb)
              have HE := Lib.hid (show errT (byL s) k ++ errA (byL s) k (j + 1) = Y by rw [Hea.out, hh, List.append_nil]; exact HY.out)
              simp only [hb] at HMC
              clear hb hh
              go_wp2
              go_region_with (first | (go_at_call 56; refine (HMC.out _).mono ?_; rintro e w5 ⟨rfl, hb5⟩; have H5 := Lib.hid hb5; clear hb5))
              all_goals
                have hb6 := (Below.refl wr.heap.size wr).drew.trans H5.out
                have H6 := Lib.hid (And.intro (own_below Hon.out hb6) (below_step Hbk2.out hb6))
                clear hb6
                go_wp2
                go_roundw
                case rel => exact ⟨j + 1, u, by omega, by go_num, rfl, by rw [HE.out]; exact H6.out.1, H6.out.2⟩
                case measure => simp [intOf]; omega
            · by_cases hqs : q = byL s
              · have hh := Hsn.out (.inr hqs)
                have HE := Lib.hid (show errT (byL s) k ++ errA (byL s) k (j + 1) = Y by rw [Hea.out, hh, List.append_nil]; exact HY.out)
                simp only [hb] at HMC
                have hse := Hcmp.out.2 hqs
                have f1 : (PP.toList == C1.toList) = true := by rw [hse]; exact beq_self_eq_true _
                have f2 : (PP.toList != C1.toList) = false := by rw [hse]; exact bne_self_eq_false _
                clear hb hh hqs hse
                go_wp2
                go_region_with (first | (go_at_call 56; refine (HMC.out _).mono ?_; rintro e w5 ⟨rfl, hb5⟩; have H5 := Lib.hid hb5; clear hb5))
                all_goals
                  have hb6 := (Below.refl wr.heap.size wr).drew.trans H5.out
                  have H6 := Lib.hid (And.intro (own_below Hon.out hb6) (below_step Hbk2.out hb6))
                  clear hb6
                  go_wp2
                  go_roundw
                  case rel => exact ⟨j + 1, u, by omega, by go_num, rfl, by rw [HE.out]; exact H6.out.1, H6.out.2⟩
                  case measure => simp [intOf]; omega
              · have hh := Hst.out hb hqs
                have HE := Lib.hid (show errT (byL s) k ++ errA (byL s) k (j + 1) = Y ++ [msV q] by rw [Hea.out, hh, ← List.append_assoc, HY.out])
                simp only [hb] at HMC
                have hse : ¬ PP.toList = C1.toList := fun h => hqs (Hcmp.out.1 h)
                have f1 : (PP.toList == C1.toList) = false := beq_eq_false_iff_ne.2 hse
                have f2 : (PP.toList != C1.toList) = true := bne_iff_ne.2 hse
                obtain ⟨M, hM⟩ : ∃ M, str (msV q) = M := ⟨_, rfl⟩
                simp only [hM] at HMC
                have HM := Lib.hid hM
                clear hb hh hqs hse hM
                go_wp2
                go_region_with (first | (go_at_call 56; refine (HMC.out _).mono ?_; rintro e w5 ⟨rfl, hb5⟩; have H5 := Lib.hid hb5; clear hb5))
                all_goals
                  have hb6 := (Below.refl wr.heap.size wr).drew.trans H5.out
                  have hok5 := own_below Hon.out hb6
                  have hbw5 := below_step Hbk2.out hb6
                  have h5s := hbw5.size
                  have Hbw5 := Lib.hid hbw5
                  clear hb6 hbw5
                  obtain ⟨hi, hz0, hz1, hz2⟩ := Hi.out
                  go_wp2_with (at_builtin; refine wpList_append_own _ rfl _ _ 39 rfl w.heap.size 9 i0 (.string ByteArray.empty) 1 16 Tryd.underlying39 hi hz0 hz1 hz2 rfl (by decide) u Y.length _ rfl (hok5.alloc _) ⟨_, 0, none⟩ 1 1 [.string M] rfl rfl (one_str _ _ _) (by simp [Value.oneCell']) (by unfold maxLen; omega) (by omega) (by simp; omega) ?_; intro v' w6 hown6 hg6 _)
                  have hb7 : Below w.heap.size w w6 := (Hbw5.out.alloc h5s _).grown hg6 (by simp; omega) (fun r e => (hok5.lt r e).1)
                  have H7 := Lib.hid (And.intro hown6 hb7)
                  clear hown6 hb7 hg6 hok5 hi hz0 hz1 hz2
                  go_roundw
                  case rel => exact ⟨j + 1, v', by omega, by go_num, rfl, by rw [HE.out, txCells_snoc, List.length_append, HM.out]; exact H7.out.1, H7.out.2⟩
                  case measure => simp [intOf]; omega
          · obtain rfl : j = 3 := by omega
            go_wp2
            go_roundw
            case rel => exact ⟨k + 1, u, by omega, by go_num, rfl, Hok2.out, Hbk2.out⟩
            case measure => simp [intOf]; omega
      · obtain rfl : k = s.size := by omega
        have HR := Lib.hid (errT_len (byL s) s.size)
        go_wp2_with fail
        refine (HS.out _).mono ?_
        rintro e w1 ⟨rfl, rfl⟩
        go_wp2
        go_ret2
        rw [HV.out, byL_len]
        exact RetSX.mk (f := fun v => .tuple #[v, .bool true]) (by have := HR.out; omega) Hok.out Hbk.out

end Go.Proofs.YtgnolhikphoagaaDoor
