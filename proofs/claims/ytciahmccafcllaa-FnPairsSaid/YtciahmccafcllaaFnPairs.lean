/-
  The law FnPairs: coils that agree share a tank. For all codes it answers true. No condition.
-/
import Derived.Test.YtciahmccafcllaaODrawP
import Derived.Test.YtciahmccafcllaaTkP
import Derived.Test.YtciahmccafcllaaTkL
import Derived.Test.YtciahmccafcllaaStwM
import Derived.Test.YtciahmccafcllaaRowB
import Derived.Test.YtciahmccafcllaaFac
namespace Go.Proofs.Ytciahmccafcllaa
open Go.ChangeShapes Go.WideShapes Go.ChangeAt Go.RowKit

set_option maxHeartbeats 4000000 in
theorem fnPairs_in (A : Option Addr) (n c : Nat) (w : World) (hl : n ≤ 1048576) (hnc : n ≤ c) (hb : Bytes w.heap.size w A n) :
    Calls Try.prog 4 #[.slice A n c] w (RetB (.bool true) w) := by
  have Hb := Lib.hid hb
  clear hb
  go_enter Try.func4, Try.ntmps4
  go_wp2_with fail
  refine (DrawOrdersPairs_c A n c _ (by omega) hnc Hb.out).mono ?_
  rintro e w1 ⟨B, d, L, rfl, hzl, hA, hB⟩
  have Ha := Lib.hid hA
  have Bt := Lib.hid hB
  clear hA hB Hb
  go_wp2_with fail
  refine (implOrdersPairs_b B d L _ Ha.out).mono ?_
  rintro e w2 ⟨rfl, rb2⟩
  replace Ha := Lib.hid (Ha.out.go rb2)
  replace Bt := Lib.hid (below_step Bt.out rb2)
  clear rb2
  go_wp2_with fail
  refine (specOrdersPairs_b B d L _ Ha.out).mono ?_
  rintro e w3 ⟨rfl, rb3⟩
  replace Ha := Lib.hid (Ha.out.go rb3)
  replace Bt := Lib.hid (below_step Bt.out rb3)
  clear rb3
  cases hv : ordB L
  · rw [prs_no hv]
    go_wp2
    go_ret
    exact ⟨rfl, Bt.out⟩
  rw [prs_yes hv]
  have Hord := Lib.hid hv
  have h10 := ord_len hv
  have hcn := cnt_le L
  have Hone := Lib.hid (pairs_one hv)
  have Hbk := Lib.hid (back_pairs hv)
  have Hbo := Lib.hid (back_ord hv)
  have Htot := Lib.hid (tot_all L L.length)
  have hP := totP_le L L.length h10
  have HA := Lib.hid (fun b h => totA_le L b h)
  have HRl := Lib.hid (fun b a => rowA_le L b a)
  obtain ⟨T, hT⟩ : ∃ T, totP L L.length = T := ⟨_, rfl⟩
  rw [hT] at Hone Hbk Htot hP ⊢
  have g0 : ((T : Int) < 0) = False := eq_false (by omega)
  clear hv hT
  go_wp2
  go_loopw [7, 8] (fun a i wr => ∃ k : Nat, k ≤ L.length ∧ i = .int .i64 k ∧ a = .int .i64 (totA L k) ∧ Below w3.heap.size w3 wr) (fun _ i _ => L.length - (intOf i).toNat)
  case atStart => exact ⟨0, Nat.zero_le _, rfl, rfl, Below.refl _ _⟩
  case round =>
    obtain ⟨k, hk, rfl, rfl, hb⟩ := hrel
    have Hb := Lib.hid hb
    clear hb
    have q1 := HA.out k (by omega)
    by_cases hlt : k < L.length
    · have g1 : (k : Int) < (L.length : Int) := by omega
      go_wp2
      go_loopw [7, 9] (fun a i wq => ∃ j : Nat, j ≤ k ∧ i = .int .i64 j ∧ a = .int .i64 ((totA L k + rowA L k j : Nat) : Int) ∧ Below w3.heap.size w3 wq) (fun _ i _ => k - (intOf i).toNat)
      case atStart => exact ⟨0, Nat.zero_le _, rfl, rfl, Hb.out⟩
      case round =>
        obtain ⟨j, hj, rfl, rfl, hb2⟩ := hrel
        have Hb2 := Lib.hid hb2
        clear hb2
        have q2 := HRl.out k j
        by_cases hjk : j < k
        · have g2 : (j : Int) < (k : Int) := by omega
          have Hs := Lib.hid (show rowA L k (j + 1) = rowA L k j + if agrB L (k : Int) (j : Int) then 1 else 0 from rfl)
          obtain ⟨u, hu⟩ : ∃ u, totA L k = u := ⟨_, rfl⟩
          obtain ⟨v, hvv⟩ : ∃ v, rowA L k j = v := ⟨_, rfl⟩
          rw [hvv] at Hs
          rw [hu] at q1
          rw [hvv] at q2
          rw [hu, hvv]
          go_wp2_with fail
          refine (implOrdersAgree_b B d L (k : Int) (j : Int) _ (Ha.out.go Hb2.out)).mono ?_
          rintro e w4 ⟨rfl, hb3⟩
          have Hb3 := Lib.hid hb3
          clear hb3
          cases ha : agrB L (k : Int) (j : Int)
          · rw [ha] at Hs
            clear ha hu hvv
            go_wp2
            go_roundw
            case rel => exact ⟨j + 1, by omega, by go_num, by rw [Hs.out]; go_num, below_step Hb2.out Hb3.out⟩
            case measure => simp [intOf]; omega
          · rw [ha] at Hs
            clear ha hu hvv
            go_wp2
            go_roundw
            case rel => exact ⟨j + 1, by omega, by go_num, by rw [Hs.out]; go_num, below_step Hb2.out Hb3.out⟩
            case measure => simp [intOf]; omega
        · obtain rfl : j = k := by omega
          go_wp2
          go_roundw
          case rel => exact ⟨j + 1, by omega, by go_num, rfl, Hb2.out⟩
          case measure => simp [intOf]; omega
    · obtain rfl : k = L.length := by omega
      obtain ⟨S, hS⟩ : ∃ S, totA L L.length = S := ⟨_, rfl⟩
      rw [hS] at q1 Htot ⊢
      have a4 := Ha.out.go Hb.out
      have B4 := Lib.hid (below_step Bt.out Hb.out)
      have A4 := Lib.hid a4
      clear hS a4
      go_wp2_with fail
      refine (implOrdersBack_b B d L _ A4.out).mono ?_
      rintro e w5 ⟨B5, d5, rfl, ra5, ro5, rb5⟩
      rw [Hord.out]
      dsimp only
      have hbk : bkR L = backL L := bk_yes Hord.out
      have hbl := backL_len L
      obtain ⟨K, hK⟩ : ∃ K, backL L = K := ⟨_, rfl⟩
      rw [hbk, hK] at ra5 ⊢
      rw [hK] at Hbk Hbo
      have A5 := Lib.hid (A4.out.go rb5)
      have K5 := Lib.hid ra5
      have B5' := Lib.hid (below_step B4.out rb5)
      clear ra5 ro5 rb5 hbk hK hbl
      go_wp2_with fail
      refine (implTanksLeast_b B d L _ A5.out).mono ?_
      rintro e w6 ⟨rfl, rb6⟩
      rw [lst_yes Hord.out]
      have K6 := Lib.hid (K5.out.go rb6)
      have B6 := Lib.hid (below_step B5'.out rb6)
      obtain ⟨N, hN⟩ : ∃ N, cntN L = N := ⟨_, rfl⟩
      rw [hN] at Hone hcn ⊢
      clear rb6 hN
      have Hpr := Lib.hid (show prsI K = T by rw [prs_yes Hbo.out, Hbk.out])
      have qa : IntKind.i64.wrap ((S : Int) + (T : Int)) = (S : Int) + (T : Int) := IntWalk.i64_in _ (by omega)
      have qb : IntKind.i64.wrap ((L.length : Int) - 1) = (L.length : Int) - 1 := IntWalk.i64_in _ (by omega)
      have hmul : (L.length : Int) * ((L.length : Int) - 1) = 2 * ((S : Int) + (T : Int)) := Htot.out.symm
      have qc : IntKind.i64.wrap ((L.length : Int) * ((L.length : Int) - 1)) = 2 * ((S : Int) + (T : Int)) := by rw [hmul]; exact IntWalk.i64_in _ (by omega)
      have qd : IntKind.i64.wrap (2 * ((S : Int) + (T : Int))) = 2 * ((S : Int) + (T : Int)) := IntWalk.i64_in _ (by omega)
      clear hmul
      by_cases h1 : T = 0
      · have gN : (N : Int) ≤ 1 := by have := Hone.out.1 h1; omega
        have gT : (T : Int) = 0 := by omega
        obtain rfl := h1
        go_wp2_with fail
        refine (implOrdersPairs_b B5 d5 K _ K6.out).mono ?_
        rintro e w7 ⟨rfl, rb7⟩
        rw [Hpr.out]
        have B7 := Lib.hid (below_step B6.out rb7)
        clear rb7
        go_wp2
        go_ret
        exact ⟨rfl, B7.out⟩
      · have gE : (((T : Int) == 0) = decide ((N : Int) ≤ 1)) := by
          have := mt Hone.out.2 h1
          rw [decide_eq_false (by omega : ¬ (N : Int) ≤ 1), beq_eq_false_iff_ne]
          omega
        go_wp2_with fail
        refine (implOrdersPairs_b B5 d5 K _ K6.out).mono ?_
        rintro e w7 ⟨rfl, rb7⟩
        rw [Hpr.out]
        have B7 := Lib.hid (below_step B6.out rb7)
        clear rb7
        go_wp2
        go_ret
        exact ⟨rfl, B7.out⟩

theorem fnPairs_walk (A0 : Option Addr) (n0 c0 : Nat) (w : World) (hb0 : Byt0 w A0 n0 c0) :
    Calls Try.prog 4 #[.slice A0 n0 c0] w (RetB (.bool true) w) := by
  by_cases hl0 : 1048576 < n0
  · clear hb0
    go_enter Try.func4, Try.ntmps4
    go_wp2
    go_ret
    exact ⟨rfl, Below.refl _ _⟩
  exact fnPairs_in A0 n0 c0 w (by omega) hb0.1 hb0.2.2

set_option maxRecDepth 100000 in
theorem fnPairs_lifted (os : Os) (started : os.Started) (H : Type) (enc : TypeId × Value → H) :
    ReturnsInHanded {} Try.checked os 4 .any (Rows.fnPairsSpec.pre6 enc Try.prog Try.f4 Rows.fnPairsRow.domain false) (Rows.fnPairsSpec.post enc Try.prog Try.f4 false true false false) := by
  refine returnsInHanded_of_change (C := Try.checked) row_own started (by kernel_rfl) Try.func4
    (ChangeSpec.witness6 (enc := enc) (C := Try.checked) false ⟨#[], #[.slice none 0 0], []⟩ 8 (by kernel_rfl) (by kernel_rfl) (by kernel_rfl) (by kernel_rfl)) ?_
  intro W base args ds gs before hval0 hW hcnd _
  have hval : ∀ (j : Nat) t v, Try.f4.params[j]? = some t → args[j]? = some v → Value.okWide Try.prog W .any base t v := hval0
  have hW' := hW
  obtain ⟨p, q, hA0, hV, rfl, _, _⟩ := hW
  have hA : DataW.TrodAll enc Try.prog W 0 (fun _ => true) true Try.f4.params.toList args.toList ds p := hA0
  rw [Try.params4] at hA hval
  obtain ⟨v0, vs0, d0, ds0, p0, q0, hargs, rfl, rfl, h0, r0⟩ := trodAll_cons hA
  obtain ⟨rfl, rfl, rfl⟩ := trodAll_nil r0
  obtain rfl : args = #[v0] := by cases args; simp_all
  obtain ⟨rfl, rfl⟩ := trodVars_none hV
  have hlt0 : ∀ x ∈ p0, x.block < W.heap.size := fun x hx => by exact hW'.lt x (by simp [hx])
  obtain ⟨A0, n0, c0, rfl, hb0⟩ := open_bytes (hval 0 22 v0 rfl rfl) h0 hlt0
  clear hA0 hval0
  refine (fnPairs_walk A0 n0 c0 W hb0).mono fun e W' ⟨he, hb⟩ => ?_
  subst he
  exact ⟨_, rfl, _, _, _, [], _, [], hW', (trodAll_cons_mk (shut_bool Try.underlying4 _) trodAll_mk0), (trodAll_cons_mk (read_again_bytes h0 hlt0 hb) trodAll_mk0), rfl, hb.frame _, fun h => by cases h⟩

set_option maxRecDepth 100000 in
theorem fnPairs_closed : joinedFacts Try.prog 4 Try.f4 Rows.fnPairsSpec Rows.fnPairsRow = true := by
  unfold joinedFacts
  repeat' (with_reducible apply facAnd)
  all_goals first | (with_reducible exact facEnter) | (with_reducible exact facLaid) | (with_reducible exact facMaps) | (with_reducible exact facStops) | (with_reducible exact facKnobs) | (with_reducible exact facHeard) | (rw [facLifts]; as_aux_lemma => kernel_rfl) | (rw [facMake]; as_aux_lemma => kernel_rfl) | (as_aux_lemma => kernel_rfl)

/-- THE STATEMENT -/
theorem fnPairs_holds : Rows.FnPairsSaid :=
  OpenClaim.holds_of_wide 4 Try.f4 rfl rfl rfl rfl rfl rfl rfl ⟨rfl, rfl, rfl, rfl, rfl⟩ rfl rfl rfl rfl rfl (by kernel_rfl) Try.func4 fnPairs_closed
    (of_decide_eq_true (by kernel_rfl)) (by unfold Func.isWrapper; first | (rw [if_pos (by decide +kernel)]; kernel_rfl) | (rw [if_neg (by decide +kernel)]; exact ⟨rfl, rfl⟩))
    (fun os started H enc _ => fnPairs_lifted os started H enc)
#print axioms fnPairs_holds
end Go.Proofs.Ytciahmccafcllaa
