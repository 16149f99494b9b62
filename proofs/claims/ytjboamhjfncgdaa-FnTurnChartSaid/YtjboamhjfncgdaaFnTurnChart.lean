/-
  The law FnTurnChart: for all codes the law answers true. No condition.
-/
import Derived.Test.YtjboamhjfncgdaaFac
import Derived.Test.YtjboamhjfncgdaaRowB
import Derived.Test.YtjboamhjfncgdaaSame
import Derived.Test.YtjboamhjfncgdaaSameK
import Derived.Test.YtjboamhjfncgdaaCtE
import Derived.Test.YtjboamhjfncgdaaRtH
import Derived.Test.YtjboamhjfncgdaaRtE
import Derived.Test.YtjboamhjfncgdaaRtT
import Derived.Test.YtjboamhjfncgdaaRtQ
namespace Go.Proofs.Ytjboamhjfncgdaa
open Go.ChangeShapes Go.WideShapes Go.ChangeAt Go.RowKit

theorem sd_turn {R : List Rot} {k : Nat} {x y : Int} (h : hasR R (k : Int) = true) (hb : onB x y = true) :
    sdB R (k : Int) x y = true ∧ sdB (turnL R) (k : Int) y x = true ∧ sdV R (k : Int) x y = - sdV (turnL R) (k : Int) y x := by
  have h2 : hasR (turnL R) (k : Int) = true := by rw [hasR_turn]; exact h
  have hb2 : onB y x = true := by rw [← on_turn]; exact hb
  have hk := (hasR_true.1 h).2.2
  have v1 := sd_yes h hb
  have v2 := sd_yes h2 hb2
  refine ⟨v1.1, v2.1, ?_⟩
  rw [v1.2, v2.2, turnL_at (by omega), side_turn, Int.neg_neg]
theorem sdV_bd (R : List Rot) (k x y : Int) : -1 ≤ sdV R k x y ∧ sdV R k x y ≤ 1 := by
  unfold sdV
  split
  · exact side_bd _ _ _
  · decide

set_option maxRecDepth 100000 in
set_option maxHeartbeats 4000000 in
theorem fnTurnChart_in (A0 : Option Addr) (n0 c0 : Nat) (A1 : Option Addr) (n1 c1 : Nat) (w : World) (hl0 : n0 ≤ 1048576) (hc0 : n0 ≤ c0) (hb0 : Bytes w.heap.size w A0 n0) (hl1 : n1 ≤ 1048576) (_ : n1 ≤ c1) (_ : Bytes w.heap.size w A1 n1) :
    Calls Try.prog 25 #[.slice A0 n0 c0, .slice A1 n1 c1] w (RetB (.bool true) w) := by
  have Hb := Lib.hid hb0
  clear hb0
  have u0 : decide ((1048576 : Int) < (n0 : Int)) = false := by simp; omega
  have u1 : decide ((1048576 : Int) < (n1 : Int)) = false := by simp; omega
  go_enter Try.func25, Try.ntmps25
  go_wp2_with fail
  refine (DrawChartTurn_c A0 n0 c0 _ (by omega) hc0 Hb.out).mono ?_
  rintro e w1 ⟨B, d, zs, rfl, hzl, hA, hB⟩
  have Ha := Lib.hid hA
  have Bt := Lib.hid hB
  clear hA hB Hb
  dsimp only
  go_wp2_with fail
  refine (implChartTurn_b B d zs _ Ha.out).mono ?_
  rintro e w2 ⟨B1, d1, rfl, ra, _, hb2⟩
  replace Ha := Lib.hid (Ha.out.go hb2)
  replace Bt := Lib.hid (below_step Bt.out hb2)
  have Ra := Lib.hid ra
  clear ra hb2
  dsimp only
  go_wp2_with fail
  refine (specChartTurn_b B d zs _ Ha.out).mono ?_
  rintro e w3 ⟨B2, d2, rfl, ra, _, hb3⟩
  replace Ha := Lib.hid (Ha.out.go hb3)
  replace Bt := Lib.hid (below_step Bt.out hb3)
  have Rb := Lib.hid ra
  replace Ra := Lib.hid (Ra.out.go hb3)
  clear ra hb3
  dsimp only
  cases hv : chartB zs
  · clear hv
    go_wp2_with fail
    refine (sameRoutes_c _ _ _ _ _ _ _ Ra.out Rb.out).mono ?_
    rintro e w4 ⟨rfl, hb4⟩
    rw [decide_eq_true rfl]
    go_wp2_with fail
    refine (sameRoutes_c _ _ _ _ _ _ _ (Ra.out.go hb4) (Rb.out.go hb4)).mono ?_
    rintro e w5 ⟨rfl, hb5⟩
    rw [decide_eq_true rfl]
    go_wp2
    go_ret
    exact ⟨rfl, below_step (below_step Bt.out hb4) hb5⟩
  go_wp2_with fail
  refine (sameRoutes_c _ _ _ _ _ _ _ Ra.out Rb.out).mono ?_
  rintro e w4 ⟨rfl, hb4⟩
  rw [decide_eq_true rfl]
  have HA := Lib.hid (Ha.out.go hb4)
  have HT0 := Ra.out.go hb4
  have Bt4 := Lib.hid (below_step Bt.out hb4)
  have hv2 : chartB (turnL zs) = true := by rw [chart_turn]; exact hv
  have HX0 := fun W h => implChartTurn_b B1 d1 (turnL zs) W h
  have HF0 := fun W h => implLiftFirst_b B d zs W h
  have HG0 := fun W h => implLiftFirst_b B1 d1 (turnL zs) W h
  have HR0 := fun W h => implLiftRounds_b B d zs W h
  have HS0 := fun W h => implLiftRounds_b B1 d1 (turnL zs) W h
  have hsd := fun (k : Nat) (x y : Int) (h : k < zs.length) (h2 : onB x y = true) => sd_turn (hasR_nat hv h) h2
  rw [turnV_yes hv] at HT0 ⊢
  rw [turnV_yes hv2, turn_turn, hv2] at HX0
  rw [firstV_turn, hv2] at HG0
  rw [rdsV_turn] at HS0
  rw [hv] at HF0
  obtain ⟨F, hF⟩ : ∃ F, firstV zs = F := ⟨_, rfl⟩
  obtain ⟨rv, hrv⟩ : ∃ rv, rdsV zs = rv := ⟨_, rfl⟩
  rw [hF] at HF0 HG0
  rw [hrv] at HR0 HS0
  obtain ⟨T, hT⟩ : ∃ T, turnL zs = T := ⟨_, rfl⟩
  rw [hT] at HT0 HX0 HG0 HS0 hsd ⊢
  have HT := Lib.hid HT0
  have HX := Lib.hid HX0
  have HF := Lib.hid HF0
  have HG := Lib.hid HG0
  have HR := Lib.hid HR0
  have HS := Lib.hid HS0
  have Hsd := Lib.hid hsd
  clear hb4 HT0 HX0 HF0 HG0 HR0 HS0 hsd hF hrv hT hv hv2 Ha Ra Rb Bt
  go_wp2_with fail
  refine (HX.out _ HT.out).mono ?_
  rintro e w5 ⟨B3, d3, rfl, ra, _, hb5⟩
  replace HA := Lib.hid (HA.out.go hb5)
  replace HT := Lib.hid (HT.out.go hb5)
  have Rx := Lib.hid ra
  have Bt5 := Lib.hid (below_step Bt4.out hb5)
  clear ra hb5 HX Bt4
  dsimp only
  go_wp2_with fail
  refine (HF.out _ HA.out).mono ?_
  rintro e w6 ⟨B4, d4, rfl, ra, _, hb6⟩
  replace HA := Lib.hid (HA.out.go hb6)
  replace HT := Lib.hid (HT.out.go hb6)
  replace Rx := Lib.hid (Rx.out.go hb6)
  have Rf := Lib.hid ra
  have Bt6 := Lib.hid (below_step Bt5.out hb6)
  clear ra hb6 HF Bt5
  dsimp only
  go_wp2_with fail
  refine (HG.out _ HT.out).mono ?_
  rintro e w7 ⟨B5, d5, rfl, ra, _, hb7⟩
  replace HA := Lib.hid (HA.out.go hb7)
  replace HT := Lib.hid (HT.out.go hb7)
  replace Rx := Lib.hid (Rx.out.go hb7)
  replace Rf := Lib.hid (Rf.out.go hb7)
  have Rg := Lib.hid ra
  have Bt7 := Lib.hid (below_step Bt6.out hb7)
  clear ra hb7 HG Bt6
  dsimp only
  have q1 : IntKind.i64.wrap ((n1 : Int) * 7) = (n1 : Int) * 7 := IntWalk.i64_in _ (by omega)
  have hon : onB ((n1 : Int) % 20) ((n1 : Int) * 7 % 20) = true := by
    unfold onB
    rw [Bool.and_eq_true, inB_true, inB_true]
    omega
  go_wp2
  go_loopw [16] (fun i wr => ∃ j : Nat, j ≤ zs.length ∧ i = .int .i64 j ∧ Below w7.heap.size w7 wr) (fun i _ => zs.length - (intOf i).toNat)
  case atStart => exact ⟨0, Nat.zero_le _, rfl, Below.refl _ _⟩
  case round =>
    obtain ⟨j, hj, rfl, hb⟩ := hrel
    have Hb := Lib.hid hb
    clear hb
    by_cases hlt : j < zs.length
    · obtain ⟨s1, s2, s3⟩ := Hsd.out j _ _ hlt hon
      have HI := fun W h => implRouteSide_b B d zs (j : Int) ((n1 : Int) % 20) ((n1 : Int) * 7 % 20) W h
      have HJ := fun W h => implRouteSide_b B1 d1 T (j : Int) ((n1 : Int) * 7 % 20) ((n1 : Int) % 20) W h
      rw [s1, s3] at HI
      rw [s2] at HJ
      have hbd := sdV_bd T (j : Int) ((n1 : Int) * 7 % 20) ((n1 : Int) % 20)
      obtain ⟨y, hy⟩ : ∃ y, sdV T (j : Int) ((n1 : Int) * 7 % 20) ((n1 : Int) % 20) = y := ⟨_, rfl⟩
      rw [hy] at HI HJ hbd
      have Hi := Lib.hid HI
      have Hj := Lib.hid HJ
      have q2 : IntKind.i64.wrap (-y) = -y := IntWalk.i64_in _ (by omega)
      have b1 : (-y != -y) = false := by simp
      have e1 : ((j + 1 : Nat) : Int) = (j : Int) + 1 := by omega
      have q3 : IntKind.i64.wrap ((j : Int) + 1) = (j : Int) + 1 := IntWalk.i64_in _ (by omega)
      have g2 : (j : Int) < (zs.length : Int) := by omega
      clear s1 s2 s3 HI HJ hbd hy
      go_wp2_with fail
      refine (Hi.out _ (HA.out.go Hb.out)).mono ?_
      rintro e w8 ⟨rfl, hb8⟩
      have Hb8 := Lib.hid (below_step Hb.out hb8)
      clear hb8 Hi
      dsimp only
      go_wp2_with fail
      refine (Hj.out _ (HT.out.go Hb8.out)).mono ?_
      rintro e w9 ⟨rfl, hb9⟩
      have Hb9 := Lib.hid (below_step Hb8.out hb9)
      clear hb9 Hj
      dsimp only
      go_wp2
      exact ⟨⟨j + 1, by omega, by rw [e1], Hb9.out⟩, by simp only [intOf]; omega⟩
    · obtain rfl : j = zs.length := by omega
      have Bt8 := Lib.hid (below_step Bt7.out Hb.out)
      go_wp2_with fail
      refine (sameRoutes_c _ _ _ _ _ _ _ (Rx.out.go Hb.out) (HA.out.go Hb.out)).mono ?_
      rintro e w9 ⟨rfl, hb9⟩
      rw [decide_eq_true rfl]
      have Hb9 := Lib.hid (below_step Hb.out hb9)
      clear hb9
      go_wp2_with fail
      refine (sameInts_c _ _ _ _ _ _ _ (Rf.out.go Hb9.out) (Rg.out.go Hb9.out)).mono ?_
      rintro e w10 ⟨rfl, q10, hq10⟩
      rw [decide_eq_true rfl]
      have hb10 : Below w9.heap.size w9 w10 := by rw [hq10]; exact below_drewN (Below.refl _ _) q10
      have Hb10 := Lib.hid (below_step Hb9.out hb10)
      clear hq10 hb10
      go_wp2_with fail
      refine (HR.out _ (HA.out.go Hb10.out)).mono ?_
      rintro e w11 ⟨rfl, hb11⟩
      have Hb11 := Lib.hid (below_step Hb10.out hb11)
      clear hb11
      dsimp only
      go_wp2_with fail
      refine (HS.out _ (HT.out.go Hb11.out)).mono ?_
      rintro e w12 ⟨rfl, hb12⟩
      have Hb12 := Lib.hid (below_step Hb11.out hb12)
      clear hb12
      dsimp only
      go_wp2
      go_ret
      exact ⟨rfl, below_step Bt7.out Hb12.out⟩

theorem fnTurnChart_walk (A0 : Option Addr) (n0 c0 : Nat) (A1 : Option Addr) (n1 c1 : Nat) (w : World) (hb0 : Byt0 w A0 n0 c0) (hb1 : Byt0 w A1 n1 c1) :
    Calls Try.prog 25 #[.slice A0 n0 c0, .slice A1 n1 c1] w (RetB (.bool true) w) := by
  by_cases hl0 : 1048576 < n0
  · clear hb0; clear hb1
    have u0 : decide ((1048576 : Int) < (n0 : Int)) = true := by simp; omega
    go_enter Try.func25, Try.ntmps25
    go_wp2
    go_ret
    exact ⟨rfl, Below.refl _ _⟩
  by_cases hl1 : 1048576 < n1
  · clear hb0; clear hb1
    have u0 : decide ((1048576 : Int) < (n0 : Int)) = false := by simp; omega
    have u1 : decide ((1048576 : Int) < (n1 : Int)) = true := by simp; omega
    go_enter Try.func25, Try.ntmps25
    go_wp2
    go_ret
    exact ⟨rfl, Below.refl _ _⟩
  exact fnTurnChart_in A0 n0 c0 A1 n1 c1 w (by omega) hb0.1 hb0.2.2 (by omega) hb1.1 hb1.2.2

set_option maxRecDepth 100000 in
theorem fnTurnChart_lifted (os : Os) (started : os.Started) (H : Type) (enc : TypeId × Value → H) :
    ReturnsInHanded {} Try.checked os 25 .any (Rows.fnTurnChartSpec.pre6 enc Try.prog Try.f25 Rows.fnTurnChartRow.domain false) (Rows.fnTurnChartSpec.post enc Try.prog Try.f25 false true false false) := by
  refine returnsInHanded_of_change (C := Try.checked) row_own started (by kernel_rfl) Try.func25
    (ChangeSpec.witness6 (enc := enc) (C := Try.checked) false ⟨#[], #[.slice none 0 0, .slice none 0 0], []⟩ 8 (by kernel_rfl) (by kernel_rfl) (by kernel_rfl) (by kernel_rfl)) ?_
  intro W base args ds gs before hval0 hW hcnd _
  have hval : ∀ (j : Nat) t v, Try.f25.params[j]? = some t → args[j]? = some v → Value.okWide Try.prog W .any base t v := hval0
  have hW' := hW
  obtain ⟨p, q, hA0, hV, rfl, _, _⟩ := hW
  have hA : DataW.TrodAll enc Try.prog W 0 (fun _ => true) true Try.f25.params.toList args.toList ds p := hA0
  rw [Try.params25] at hA hval
  obtain ⟨v0, vs0, d0, ds0, p0, q0, hargs, rfl, rfl, h0, r0⟩ := trodAll_cons hA
  obtain ⟨v1, vs1, d1, ds1, p1, q1, rfl, rfl, rfl, h1, r1⟩ := trodAll_cons r0
  obtain ⟨rfl, rfl, rfl⟩ := trodAll_nil r1
  obtain rfl : args = #[v0, v1] := by cases args; simp_all
  obtain ⟨rfl, rfl⟩ := trodVars_none hV
  have hlt0 : ∀ x ∈ p0, x.block < W.heap.size := fun x hx => by exact hW'.lt x (by simp [hx])
  obtain ⟨A0, n0, c0, rfl, hb0⟩ := open_bytes (hval 0 22 v0 rfl rfl) h0 hlt0
  have hlt1 : ∀ x ∈ p1, x.block < W.heap.size := fun x hx => by exact hW'.lt x (by simp [hx])
  obtain ⟨A1, n1, c1, rfl, hb1⟩ := open_bytes (hval 1 22 v1 rfl rfl) h1 hlt1
  clear hA0 hval0
  refine (fnTurnChart_walk A0 n0 c0 A1 n1 c1 W hb0 hb1).mono fun e W' ⟨he, hb⟩ => ?_
  subst he
  exact ⟨_, rfl, _, _, _, [], _, [], hW', (trodAll_cons_mk (shut_bool Try.underlying4 _) trodAll_mk0), (trodAll_cons_mk (read_again_bytes h0 hlt0 hb) (trodAll_cons_mk (read_again_bytes h1 hlt1 hb) trodAll_mk0)), rfl, hb.frame _, fun h => by cases h⟩

set_option maxRecDepth 100000 in
theorem fnTurnChart_closed : joinedFacts Try.prog 25 Try.f25 Rows.fnTurnChartSpec Rows.fnTurnChartRow = true := by
  unfold joinedFacts
  repeat' (with_reducible apply facAnd)
  all_goals first | (with_reducible exact facEnter) | (with_reducible exact facLaid) | (with_reducible exact facMaps) | (with_reducible exact facStops) | (with_reducible exact facKnobs) | (with_reducible exact facHeard) | (rw [facLifts]; as_aux_lemma => kernel_rfl) | (rw [facMake]; as_aux_lemma => kernel_rfl) | (as_aux_lemma => kernel_rfl)

/-- THE STATEMENT -/
theorem fnTurnChart_holds : Rows.FnTurnChartSaid :=
  OpenClaim.holds_of_wide 25 Try.f25 rfl rfl rfl rfl rfl rfl rfl ⟨rfl, rfl, rfl, rfl, rfl⟩ rfl rfl rfl rfl rfl (by kernel_rfl) Try.func25 fnTurnChart_closed
    (of_decide_eq_true (by kernel_rfl)) (by unfold Func.isWrapper; first | (rw [if_pos (by decide +kernel)]; kernel_rfl) | (rw [if_neg (by decide +kernel)]; exact ⟨rfl, rfl⟩))
    (fun os started H enc _ => fnTurnChart_lifted os started H enc)
#print axioms fnTurnChart_holds
end Go.Proofs.Ytjboamhjfncgdaa
