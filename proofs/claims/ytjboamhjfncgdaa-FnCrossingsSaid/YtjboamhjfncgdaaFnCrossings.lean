/-
  The law FnCrossings: for all codes the law answers true. No condition.
-/
import Derived.Test.YtjboamhjfncgdaaFac
import Derived.Test.YtjboamhjfncgdaaRowB
import Derived.Test.YtjboamhjfncgdaaCtE
import Derived.Test.YtjboamhjfncgdaaRtA
import Derived.Test.YtjboamhjfncgdaaRtAs
import Derived.Test.YtjboamhjfncgdaaRtD
import Derived.Test.YtjboamhjfncgdaaRtE
import Derived.Test.YtjboamhjfncgdaaRtT
import Derived.Test.YtjboamhjfncgdaaRtW
namespace Go.Proofs.Ytjboamhjfncgdaa
open Go.ChangeShapes Go.WideShapes Go.ChangeAt Go.RowKit

theorem chart_drop {R : List Rot} {k : Nat} (h : chartB R = true) (hk : k < R.length) : chartB (dropR R k) = true := by
  unfold chartB at h ⊢
  rw [Bool.and_eq_true] at h ⊢
  obtain ⟨h1, h2⟩ := h
  rw [List.all_eq_true] at h1 ⊢
  rw [decide_eq_true_eq] at h2 ⊢
  rw [dropR_len hk]
  refine ⟨fun r hr => ?_, by omega⟩
  unfold dropR at hr
  rcases List.mem_append.1 hr with h3 | h3
  · exact h1 r (List.mem_of_mem_take h3)
  · exact h1 r (List.mem_of_mem_drop h3)
theorem crs_own {R : List Rot} {k : Nat} (h : chartB R = true) (hk : k < R.length) : crsV (dropR R k) = crsV R - (sumTo (fun i => one (crI R i k)) R.length : Nat) := by
  rw [crsV_yes h, crsV_yes (chart_drop h hk)]
  have := crs_drop hk
  unfold dropR
  omega
theorem crossB_nat {R : List Rot} {i k : Nat} (h : chartB R = true) (hi : i < R.length) (hk : k < R.length) : crossB R (i : Int) (k : Int) = crI R i k := by
  unfold crossB
  rw [hasR_nat h hi, hasR_nat h hk, Int.toNat_natCast, Int.toNat_natCast]; rfl

set_option maxRecDepth 100000 in
set_option maxHeartbeats 4000000 in
theorem fnCrossings_in (A0 : Option Addr) (n0 c0 : Nat) (A1 : Option Addr) (n1 c1 : Nat) (w : World) (hl0 : n0 ≤ 1048576) (hc0 : n0 ≤ c0) (hb0 : Bytes w.heap.size w A0 n0) (hl1 : n1 ≤ 1048576) (_ : n1 ≤ c1) (_ : Bytes w.heap.size w A1 n1) :
    Calls Try.prog 18 #[.slice A0 n0 c0, .slice A1 n1 c1] w (RetB (.bool true) w) := by
  have Hb := Lib.hid hb0
  clear hb0
  have u0 : decide ((1048576 : Int) < (n0 : Int)) = false := by simp; omega
  have u1 : decide ((1048576 : Int) < (n1 : Int)) = false := by simp; omega
  go_enter Try.func18, Try.ntmps18
  go_wp2_with fail
  refine (DrawChartCrossings_c A0 n0 c0 _ (by omega) hc0 Hb.out).mono ?_
  rintro e w1 ⟨B, d, zs, rfl, hzl, hA, hB⟩
  have Ha := Lib.hid hA
  have Bt := Lib.hid hB
  clear hA hB Hb
  dsimp only
  go_wp2_with fail
  refine (implChartCrossings_b B d zs _ Ha.out).mono ?_
  rintro e w2 ⟨rfl, hb2⟩
  replace Ha := Lib.hid (Ha.out.go hb2)
  replace Bt := Lib.hid (below_step Bt.out hb2)
  clear hb2
  dsimp only
  go_wp2_with fail
  refine (specChartCrossings_b B d zs _ Ha.out).mono ?_
  rintro e w3 ⟨rfl, hb3⟩
  have HA := Lib.hid (Ha.out.go hb3)
  have Bt3 := Lib.hid (below_step Bt.out hb3)
  clear hb3 Ha Bt
  dsimp only
  cases hv : chartB zs
  · rw [crsV_no hv]
    clear hv
    go_wp2
    go_ret
    exact ⟨rfl, Bt3.out⟩
  have hab := crs_abv zs
  have hle := crsN_le zs zs.length
  have hl8 := chart_len hv
  have hle2 : zs.length * zs.length ≤ 8 * 8 := Nat.mul_le_mul hl8 hl8
  have hT0 := fun W h => implChartTurn_b B d zs W h
  rw [turnV_yes hv, hv] at hT0
  have hU0 := fun W A c h => implChartCrossings_b A c (turnL zs) W h
  rw [crsV_turn, crsV_yes hv] at hU0
  have hO0 := fun (k : Nat) W (hk : k < zs.length) h => (show Calls Try.prog 44 #[.slice B zs.length d, .int .i64 (k : Int)] W (RetS 3 id (ints (abvN zs k)) W) from by
    have := implRouteAbove_b B d zs (k : Int) W h
    rwa [abvV_yes (hasR_nat hv hk)] at this)
  have hD0 := fun (k : Nat) W (hk : k < zs.length) h => (show Calls Try.prog 58 #[.slice B zs.length d, .int .i64 (k : Int)] W (RetK 37 (fun v => .tuple #[v, .bool true]) (dropR zs k) W) from by
    have := implChartDrop_b B d zs (k : Int) W h
    rwa [cd_yes (hasR_nat hv hk), hasR_nat hv hk] at this)
  have hC0 := fun (i k : Nat) W (hi : i < zs.length) (hk : k < zs.length) h => (show Calls Try.prog 41 #[.slice B zs.length d, .int .i64 (i : Int), .int .i64 (k : Int)] W (RetB (.bool (crI zs i k)) W) from by
    have := implRoutesCross_b B d zs (i : Int) (k : Int) W h
    rwa [crossB_nat hv hi hk] at this)
  have hE0 := fun (k : Nat) W A c (hk : k < zs.length) h => (show Calls Try.prog 31 #[.slice A (dropR zs k).length c] W (RetB (.int .i64 ((crsN zs zs.length : Int) - (sumTo (fun i => one (crI zs i k)) zs.length : Nat))) W) from by
    have := implChartCrossings_b A c (dropR zs k) W h
    rwa [crs_own hv hk, crsV_yes hv] at this)
  have HTn := Lib.hid hT0
  have HU := Lib.hid hU0
  have HO := Lib.hid hO0
  have HD := Lib.hid hD0
  have HC := Lib.hid hC0
  have HE := Lib.hid hE0
  rw [crsV_yes hv]
  have hown : ∀ k m, sumTo (fun i => one (crI zs i k)) m ≤ m := fun k m => Nat.le_trans (sumTo_le (b := 1) fun i _ => by unfold one; split <;> omega) (by omega)
  have hownS : ∀ k m, sumTo (fun i => one (crI zs i k)) (m + 1) = sumTo (fun i => one (crI zs i k)) m + one (crI zs m k) := fun k m => sumTo_succ _ _
  have habS : ∀ m, sumTo (fun k => (abvN zs k).length) (m + 1) = sumTo (fun k => (abvN zs k).length) m + (abvN zs m).length := fun m => sumTo_succ _ _
  have habL : ∀ m, sumTo (fun k => (abvN zs k).length) m ≤ m * zs.length := fun m => sumTo_le fun k _ => abvN_len zs k
  obtain ⟨sa, hsa⟩ : ∃ sa : Nat → Nat, (fun m => sumTo (fun k => (abvN zs k).length) m) = sa := ⟨_, rfl⟩
  have hsaE : ∀ m, sumTo (fun k => (abvN zs k).length) m = sa m := fun m => congrFun hsa m
  simp only [hsaE] at hab habS habL
  obtain ⟨cn, hcn⟩ : ∃ cn, crsN zs zs.length = cn := ⟨_, rfl⟩
  rw [hcn] at hab hle HU HE ⊢
  have Hown := Lib.hid hown
  have HownS := Lib.hid hownS
  have HabS := Lib.hid habS
  have HabL := Lib.hid habL
  have Hab := Lib.hid hab
  have h0 : sa 0 = 0 := by rw [← hsaE]; rfl
  have H0 := Lib.hid h0
  have g0 : ¬ (cn : Int) < 0 := by omega
  have b0 : ((cn : Int) != (cn : Int)) = false := by simp
  have hcl : cn ≤ 64 := by omega
  clear hab hle hle2 hT0 hU0 hO0 hD0 hC0 hE0 hown hownS habS habL hsa hsaE hcn h0 hv
  go_wp2
  go_loopw [8, 9] (fun v i wr => ∃ m : Nat, m ≤ zs.length ∧ v = .int .i64 (sa m) ∧ i = .int .i64 m ∧ Below w3.heap.size w3 wr) (fun _ i _ => zs.length - (intOf i).toNat)
  case atStart => exact ⟨0, Nat.zero_le _, by rw [H0.out]; rfl, rfl, Below.refl _ _⟩
  case round =>
    obtain ⟨m, hm, rfl, rfl, hb⟩ := hrel
    have Hb := Lib.hid hb
    clear hb
    by_cases hlt : m < zs.length
    · have hs := HabS.out m
      have hls := HabL.out m
      have hls2 : m * zs.length ≤ 8 * 8 := Nat.mul_le_mul (by omega) hl8
      have hla := abvN_len zs m
      have hO1 := Lib.hid (fun W h => HO.out m W hlt h)
      obtain ⟨N, hN⟩ : ∃ N, abvN zs m = N := ⟨_, rfl⟩
      rw [hN] at hs hla hO1
      have hNl : (ints N).length = N.length := by simp [ints]
      have e1 : ((m + 1 : Nat) : Int) = (m : Int) + 1 := by omega
      have e2 : ((sa (m + 1) : Nat) : Int) = (sa m : Int) + (N.length : Int) := by omega
      have g1 : (m : Int) < (zs.length : Int) := by omega
      have q1 : IntKind.i64.wrap ((m : Int) + 1) = (m : Int) + 1 := IntWalk.i64_in _ (by omega)
      have q2 : IntKind.i64.wrap ((sa m : Int) + (N.length : Int)) = (sa m : Int) + (N.length : Int) := IntWalk.i64_in _ (by omega)
      have E2 := Lib.hid e2
      have HNl := Lib.hid hNl
      clear hs hls hls2 hla hN e2 hNl
      go_wp2_with fail
      refine (hO1.out _ (HA.out.go Hb.out)).mono ?_
      rintro e w5 ⟨B1, d1, rfl, _, _, hb5⟩
      have Hb5 := Lib.hid (below_step Hb.out hb5)
      clear hb5
      rw [HNl.out]
      dsimp only [id]
      go_wp2
      exact ⟨⟨m + 1, by omega, by rw [E2.out], by rw [e1], Hb5.out⟩, by simp only [intOf]; omega⟩
    · obtain rfl : m = zs.length := by omega
      rw [Hab.out]
      have HA2 := Lib.hid (HA.out.go Hb.out)
      have Bt4 := Lib.hid (below_step Bt3.out Hb.out)
      clear HA Bt3 Hb
      go_wp2_with fail
      refine (HTn.out _ HA2.out).mono ?_
      rintro e w5 ⟨B1, d1, rfl, ra, _, hb5⟩
      replace HA2 := Lib.hid (HA2.out.go hb5)
      have T5 := Lib.hid ra
      have Bt5 := Lib.hid (below_step Bt4.out hb5)
      clear hb5 ra
      dsimp only
      go_wp2_with fail
      refine (HU.out _ _ _ T5.out).mono ?_
      rintro e w6 ⟨rfl, hb6⟩
      replace HA2 := Lib.hid (HA2.out.go hb6)
      have Bt6 := Lib.hid (below_step Bt5.out hb6)
      clear hb6 T5 Bt5 Bt4 HTn HU
      by_cases hz : zs.length = 0
      · have z1 : ((zs.length : Int) == 0) = true := beq_iff_eq.2 (by omega)
        go_wp2
        go_ret
        exact ⟨rfl, Bt6.out⟩
      have z1 : ((zs.length : Int) == 0) = false := beq_eq_false_iff_ne.2 (by omega)
      have z2 : ¬ (zs.length : Int) = 0 := by omega
      obtain ⟨k, hk⟩ : ∃ k, n1 % zs.length = k := ⟨_, rfl⟩
      have hkl : k < zs.length := by rw [← hk]; exact Nat.mod_lt _ (by omega)
      have q5 : (n1 : Int).tmod (zs.length : Int) = (k : Int) := by
        rw [Int.tmod_eq_emod_of_nonneg (by omega), ← hk]; simp
      have q6 : (n1 : Int) % (zs.length : Int) = (k : Int) := by rw [← hk]; simp
      have q7 : IntKind.i64.wrap (k : Int) = (k : Int) := IntWalk.i64_in _ (by omega)
      have hD1 := Lib.hid (fun W h => HD.out k W hkl h)
      have hE1 := Lib.hid (fun W A c h => HE.out k W A c hkl h)
      have hC1 := Lib.hid (fun i W hi h => HC.out i k W hi hkl h)
      have hoS := fun m => HownS.out k m
      have hoL := fun m => Hown.out k m
      obtain ⟨so, hso⟩ : ∃ so : Nat → Nat, (fun m => sumTo (fun i => one (crI zs i k)) m) = so := ⟨_, rfl⟩
      have hsoE : ∀ m, sumTo (fun i => one (crI zs i k)) m = so m := fun m => congrFun hso m
      simp only [hsoE] at hoS hoL hE1
      have h00 : so 0 = 0 := by rw [← hsoE]; rfl
      have HoS := Lib.hid hoS
      have HoL := Lib.hid hoL
      have H00 := Lib.hid h00
      clear hk HD HE HO HC HabS HabL Hown HownS Hab H0 hso hsoE hoS hoL h00
      go_wp2_with fail
      refine (hD1.out _ HA2.out).mono ?_
      rintro e w7 ⟨B2, d2, rfl, ra, _, hb7⟩
      replace HA2 := Lib.hid (HA2.out.go hb7)
      have D7 := Lib.hid ra
      have Bt7 := Lib.hid (below_step Bt6.out hb7)
      clear hb7 ra Bt6 hD1
      dsimp only
      go_wp2
      go_loopw [15, 16] (fun v i wr => ∃ m : Nat, m ≤ zs.length ∧ v = .int .i64 (so m) ∧ i = .int .i64 m ∧ Below w7.heap.size w7 wr) (fun _ i _ => zs.length - (intOf i).toNat)
      case atStart => exact ⟨0, Nat.zero_le _, by rw [H00.out]; rfl, rfl, Below.refl _ _⟩
      case round =>
        obtain ⟨m, hm, rfl, rfl, hb⟩ := hrel
        have Hb := Lib.hid hb
        clear hb
        by_cases hlt : m < zs.length
        · have hs := HoS.out m
          have hls := HoL.out m
          have hX1 := fun W h => hC1.out m W hlt h
          obtain ⟨b, hb⟩ : ∃ b, crI zs m k = b := ⟨_, rfl⟩
          rw [hb] at hs hX1
          have HX := Lib.hid hX1
          have e1 : ((m + 1 : Nat) : Int) = (m : Int) + 1 := by omega
          have g1 : (m : Int) < (zs.length : Int) := by omega
          have q1 : IntKind.i64.wrap ((m : Int) + 1) = (m : Int) + 1 := IntWalk.i64_in _ (by omega)
          have q2 : IntKind.i64.wrap ((so m : Int) + 1) = (so m : Int) + 1 := IntWalk.i64_in _ (by omega)
          clear hb hX1 hls
          cases b
          · have E2 := Lib.hid (show so (m + 1) = so m by simpa [one] using hs)
            clear hs
            go_wp2_with fail
            refine (HX.out _ (HA2.out.go Hb.out)).mono ?_
            rintro e w8 ⟨rfl, hb8⟩
            have Hb8 := Lib.hid (below_step Hb.out hb8)
            clear hb8
            go_wp2
            exact ⟨⟨m + 1, by omega, by rw [E2.out], by rw [e1], Hb8.out⟩, by simp only [intOf]; omega⟩
          · have hs2 : so (m + 1) = so m + 1 := by simpa [one] using hs
            have E2 := Lib.hid (show ((so (m + 1) : Nat) : Int) = (so m : Int) + 1 by omega)
            clear hs hs2
            go_wp2_with fail
            refine (HX.out _ (HA2.out.go Hb.out)).mono ?_
            rintro e w8 ⟨rfl, hb8⟩
            have Hb8 := Lib.hid (below_step Hb.out hb8)
            clear hb8
            go_wp2
            exact ⟨⟨m + 1, by omega, by rw [E2.out], by rw [e1], Hb8.out⟩, by simp only [intOf]; omega⟩
        · obtain rfl : m = zs.length := by omega
          have hls := HoL.out zs.length
          have q8 : IntKind.i64.wrap ((cn : Int) - (so zs.length : Int)) = (cn : Int) - (so zs.length : Int) := IntWalk.i64_in _ (by omega)
          have b1 : ((cn : Int) - (so zs.length : Int) == (cn : Int) - (so zs.length : Int)) = true := by simp
          clear hls
          go_wp2_with fail
          refine (hE1.out _ _ _ (D7.out.go Hb.out)).mono ?_
          rintro e w8 ⟨rfl, hb8⟩
          have Bt8 := Lib.hid (below_step (below_step Bt7.out Hb.out) hb8)
          clear hb8
          go_wp2
          go_ret
          exact ⟨rfl, Bt8.out⟩

theorem fnCrossings_walk (A0 : Option Addr) (n0 c0 : Nat) (A1 : Option Addr) (n1 c1 : Nat) (w : World) (hb0 : Byt0 w A0 n0 c0) (hb1 : Byt0 w A1 n1 c1) :
    Calls Try.prog 18 #[.slice A0 n0 c0, .slice A1 n1 c1] w (RetB (.bool true) w) := by
  by_cases hl0 : 1048576 < n0
  · clear hb0; clear hb1
    have u0 : decide ((1048576 : Int) < (n0 : Int)) = true := by simp; omega
    go_enter Try.func18, Try.ntmps18
    go_wp2
    go_ret
    exact ⟨rfl, Below.refl _ _⟩
  by_cases hl1 : 1048576 < n1
  · clear hb0; clear hb1
    have u0 : decide ((1048576 : Int) < (n0 : Int)) = false := by simp; omega
    have u1 : decide ((1048576 : Int) < (n1 : Int)) = true := by simp; omega
    go_enter Try.func18, Try.ntmps18
    go_wp2
    go_ret
    exact ⟨rfl, Below.refl _ _⟩
  exact fnCrossings_in A0 n0 c0 A1 n1 c1 w (by omega) hb0.1 hb0.2.2 (by omega) hb1.1 hb1.2.2

set_option maxRecDepth 100000 in
theorem fnCrossings_lifted (os : Os) (started : os.Started) (H : Type) (enc : TypeId × Value → H) :
    ReturnsInHanded {} Try.checked os 18 .any (Rows.fnCrossingsSpec.pre6 enc Try.prog Try.f18 Rows.fnCrossingsRow.domain false) (Rows.fnCrossingsSpec.post enc Try.prog Try.f18 false true false false) := by
  refine returnsInHanded_of_change (C := Try.checked) row_own started (by kernel_rfl) Try.func18
    (ChangeSpec.witness6 (enc := enc) (C := Try.checked) false ⟨#[], #[.slice none 0 0, .slice none 0 0], []⟩ 8 (by kernel_rfl) (by kernel_rfl) (by kernel_rfl) (by kernel_rfl)) ?_
  intro W base args ds gs before hval0 hW hcnd _
  have hval : ∀ (j : Nat) t v, Try.f18.params[j]? = some t → args[j]? = some v → Value.okWide Try.prog W .any base t v := hval0
  have hW' := hW
  obtain ⟨p, q, hA0, hV, rfl, _, _⟩ := hW
  have hA : DataW.TrodAll enc Try.prog W 0 (fun _ => true) true Try.f18.params.toList args.toList ds p := hA0
  rw [Try.params18] at hA hval
  obtain ⟨v0, vs0, d0, ds0, p0, q0, hargs, rfl, rfl, h0, r0⟩ := trodAll_cons hA
  obtain ⟨v1, vs1, d1, ds1, p1, q1, rfl, rfl, rfl, h1, r1⟩ := trodAll_cons r0
  obtain ⟨rfl, rfl, rfl⟩ := trodAll_nil r1
  obtain rfl : args = #[v0, v1] := by cases args; simp_all
  obtain ⟨rfl, rfl⟩ := trodVars_none hV
  have hlt0 : ∀ x ∈ p0, x.block < W.heap.size := fun x hx => by exact hW'.lt x (by simp [hx])
  obtain ⟨A0, n0, c0, rfl, hb0⟩ := open_bytes (hval 0 22 v0 rfl rfl) h0 hlt0
  have hlt1 : ∀ x ∈ p1, x.block < W.heap.size := fun x hx => by exact hW'.lt x (by simp [hx])
  obtain ⟨A1, n1, c1, rfl, hb1⟩ := open_bytes (hval 1 22 v1 rfl rfl) h1 hlt1
  clear hA0 hval0
  refine (fnCrossings_walk A0 n0 c0 A1 n1 c1 W hb0 hb1).mono fun e W' ⟨he, hb⟩ => ?_
  subst he
  exact ⟨_, rfl, _, _, _, [], _, [], hW', (trodAll_cons_mk (shut_bool Try.underlying4 _) trodAll_mk0), (trodAll_cons_mk (read_again_bytes h0 hlt0 hb) (trodAll_cons_mk (read_again_bytes h1 hlt1 hb) trodAll_mk0)), rfl, hb.frame _, fun h => by cases h⟩

set_option maxRecDepth 100000 in
theorem fnCrossings_closed : joinedFacts Try.prog 18 Try.f18 Rows.fnCrossingsSpec Rows.fnCrossingsRow = true := by
  unfold joinedFacts
  repeat' (with_reducible apply facAnd)
  all_goals first | (with_reducible exact facEnter) | (with_reducible exact facLaid) | (with_reducible exact facMaps) | (with_reducible exact facStops) | (with_reducible exact facKnobs) | (with_reducible exact facHeard) | (rw [facLifts]; as_aux_lemma => kernel_rfl) | (rw [facMake]; as_aux_lemma => kernel_rfl) | (as_aux_lemma => kernel_rfl)

/-- THE STATEMENT -/
theorem fnCrossings_holds : Rows.FnCrossingsSaid :=
  OpenClaim.holds_of_wide 18 Try.f18 rfl rfl rfl rfl rfl rfl rfl ⟨rfl, rfl, rfl, rfl, rfl⟩ rfl rfl rfl rfl rfl (by kernel_rfl) Try.func18 fnCrossings_closed
    (of_decide_eq_true (by kernel_rfl)) (by unfold Func.isWrapper; first | (rw [if_pos (by decide +kernel)]; kernel_rfl) | (rw [if_neg (by decide +kernel)]; exact ⟨rfl, rfl⟩))
    (fun os started H enc _ => fnCrossings_lifted os started H enc)
#print axioms fnCrossings_holds
end Go.Proofs.Ytjboamhjfncgdaa
