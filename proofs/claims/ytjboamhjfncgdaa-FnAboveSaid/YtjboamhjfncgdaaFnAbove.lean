/-
  The law FnAbove: for all codes the law answers true. No condition.
-/
import Derived.Test.YtjboamhjfncgdaaFac
import Derived.Test.YtjboamhjfncgdaaRowB
import Derived.Test.YtjboamhjfncgdaaSame
import Derived.Test.YtjboamhjfncgdaaHas
import Derived.Test.YtjboamhjfncgdaaCtR
import Derived.Test.YtjboamhjfncgdaaRtA
import Derived.Test.YtjboamhjfncgdaaRtAs
import Derived.Test.YtjboamhjfncgdaaRtE
import Derived.Test.YtjboamhjfncgdaaRtK
import Derived.Test.YtjboamhjfncgdaaRtQ
namespace Go.Proofs.Ytjboamhjfncgdaa
open Go.ChangeShapes Go.WideShapes Go.ChangeAt Go.RowKit

/-- what lies above was laid later and crosses -/
theorem abv_in {R : List Rot} {k j : Nat} (hR : hasR R (k : Int) = true) (hj : j < R.length) : decide ((j : Int) ∈ abvV R (k : Int)) = (decide (k < j) && crossB R (j : Int) (k : Int)) := by
  obtain ⟨h1, _, h3⟩ := hasR_true.1 hR
  rw [abvV_yes hR]
  unfold crossB
  rw [hasR_nat h1 hj, hR, Int.toNat_natCast, Int.toNat_natCast]
  by_cases hkj : k < j
  · rw [decide_eq_true hkj]
    cases hc : crI R j k
    · refine decide_eq_false fun h => ?_
      have := (abvN_mem.1 (by simpa [ints_mem] using h : j ∈ abvN R k)).2.2
      rw [hc] at this; cases this
    · exact decide_eq_true (by simpa [ints_mem] using (abvN_mem.2 ⟨hkj, hj, hc⟩ : j ∈ abvN R k))
  · rw [decide_eq_false hkj]
    refine decide_eq_false fun h => hkj (abvN_mem.1 (by simpa [ints_mem] using h : j ∈ abvN R k)).1
theorem abv_clr {R : List Rot} {k : Nat} (hR : hasR R (k : Int) = true) : ((abvV R (k : Int)).length : Int) ≤ clrV R (k : Int) := by
  obtain ⟨_, _, h3⟩ := hasR_true.1 hR
  rw [abvV_yes hR]
  unfold clrV
  rw [if_pos hR, Int.toNat_natCast]
  have := clr_abv (R := R) (k := k) (by omega)
  simp [ints]
  omega

set_option maxRecDepth 100000 in
set_option maxHeartbeats 4000000 in
theorem fnAbove_in (A0 : Option Addr) (n0 c0 : Nat) (w : World) (hl0 : n0 ≤ 1048576) (hc0 : n0 ≤ c0) (hb0 : Bytes w.heap.size w A0 n0) :
    Calls Try.prog 19 #[.slice A0 n0 c0] w (RetB (.bool true) w) := by
  have Hb := Lib.hid hb0
  clear hb0
  have u0 : ¬ (1048576 : Int) < (n0 : Int) := by omega
  go_enter Try.func19, Try.ntmps19
  go_wp2_with fail
  refine (DrawRouteAbove_c A0 n0 c0 _ (by omega) hc0 Hb.out).mono ?_
  rintro e w1 ⟨B, d, zs, kk, rfl, hzl, hA, hB⟩
  have Ha := Lib.hid hA
  have Bt := Lib.hid hB
  clear hA hB Hb
  dsimp only
  go_wp2_with fail
  refine (implRouteAbove_b B d zs kk _ Ha.out).mono ?_
  rintro e w2 ⟨B1, d1, rfl, ra, _, hb2⟩
  replace Ha := Lib.hid (Ha.out.go hb2)
  replace Bt := Lib.hid (below_step Bt.out hb2)
  have Ra := Lib.hid ra
  clear ra hb2
  dsimp only [id]
  go_wp2_with fail
  refine (specRouteAbove_b B d zs kk _ Ha.out).mono ?_
  rintro e w3 ⟨B2, d2, rfl, ra, _, hb3⟩
  replace Ha := Lib.hid (Ha.out.go hb3)
  replace Bt := Lib.hid (below_step Bt.out hb3)
  have Rb := Lib.hid ra
  replace Ra := Lib.hid (Ra.out.go hb3)
  clear ra hb3
  dsimp only [id]
  have hl := Ra.out.len
  cases hv : hasR zs kk
  · have h0 := abvV_no hv
    rw [h0] at Ra Rb ⊢
    clear hv h0 hl
    go_wp2_with fail
    refine (sameInts_c _ _ _ _ _ _ _ Ra.out Rb.out).mono ?_
    rintro e w4 ⟨rfl, q4, rfl⟩
    rw [decide_eq_true rfl]
    go_wp2_with fail
    refine (sameInts_c _ _ _ _ _ _ _ (Ra.out.go (below_drewN (Below.refl _ _) q4)) (Rb.out.go (below_drewN (Below.refl _ _) q4))).mono ?_
    rintro e w5 ⟨rfl, q5, rfl⟩
    rw [decide_eq_true rfl]
    go_wp2
    go_ret
    exact ⟨rfl, below_drewN Bt.out (q4 + q5)⟩
  obtain ⟨k1, k2, k3⟩ := hasR_true.1 hv
  obtain ⟨k, rfl⟩ : ∃ k : Nat, kk = (k : Int) := ⟨kk.toNat, by omega⟩
  have hin := fun j (h : j < zs.length) => abv_in (j := j) hv h
  have hcl := abv_clr hv
  obtain ⟨O, hO⟩ : ∃ O, abvV zs (k : Int) = O := ⟨_, rfl⟩
  obtain ⟨cv, hcv⟩ : ∃ cv, clrV zs (k : Int) = cv := ⟨_, rfl⟩
  have HC := fun W h => implRouteClear_b B d zs (k : Int) W h
  rw [hO] at Ra Rb hin hcl hl ⊢
  rw [hcv] at hcl HC
  have Hin := Lib.hid hin
  have Hc := Lib.hid HC
  have hk8 : k ≤ 7 := by omega
  clear hv k1 k2 k3 hO hcv hin HC
  by_cases h0 : O.length = 0
  · obtain rfl : O = [] := List.eq_nil_of_length_eq_zero h0
    clear h0 hl hcl Hin Hc
    go_wp2_with fail
    refine (sameInts_c _ _ _ _ _ _ _ Ra.out Rb.out).mono ?_
    rintro e w4 ⟨rfl, q4, rfl⟩
    rw [decide_eq_true rfl]
    go_wp2_with fail
    refine (sameInts_c _ _ _ _ _ _ _ (Ra.out.go (below_drewN (Below.refl _ _) q4)) (Rb.out.go (below_drewN (Below.refl _ _) q4))).mono ?_
    rintro e w5 ⟨rfl, q5, rfl⟩
    rw [decide_eq_true rfl]
    go_wp2
    go_ret
    exact ⟨rfl, below_drewN Bt.out (q4 + q5)⟩
  have g0 : ¬ (O.length : Int) = 0 := by omega
  have g1 : ((O.length : Int) == 0) = false := beq_eq_false_iff_ne.2 g0
  go_wp2_with fail
  refine (sameInts_c _ _ _ _ _ _ _ Ra.out Rb.out).mono ?_
  rintro e w4 ⟨rfl, q4, hq4⟩
  rw [decide_eq_true rfl]
  have hb4 : Below w3.heap.size w3 w4 := by rw [hq4]; exact below_drewN (Below.refl _ _) q4
  have HA := Lib.hid (Ha.out.go hb4)
  have HO := Lib.hid (Ra.out.go hb4)
  have Bt4 := Lib.hid (below_step Bt.out hb4)
  clear hq4 hb4 Ha Ra Rb Bt
  go_wp2
  go_loopw [7] (fun i wr => ∃ j : Nat, j ≤ zs.length ∧ i = .int .i64 j ∧ Below w4.heap.size w4 wr) (fun i _ => zs.length - (intOf i).toNat)
  case atStart => exact ⟨0, Nat.zero_le _, rfl, Below.refl _ _⟩
  case round =>
    obtain ⟨j, hj, rfl, hb⟩ := hrel
    have Hb := Lib.hid hb
    clear hb
    by_cases hlt : j < zs.length
    · have hi := Hin.out j hlt
      have e1 : ((j + 1 : Nat) : Int) = (j : Int) + 1 := by omega
      have q1 : IntKind.i64.wrap ((j : Int) + 1) = (j : Int) + 1 := IntWalk.i64_in _ (by omega)
      have g2 : (j : Int) < (zs.length : Int) := by omega
      by_cases hkj : k < j
      · rw [decide_eq_true hkj, Bool.true_and] at hi
        have g3 : (k : Int) < (j : Int) := by omega
        obtain ⟨b, hbb⟩ : ∃ b, crossB zs (j : Int) (k : Int) = b := ⟨_, rfl⟩
        have HX := fun W h => implRoutesCross_b B d zs (j : Int) (k : Int) W h
        rw [hbb] at hi HX
        have HH := fun W h => hasInt_c B1 d1 O (j : Int) W h
        rw [hi] at HH
        have Hx := Lib.hid HX
        have Hh := Lib.hid HH
        have b1 : (b != b) = false := by simp
        clear hbb HX HH hi
        go_wp2_with fail
        refine (Hh.out _ (HO.out.go Hb.out)).mono ?_
        rintro e w5 ⟨rfl, rfl⟩
        go_wp2_with fail
        refine (Hx.out _ (HA.out.go Hb.out)).mono ?_
        rintro e w6 ⟨rfl, hb6⟩
        have Hb6 := Lib.hid (below_step Hb.out hb6)
        clear hb6
        go_wp2
        exact ⟨⟨j + 1, by omega, by rw [e1], Hb6.out⟩, by simp only [intOf]; omega⟩
      · rw [decide_eq_false hkj, Bool.false_and] at hi
        have g3 : ¬ (k : Int) < (j : Int) := by omega
        have HH := fun W h => hasInt_c B1 d1 O (j : Int) W h
        rw [hi] at HH
        have Hh := Lib.hid HH
        clear HH hi
        go_wp2_with fail
        refine (Hh.out _ (HO.out.go Hb.out)).mono ?_
        rintro e w5 ⟨rfl, rfl⟩
        go_wp2
        exact ⟨⟨j + 1, by omega, by rw [e1], Hb.out⟩, by simp only [intOf]; omega⟩
    · obtain rfl : j = zs.length := by omega
      go_wp2_with fail
      refine (Hc.out _ (HA.out.go Hb.out)).mono ?_
      rintro e w5 ⟨rfl, hb5⟩
      have Bt5 := Lib.hid (below_step (below_step Bt4.out Hb.out) hb5)
      clear hb5
      go_wp2
      go_ret
      exact ⟨rfl, Bt5.out⟩

theorem fnAbove_walk (A0 : Option Addr) (n0 c0 : Nat) (w : World) (hb0 : Byt0 w A0 n0 c0) :
    Calls Try.prog 19 #[.slice A0 n0 c0] w (RetB (.bool true) w) := by
  by_cases hl0 : 1048576 < n0
  · clear hb0
    go_enter Try.func19, Try.ntmps19
    go_wp2
    go_ret
    exact ⟨rfl, Below.refl _ _⟩
  exact fnAbove_in A0 n0 c0 w (by omega) hb0.1 hb0.2.2

set_option maxRecDepth 100000 in
theorem fnAbove_lifted (os : Os) (started : os.Started) (H : Type) (enc : TypeId × Value → H) :
    ReturnsInHanded {} Try.checked os 19 .any (Rows.fnAboveSpec.pre6 enc Try.prog Try.f19 Rows.fnAboveRow.domain false) (Rows.fnAboveSpec.post enc Try.prog Try.f19 false true false false) := by
  refine returnsInHanded_of_change (C := Try.checked) row_own started (by kernel_rfl) Try.func19
    (ChangeSpec.witness6 (enc := enc) (C := Try.checked) false ⟨#[], #[.slice none 0 0], []⟩ 8 (by kernel_rfl) (by kernel_rfl) (by kernel_rfl) (by kernel_rfl)) ?_
  intro W base args ds gs before hval0 hW hcnd _
  have hval : ∀ (j : Nat) t v, Try.f19.params[j]? = some t → args[j]? = some v → Value.okWide Try.prog W .any base t v := hval0
  have hW' := hW
  obtain ⟨p, q, hA0, hV, rfl, _, _⟩ := hW
  have hA : DataW.TrodAll enc Try.prog W 0 (fun _ => true) true Try.f19.params.toList args.toList ds p := hA0
  rw [Try.params19] at hA hval
  obtain ⟨v0, vs0, d0, ds0, p0, q0, hargs, rfl, rfl, h0, r0⟩ := trodAll_cons hA
  obtain ⟨rfl, rfl, rfl⟩ := trodAll_nil r0
  obtain rfl : args = #[v0] := by cases args; simp_all
  obtain ⟨rfl, rfl⟩ := trodVars_none hV
  have hlt0 : ∀ x ∈ p0, x.block < W.heap.size := fun x hx => by exact hW'.lt x (by simp [hx])
  obtain ⟨A0, n0, c0, rfl, hb0⟩ := open_bytes (hval 0 22 v0 rfl rfl) h0 hlt0
  clear hA0 hval0
  refine (fnAbove_walk A0 n0 c0 W hb0).mono fun e W' ⟨he, hb⟩ => ?_
  subst he
  exact ⟨_, rfl, _, _, _, [], _, [], hW', (trodAll_cons_mk (shut_bool Try.underlying4 _) trodAll_mk0), (trodAll_cons_mk (read_again_bytes h0 hlt0 hb) trodAll_mk0), rfl, hb.frame _, fun h => by cases h⟩

set_option maxRecDepth 100000 in
theorem fnAbove_closed : joinedFacts Try.prog 19 Try.f19 Rows.fnAboveSpec Rows.fnAboveRow = true := by
  unfold joinedFacts
  repeat' (with_reducible apply facAnd)
  all_goals first | (with_reducible exact facEnter) | (with_reducible exact facLaid) | (with_reducible exact facMaps) | (with_reducible exact facStops) | (with_reducible exact facKnobs) | (with_reducible exact facHeard) | (rw [facLifts]; as_aux_lemma => kernel_rfl) | (rw [facMake]; as_aux_lemma => kernel_rfl) | (as_aux_lemma => kernel_rfl)

/-- THE STATEMENT -/
theorem fnAbove_holds : Rows.FnAboveSaid :=
  OpenClaim.holds_of_wide 19 Try.f19 rfl rfl rfl rfl rfl rfl rfl ⟨rfl, rfl, rfl, rfl, rfl⟩ rfl rfl rfl rfl rfl (by kernel_rfl) Try.func19 fnAbove_closed
    (of_decide_eq_true (by kernel_rfl)) (by unfold Func.isWrapper; first | (rw [if_pos (by decide +kernel)]; kernel_rfl) | (rw [if_neg (by decide +kernel)]; exact ⟨rfl, rfl⟩))
    (fun os started H enc _ => fnAbove_lifted os started H enc)
#print axioms fnAbove_holds
end Go.Proofs.Ytjboamhjfncgdaa
