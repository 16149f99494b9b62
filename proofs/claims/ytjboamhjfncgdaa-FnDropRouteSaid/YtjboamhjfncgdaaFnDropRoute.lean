/-
  The law FnDropRoute: for all codes the law answers true. No condition. (Written by a program of mine, gen9u.py.)
-/
import Derived.Test.YtjboamhjfncgdaaFac
import Derived.Test.YtjboamhjfncgdaaRowB
import Derived.Test.YtjboamhjfncgdaaSameK
import Derived.Test.YtjboamhjfncgdaaCtR
import Derived.Test.YtjboamhjfncgdaaRtD
import Derived.Test.YtjboamhjfncgdaaRtE
import Derived.Test.YtjboamhjfncgdaaRtPm
import Derived.Test.YtjboamhjfncgdaaRtZ
namespace Go.Proofs.Ytjboamhjfncgdaa
open Go.ChangeShapes Go.WideShapes Go.ChangeAt Go.RowKit

theorem chart_dropR {R : List Rot} {k : Nat} (h : chartB R = true) (hk : k < R.length) : chartB (dropR R k) = true := by
  unfold chartB at h ⊢
  rw [Bool.and_eq_true] at h ⊢
  obtain ⟨h1, h2⟩ := h
  rw [List.all_eq_true] at h1 ⊢
  rw [decide_eq_true_eq] at h2 ⊢
  rw [dropR_len hk]
  refine ⟨fun r hr => ?_, by omega⟩
  unfold dropR at hr
  rcases List.mem_append.1 hr with h3 | h3
  · exact h1 r (List.mem_of_mem_take h3)
  · exact h1 r (List.mem_of_mem_drop h3)
theorem drop_lo {R : List Rot} {k a : Nat} (hk : k < R.length) (h : a < k) : rotAt (dropR R k) a = rotAt R a := by
  unfold dropR rotAt
  rw [List.getElem?_append_left (by simp; omega), List.getElem?_take_of_lt h]
theorem drop_hi {R : List Rot} {k a : Nat} (hk : k < R.length) (h : k ≤ a) : rotAt (dropR R k) a = rotAt R (a + 1) := by
  unfold dropR rotAt
  rw [List.getElem?_append_right (by simp; omega), List.length_take, Nat.min_eq_left (by omega), List.getElem?_drop, show k + 1 + (a - k) = a + 1 by omega]
theorem drop_cross {R : List Rot} {k a b x y : Nat} (hc : chartB R = true) (hk : k < R.length) (ha : a + 1 < R.length) (hb : b + 1 < R.length) (hx : rotAt (dropR R k) a = rotAt R x) (hy : rotAt (dropR R k) b = rotAt R y) (hxl : x < R.length) (hyl : y < R.length) :
    crossB (dropR R k) (a : Int) (b : Int) = crossB R (x : Int) (y : Int) := by
  have hl := dropR_len hk
  unfold crossB
  rw [hasR_nat hc hxl, hasR_nat hc hyl, hasR_nat (chart_dropR hc hk) (by omega), hasR_nat (chart_dropR hc hk) (by omega)]
  unfold crI
  simp only [Int.toNat_natCast]
  rw [hx, hy]
theorem drop_many {R : List Rot} {k : Nat} (hc : chartB R = true) (hk : k < R.length) (h : k = 0 ∨ k + 1 = R.length) : manyV (dropR R k) ≤ manyV R := by
  rw [manyV_yes hc, manyV_yes (chart_dropR hc hk)]
  have hs := rsplit_at hk
  rcases h with rfl | h
  · have e : R = rotAt R 0 :: R.drop 1 := by simpa using hs
    have hd : dropR R 0 = R.drop 1 := by unfold dropR; simp
    have := many_first (rotAt R 0) (R.drop 1)
    rw [← e] at this
    rw [hd]; omega
  · have hdn : R.drop (k + 1) = [] := List.drop_eq_nil_of_le (by omega)
    have hd : dropR R k = R.take k := by unfold dropR; rw [hdn, List.append_nil]
    rw [hdn] at hs
    have := many_last (rotAt R k) (R.take k)
    rw [← hs] at this
    rw [hd]; omega

set_option maxRecDepth 100000 in
set_option maxHeartbeats 4000000 in
theorem fnDropRoute_in (A0 : Option Addr) (n0 c0 : Nat) (w : World) (hl0 : n0 ≤ 1048576) (hc0 : n0 ≤ c0) (hb0 : Bytes w.heap.size w A0 n0) :
    Calls Try.prog 24 #[.slice A0 n0 c0] w (RetB (.bool true) w) := by
  have Hb := Lib.hid hb0
  clear hb0
  have u0 : ¬ (1048576 : Int) < (n0 : Int) := by omega
  go_enter Try.func24, Try.ntmps24
  go_wp2_with fail
  refine (DrawChartDrop_c A0 n0 c0 _ (by omega) hc0 Hb.out).mono ?_
  rintro e w1 ⟨B, d, zs, kk, rfl, hzl, hA, hB⟩
  have Ha := Lib.hid hA
  have Bt := Lib.hid hB
  clear hA hB Hb
  dsimp only
  go_wp2_with fail
  refine (implChartDrop_b B d zs kk _ Ha.out).mono ?_
  rintro e w2 ⟨B1, d1, rfl, ra, _, hb2⟩
  replace Ha := Lib.hid (Ha.out.go hb2)
  replace Bt := Lib.hid (below_step Bt.out hb2)
  have Ra := Lib.hid ra
  clear ra hb2
  dsimp only
  go_wp2_with fail
  refine (specChartDrop_b B d zs kk _ Ha.out).mono ?_
  rintro e w3 ⟨B2, d2, rfl, ra, _, hb3⟩
  replace Ha := Lib.hid (Ha.out.go hb3)
  replace Bt := Lib.hid (below_step Bt.out hb3)
  have Rb := Lib.hid ra
  replace Ra := Lib.hid (Ra.out.go hb3)
  clear ra hb3
  dsimp only
  cases hv : hasR zs kk
  · clear hv
    go_wp2_with fail
    refine (sameRoutes_c _ _ _ _ _ _ _ Ra.out Rb.out).mono ?_
    rintro e w4 ⟨rfl, hb4⟩
    rw [decide_eq_true rfl]
    go_wp2_with fail
    refine (sameRoutes_c _ _ _ _ _ _ _ (Ra.out.go hb4) (Rb.out.go hb4)).mono ?_
    rintro e w5 ⟨rfl, hb5⟩
    rw [decide_eq_true rfl]
    go_wp2
    go_ret
    exact ⟨rfl, below_step (below_step Bt.out hb4) hb5⟩
  go_wp2_with fail
  refine (sameRoutes_c _ _ _ _ _ _ _ Ra.out Rb.out).mono ?_
  rintro e w4 ⟨rfl, hb4⟩
  rw [decide_eq_true rfl]
  have HA := Lib.hid (Ha.out.go hb4)
  have hD0 := Ra.out.go hb4
  have Bt4 := Lib.hid (below_step Bt.out hb4)
  obtain ⟨k1, k2, k3⟩ := hasR_true.1 hv
  obtain ⟨k, rfl⟩ : ∃ k : Nat, kk = (k : Int) := ⟨kk.toNat, by omega⟩
  have hkl : k < zs.length := by omega
  rw [cd_yes hv] at hD0 ⊢
  have hDl := dropR_len hkl
  have hcr := fun (a b x y : Nat) (ha : a + 1 < zs.length) (hb : b + 1 < zs.length) hx hy hxl hyl => drop_cross (a := a) (b := b) (x := x) (y := y) k1 hkl ha hb hx hy hxl hyl
  have hlo := fun a (h : a < k) => drop_lo hkl h
  have hhi := fun a (h : k ≤ a) => drop_hi hkl h
  have hmn := fun h => drop_many k1 hkl h
  obtain ⟨D, hD⟩ : ∃ D, dropR zs k = D := ⟨_, rfl⟩
  rw [hD] at hD0 hDl hmn ⊢
  simp only [hD] at hcr hlo hhi
  have HD := Lib.hid hD0
  have Hcr := Lib.hid hcr
  have Hlo := Lib.hid hlo
  have Hhi := Lib.hid hhi
  have Hmn := Lib.hid hmn
  have q0 : IntKind.i64.wrap ((zs.length : Int) - 1) = (zs.length : Int) - 1 := IntWalk.i64_in _ (by omega)
  have l1 : D.length + 1 ≤ zs.length := by omega
  have l2 : zs.length ≤ D.length + 1 := by omega
  clear hb4 hD0 hcr hlo hhi hmn hD k1 k2 k3 hv Ha Ra Rb Bt hDl
  go_wp2
  go_loopw [9] (fun i wr => ∃ a : Nat, a ≤ D.length ∧ i = .int .i64 a ∧ Below w4.heap.size w4 wr) (fun i _ => D.length - (intOf i).toNat)
  case atStart => exact ⟨0, Nat.zero_le _, rfl, Below.refl _ _⟩
  case round =>
    obtain ⟨a, hal, rfl, hb⟩ := hrel
    have Hb := Lib.hid hb
    clear hb
    by_cases hlt : a < D.length
    · have g1 : (a : Int) < (D.length : Int) := by omega
      have q1 : IntKind.i64.wrap ((a : Int) + 1) = (a : Int) + 1 := IntWalk.i64_in _ (by omega)
      have e1 : ((a + 1 : Nat) : Int) = (a : Int) + 1 := by omega
      go_wp2
      go_loopw [10] (fun j wr => ∃ b : Nat, b ≤ a ∧ j = .int .i64 b ∧ Below w4.heap.size w4 wr) (fun j _ => a - (intOf j).toNat)
      case atStart => exact ⟨0, Nat.zero_le _, rfl, Hb.out⟩
      case round =>
        obtain ⟨b, hbl, rfl, hb⟩ := hrel
        have Hb2 := Lib.hid hb
        clear hb
        by_cases hlt2 : b < a
        · have g2 : (b : Int) < (a : Int) := by omega
          have q2 : IntKind.i64.wrap ((b : Int) + 1) = (b : Int) + 1 := IntWalk.i64_in _ (by omega)
          have e2 : ((b + 1 : Nat) : Int) = (b : Int) + 1 := by omega
          have hX1 := fun W h => implRoutesCross_b B1 d1 D (a : Int) (b : Int) W h
          rcases (by omega : k ≤ b ∨ (b < k ∧ k ≤ a) ∨ a < k) with h | h | h
          · have f1 : (k : Int) ≤ (a : Int) := by omega
            have f2 : (k : Int) ≤ (b : Int) := by omega
            have hX2 := fun W h => implRoutesCross_b B d zs ((a : Int) + 1) ((b : Int) + 1) W h
            have hc := Hcr.out a b (a + 1) (b + 1) (by omega) (by omega) (Hhi.out a (by omega)) (Hhi.out b (by omega)) (by omega) (by omega)
            (try rw [e1] at hc)
            (try rw [e2] at hc)
            rw [← hc] at hX2
            obtain ⟨cr, hcr⟩ : ∃ cr, crossB D (a : Int) (b : Int) = cr := ⟨_, rfl⟩
            rw [hcr] at hX1 hX2
            have HX1 := Lib.hid hX1
            have HX2 := Lib.hid hX2
            have b1 : (cr != cr) = false := by simp
            clear hX1 hX2 hc hcr
            go_wp2_with fail
            refine (HX1.out _ (HD.out.go Hb2.out)).mono ?_
            rintro e w5 ⟨rfl, hb5⟩
            have Hb5 := Lib.hid (below_step Hb2.out hb5)
            clear hb5
            go_wp2_with fail
            refine (HX2.out _ (HA.out.go Hb5.out)).mono ?_
            rintro e w6 ⟨rfl, hb6⟩
            have Hb6 := Lib.hid (below_step Hb5.out hb6)
            clear hb6
            go_wp2
            exact ⟨⟨b + 1, by omega, by rw [e2], Hb6.out⟩, by simp only [intOf]; omega⟩
          · have f1 : (k : Int) ≤ (a : Int) := by omega
            have f2 : ¬ (k : Int) ≤ (b : Int) := by omega
            have hX2 := fun W h => implRoutesCross_b B d zs ((a : Int) + 1) ((b : Int)) W h
            have hc := Hcr.out a b (a + 1) b (by omega) (by omega) (Hhi.out a (by omega)) (Hlo.out b (by omega)) (by omega) (by omega)
            (try rw [e1] at hc)
            (try rw [e2] at hc)
            rw [← hc] at hX2
            obtain ⟨cr, hcr⟩ : ∃ cr, crossB D (a : Int) (b : Int) = cr := ⟨_, rfl⟩
            rw [hcr] at hX1 hX2
            have HX1 := Lib.hid hX1
            have HX2 := Lib.hid hX2
            have b1 : (cr != cr) = false := by simp
            clear hX1 hX2 hc hcr
            go_wp2_with fail
            refine (HX1.out _ (HD.out.go Hb2.out)).mono ?_
            rintro e w5 ⟨rfl, hb5⟩
            have Hb5 := Lib.hid (below_step Hb2.out hb5)
            clear hb5
            go_wp2_with fail
            refine (HX2.out _ (HA.out.go Hb5.out)).mono ?_
            rintro e w6 ⟨rfl, hb6⟩
            have Hb6 := Lib.hid (below_step Hb5.out hb6)
            clear hb6
            go_wp2
            exact ⟨⟨b + 1, by omega, by rw [e2], Hb6.out⟩, by simp only [intOf]; omega⟩
          · have f1 : ¬ (k : Int) ≤ (a : Int) := by omega
            have f2 : ¬ (k : Int) ≤ (b : Int) := by omega
            have hX2 := fun W h => implRoutesCross_b B d zs ((a : Int)) ((b : Int)) W h
            have hc := Hcr.out a b a b (by omega) (by omega) (Hlo.out a (by omega)) (Hlo.out b (by omega)) (by omega) (by omega)
            (try rw [e1] at hc)
            (try rw [e2] at hc)
            rw [← hc] at hX2
            obtain ⟨cr, hcr⟩ : ∃ cr, crossB D (a : Int) (b : Int) = cr := ⟨_, rfl⟩
            rw [hcr] at hX1 hX2
            have HX1 := Lib.hid hX1
            have HX2 := Lib.hid hX2
            have b1 : (cr != cr) = false := by simp
            clear hX1 hX2 hc hcr
            go_wp2_with fail
            refine (HX1.out _ (HD.out.go Hb2.out)).mono ?_
            rintro e w5 ⟨rfl, hb5⟩
            have Hb5 := Lib.hid (below_step Hb2.out hb5)
            clear hb5
            go_wp2_with fail
            refine (HX2.out _ (HA.out.go Hb5.out)).mono ?_
            rintro e w6 ⟨rfl, hb6⟩
            have Hb6 := Lib.hid (below_step Hb5.out hb6)
            clear hb6
            go_wp2
            exact ⟨⟨b + 1, by omega, by rw [e2], Hb6.out⟩, by simp only [intOf]; omega⟩
        · obtain rfl : b = a := by omega
          go_wp2
          exact ⟨⟨b + 1, by omega, by rw [e1], Hb2.out⟩, by simp only [intOf]; omega⟩
    · obtain rfl : a = D.length := by omega
      have b0 : ((D.length : Int) == (zs.length : Int) - 1) = true := beq_iff_eq.2 (by omega)
      by_cases h6 : 6 < zs.length
      · have v6 : decide ((6 : Int) < (zs.length : Int)) = true := decide_eq_true (by omega)
        go_wp2
        go_ret
        exact ⟨rfl, below_step Bt4.out Hb.out⟩
      have v6 : decide ((6 : Int) < (zs.length : Int)) = false := decide_eq_false (by omega)
      have hM1 := fun W h => implLiftMany_b B d zs W h
      have hM2 := fun W h => implLiftMany_b B1 d1 D W h
      rcases (by omega : (0 < k ∧ k < D.length) ∨ k = 0 ∨ (0 < k ∧ k + 1 = zs.length)) with h | h | h
      · have v0 : decide ((0 : Int) < (k : Int)) = true := decide_eq_true (by omega)
        have v1 : decide ((k : Int) < (D.length : Int)) = true := decide_eq_true (by omega)
        go_wp2
        go_ret
        exact ⟨rfl, below_step Bt4.out Hb.out⟩
      · have v0 : decide ((0 : Int) < (k : Int)) = false := decide_eq_false (by omega)
        have hm := Hmn.out (.inl h)
        obtain ⟨p, hp⟩ : ∃ p, manyV D = p := ⟨_, rfl⟩
        obtain ⟨q, hq⟩ : ∃ q, manyV zs = q := ⟨_, rfl⟩
        rw [hp, hq] at hm
        rw [hq] at hM1
        rw [hp] at hM2
        have HM1 := Lib.hid hM1
        have HM2 := Lib.hid hM2
        clear hM1 hM2 hp hq
        go_wp2_with fail
        refine (HM1.out _ (HA.out.go Hb.out)).mono ?_
        rintro e w5 ⟨rfl, hb5⟩
        have Hb5 := Lib.hid (below_step Hb.out hb5)
        clear hb5
        go_wp2_with fail
        refine (HM2.out _ (HD.out.go Hb5.out)).mono ?_
        rintro e w6 ⟨rfl, hb6⟩
        have Hb6 := Lib.hid (below_step Hb5.out hb6)
        clear hb6
        go_wp2
        go_ret
        exact ⟨rfl, below_step Bt4.out Hb6.out⟩
      · have v0 : decide ((0 : Int) < (k : Int)) = true := decide_eq_true (by omega)
        have v1 : decide ((k : Int) < (D.length : Int)) = false := decide_eq_false (by omega)
        have hm := Hmn.out (.inr h.2)
        obtain ⟨p, hp⟩ : ∃ p, manyV D = p := ⟨_, rfl⟩
        obtain ⟨q, hq⟩ : ∃ q, manyV zs = q := ⟨_, rfl⟩
        rw [hp, hq] at hm
        rw [hq] at hM1
        rw [hp] at hM2
        have HM1 := Lib.hid hM1
        have HM2 := Lib.hid hM2
        clear hM1 hM2 hp hq
        go_wp2_with fail
        refine (HM1.out _ (HA.out.go Hb.out)).mono ?_
        rintro e w5 ⟨rfl, hb5⟩
        have Hb5 := Lib.hid (below_step Hb.out hb5)
        clear hb5
        go_wp2_with fail
        refine (HM2.out _ (HD.out.go Hb5.out)).mono ?_
        rintro e w6 ⟨rfl, hb6⟩
        have Hb6 := Lib.hid (below_step Hb5.out hb6)
        clear hb6
        go_wp2
        go_ret
        exact ⟨rfl, below_step Bt4.out Hb6.out⟩

theorem fnDropRoute_walk (A0 : Option Addr) (n0 c0 : Nat) (w : World) (hb0 : Byt0 w A0 n0 c0) :
    Calls Try.prog 24 #[.slice A0 n0 c0] w (RetB (.bool true) w) := by
  by_cases hl0 : 1048576 < n0
  · clear hb0
    go_enter Try.func24, Try.ntmps24
    go_wp2
    go_ret
    exact ⟨rfl, Below.refl _ _⟩
  exact fnDropRoute_in A0 n0 c0 w (by omega) hb0.1 hb0.2.2

set_option maxRecDepth 100000 in
theorem fnDropRoute_lifted (os : Os) (started : os.Started) (H : Type) (enc : TypeId × Value → H) :
    ReturnsInHanded {} Try.checked os 24 .any (Rows.fnDropRouteSpec.pre6 enc Try.prog Try.f24 Rows.fnDropRouteRow.domain false) (Rows.fnDropRouteSpec.post enc Try.prog Try.f24 false true false false) := by
  refine returnsInHanded_of_change (C := Try.checked) row_own started (by kernel_rfl) Try.func24
    (ChangeSpec.witness6 (enc := enc) (C := Try.checked) false ⟨#[], #[.slice none 0 0], []⟩ 8 (by kernel_rfl) (by kernel_rfl) (by kernel_rfl) (by kernel_rfl)) ?_
  intro W base args ds gs before hval0 hW hcnd _
  have hval : ∀ (j : Nat) t v, Try.f24.params[j]? = some t → args[j]? = some v → Value.okWide Try.prog W .any base t v := hval0
  have hW' := hW
  obtain ⟨p, q, hA0, hV, rfl, _, _⟩ := hW
  have hA : DataW.TrodAll enc Try.prog W 0 (fun _ => true) true Try.f24.params.toList args.toList ds p := hA0
  rw [Try.params24] at hA hval
  obtain ⟨v0, vs0, d0, ds0, p0, q0, hargs, rfl, rfl, h0, r0⟩ := trodAll_cons hA
  obtain ⟨rfl, rfl, rfl⟩ := trodAll_nil r0
  obtain rfl : args = #[v0] := by cases args; simp_all
  obtain ⟨rfl, rfl⟩ := trodVars_none hV
  have hlt0 : ∀ x ∈ p0, x.block < W.heap.size := fun x hx => by exact hW'.lt x (by simp [hx])
  obtain ⟨A0, n0, c0, rfl, hb0⟩ := open_bytes (hval 0 22 v0 rfl rfl) h0 hlt0
  clear hA0 hval0
  refine (fnDropRoute_walk A0 n0 c0 W hb0).mono fun e W' ⟨he, hb⟩ => ?_
  subst he
  exact ⟨_, rfl, _, _, _, [], _, [], hW', (trodAll_cons_mk (shut_bool Try.underlying4 _) trodAll_mk0), (trodAll_cons_mk (read_again_bytes h0 hlt0 hb) trodAll_mk0), rfl, hb.frame _, fun h => by cases h⟩

set_option maxRecDepth 100000 in
theorem fnDropRoute_closed : joinedFacts Try.prog 24 Try.f24 Rows.fnDropRouteSpec Rows.fnDropRouteRow = true := by
  unfold joinedFacts
  repeat' (with_reducible apply facAnd)
  all_goals first | (with_reducible exact facEnter) | (with_reducible exact facLaid) | (with_reducible exact facMaps) | (with_reducible exact facStops) | (with_reducible exact facKnobs) | (with_reducible exact facHeard) | (rw [facLifts]; as_aux_lemma => kernel_rfl) | (rw [facMake]; as_aux_lemma => kernel_rfl) | (as_aux_lemma => kernel_rfl)

/-- THE STATEMENT -/
theorem fnDropRoute_holds : Rows.FnDropRouteSaid :=
  OpenClaim.holds_of_wide 24 Try.f24 rfl rfl rfl rfl rfl rfl rfl ⟨rfl, rfl, rfl, rfl, rfl⟩ rfl rfl rfl rfl rfl (by kernel_rfl) Try.func24 fnDropRoute_closed
    (of_decide_eq_true (by kernel_rfl)) (by unfold Func.isWrapper; first | (rw [if_pos (by decide +kernel)]; kernel_rfl) | (rw [if_neg (by decide +kernel)]; exact ⟨rfl, rfl⟩))
    (fun os started H enc _ => fnDropRoute_lifted os started H enc)
#print axioms fnDropRoute_holds
end Go.Proofs.Ytjboamhjfncgdaa
