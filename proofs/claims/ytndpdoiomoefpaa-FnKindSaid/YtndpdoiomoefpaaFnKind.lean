/-
  The law FnKind: kinds go with their miles. For all codes it answers true. No condition.
-/
import Derived.Test.YtndpdoiomoefpaaFac
import Derived.Test.YtndpdoiomoefpaaRowB
import Derived.Test.YtndpdoiomoefpaaLw
import Derived.Test.YtndpdoiomoefpaaCabM
import Derived.Test.YtndpdoiomoefpaaDrw2
import Derived.Test.YtndpdoiomoefpaaCKind
import Derived.Test.YtndpdoiomoefpaaCPlain
import Derived.Test.YtndpdoiomoefpaaCReplace
namespace Go.Proofs.Ytndpdoiomoefpaa
open Go.ChangeShapes Go.WideShapes Go.ChangeAt Go.RowKit

set_option maxRecDepth 100000 in
set_option maxHeartbeats 1600000 in
theorem fnKind_in (A0 : Option Addr) (n0 c0 : Nat) (w : World) (hl0 : n0 ≤ 1048576) (hc0 : n0 ≤ c0) (hb0 : Bytes w.heap.size w A0 n0) :
    Calls Try.prog 13 #[.slice A0 n0 c0] w (RetB (.bool true) w) := by
  have Hb := Lib.hid hb0
  clear hb0
  go_enter Try.func13, Try.ntmps13
  go_wp2_with fail
  refine (DrawCableKind_c A0 n0 c0 _ (by omega) hc0 Hb.out).mono ?_
  rintro e w1 ⟨B, d, zs, x, rfl, hzl, hx0, hx1, hA, hB⟩
  have Ha := Lib.hid hA
  have Bt := Lib.hid hB
  clear hB Hb hA
  dsimp only
  go_wp2_with fail
  refine (implCableKind_b B d zs x _ Ha.out (by omega)).mono ?_
  rintro e w2 ⟨rfl, hb2⟩
  replace Ha := Lib.hid (Ha.out.go hb2)
  replace Bt := Lib.hid (below_step Bt.out hb2)
  clear hb2
  dsimp only
  go_wp2_with fail
  refine (specCableKind_b B d zs x _ Ha.out).mono ?_
  rintro e w3 ⟨rfl, hb3⟩
  replace Ha := Lib.hid (Ha.out.go hb3)
  replace Bt := Lib.hid (below_step Bt.out hb3)
  clear hb3
  dsimp only
  by_cases hv : cabB zs = true ∧ 0 ≤ x ∧ x < milesL zs
  case neg =>
    have hk : kindI zs x = -1 := by
      cases hc : cabB zs
      · exact kindI_no hc x
      · rcases Int.lt_or_le x 0 with h | h
        · exact kindI_neg h
        · exact kindI_outM hc (by rcases Int.lt_or_le x (milesL zs) with h2 | h2; exact absurd ⟨hc, h, h2⟩ hv; exact h2)
    rw [hk]
    clear hv hk
    go_wp2
    go_ret
    exact ⟨rfl, Bt.out⟩
  obtain ⟨hc, x0, x1⟩ := hv
  obtain ⟨m1, m2, m3, m4, m5⟩ := cab_milesM hc
  obtain ⟨pr, _, hk, k0, k1⟩ := kind_get hc x0 x1
  have hbk := kind_back hc x0 x1
  rw [hk] at hbk ⊢
  obtain ⟨o, ho⟩ : ∃ o, pr.1 = o := ⟨_, rfl⟩
  rw [ho] at k0 k1 hk hbk ⊢
  obtain ⟨k', hk'⟩ : ∃ k', (o + 1) % 4 = k' := ⟨_, rfl⟩
  have hk2 : (o + 1).tmod 4 = k' := by rw [Int.tmod_eq_emod_of_nonneg (by omega)]; exact hk'
  have hko : 0 ≤ k' ∧ k' ≤ 3 ∧ k' ≠ o := by omega
  have HR0 := fun W h => implCableBack_b B d zs W h
  rw [(back_back hc).1, hc] at HR0
  have HP0 := fun W h => implCablePlain_b B d zs W h
  have HM0 := fun W h => implCableMiles_b B d zs W h
  rw [milesI_yes hc] at HM0
  have HX0 := fun W h => implCableReplace_b B d zs x (x + 1) k' 3 W h (by omega) (by omega)
  have HB0 := fun A c W h => implCableKind_b A c zs.reverse (milesL zs - 1 - x) W h (by omega)
  rw [hbk] at HB0
  have hpk := fun h => (plain_laws (ss := zs) h).2.2.2.2.2.2.2 x
  have hpe := fun h => (plain_laws (ss := zs) h).2.1
  rw [hk] at hpk
  have HQ0 := fun A c W h => implCableKind_b A c (cabL (plainX zs)) x W h (by omega)
  obtain ⟨q, hq⟩ : ∃ q, cabB (plainX zs) = q := ⟨_, rfl⟩
  obtain ⟨P, hP⟩ : ∃ P, cabL (plainX zs) = P := ⟨_, rfl⟩
  rw [hq] at HP0 hpk hpe
  rw [hP] at HP0 HQ0 hpe
  have hqa : q = true → kindI P x = o := fun h => by rw [hpe h, hpk h]
  obtain ⟨R, hR⟩ : ∃ R, zs.reverse = R := ⟨_, rfl⟩
  obtain ⟨pa, hpa⟩ : ∃ pa, kindI P x = pa := ⟨_, rfl⟩
  rw [hpa] at HQ0 hqa
  have hrl := fun h => (replace_laws (ss := zs) (f := x) (t := x + 1) (k := k') (o := 3) h).2.2
  obtain ⟨s, hs⟩ : ∃ s, replaceOk zs x (x + 1) k' 3 = s := ⟨_, rfl⟩
  obtain ⟨X, hX⟩ : ∃ X, replaceL zs x (x + 1) k' 3 = X := ⟨_, rfl⟩
  rw [hs] at HX0 hrl
  rw [hX] at HX0 hrl
  obtain ⟨M, hM⟩ : ∃ M, milesL zs = M := ⟨_, rfl⟩
  rw [hR] at HR0 HB0
  rw [hM] at HM0 HB0 m1 m2 m3 x1 hrl
  have HR := Lib.hid HR0
  have HP := Lib.hid HP0
  have HM := Lib.hid HM0
  have HX := Lib.hid HX0
  have HB := Lib.hid HB0
  have HQ := Lib.hid HQ0
  have Hqa := Lib.hid hqa
  have Hrl := Lib.hid hrl
  have Hk := Lib.hid hk
  have g1 : ¬ o < 0 := by omega
  have q1 : IntKind.i64.wrap (x + 1) = x + 1 := IntWalk.i64_in _ (by omega)
  have q2 : IntKind.i64.wrap (o + 1) = o + 1 := IntWalk.i64_in _ (by omega)
  have q3 : IntKind.i64.wrap k' = k' := IntWalk.i64_in _ (by omega)
  have q4 : IntKind.i64.wrap (M - 1) = M - 1 := IntWalk.i64_in _ (by omega)
  have q5 : IntKind.i64.wrap (M - 1 - x) = M - 1 - x := IntWalk.i64_in _ (by omega)
  have b1 : (o == o) = true := by simp
  clear HR0 HP0 HM0 HX0 HB0 HQ0 hpk hpe hq hP hR hM hpa hqa hrl hs hX hc hk hbk ho
  obtain ⟨N, rfl⟩ : ∃ N : Nat, M = (N : Int) := ⟨M.toNat, by omega⟩
  go_wp2_with fail
  refine (HR.out _ Ha.out).mono ?_
  rintro e w4 ⟨B3, d3, rfl, ra, _, hb4⟩
  replace Ha := Lib.hid (Ha.out.go hb4)
  replace Bt := Lib.hid (below_step Bt.out hb4)
  have H3 := Lib.hid ra
  clear ra hb4
  dsimp only [id]
  go_wp2_with fail
  refine (HP.out _ Ha.out).mono ?_
  rintro e w5 ⟨B4, d4, rfl, ra, _, hb5⟩
  replace Ha := Lib.hid (Ha.out.go hb5)
  replace H3 := Lib.hid (H3.out.go hb5)
  replace Bt := Lib.hid (below_step Bt.out hb5)
  have H4 := Lib.hid ra
  clear ra hb5
  dsimp only [id]
  go_wp2_with fail
  refine (HM.out _ Ha.out).mono ?_
  rintro e w6 ⟨rfl, hb6⟩
  replace Ha := Lib.hid (Ha.out.go hb6)
  replace H3 := Lib.hid (H3.out.go hb6)
  replace H4 := Lib.hid (H4.out.go hb6)
  replace Bt := Lib.hid (below_step Bt.out hb6)
  clear hb6
  dsimp only
  go_wp2_with fail
  refine (HX.out _ Ha.out).mono ?_
  rintro e w7 ⟨B5, d5, rfl, ra, _, hb7⟩
  replace Ha := Lib.hid (Ha.out.go hb7)
  replace H3 := Lib.hid (H3.out.go hb7)
  replace H4 := Lib.hid (H4.out.go hb7)
  replace Bt := Lib.hid (below_step Bt.out hb7)
  have H5 := Lib.hid ra
  clear ra hb7
  dsimp only [id]
  clear hk' hk2
  cases s
  · clear Hrl
    go_wp2
    go_loopw [14] (fun i wr => i = .int .i64 0 ∧ Below w7.heap.size w7 wr) (fun i _ => 0)
    case atStart => exact ⟨rfl, Below.refl _ _⟩
    case round =>
      obtain ⟨rfl, hb⟩ := hrel
      have Hb := Lib.hid hb
      have z1 : decide ((0 : Int) < (N : Int)) = true := decide_eq_true (by omega)
      have z2 : decide (0 < N) = true := decide_eq_true (by omega)
      replace H3 := Lib.hid (H3.out.go hb)
      replace H4 := Lib.hid (H4.out.go hb)
      replace Bt := Lib.hid (below_step Bt.out hb)
      clear hb Hb
      go_wp2_with fail
      refine (HB.out _ _ _ H3.out).mono ?_
      rintro e w8 ⟨rfl, hb8⟩
      replace H3 := Lib.hid (H3.out.go hb8)
      replace H4 := Lib.hid (H4.out.go hb8)
      replace Bt := Lib.hid (below_step Bt.out hb8)
      clear hb8
      dsimp only
      cases q
      · clear Hqa
        go_wp2
        go_ret
        exact ⟨rfl, Bt.out⟩
      · have b5 : (pa == o) = true := beq_iff_eq.2 (Hqa.out rfl)
        have b6 : (pa = o) = True := eq_true (Hqa.out rfl)
        clear Hqa
        go_wp2_with fail
        refine (HQ.out _ _ _ H4.out).mono ?_
        rintro e w9 ⟨rfl, hb9⟩
        replace H3 := Lib.hid (H3.out.go hb9)
        replace H4 := Lib.hid (H4.out.go hb9)
        replace Bt := Lib.hid (below_step Bt.out hb9)
        clear hb9
        dsimp only
        go_wp2
        go_ret
        exact ⟨rfl, Bt.out⟩
  · have Hrr := Lib.hid (Hrl.out rfl)
    clear Hrl
    go_wp2
    go_loopw [14] (fun i wr => ∃ j : Nat, j ≤ N ∧ i = .int .i64 j ∧ Below w7.heap.size w7 wr) (fun i _ => N - (intOf i).toNat)
    case atStart => exact ⟨0, Nat.zero_le _, rfl, Below.refl _ _⟩
    case round =>
      obtain ⟨j, hj, rfl, hb⟩ := hrel
      have Hb := Lib.hid hb
      clear hb
      by_cases hlt : j < N
      · have z1 : decide ((j : Int) < (N : Int)) = true := decide_eq_true (by omega)
        have z2 : decide (j < N) = true := decide_eq_true hlt
        have g2 : (j : Int) < (N : Int) := by omega
        have e1 : ((j + 1 : Nat) : Int) = (j : Int) + 1 := by omega
        have q6 : IntKind.i64.wrap ((j : Int) + 1) = (j : Int) + 1 := IntWalk.i64_in _ (by omega)
        have hr := Hrr.out (j : Int) (by omega) (by omega)
        have HU0 := fun W h => implCableKind_b B5 d5 X (j : Int) W h (by omega)
        have HV0 := fun W h => implCableKind_b B d zs (j : Int) W h (by omega)
        obtain ⟨eb, b2, b3⟩ : ∃ eb, (kindI X (j : Int) == kindI zs (j : Int)) = eb ∧ ((j : Int) != x) = eb := by
          by_cases h : (j : Int) = x
          · refine ⟨false, beq_eq_false_iff_ne.2 ?_, by simp [h]⟩
            rw [hr, if_pos (by omega), h, Hk.out]
            exact hko.2.2
          · refine ⟨true, beq_iff_eq.2 ?_, by simpa using h⟩
            rw [hr, if_neg (by omega)]
        obtain ⟨y, hy⟩ : ∃ y, kindI X (j : Int) = y := ⟨_, rfl⟩
        obtain ⟨z, hz⟩ : ∃ z, kindI zs (j : Int) = z := ⟨_, rfl⟩
        rw [hy] at HU0 b2
        rw [hz] at HV0 b2
        have HU := Lib.hid HU0
        have HV := Lib.hid HV0
        have b4 : (eb != eb) = false := by simp
        clear hr HU0 HV0 hy hz
        go_wp2_with fail
        refine (HU.out _ (H5.out.go Hb.out)).mono ?_
        rintro e wk ⟨rfl, hbk⟩
        have Hb2 := Lib.hid (below_step Hb.out hbk)
        clear hbk
        go_wp2_with fail
        refine (HV.out _ (Ha.out.go Hb2.out)).mono ?_
        rintro e wl ⟨rfl, hbk⟩
        have Hb3 := Lib.hid (below_step Hb2.out hbk)
        clear hbk
        go_wp2
        exact ⟨⟨j + 1, by omega, by rw [e1], Hb3.out⟩, by simp only [intOf]; omega⟩
      · obtain rfl : j = N := by omega
        have z1 : decide ((j : Int) < (j : Int)) = false := decide_eq_false (by omega)
        replace H3 := Lib.hid (H3.out.go Hb.out)
        replace H4 := Lib.hid (H4.out.go Hb.out)
        replace Bt := Lib.hid (below_step Bt.out Hb.out)
        clear Hb
        go_wp2_with fail
        refine (HB.out _ _ _ H3.out).mono ?_
        rintro e w8 ⟨rfl, hb8⟩
        replace H3 := Lib.hid (H3.out.go hb8)
        replace H4 := Lib.hid (H4.out.go hb8)
        replace Bt := Lib.hid (below_step Bt.out hb8)
        clear hb8
        dsimp only
        cases q
        · clear Hqa
          go_wp2
          go_ret
          exact ⟨rfl, Bt.out⟩
        · have b5 : (pa == o) = true := beq_iff_eq.2 (Hqa.out rfl)
          have b6 : (pa = o) = True := eq_true (Hqa.out rfl)
          clear Hqa
          go_wp2_with fail
          refine (HQ.out _ _ _ H4.out).mono ?_
          rintro e w9 ⟨rfl, hb9⟩
          replace H3 := Lib.hid (H3.out.go hb9)
          replace H4 := Lib.hid (H4.out.go hb9)
          replace Bt := Lib.hid (below_step Bt.out hb9)
          clear hb9
          dsimp only
          go_wp2
          go_ret
          exact ⟨rfl, Bt.out⟩

set_option maxRecDepth 100000 in
theorem fnKind_walk (A0 : Option Addr) (n0 c0 : Nat) (w : World) (hb0 : Byt0 w A0 n0 c0) :
    Calls Try.prog 13 #[.slice A0 n0 c0] w (RetB (.bool true) w) := by
  by_cases hl0 : 1048576 < n0
  · clear hb0
    go_enter Try.func13, Try.ntmps13
    go_wp2
    go_ret
    exact ⟨rfl, Below.refl _ _⟩
  exact fnKind_in A0 n0 c0 w (by omega) hb0.1 hb0.2.2

set_option maxRecDepth 100000 in
theorem fnKind_lifted (os : Os) (started : os.Started) (H : Type) (enc : TypeId × Value → H) :
    ReturnsInHanded {} Try.checked os 13 .any (Rows.fnKindSpec.pre6 enc Try.prog Try.f13 Rows.fnKindRow.domain false) (Rows.fnKindSpec.post enc Try.prog Try.f13 false true false false) := by
  refine returnsInHanded_of_change (C := Try.checked) row_own started (by kernel_rfl) Try.func13
    (ChangeSpec.witness6 (enc := enc) (C := Try.checked) false ⟨#[], #[.slice none 0 0], []⟩ 8 (by kernel_rfl) (by kernel_rfl) (by kernel_rfl) (by kernel_rfl)) ?_
  intro W base args ds gs before hval0 hW hcnd _
  have hval : ∀ (j : Nat) t v, Try.f13.params[j]? = some t → args[j]? = some v → Value.okWide Try.prog W .any base t v := hval0
  have hW' := hW
  obtain ⟨p, q, hA0, hV, rfl, _, _⟩ := hW
  have hA : DataW.TrodAll enc Try.prog W 0 (fun _ => true) true Try.f13.params.toList args.toList ds p := hA0
  rw [Try.params13] at hA hval
  obtain ⟨v0, vs0, d0, ds0, p0, q0, hargs, rfl, rfl, h0, r0⟩ := trodAll_cons hA
  obtain ⟨rfl, rfl, rfl⟩ := trodAll_nil r0
  obtain rfl : args = #[v0] := by cases args; simp_all
  obtain ⟨rfl, rfl⟩ := trodVars_none hV
  have hlt0 : ∀ x ∈ p0, x.block < W.heap.size := fun x hx => by exact hW'.lt x (by simp [hx])
  obtain ⟨A0, n0, c0, rfl, hb0⟩ := open_bytes (hval 0 22 v0 rfl rfl) h0 hlt0
  clear hA0 hval0
  refine (fnKind_walk A0 n0 c0 W hb0).mono fun e W' ⟨he, hb⟩ => ?_
  subst he
  exact ⟨_, rfl, _, _, _, [], _, [], hW', (trodAll_cons_mk (shut_bool Try.underlying4 _) trodAll_mk0), (trodAll_cons_mk (read_again_bytes h0 hlt0 hb) trodAll_mk0), rfl, hb.frame _, fun h => by cases h⟩

set_option maxRecDepth 100000 in
theorem fnKind_closed : joinedFacts Try.prog 13 Try.f13 Rows.fnKindSpec Rows.fnKindRow = true := by
  unfold joinedFacts
  repeat' (with_reducible apply facAnd)
  all_goals first | (with_reducible exact facEnter) | (with_reducible exact facLaid) | (with_reducible exact facMaps) | (with_reducible exact facStops) | (with_reducible exact facKnobs) | (with_reducible exact facHeard) | (rw [facLifts]; as_aux_lemma => kernel_rfl) | (rw [facMake]; as_aux_lemma => kernel_rfl) | (as_aux_lemma => kernel_rfl)

/-- THE STATEMENT -/
theorem fnKind_holds : Rows.FnKindSaid :=
  OpenClaim.holds_of_wide 13 Try.f13 rfl rfl rfl rfl rfl rfl rfl ⟨rfl, rfl, rfl, rfl, rfl⟩ rfl rfl rfl rfl rfl (by kernel_rfl) Try.func13 fnKind_closed
    (of_decide_eq_true (by kernel_rfl)) (by unfold Func.isWrapper; first | (rw [if_pos (by decide +kernel)]; kernel_rfl) | (rw [if_neg (by decide +kernel)]; exact ⟨rfl, rfl⟩))
    (fun os started H enc _ => fnKind_lifted os started H enc)
#print axioms fnKind_holds
end Go.Proofs.Ytndpdoiomoefpaa
