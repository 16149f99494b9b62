/-
  The law FnReplace: what is replaced is new. For all codes it answers true. No condition.
-/
import Derived.Test.YtndpdoiomoefpaaFac
import Derived.Test.YtndpdoiomoefpaaRowB
import Derived.Test.YtndpdoiomoefpaaLw
import Derived.Test.YtndpdoiomoefpaaCabM
import Derived.Test.YtndpdoiomoefpaaDrw2
import Derived.Test.YtndpdoiomoefpaaDrwR
import Derived.Test.YtndpdoiomoefpaaCKind
import Derived.Test.YtndpdoiomoefpaaCAll
import Derived.Test.YtndpdoiomoefpaaCReplace
import Derived.Test.YtndpdoiomoefpaaSameC
namespace Go.Proofs.Ytndpdoiomoefpaa
open Go.ChangeShapes Go.WideShapes Go.ChangeAt Go.RowKit

set_option maxRecDepth 100000 in
set_option maxHeartbeats 1600000 in
theorem fnReplace_in (A0 : Option Addr) (n0 c0 : Nat) (w : World) (hl0 : n0 ≤ 1048576) (hc0 : n0 ≤ c0) (hb0 : Bytes w.heap.size w A0 n0) :
    Calls Try.prog 17 #[.slice A0 n0 c0] w (RetB (.bool true) w) := by
  have Hb := Lib.hid hb0
  clear hb0
  go_enter Try.func17, Try.ntmps17
  go_wp2_with fail
  refine (DrawCableReplace_c A0 n0 c0 _ (by omega) hc0 Hb.out).mono ?_
  rintro e w1 ⟨B, d, zs, f, t, k, o, rfl, hzl, hf, ht, hk, ho, hA, hB⟩
  have Ha := Lib.hid hA
  have Bt := Lib.hid hB
  clear hB Hb hA
  dsimp only
  go_wp2_with fail
  refine (implCableReplace_b B d zs f t k o _ Ha.out (by omega) (by omega)).mono ?_
  rintro e w2 ⟨B1, d1, rfl, ra, _, hb2⟩
  replace Ha := Lib.hid (Ha.out.go hb2)
  replace Bt := Lib.hid (below_step Bt.out hb2)
  have H1 := Lib.hid ra
  clear ra hb2
  dsimp only [id]
  go_wp2_with fail
  refine (specCableReplace_b B d zs f t k o _ Ha.out (by omega) (by omega)).mono ?_
  rintro e w3 ⟨B2, d2, rfl, ra, _, hb3⟩
  replace Ha := Lib.hid (Ha.out.go hb3)
  replace H1 := Lib.hid (H1.out.go hb3)
  replace Bt := Lib.hid (below_step Bt.out hb3)
  have H2 := Lib.hid ra
  clear ra hb3
  dsimp only [id]
  cases hv : replaceOk zs f t k o
  · clear hv
    go_wp2_with fail
    refine (sameSections_c _ _ _ _ _ _ _ H1.out H2.out).mono ?_
    rintro e w4 ⟨rfl, hb4⟩
    rw [decide_eq_true rfl]
    replace Ha := Lib.hid (Ha.out.go hb4)
    replace H1 := Lib.hid (H1.out.go hb4)
    replace H2 := Lib.hid (H2.out.go hb4)
    replace Bt := Lib.hid (below_step Bt.out hb4)
    clear hb4
    go_wp2_with fail
    refine (sameSections_c _ _ _ _ _ _ _ H1.out H2.out).mono ?_
    rintro e w5 ⟨rfl, hb5⟩
    rw [decide_eq_true rfl]
    replace Ha := Lib.hid (Ha.out.go hb5)
    replace H1 := Lib.hid (H1.out.go hb5)
    replace H2 := Lib.hid (H2.out.go hb5)
    replace Bt := Lib.hid (below_step Bt.out hb5)
    clear hb5
    go_wp2
    go_ret
    exact ⟨rfl, Bt.out⟩
  go_wp2_with fail
  refine (sameSections_c _ _ _ _ _ _ _ H1.out H2.out).mono ?_
  rintro e w6 ⟨rfl, hb6⟩
  rw [decide_eq_true rfl]
  replace Ha := Lib.hid (Ha.out.go hb6)
  replace H1 := Lib.hid (H1.out.go hb6)
  replace H2 := Lib.hid (H2.out.go hb6)
  replace Bt := Lib.hid (below_step Bt.out hb6)
  clear hb6
  clear H2
  obtain ⟨⟨hc, f0, f1, t1⟩, hr⟩ := replace_true hv
  obtain ⟨p1, p2, p3⟩ := replace_laws hv
  obtain ⟨m1, m2, m3, m4, m5⟩ := cab_milesM hc
  have a1 := all_bd hc
  have a2 := all_bd hr
  rw [← replace_yes hv] at hr
  have e2 := allI_yes hr
  rw [← replace_yes hv, ← e2] at a2
  have o1 := ohmsTo_bds hc (x := f) f0 (by omega)
  have o2 := ohmsTo_bds hc (x := t) (by omega) t1
  rw [← ohmsI_inM hc (x := f) f0 (by omega)] at o1
  rw [← ohmsI_inM hc (x := t) (by omega) t1] at o2
  rw [milesI_yes hc] at p1
  rw [allI_yes hc] at p2
  obtain ⟨K, hK⟩ : ∃ K, replaceL zs f t k o = K := ⟨_, rfl⟩
  rw [hK] at H1 p1 p2 p3 a2 ⊢
  have HM0 := fun W h => implCableMiles_b B d zs W h
  rw [milesI_yes hc] at HM0
  have HN0 := fun W h => implCableMiles_b B1 d1 K W h
  rw [p1] at HN0
  have HU0 := fun W h => implCableAll_b B d zs W h
  rw [allI_yes hc] at HU0
  have HV0 := fun W h => implCableAll_b B1 d1 K W h
  have HF0 := fun W h => implCableOhms_b B d zs f W h
  have HT0 := fun W h => implCableOhms_b B d zs t W h
  obtain ⟨u, hu⟩ : ∃ u, ohmsI zs f = u := ⟨_, rfl⟩
  obtain ⟨v, hv2⟩ : ∃ v, ohmsI zs t = v := ⟨_, rfl⟩
  obtain ⟨a, ha⟩ : ∃ a, ohmsL zs = a := ⟨_, rfl⟩
  obtain ⟨b, hb⟩ : ∃ b, allI K = b := ⟨_, rfl⟩
  obtain ⟨M, hM⟩ : ∃ M, milesL zs = M := ⟨_, rfl⟩
  rw [hu] at HF0 p2 o1
  rw [hv2] at HT0 p2 o2
  rw [ha] at HU0 p2 a1
  rw [hb] at HV0 p2 a2
  rw [hM] at HM0 HN0 p3 m1 m2 m3 a1 t1
  obtain ⟨pq, hpq⟩ : ∃ pq, (t - f) * o = pq := ⟨_, rfl⟩
  rw [hpq] at p2
  have hpb := prod_bd (a := t - f) (b := o) (A := 1010) (B := 5) (by omega) (by omega) (by omega) (by omega)
  rw [hpq] at hpb
  have a3 : 0 ≤ b ∧ b ≤ 8000 := by
    have hm := cab_milesM hr
    rw [hK] at hm
    have := all_bd hr
    rw [hK, ← allI_yes (by rw [← hK]; exact hr), hb] at this
    omega
  have HM := Lib.hid HM0
  have HN := Lib.hid HN0
  have HU := Lib.hid HU0
  have HV := Lib.hid HV0
  have HF := Lib.hid HF0
  have HT := Lib.hid HT0
  have Hp3 := Lib.hid p3
  have q1 : IntKind.i64.wrap (v - u) = v - u := IntWalk.i64_in _ (by omega)
  have q2 : IntKind.i64.wrap (b - a) = b - a := IntWalk.i64_in _ (by omega)
  have q3 : IntKind.i64.wrap (t - f) = t - f := IntWalk.i64_in _ (by omega)
  have q4 : IntKind.i64.wrap pq = pq := IntWalk.i64_in _ (by omega)
  have q5 : IntKind.i64.wrap (pq - (v - u)) = pq - (v - u) := IntWalk.i64_in _ (by omega)
  have b1 : (M == M) = true := by simp
  have b2 : (b - a == pq - (v - u)) = true := beq_iff_eq.2 p2
  have b3 : (b - a = pq - (v - u)) = True := eq_true p2
  clear HM0 HN0 HU0 HV0 HF0 HT0 p1 p2 p3 a1 a2 hr e2 o1 o2 hK hu hv2 ha hb hM hpb a3 hv hc
  obtain ⟨N, rfl⟩ : ∃ N : Nat, M = (N : Int) := ⟨M.toNat, by omega⟩
  go_wp2_with fail
  refine (HM.out _ Ha.out).mono ?_
  rintro e w7 ⟨rfl, hb7⟩
  replace Ha := Lib.hid (Ha.out.go hb7)
  replace H1 := Lib.hid (H1.out.go hb7)
  replace Bt := Lib.hid (below_step Bt.out hb7)
  clear hb7
  dsimp only
  go_wp2
  go_loopw [13] (fun i wr => ∃ j : Nat, j ≤ N ∧ i = .int .i64 j ∧ Below w7.heap.size w7 wr) (fun i _ => N - (intOf i).toNat)
  case atStart => exact ⟨0, Nat.zero_le _, rfl, Below.refl _ _⟩
  case round =>
    obtain ⟨j, hj, rfl, hb⟩ := hrel
    have Hb := Lib.hid hb
    clear hb
    by_cases hlt : j < N
    · have g2 : (j : Int) < (N : Int) := by omega
      have e1 : ((j + 1 : Nat) : Int) = (j : Int) + 1 := by omega
      have q6 : IntKind.i64.wrap ((j : Int) + 1) = (j : Int) + 1 := IntWalk.i64_in _ (by omega)
      have hr := Hp3.out (j : Int) (by omega) (by omega)
      have HX0 := fun W h => implCableKind_b B1 d1 K (j : Int) W h (by omega)
      have HY0 := fun W h => implCableKind_b B d zs (j : Int) W h (by omega)
      rw [hr] at HX0
      obtain ⟨z, hz⟩ : ∃ z, kindI zs (j : Int) = z := ⟨_, rfl⟩
      rw [hz] at HX0 HY0
      have HY := Lib.hid HY0
      have b4 : (k != k) = false := by simp
      have b5 : (z != z) = false := by simp
      clear hr HY0 hz
      go_wp2_with fail
      refine (HY.out _ (Ha.out.go Hb.out)).mono ?_
      rintro e wk ⟨rfl, hbk⟩
      have Hb2 := Lib.hid (below_step Hb.out hbk)
      clear hbk
      by_cases h1 : f ≤ (j : Int)
      · have d1 : decide (f ≤ (j : Int)) = true := decide_eq_true h1
        by_cases h2 : (j : Int) < t
        · have d2 : decide ((j : Int) < t) = true := decide_eq_true h2
          rw [if_pos ⟨h1, h2⟩] at HX0
          have HX := Lib.hid HX0
          clear HX0
          go_wp2_with fail
          refine (HX.out _ (H1.out.go Hb2.out)).mono ?_
          rintro e wl ⟨rfl, hbk⟩
          have Hb3 := Lib.hid (below_step Hb2.out hbk)
          clear hbk
          go_wp2
          exact ⟨⟨j + 1, by omega, by rw [e1], Hb3.out⟩, by simp only [intOf]; omega⟩
        · have d2 : decide ((j : Int) < t) = false := decide_eq_false h2
          rw [if_neg (fun h => h2 h.2)] at HX0
          have HX := Lib.hid HX0
          clear HX0
          go_wp2_with fail
          refine (HX.out _ (H1.out.go Hb2.out)).mono ?_
          rintro e wl ⟨rfl, hbk⟩
          have Hb3 := Lib.hid (below_step Hb2.out hbk)
          clear hbk
          go_wp2
          exact ⟨⟨j + 1, by omega, by rw [e1], Hb3.out⟩, by simp only [intOf]; omega⟩
      · have d1 : decide (f ≤ (j : Int)) = false := decide_eq_false h1
        rw [if_neg (fun h => h1 h.1)] at HX0
        have HX := Lib.hid HX0
        clear HX0
        go_wp2_with fail
        refine (HX.out _ (H1.out.go Hb2.out)).mono ?_
        rintro e wl ⟨rfl, hbk⟩
        have Hb3 := Lib.hid (below_step Hb2.out hbk)
        clear hbk
        go_wp2
        exact ⟨⟨j + 1, by omega, by rw [e1], Hb3.out⟩, by simp only [intOf]; omega⟩
    · obtain rfl : j = N := by omega
      replace Ha := Lib.hid (Ha.out.go Hb.out)
      replace H1 := Lib.hid (H1.out.go Hb.out)
      replace Bt := Lib.hid (below_step Bt.out Hb.out)
      clear Hb
      go_wp2_with fail
      refine (HT.out _ Ha.out).mono ?_
      rintro e w8 ⟨rfl, hb8⟩
      replace Ha := Lib.hid (Ha.out.go hb8)
      replace H1 := Lib.hid (H1.out.go hb8)
      replace Bt := Lib.hid (below_step Bt.out hb8)
      clear hb8
      dsimp only
      go_wp2_with fail
      refine (HF.out _ Ha.out).mono ?_
      rintro e w9 ⟨rfl, hb9⟩
      replace Ha := Lib.hid (Ha.out.go hb9)
      replace H1 := Lib.hid (H1.out.go hb9)
      replace Bt := Lib.hid (below_step Bt.out hb9)
      clear hb9
      dsimp only
      go_wp2_with fail
      refine (HN.out _ H1.out).mono ?_
      rintro e w10 ⟨rfl, hb10⟩
      replace Ha := Lib.hid (Ha.out.go hb10)
      replace H1 := Lib.hid (H1.out.go hb10)
      replace Bt := Lib.hid (below_step Bt.out hb10)
      clear hb10
      dsimp only
      go_wp2_with fail
      refine (HV.out _ H1.out).mono ?_
      rintro e w11 ⟨rfl, hb11⟩
      replace Ha := Lib.hid (Ha.out.go hb11)
      replace H1 := Lib.hid (H1.out.go hb11)
      replace Bt := Lib.hid (below_step Bt.out hb11)
      clear hb11
      dsimp only
      go_wp2_with fail
      refine (HU.out _ Ha.out).mono ?_
      rintro e w12 ⟨rfl, hb12⟩
      replace Ha := Lib.hid (Ha.out.go hb12)
      replace H1 := Lib.hid (H1.out.go hb12)
      replace Bt := Lib.hid (below_step Bt.out hb12)
      clear hb12
      dsimp only
      go_wp2
      go_ret
      exact ⟨rfl, Bt.out⟩

set_option maxRecDepth 100000 in
theorem fnReplace_walk (A0 : Option Addr) (n0 c0 : Nat) (w : World) (hb0 : Byt0 w A0 n0 c0) :
    Calls Try.prog 17 #[.slice A0 n0 c0] w (RetB (.bool true) w) := by
  by_cases hl0 : 1048576 < n0
  · clear hb0
    go_enter Try.func17, Try.ntmps17
    go_wp2
    go_ret
    exact ⟨rfl, Below.refl _ _⟩
  exact fnReplace_in A0 n0 c0 w (by omega) hb0.1 hb0.2.2

set_option maxRecDepth 100000 in
theorem fnReplace_lifted (os : Os) (started : os.Started) (H : Type) (enc : TypeId × Value → H) :
    ReturnsInHanded {} Try.checked os 17 .any (Rows.fnReplaceSpec.pre6 enc Try.prog Try.f17 Rows.fnReplaceRow.domain false) (Rows.fnReplaceSpec.post enc Try.prog Try.f17 false true false false) := by
  refine returnsInHanded_of_change (C := Try.checked) row_own started (by kernel_rfl) Try.func17
    (ChangeSpec.witness6 (enc := enc) (C := Try.checked) false ⟨#[], #[.slice none 0 0], []⟩ 8 (by kernel_rfl) (by kernel_rfl) (by kernel_rfl) (by kernel_rfl)) ?_
  intro W base args ds gs before hval0 hW hcnd _
  have hval : ∀ (j : Nat) t v, Try.f17.params[j]? = some t → args[j]? = some v → Value.okWide Try.prog W .any base t v := hval0
  have hW' := hW
  obtain ⟨p, q, hA0, hV, rfl, _, _⟩ := hW
  have hA : DataW.TrodAll enc Try.prog W 0 (fun _ => true) true Try.f17.params.toList args.toList ds p := hA0
  rw [Try.params17] at hA hval
  obtain ⟨v0, vs0, d0, ds0, p0, q0, hargs, rfl, rfl, h0, r0⟩ := trodAll_cons hA
  obtain ⟨rfl, rfl, rfl⟩ := trodAll_nil r0
  obtain rfl : args = #[v0] := by cases args; simp_all
  obtain ⟨rfl, rfl⟩ := trodVars_none hV
  have hlt0 : ∀ x ∈ p0, x.block < W.heap.size := fun x hx => by exact hW'.lt x (by simp [hx])
  obtain ⟨A0, n0, c0, rfl, hb0⟩ := open_bytes (hval 0 22 v0 rfl rfl) h0 hlt0
  clear hA0 hval0
  refine (fnReplace_walk A0 n0 c0 W hb0).mono fun e W' ⟨he, hb⟩ => ?_
  subst he
  exact ⟨_, rfl, _, _, _, [], _, [], hW', (trodAll_cons_mk (shut_bool Try.underlying4 _) trodAll_mk0), (trodAll_cons_mk (read_again_bytes h0 hlt0 hb) trodAll_mk0), rfl, hb.frame _, fun h => by cases h⟩

set_option maxRecDepth 100000 in
theorem fnReplace_closed : joinedFacts Try.prog 17 Try.f17 Rows.fnReplaceSpec Rows.fnReplaceRow = true := by
  unfold joinedFacts
  repeat' (with_reducible apply facAnd)
  all_goals first | (with_reducible exact facEnter) | (with_reducible exact facLaid) | (with_reducible exact facMaps) | (with_reducible exact facStops) | (with_reducible exact facKnobs) | (with_reducible exact facHeard) | (rw [facLifts]; as_aux_lemma => kernel_rfl) | (rw [facMake]; as_aux_lemma => kernel_rfl) | (as_aux_lemma => kernel_rfl)

/-- THE STATEMENT -/
theorem fnReplace_holds : Rows.FnReplaceSaid :=
  OpenClaim.holds_of_wide 17 Try.f17 rfl rfl rfl rfl rfl rfl rfl ⟨rfl, rfl, rfl, rfl, rfl⟩ rfl rfl rfl rfl rfl (by kernel_rfl) Try.func17 fnReplace_closed
    (of_decide_eq_true (by kernel_rfl)) (by unfold Func.isWrapper; first | (rw [if_pos (by decide +kernel)]; kernel_rfl) | (rw [if_neg (by decide +kernel)]; exact ⟨rfl, rfl⟩))
    (fun os started H enc _ => fnReplace_lifted os started H enc)
#print axioms fnReplace_holds
end Go.Proofs.Ytndpdoiomoefpaa
