/-
  The law FnSplice: a splice adds miles and ohms. For all codes it answers true. No condition.
-/
import Derived.Test.YtndpdoiomoefpaaFac
import Derived.Test.YtndpdoiomoefpaaRowB
import Derived.Test.YtndpdoiomoefpaaLw
import Derived.Test.YtndpdoiomoefpaaCabM
import Derived.Test.YtndpdoiomoefpaaDrw2
import Derived.Test.YtndpdoiomoefpaaCCut
import Derived.Test.YtndpdoiomoefpaaCSplice
import Derived.Test.YtndpdoiomoefpaaSameC
namespace Go.Proofs.Ytndpdoiomoefpaa
open Go.ChangeShapes Go.WideShapes Go.ChangeAt Go.RowKit

set_option maxRecDepth 100000 in
set_option maxHeartbeats 4000000 in
theorem fnSplice_in (A0 : Option Addr) (n0 c0 : Nat) (w : World) (hl0 : n0 ≤ 1048576) (hc0 : n0 ≤ c0) (hb0 : Bytes w.heap.size w A0 n0) :
    Calls Try.prog 16 #[.slice A0 n0 c0] w (RetB (.bool true) w) := by
  have Hb := Lib.hid hb0
  clear hb0
  go_enter Try.func16, Try.ntmps16
  go_wp2_with fail
  refine (DrawCableSplice_c A0 n0 c0 _ (by omega) hc0 Hb.out).mono ?_
  rintro e w1 ⟨B, d, zs, Bp, dp, ys, rfl, hzl, hyl, hA, hP, hB⟩
  have Ha := Lib.hid hA
  have Hp := Lib.hid hP
  have Bt := Lib.hid hB
  clear hB Hb hA hP
  dsimp only
  go_wp2_with fail
  refine (implCableSplice_b B d zs Bp dp ys _ Ha.out Hp.out).mono ?_
  rintro e w2 ⟨B1, d1, rfl, ra, _, hb2⟩
  replace Ha := Lib.hid (Ha.out.go hb2)
  replace Hp := Lib.hid (Hp.out.go hb2)
  replace Bt := Lib.hid (below_step Bt.out hb2)
  have H1 := Lib.hid ra
  clear ra hb2
  dsimp only [id]
  go_wp2_with fail
  refine (specCableSplice_b B d zs Bp dp ys _ Ha.out Hp.out).mono ?_
  rintro e w3 ⟨B2, d2, rfl, ra, _, hb3⟩
  replace Ha := Lib.hid (Ha.out.go hb3)
  replace Hp := Lib.hid (Hp.out.go hb3)
  replace H1 := Lib.hid (H1.out.go hb3)
  replace Bt := Lib.hid (below_step Bt.out hb3)
  have H2 := Lib.hid ra
  clear ra hb3
  dsimp only [id]
  cases hv : spliceOk zs ys
  · clear hv
    go_wp2_with fail
    refine (sameSections_c _ _ _ _ _ _ _ H1.out H2.out).mono ?_
    rintro e w4 ⟨rfl, hb4⟩
    rw [decide_eq_true rfl]
    replace Ha := Lib.hid (Ha.out.go hb4)
    replace Hp := Lib.hid (Hp.out.go hb4)
    replace H1 := Lib.hid (H1.out.go hb4)
    replace H2 := Lib.hid (H2.out.go hb4)
    replace Bt := Lib.hid (below_step Bt.out hb4)
    clear hb4
    go_wp2_with fail
    refine (sameSections_c _ _ _ _ _ _ _ H1.out H2.out).mono ?_
    rintro e w5 ⟨rfl, hb5⟩
    rw [decide_eq_true rfl]
    replace Ha := Lib.hid (Ha.out.go hb5)
    replace Hp := Lib.hid (Hp.out.go hb5)
    replace H1 := Lib.hid (H1.out.go hb5)
    replace H2 := Lib.hid (H2.out.go hb5)
    replace Bt := Lib.hid (below_step Bt.out hb5)
    clear hb5
    go_wp2
    go_ret
    exact ⟨rfl, Bt.out⟩
  go_wp2_with fail
  refine (sameSections_c _ _ _ _ _ _ _ H1.out H2.out).mono ?_
  rintro e w6 ⟨rfl, hb6⟩
  rw [decide_eq_true rfl]
  replace Ha := Lib.hid (Ha.out.go hb6)
  replace Hp := Lib.hid (Hp.out.go hb6)
  replace H1 := Lib.hid (H1.out.go hb6)
  replace H2 := Lib.hid (H2.out.go hb6)
  replace Bt := Lib.hid (below_step Bt.out hb6)
  clear hb6
  clear H2
  obtain ⟨hx, hy, _⟩ := splice_true hv
  obtain ⟨p1, p2, p3, p4, p5⟩ := splice_laws hv
  have mx := cab_milesM hx
  have my := cab_milesM hy
  have ax := all_bd hx
  have ay := all_bd hy
  obtain ⟨K, hK⟩ : ∃ K, spliceL zs ys = K := ⟨_, rfl⟩
  rw [hK] at H1 p1 p2 p3 p4 p5 ⊢
  have HM0 := fun W h => implCableMiles_b B d zs W h
  have HN0 := fun W h => implCableMiles_b Bp dp ys W h
  have HO0 := fun W h => implCableMiles_b B1 d1 K W h
  have HU0 := fun W h => implCableAll_b B d zs W h
  have HV0 := fun W h => implCableAll_b Bp dp ys W h
  have HW0 := fun W h => implCableAll_b B1 d1 K W h
  have HC0 := fun W h => implCableCut_b B1 d1 K (milesI zs) W h
  rw [p1, p2, p3] at HC0
  rw [p4] at HO0
  rw [p5] at HW0
  rw [milesI_yes hx] at HM0 HC0 HO0
  rw [milesI_yes hy] at HN0 HO0
  rw [allI_yes hx] at HU0 HW0
  rw [allI_yes hy] at HV0 HW0
  obtain ⟨m, hm⟩ : ∃ m, milesL zs = m := ⟨_, rfl⟩
  obtain ⟨n, hn⟩ : ∃ n, milesL ys = n := ⟨_, rfl⟩
  obtain ⟨u, hu⟩ : ∃ u, ohmsL zs = u := ⟨_, rfl⟩
  obtain ⟨v, hv2⟩ : ∃ v, ohmsL ys = v := ⟨_, rfl⟩
  rw [hm] at HM0 HC0 HO0 mx ax
  rw [hn] at HN0 HO0 my ay
  rw [hu] at HU0 HW0 ax
  rw [hv2] at HV0 HW0 ay
  have HM := Lib.hid HM0
  have HN := Lib.hid HN0
  have HO := Lib.hid HO0
  have HU := Lib.hid HU0
  have HV := Lib.hid HV0
  have HW := Lib.hid HW0
  have HC := Lib.hid HC0
  have q1 : IntKind.i64.wrap (m + n) = m + n := IntWalk.i64_in _ (by omega)
  have q2 : IntKind.i64.wrap (u + v) = u + v := IntWalk.i64_in _ (by omega)
  have b1 : (m + n == m + n) = true := by simp
  have b2 : (u + v == u + v) = true := by simp
  clear HM0 HN0 HO0 HU0 HV0 HW0 HC0 hx hy p1 p2 p3 p4 p5 mx my ax ay hK hm hn hu hv2 hv
  go_wp2_with fail
  refine (HM.out _ Ha.out).mono ?_
  rintro e w7 ⟨rfl, hb7⟩
  replace Ha := Lib.hid (Ha.out.go hb7)
  replace Hp := Lib.hid (Hp.out.go hb7)
  replace H1 := Lib.hid (H1.out.go hb7)
  replace Bt := Lib.hid (below_step Bt.out hb7)
  clear hb7
  dsimp only
  go_wp2_with fail
  refine (HC.out _ H1.out).mono ?_
  rintro e w8 ⟨B3, d3, B4, d4, mm, rfl, ra, _, rb, _, _, hb8⟩
  replace Ha := Lib.hid (Ha.out.go hb8)
  replace Hp := Lib.hid (Hp.out.go hb8)
  replace H1 := Lib.hid (H1.out.go hb8)
  replace Bt := Lib.hid (below_step Bt.out hb8)
  have H3 := Lib.hid ra
  have H4 := Lib.hid rb
  clear ra rb hb8
  dsimp only [id]
  go_wp2_with fail
  refine (sameSections_c _ _ _ _ _ _ _ H3.out Ha.out).mono ?_
  rintro e w9 ⟨rfl, hb9⟩
  rw [decide_eq_true rfl]
  replace Ha := Lib.hid (Ha.out.go hb9)
  replace Hp := Lib.hid (Hp.out.go hb9)
  replace H1 := Lib.hid (H1.out.go hb9)
  replace H3 := Lib.hid (H3.out.go hb9)
  replace H4 := Lib.hid (H4.out.go hb9)
  replace Bt := Lib.hid (below_step Bt.out hb9)
  clear hb9
  go_wp2_with fail
  refine (sameSections_c _ _ _ _ _ _ _ H4.out Hp.out).mono ?_
  rintro e w10 ⟨rfl, hb10⟩
  rw [decide_eq_true rfl]
  replace Ha := Lib.hid (Ha.out.go hb10)
  replace Hp := Lib.hid (Hp.out.go hb10)
  replace H1 := Lib.hid (H1.out.go hb10)
  replace H3 := Lib.hid (H3.out.go hb10)
  replace H4 := Lib.hid (H4.out.go hb10)
  replace Bt := Lib.hid (below_step Bt.out hb10)
  clear hb10
  go_wp2_with fail
  refine (HW.out _ H1.out).mono ?_
  rintro e w11 ⟨rfl, hb11⟩
  replace Ha := Lib.hid (Ha.out.go hb11)
  replace Hp := Lib.hid (Hp.out.go hb11)
  replace H1 := Lib.hid (H1.out.go hb11)
  replace H3 := Lib.hid (H3.out.go hb11)
  replace H4 := Lib.hid (H4.out.go hb11)
  replace Bt := Lib.hid (below_step Bt.out hb11)
  clear hb11
  dsimp only
  go_wp2_with fail
  refine (HU.out _ Ha.out).mono ?_
  rintro e w12 ⟨rfl, hb12⟩
  replace Ha := Lib.hid (Ha.out.go hb12)
  replace Hp := Lib.hid (Hp.out.go hb12)
  replace H1 := Lib.hid (H1.out.go hb12)
  replace H3 := Lib.hid (H3.out.go hb12)
  replace H4 := Lib.hid (H4.out.go hb12)
  replace Bt := Lib.hid (below_step Bt.out hb12)
  clear hb12
  dsimp only
  go_wp2_with fail
  refine (HV.out _ Hp.out).mono ?_
  rintro e w13 ⟨rfl, hb13⟩
  replace Ha := Lib.hid (Ha.out.go hb13)
  replace Hp := Lib.hid (Hp.out.go hb13)
  replace H1 := Lib.hid (H1.out.go hb13)
  replace H3 := Lib.hid (H3.out.go hb13)
  replace H4 := Lib.hid (H4.out.go hb13)
  replace Bt := Lib.hid (below_step Bt.out hb13)
  clear hb13
  dsimp only
  go_wp2_with fail
  refine (HO.out _ H1.out).mono ?_
  rintro e w14 ⟨rfl, hb14⟩
  replace Ha := Lib.hid (Ha.out.go hb14)
  replace Hp := Lib.hid (Hp.out.go hb14)
  replace H1 := Lib.hid (H1.out.go hb14)
  replace H3 := Lib.hid (H3.out.go hb14)
  replace H4 := Lib.hid (H4.out.go hb14)
  replace Bt := Lib.hid (below_step Bt.out hb14)
  clear hb14
  dsimp only
  go_wp2_with fail
  refine (HM.out _ Ha.out).mono ?_
  rintro e w15 ⟨rfl, hb15⟩
  replace Ha := Lib.hid (Ha.out.go hb15)
  replace Hp := Lib.hid (Hp.out.go hb15)
  replace H1 := Lib.hid (H1.out.go hb15)
  replace H3 := Lib.hid (H3.out.go hb15)
  replace H4 := Lib.hid (H4.out.go hb15)
  replace Bt := Lib.hid (below_step Bt.out hb15)
  clear hb15
  dsimp only
  go_wp2_with fail
  refine (HN.out _ Hp.out).mono ?_
  rintro e w16 ⟨rfl, hb16⟩
  replace Ha := Lib.hid (Ha.out.go hb16)
  replace Hp := Lib.hid (Hp.out.go hb16)
  replace H1 := Lib.hid (H1.out.go hb16)
  replace H3 := Lib.hid (H3.out.go hb16)
  replace H4 := Lib.hid (H4.out.go hb16)
  replace Bt := Lib.hid (below_step Bt.out hb16)
  clear hb16
  dsimp only
  go_wp2
  go_ret
  exact ⟨rfl, Bt.out⟩

set_option maxRecDepth 100000 in
theorem fnSplice_walk (A0 : Option Addr) (n0 c0 : Nat) (w : World) (hb0 : Byt0 w A0 n0 c0) :
    Calls Try.prog 16 #[.slice A0 n0 c0] w (RetB (.bool true) w) := by
  by_cases hl0 : 1048576 < n0
  · clear hb0
    go_enter Try.func16, Try.ntmps16
    go_wp2
    go_ret
    exact ⟨rfl, Below.refl _ _⟩
  exact fnSplice_in A0 n0 c0 w (by omega) hb0.1 hb0.2.2

set_option maxRecDepth 100000 in
theorem fnSplice_lifted (os : Os) (started : os.Started) (H : Type) (enc : TypeId × Value → H) :
    ReturnsInHanded {} Try.checked os 16 .any (Rows.fnSpliceSpec.pre6 enc Try.prog Try.f16 Rows.fnSpliceRow.domain false) (Rows.fnSpliceSpec.post enc Try.prog Try.f16 false true false false) := by
  refine returnsInHanded_of_change (C := Try.checked) row_own started (by kernel_rfl) Try.func16
    (ChangeSpec.witness6 (enc := enc) (C := Try.checked) false ⟨#[], #[.slice none 0 0], []⟩ 8 (by kernel_rfl) (by kernel_rfl) (by kernel_rfl) (by kernel_rfl)) ?_
  intro W base args ds gs before hval0 hW hcnd _
  have hval : ∀ (j : Nat) t v, Try.f16.params[j]? = some t → args[j]? = some v → Value.okWide Try.prog W .any base t v := hval0
  have hW' := hW
  obtain ⟨p, q, hA0, hV, rfl, _, _⟩ := hW
  have hA : DataW.TrodAll enc Try.prog W 0 (fun _ => true) true Try.f16.params.toList args.toList ds p := hA0
  rw [Try.params16] at hA hval
  obtain ⟨v0, vs0, d0, ds0, p0, q0, hargs, rfl, rfl, h0, r0⟩ := trodAll_cons hA
  obtain ⟨rfl, rfl, rfl⟩ := trodAll_nil r0
  obtain rfl : args = #[v0] := by cases args; simp_all
  obtain ⟨rfl, rfl⟩ := trodVars_none hV
  have hlt0 : ∀ x ∈ p0, x.block < W.heap.size := fun x hx => by exact hW'.lt x (by simp [hx])
  obtain ⟨A0, n0, c0, rfl, hb0⟩ := open_bytes (hval 0 22 v0 rfl rfl) h0 hlt0
  clear hA0 hval0
  refine (fnSplice_walk A0 n0 c0 W hb0).mono fun e W' ⟨he, hb⟩ => ?_
  subst he
  exact ⟨_, rfl, _, _, _, [], _, [], hW', (trodAll_cons_mk (shut_bool Try.underlying4 _) trodAll_mk0), (trodAll_cons_mk (read_again_bytes h0 hlt0 hb) trodAll_mk0), rfl, hb.frame _, fun h => by cases h⟩

set_option maxRecDepth 100000 in
theorem fnSplice_closed : joinedFacts Try.prog 16 Try.f16 Rows.fnSpliceSpec Rows.fnSpliceRow = true := by
  unfold joinedFacts
  repeat' (with_reducible apply facAnd)
  all_goals first | (with_reducible exact facEnter) | (with_reducible exact facLaid) | (with_reducible exact facMaps) | (with_reducible exact facStops) | (with_reducible exact facKnobs) | (with_reducible exact facHeard) | (rw [facLifts]; as_aux_lemma => kernel_rfl) | (rw [facMake]; as_aux_lemma => kernel_rfl) | (as_aux_lemma => kernel_rfl)

/-- THE STATEMENT -/
theorem fnSplice_holds : Rows.FnSpliceSaid :=
  OpenClaim.holds_of_wide 16 Try.f16 rfl rfl rfl rfl rfl rfl rfl ⟨rfl, rfl, rfl, rfl, rfl⟩ rfl rfl rfl rfl rfl (by kernel_rfl) Try.func16 fnSplice_closed
    (of_decide_eq_true (by kernel_rfl)) (by unfold Func.isWrapper; first | (rw [if_pos (by decide +kernel)]; kernel_rfl) | (rw [if_neg (by decide +kernel)]; exact ⟨rfl, rfl⟩))
    (fun os started H enc _ => fnSplice_lifted os started H enc)
#print axioms fnSplice_holds
end Go.Proofs.Ytndpdoiomoefpaa
