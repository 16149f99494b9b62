/-
  The law FnCut: cut parts can be spliced. For all codes it answers true. No condition.
-/
import Derived.Test.YtndpdoiomoefpaaFac
import Derived.Test.YtndpdoiomoefpaaRowB
import Derived.Test.YtndpdoiomoefpaaLw
import Derived.Test.YtndpdoiomoefpaaCabM
import Derived.Test.YtndpdoiomoefpaaDrw2
import Derived.Test.YtndpdoiomoefpaaCCut
import Derived.Test.YtndpdoiomoefpaaCSplice
import Derived.Test.YtndpdoiomoefpaaCPlain
import Derived.Test.YtndpdoiomoefpaaCAll
import Derived.Test.YtndpdoiomoefpaaSameC
namespace Go.Proofs.Ytndpdoiomoefpaa
open Go.ChangeShapes Go.WideShapes Go.ChangeAt Go.RowKit

set_option maxRecDepth 100000 in
set_option maxHeartbeats 1600000 in
theorem fnCut_in (A0 : Option Addr) (n0 c0 : Nat) (w : World) (hl0 : n0 ≤ 1048576) (hc0 : n0 ≤ c0) (hb0 : Bytes w.heap.size w A0 n0) :
    Calls Try.prog 15 #[.slice A0 n0 c0] w (RetB (.bool true) w) := by
  have Hb := Lib.hid hb0
  clear hb0
  go_enter Try.func15, Try.ntmps15
  go_wp2_with fail
  refine (DrawCableCut_c A0 n0 c0 _ (by omega) hc0 Hb.out).mono ?_
  rintro e w1 ⟨B, d, zs, x, rfl, hzl, hx0, hx1, hA, hB⟩
  have Ha := Lib.hid hA
  have Bt := Lib.hid hB
  clear hB Hb hA
  dsimp only
  go_wp2_with fail
  refine (implCableCut_b B d zs x _ Ha.out).mono ?_
  rintro e w2 ⟨B1, d1, B2, d2, mm, rfl, ra, _, rb, _, _, hb2⟩
  replace Ha := Lib.hid (Ha.out.go hb2)
  replace Bt := Lib.hid (below_step Bt.out hb2)
  have H1 := Lib.hid ra
  have H2 := Lib.hid rb
  clear ra rb hb2
  dsimp only [id]
  go_wp2_with fail
  refine (specCableCut_b B d zs x _ Ha.out).mono ?_
  rintro e w3 ⟨B3, d3, B4, d4, mm, rfl, ra, _, rb, _, _, hb3⟩
  replace Ha := Lib.hid (Ha.out.go hb3)
  replace H1 := Lib.hid (H1.out.go hb3)
  replace H2 := Lib.hid (H2.out.go hb3)
  replace Bt := Lib.hid (below_step Bt.out hb3)
  have H3 := Lib.hid ra
  have H4 := Lib.hid rb
  clear ra rb hb3
  dsimp only [id]
  cases hv : cutOk zs x
  · clear hv
    go_wp2_with fail
    refine (sameSections_c _ _ _ _ _ _ _ H1.out H3.out).mono ?_
    rintro e w4 ⟨rfl, hb4⟩
    rw [decide_eq_true rfl]
    replace Ha := Lib.hid (Ha.out.go hb4)
    replace H1 := Lib.hid (H1.out.go hb4)
    replace H2 := Lib.hid (H2.out.go hb4)
    replace H3 := Lib.hid (H3.out.go hb4)
    replace H4 := Lib.hid (H4.out.go hb4)
    replace Bt := Lib.hid (below_step Bt.out hb4)
    clear hb4
    go_wp2_with fail
    refine (sameSections_c _ _ _ _ _ _ _ H2.out H4.out).mono ?_
    rintro e w5 ⟨rfl, hb5⟩
    rw [decide_eq_true rfl]
    replace Ha := Lib.hid (Ha.out.go hb5)
    replace H1 := Lib.hid (H1.out.go hb5)
    replace H2 := Lib.hid (H2.out.go hb5)
    replace H3 := Lib.hid (H3.out.go hb5)
    replace H4 := Lib.hid (H4.out.go hb5)
    replace Bt := Lib.hid (below_step Bt.out hb5)
    clear hb5
    go_wp2_with fail
    refine (sameSections_c _ _ _ _ _ _ _ H1.out H3.out).mono ?_
    rintro e w6 ⟨rfl, hb6⟩
    rw [decide_eq_true rfl]
    replace Ha := Lib.hid (Ha.out.go hb6)
    replace H1 := Lib.hid (H1.out.go hb6)
    replace H2 := Lib.hid (H2.out.go hb6)
    replace H3 := Lib.hid (H3.out.go hb6)
    replace H4 := Lib.hid (H4.out.go hb6)
    replace Bt := Lib.hid (below_step Bt.out hb6)
    clear hb6
    go_wp2_with fail
    refine (sameSections_c _ _ _ _ _ _ _ H2.out H4.out).mono ?_
    rintro e w7 ⟨rfl, hb7⟩
    rw [decide_eq_true rfl]
    replace Ha := Lib.hid (Ha.out.go hb7)
    replace H1 := Lib.hid (H1.out.go hb7)
    replace H2 := Lib.hid (H2.out.go hb7)
    replace H3 := Lib.hid (H3.out.go hb7)
    replace H4 := Lib.hid (H4.out.go hb7)
    replace Bt := Lib.hid (below_step Bt.out hb7)
    clear hb7
    go_wp2
    go_ret
    exact ⟨rfl, Bt.out⟩
  go_wp2_with fail
  refine (sameSections_c _ _ _ _ _ _ _ H1.out H3.out).mono ?_
  rintro e w8 ⟨rfl, hb8⟩
  rw [decide_eq_true rfl]
  replace Ha := Lib.hid (Ha.out.go hb8)
  replace H1 := Lib.hid (H1.out.go hb8)
  replace H2 := Lib.hid (H2.out.go hb8)
  replace H3 := Lib.hid (H3.out.go hb8)
  replace H4 := Lib.hid (H4.out.go hb8)
  replace Bt := Lib.hid (below_step Bt.out hb8)
  clear hb8
  go_wp2_with fail
  refine (sameSections_c _ _ _ _ _ _ _ H2.out H4.out).mono ?_
  rintro e w9 ⟨rfl, hb9⟩
  rw [decide_eq_true rfl]
  replace Ha := Lib.hid (Ha.out.go hb9)
  replace H1 := Lib.hid (H1.out.go hb9)
  replace H2 := Lib.hid (H2.out.go hb9)
  replace H3 := Lib.hid (H3.out.go hb9)
  replace H4 := Lib.hid (H4.out.go hb9)
  replace Bt := Lib.hid (below_step Bt.out hb9)
  clear hb9
  clear H3 H4
  obtain ⟨hc, x0, x1⟩ := cutOk_true hv
  obtain ⟨c1, c2, c3, c4, c5, c6⟩ := cut_laws hv
  have hcp := fun h => cut_plain hv h
  have hsn := fun (h : spliceOk (cutA zs x) (cutB zs x) = false) => (show spliceL (cutA zs x) (cutB zs x) = [] by unfold spliceL; rw [h]; rfl)
  have mz := cab_milesM hc
  have a1 : 0 ≤ allI (cutA zs x) ∧ allI (cutA zs x) ≤ 8000 := by rw [allI_yes c1]; have := all_bd c1; have := cab_milesM c1; omega
  have a2 : 0 ≤ allI (cutB zs x) ∧ allI (cutB zs x) ≤ 8000 := by rw [allI_yes c2]; have := all_bd c2; have := cab_milesM c2; omega
  have e3 := allI_yes hc
  have e4 := milesI_yes hc
  rw [e3] at c5
  rw [e4] at c4
  obtain ⟨P, hP⟩ : ∃ P, cutA zs x = P := ⟨_, rfl⟩
  obtain ⟨Q, hQ⟩ : ∃ Q, cutB zs x = Q := ⟨_, rfl⟩
  rw [hP] at H1 hcp hsn c3 c5 a1 ⊢
  rw [hQ] at H2 hcp hsn c4 c5 a2 ⊢
  have HJ0 := fun W h h2 => implCableSplice_b B1 d1 P B2 d2 Q W h h2
  obtain ⟨s, hs⟩ : ∃ s, spliceOk P Q = s := ⟨_, rfl⟩
  obtain ⟨J, hJ⟩ : ∃ J, spliceL P Q = J := ⟨_, rfl⟩
  rw [hs, hJ] at HJ0 hcp
  have HA0 := fun A c W h => implCablePlain_b A c J W h
  have HB0 := fun W h => implCablePlain_b B d zs W h
  have hpq : s = true → cabB (plainX J) = cabB (plainX zs) ∧ cabL (plainX J) = cabL (plainX zs) := fun h => by rw [hcp h]; exact ⟨rfl, rfl⟩
  obtain ⟨f, hf⟩ : ∃ f, cabB (plainX J) = f := ⟨_, rfl⟩
  obtain ⟨g, hg⟩ : ∃ g, cabB (plainX zs) = g := ⟨_, rfl⟩
  obtain ⟨F, hF⟩ : ∃ F, cabL (plainX J) = F := ⟨_, rfl⟩
  obtain ⟨G, hG⟩ : ∃ G, cabL (plainX zs) = G := ⟨_, rfl⟩
  rw [hf, hF] at HA0 hpq
  rw [hg, hG] at HB0 hpq
  have HM0 := fun W h => implCableMiles_b B1 d1 P W h
  have HN0 := fun W h => implCableMiles_b B2 d2 Q W h
  have HO0 := fun W h => implCableMiles_b B d zs W h
  have HU0 := fun W h => implCableAll_b B1 d1 P W h
  have HV0 := fun W h => implCableAll_b B2 d2 Q W h
  have HW0 := fun W h => implCableAll_b B d zs W h
  rw [c3] at HM0
  rw [c4] at HN0
  rw [e4] at HO0
  rw [e3] at HW0
  obtain ⟨m, hm⟩ : ∃ m, milesL zs = m := ⟨_, rfl⟩
  obtain ⟨a, ha⟩ : ∃ a, ohmsL zs = a := ⟨_, rfl⟩
  obtain ⟨u, hu⟩ : ∃ u, allI P = u := ⟨_, rfl⟩
  obtain ⟨v, hv2⟩ : ∃ v, allI Q = v := ⟨_, rfl⟩
  have bu := (all_bd hc)
  rw [hm] at HN0 HO0 mz x1 bu
  rw [ha] at HW0 c5 bu
  rw [hu] at HU0 c5 a1
  rw [hv2] at HV0 c5 a2
  have HJ := Lib.hid HJ0
  have HA := Lib.hid HA0
  have HB := Lib.hid HB0
  have HM := Lib.hid HM0
  have HN := Lib.hid HN0
  have HO := Lib.hid HO0
  have HU := Lib.hid HU0
  have HV := Lib.hid HV0
  have HW := Lib.hid HW0
  have Hpq := Lib.hid hpq
  have b0 : (x == x) = true := by simp
  have q1 : IntKind.i64.wrap (x + (m - x)) = m := by rw [show x + (m - x) = m by omega]; exact IntWalk.i64_in _ (by omega)
  have q2 : IntKind.i64.wrap (u + v) = a := by rw [c5]; exact IntWalk.i64_in _ (by omega)
  have b1 : (m == m) = true := by simp
  have b2 : (a == a) = true := by simp
  clear HJ0 HA0 HB0 HM0 HN0 HO0 HU0 HV0 HW0 hpq hcp hsn hP hQ hs hJ hf hg hF hG hm ha hu hv2 hv c1 c2 c3 c4 c5 c6 mz a1 a2 e3 e4 hc bu
  go_wp2_with fail
  refine (HJ.out _ H1.out H2.out).mono ?_
  rintro e w10 ⟨B5, d5, rfl, ra, _, hb10⟩
  replace Ha := Lib.hid (Ha.out.go hb10)
  replace H1 := Lib.hid (H1.out.go hb10)
  replace H2 := Lib.hid (H2.out.go hb10)
  replace Bt := Lib.hid (below_step Bt.out hb10)
  have H5 := Lib.hid ra
  clear ra hb10
  dsimp only [id]
  go_wp2_with fail
  refine (HA.out _ _ _ H5.out).mono ?_
  rintro e w11 ⟨B6, d6, rfl, ra, _, hb11⟩
  replace Ha := Lib.hid (Ha.out.go hb11)
  replace H1 := Lib.hid (H1.out.go hb11)
  replace H2 := Lib.hid (H2.out.go hb11)
  replace H5 := Lib.hid (H5.out.go hb11)
  replace Bt := Lib.hid (below_step Bt.out hb11)
  have H6 := Lib.hid ra
  clear ra hb11
  dsimp only [id]
  go_wp2_with fail
  refine (HB.out _ Ha.out).mono ?_
  rintro e w12 ⟨B7, d7, rfl, ra, _, hb12⟩
  replace Ha := Lib.hid (Ha.out.go hb12)
  replace H1 := Lib.hid (H1.out.go hb12)
  replace H2 := Lib.hid (H2.out.go hb12)
  replace H5 := Lib.hid (H5.out.go hb12)
  replace H6 := Lib.hid (H6.out.go hb12)
  replace Bt := Lib.hid (below_step Bt.out hb12)
  have H7 := Lib.hid ra
  clear ra hb12
  dsimp only [id]
  go_wp2_with fail
  refine (HM.out _ H1.out).mono ?_
  rintro e w13 ⟨rfl, hb13⟩
  replace Ha := Lib.hid (Ha.out.go hb13)
  replace H1 := Lib.hid (H1.out.go hb13)
  replace H2 := Lib.hid (H2.out.go hb13)
  replace H5 := Lib.hid (H5.out.go hb13)
  replace H6 := Lib.hid (H6.out.go hb13)
  replace H7 := Lib.hid (H7.out.go hb13)
  replace Bt := Lib.hid (below_step Bt.out hb13)
  clear hb13
  dsimp only
  go_wp2_with fail
  refine (HM.out _ H1.out).mono ?_
  rintro e w14 ⟨rfl, hb14⟩
  replace Ha := Lib.hid (Ha.out.go hb14)
  replace H1 := Lib.hid (H1.out.go hb14)
  replace H2 := Lib.hid (H2.out.go hb14)
  replace H5 := Lib.hid (H5.out.go hb14)
  replace H6 := Lib.hid (H6.out.go hb14)
  replace H7 := Lib.hid (H7.out.go hb14)
  replace Bt := Lib.hid (below_step Bt.out hb14)
  clear hb14
  dsimp only
  go_wp2_with fail
  refine (HN.out _ H2.out).mono ?_
  rintro e w15 ⟨rfl, hb15⟩
  replace Ha := Lib.hid (Ha.out.go hb15)
  replace H1 := Lib.hid (H1.out.go hb15)
  replace H2 := Lib.hid (H2.out.go hb15)
  replace H5 := Lib.hid (H5.out.go hb15)
  replace H6 := Lib.hid (H6.out.go hb15)
  replace H7 := Lib.hid (H7.out.go hb15)
  replace Bt := Lib.hid (below_step Bt.out hb15)
  clear hb15
  dsimp only
  go_wp2_with fail
  refine (HO.out _ Ha.out).mono ?_
  rintro e w16 ⟨rfl, hb16⟩
  replace Ha := Lib.hid (Ha.out.go hb16)
  replace H1 := Lib.hid (H1.out.go hb16)
  replace H2 := Lib.hid (H2.out.go hb16)
  replace H5 := Lib.hid (H5.out.go hb16)
  replace H6 := Lib.hid (H6.out.go hb16)
  replace H7 := Lib.hid (H7.out.go hb16)
  replace Bt := Lib.hid (below_step Bt.out hb16)
  clear hb16
  dsimp only
  go_wp2_with fail
  refine (HU.out _ H1.out).mono ?_
  rintro e w17 ⟨rfl, hb17⟩
  replace Ha := Lib.hid (Ha.out.go hb17)
  replace H1 := Lib.hid (H1.out.go hb17)
  replace H2 := Lib.hid (H2.out.go hb17)
  replace H5 := Lib.hid (H5.out.go hb17)
  replace H6 := Lib.hid (H6.out.go hb17)
  replace H7 := Lib.hid (H7.out.go hb17)
  replace Bt := Lib.hid (below_step Bt.out hb17)
  clear hb17
  dsimp only
  go_wp2_with fail
  refine (HV.out _ H2.out).mono ?_
  rintro e w18 ⟨rfl, hb18⟩
  replace Ha := Lib.hid (Ha.out.go hb18)
  replace H1 := Lib.hid (H1.out.go hb18)
  replace H2 := Lib.hid (H2.out.go hb18)
  replace H5 := Lib.hid (H5.out.go hb18)
  replace H6 := Lib.hid (H6.out.go hb18)
  replace H7 := Lib.hid (H7.out.go hb18)
  replace Bt := Lib.hid (below_step Bt.out hb18)
  clear hb18
  dsimp only
  go_wp2_with fail
  refine (HW.out _ Ha.out).mono ?_
  rintro e w19 ⟨rfl, hb19⟩
  replace Ha := Lib.hid (Ha.out.go hb19)
  replace H1 := Lib.hid (H1.out.go hb19)
  replace H2 := Lib.hid (H2.out.go hb19)
  replace H5 := Lib.hid (H5.out.go hb19)
  replace H6 := Lib.hid (H6.out.go hb19)
  replace H7 := Lib.hid (H7.out.go hb19)
  replace Bt := Lib.hid (below_step Bt.out hb19)
  clear hb19
  dsimp only
  cases s
  · clear Hpq
    go_wp2
    go_ret
    exact ⟨rfl, Bt.out⟩
  · obtain ⟨hb1, hb2⟩ := Hpq.out rfl
    have Hb2 := Lib.hid hb2
    clear hb2 Hpq
    subst hb1
    have b3 : (f == f) = true := by simp
    go_wp2_with fail
    refine (sameSections_c _ _ _ _ _ _ _ H6.out H7.out).mono ?_
    rintro e w20 ⟨rfl, hb20⟩
    rw [decide_eq_true Hb2.out]
    replace Ha := Lib.hid (Ha.out.go hb20)
    replace H1 := Lib.hid (H1.out.go hb20)
    replace H2 := Lib.hid (H2.out.go hb20)
    replace H5 := Lib.hid (H5.out.go hb20)
    replace H6 := Lib.hid (H6.out.go hb20)
    replace H7 := Lib.hid (H7.out.go hb20)
    replace Bt := Lib.hid (below_step Bt.out hb20)
    clear hb20
    go_wp2
    go_ret
    exact ⟨rfl, Bt.out⟩

set_option maxRecDepth 100000 in
theorem fnCut_walk (A0 : Option Addr) (n0 c0 : Nat) (w : World) (hb0 : Byt0 w A0 n0 c0) :
    Calls Try.prog 15 #[.slice A0 n0 c0] w (RetB (.bool true) w) := by
  by_cases hl0 : 1048576 < n0
  · clear hb0
    go_enter Try.func15, Try.ntmps15
    go_wp2
    go_ret
    exact ⟨rfl, Below.refl _ _⟩
  exact fnCut_in A0 n0 c0 w (by omega) hb0.1 hb0.2.2

set_option maxRecDepth 100000 in
theorem fnCut_lifted (os : Os) (started : os.Started) (H : Type) (enc : TypeId × Value → H) :
    ReturnsInHanded {} Try.checked os 15 .any (Rows.fnCutSpec.pre6 enc Try.prog Try.f15 Rows.fnCutRow.domain false) (Rows.fnCutSpec.post enc Try.prog Try.f15 false true false false) := by
  refine returnsInHanded_of_change (C := Try.checked) row_own started (by kernel_rfl) Try.func15
    (ChangeSpec.witness6 (enc := enc) (C := Try.checked) false ⟨#[], #[.slice none 0 0], []⟩ 8 (by kernel_rfl) (by kernel_rfl) (by kernel_rfl) (by kernel_rfl)) ?_
  intro W base args ds gs before hval0 hW hcnd _
  have hval : ∀ (j : Nat) t v, Try.f15.params[j]? = some t → args[j]? = some v → Value.okWide Try.prog W .any base t v := hval0
  have hW' := hW
  obtain ⟨p, q, hA0, hV, rfl, _, _⟩ := hW
  have hA : DataW.TrodAll enc Try.prog W 0 (fun _ => true) true Try.f15.params.toList args.toList ds p := hA0
  rw [Try.params15] at hA hval
  obtain ⟨v0, vs0, d0, ds0, p0, q0, hargs, rfl, rfl, h0, r0⟩ := trodAll_cons hA
  obtain ⟨rfl, rfl, rfl⟩ := trodAll_nil r0
  obtain rfl : args = #[v0] := by cases args; simp_all
  obtain ⟨rfl, rfl⟩ := trodVars_none hV
  have hlt0 : ∀ x ∈ p0, x.block < W.heap.size := fun x hx => by exact hW'.lt x (by simp [hx])
  obtain ⟨A0, n0, c0, rfl, hb0⟩ := open_bytes (hval 0 22 v0 rfl rfl) h0 hlt0
  clear hA0 hval0
  refine (fnCut_walk A0 n0 c0 W hb0).mono fun e W' ⟨he, hb⟩ => ?_
  subst he
  exact ⟨_, rfl, _, _, _, [], _, [], hW', (trodAll_cons_mk (shut_bool Try.underlying4 _) trodAll_mk0), (trodAll_cons_mk (read_again_bytes h0 hlt0 hb) trodAll_mk0), rfl, hb.frame _, fun h => by cases h⟩

set_option maxRecDepth 100000 in
theorem fnCut_closed : joinedFacts Try.prog 15 Try.f15 Rows.fnCutSpec Rows.fnCutRow = true := by
  unfold joinedFacts
  repeat' (with_reducible apply facAnd)
  all_goals first | (with_reducible exact facEnter) | (with_reducible exact facLaid) | (with_reducible exact facMaps) | (with_reducible exact facStops) | (with_reducible exact facKnobs) | (with_reducible exact facHeard) | (rw [facLifts]; as_aux_lemma => kernel_rfl) | (rw [facMake]; as_aux_lemma => kernel_rfl) | (as_aux_lemma => kernel_rfl)

/-- THE STATEMENT -/
theorem fnCut_holds : Rows.FnCutSaid :=
  OpenClaim.holds_of_wide 15 Try.f15 rfl rfl rfl rfl rfl rfl rfl ⟨rfl, rfl, rfl, rfl, rfl⟩ rfl rfl rfl rfl rfl (by kernel_rfl) Try.func15 fnCut_closed
    (of_decide_eq_true (by kernel_rfl)) (by unfold Func.isWrapper; first | (rw [if_pos (by decide +kernel)]; kernel_rfl) | (rw [if_neg (by decide +kernel)]; exact ⟨rfl, rfl⟩))
    (fun os started H enc _ => fnCut_lifted os started H enc)
#print axioms fnCut_holds
end Go.Proofs.Ytndpdoiomoefpaa
