/-
  The law FnBack: back and back it is the floor; each mile needs as much. For all codes it answers true. No condition.
-/
import Derived.Test.YtndpdoiomoefpaaFac
import Derived.Test.YtndpdoiomoefpaaRowB
import Derived.Test.YtndpdoiomoefpaaLw
import Derived.Test.YtndpdoiomoefpaaSame
import Derived.Test.YtndpdoiomoefpaaDrw1
import Derived.Test.YtndpdoiomoefpaaFFloorNeeds
import Derived.Test.YtndpdoiomoefpaaFlJ
import Derived.Test.YtndpdoiomoefpaaBackO
namespace Go.Proofs.Ytndpdoiomoefpaa
open Go.ChangeShapes Go.WideShapes Go.ChangeAt Go.RowKit

set_option maxRecDepth 100000 in
set_option maxHeartbeats 4000000 in
theorem fnBack_in (A0 : Option Addr) (n0 c0 : Nat) (w : World) (hl0 : n0 ≤ 1048576) (hc0 : n0 ≤ c0) (hb0 : Bytes w.heap.size w A0 n0) :
    Calls Try.prog 5 #[.slice A0 n0 c0] w (RetB (.bool true) w) := by
  have Hb := Lib.hid hb0
  clear hb0
  go_enter Try.func5, Try.ntmps5
  go_wp2_with fail
  refine (DrawFloorBack_c A0 n0 c0 _ (by omega) hc0 Hb.out).mono ?_
  rintro e w1 ⟨B, d, zs, rfl, hzl, hA, _, hB⟩
  have Ha := Lib.hid hA
  have Bt := Lib.hid hB
  clear hB Hb hA
  dsimp only
  go_wp2_with fail
  refine (implFloorBack_b B d zs _ Ha.out).mono ?_
  rintro e w2 ⟨B1, d1, rfl, ra, _, hb2⟩
  replace Ha := Lib.hid (Ha.out.go hb2)
  replace Bt := Lib.hid (below_step Bt.out hb2)
  have H1 := Lib.hid ra
  clear ra hb2
  dsimp only [id]
  go_wp2_with fail
  refine (specFloorBack_b B d zs _ Ha.out).mono ?_
  rintro e w3 ⟨B2, d2, rfl, ra, _, hb3⟩
  replace Ha := Lib.hid (Ha.out.go hb3)
  replace H1 := Lib.hid (H1.out.go hb3)
  replace Bt := Lib.hid (below_step Bt.out hb3)
  have H2 := Lib.hid ra
  clear ra hb3
  dsimp only [id]
  cases hv : validB zs
  · clear hv
    go_wp2_with fail
    refine (sameInts_c _ _ _ _ _ _ _ H1.out H2.out).mono ?_
    rintro e w4 ⟨rfl, q4, hq4⟩
    rw [decide_eq_true rfl]
    have hb4 := below_of_drew hq4
    clear hq4
    replace Ha := Lib.hid (Ha.out.go hb4)
    replace H1 := Lib.hid (H1.out.go hb4)
    replace H2 := Lib.hid (H2.out.go hb4)
    replace Bt := Lib.hid (below_step Bt.out hb4)
    clear hb4
    go_wp2_with fail
    refine (sameInts_c _ _ _ _ _ _ _ H1.out H2.out).mono ?_
    rintro e w5 ⟨rfl, q5, hq5⟩
    rw [decide_eq_true rfl]
    have hb5 := below_of_drew hq5
    clear hq5
    replace Ha := Lib.hid (Ha.out.go hb5)
    replace H1 := Lib.hid (H1.out.go hb5)
    replace H2 := Lib.hid (H2.out.go hb5)
    replace Bt := Lib.hid (below_step Bt.out hb5)
    clear hb5
    go_wp2
    go_ret
    exact ⟨rfl, Bt.out⟩
  go_wp2_with fail
  refine (sameInts_c _ _ _ _ _ _ _ H1.out H2.out).mono ?_
  rintro e w6 ⟨rfl, q6, hq6⟩
  rw [decide_eq_true rfl]
  have hb6 := below_of_drew hq6
  clear hq6
  replace Ha := Lib.hid (Ha.out.go hb6)
  replace H1 := Lib.hid (H1.out.go hb6)
  replace H2 := Lib.hid (H2.out.go hb6)
  replace Bt := Lib.hid (below_step Bt.out hb6)
  clear hb6
  clear H2
  have hb1 := back_yes hv
  have hb2 := back_yes (back_valid hv)
  have hbv := back_valid hv
  rw [List.reverse_reverse] at hb2
  have hnn := back_needs hv
  rw [hb1] at H1 ⊢
  have HX0 := fun W h => implFloorBack_b B1 d1 zs.reverse W h
  have HN0 := fun W h => implFloorNeeds_b B d zs W h
  have HM0 := fun W h => implFloorNeeds_b B1 d1 zs.reverse W h
  rw [hb2, hbv] at HX0
  rw [hv] at HN0
  rw [hnn, hbv] at HM0
  obtain ⟨K, hK⟩ : ∃ K, zs.reverse = K := ⟨_, rfl⟩
  obtain ⟨N, hN⟩ : ∃ N, floorNeedsL zs = N := ⟨_, rfl⟩
  have HB0 := fun A c W h => backOf_c A c N W h
  rw [hK] at HX0 HM0 H1 ⊢
  rw [hN] at HN0 HM0
  obtain ⟨M, hM⟩ : ∃ M, N.reverse = M := ⟨_, rfl⟩
  rw [hM] at HM0 HB0
  have HX := Lib.hid HX0
  have HN := Lib.hid HN0
  have HM := Lib.hid HM0
  have HB := Lib.hid HB0
  clear HX0 HN0 HM0 HB0 hM hb1 hb2 hbv hnn hK hN hv
  go_wp2_with fail
  refine (HX.out _ H1.out).mono ?_
  rintro e w7 ⟨B3, d3, rfl, ra, _, hb7⟩
  replace Ha := Lib.hid (Ha.out.go hb7)
  replace H1 := Lib.hid (H1.out.go hb7)
  replace Bt := Lib.hid (below_step Bt.out hb7)
  have H3 := Lib.hid ra
  clear ra hb7
  dsimp only [id]
  go_wp2_with fail
  refine (HN.out _ Ha.out).mono ?_
  rintro e w8 ⟨B4, d4, rfl, ra, _, hb8⟩
  replace Ha := Lib.hid (Ha.out.go hb8)
  replace H1 := Lib.hid (H1.out.go hb8)
  replace H3 := Lib.hid (H3.out.go hb8)
  replace Bt := Lib.hid (below_step Bt.out hb8)
  have H4 := Lib.hid ra
  clear ra hb8
  dsimp only [id]
  go_wp2_with fail
  refine (HM.out _ H1.out).mono ?_
  rintro e w9 ⟨B5, d5, rfl, ra, _, hb9⟩
  replace Ha := Lib.hid (Ha.out.go hb9)
  replace H1 := Lib.hid (H1.out.go hb9)
  replace H3 := Lib.hid (H3.out.go hb9)
  replace H4 := Lib.hid (H4.out.go hb9)
  replace Bt := Lib.hid (below_step Bt.out hb9)
  have H5 := Lib.hid ra
  clear ra hb9
  dsimp only [id]
  go_wp2_with fail
  refine (sameInts_c _ _ _ _ _ _ _ H3.out Ha.out).mono ?_
  rintro e w10 ⟨rfl, q10, hq10⟩
  rw [decide_eq_true rfl]
  have hb10 := below_of_drew hq10
  clear hq10
  replace Ha := Lib.hid (Ha.out.go hb10)
  replace H1 := Lib.hid (H1.out.go hb10)
  replace H3 := Lib.hid (H3.out.go hb10)
  replace H4 := Lib.hid (H4.out.go hb10)
  replace H5 := Lib.hid (H5.out.go hb10)
  replace Bt := Lib.hid (below_step Bt.out hb10)
  clear hb10
  go_wp2_with fail
  refine (HB.out _ _ _ H4.out).mono ?_
  rintro e w11 ⟨B6, d6, rfl, ra, _, hb11⟩
  replace Ha := Lib.hid (Ha.out.go hb11)
  replace H1 := Lib.hid (H1.out.go hb11)
  replace H3 := Lib.hid (H3.out.go hb11)
  replace H4 := Lib.hid (H4.out.go hb11)
  replace H5 := Lib.hid (H5.out.go hb11)
  replace Bt := Lib.hid (below_step Bt.out hb11)
  have H6 := Lib.hid ra
  clear ra hb11
  dsimp only [id]
  go_wp2_with fail
  refine (sameInts_c _ _ _ _ _ _ _ H5.out H6.out).mono ?_
  rintro e w12 ⟨rfl, q12, hq12⟩
  rw [decide_eq_true rfl]
  have hb12 := below_of_drew hq12
  clear hq12
  replace Ha := Lib.hid (Ha.out.go hb12)
  replace H1 := Lib.hid (H1.out.go hb12)
  replace H3 := Lib.hid (H3.out.go hb12)
  replace H4 := Lib.hid (H4.out.go hb12)
  replace H5 := Lib.hid (H5.out.go hb12)
  replace H6 := Lib.hid (H6.out.go hb12)
  replace Bt := Lib.hid (below_step Bt.out hb12)
  clear hb12
  go_wp2
  go_ret
  exact ⟨rfl, Bt.out⟩

set_option maxRecDepth 100000 in
theorem fnBack_walk (A0 : Option Addr) (n0 c0 : Nat) (w : World) (hb0 : Byt0 w A0 n0 c0) :
    Calls Try.prog 5 #[.slice A0 n0 c0] w (RetB (.bool true) w) := by
  by_cases hl0 : 1048576 < n0
  · clear hb0
    go_enter Try.func5, Try.ntmps5
    go_wp2
    go_ret
    exact ⟨rfl, Below.refl _ _⟩
  exact fnBack_in A0 n0 c0 w (by omega) hb0.1 hb0.2.2

set_option maxRecDepth 100000 in
theorem fnBack_lifted (os : Os) (started : os.Started) (H : Type) (enc : TypeId × Value → H) :
    ReturnsInHanded {} Try.checked os 5 .any (Rows.fnBackSpec.pre6 enc Try.prog Try.f5 Rows.fnBackRow.domain false) (Rows.fnBackSpec.post enc Try.prog Try.f5 false true false false) := by
  refine returnsInHanded_of_change (C := Try.checked) row_own started (by kernel_rfl) Try.func5
    (ChangeSpec.witness6 (enc := enc) (C := Try.checked) false ⟨#[], #[.slice none 0 0], []⟩ 8 (by kernel_rfl) (by kernel_rfl) (by kernel_rfl) (by kernel_rfl)) ?_
  intro W base args ds gs before hval0 hW hcnd _
  have hval : ∀ (j : Nat) t v, Try.f5.params[j]? = some t → args[j]? = some v → Value.okWide Try.prog W .any base t v := hval0
  have hW' := hW
  obtain ⟨p, q, hA0, hV, rfl, _, _⟩ := hW
  have hA : DataW.TrodAll enc Try.prog W 0 (fun _ => true) true Try.f5.params.toList args.toList ds p := hA0
  rw [Try.params5] at hA hval
  obtain ⟨v0, vs0, d0, ds0, p0, q0, hargs, rfl, rfl, h0, r0⟩ := trodAll_cons hA
  obtain ⟨rfl, rfl, rfl⟩ := trodAll_nil r0
  obtain rfl : args = #[v0] := by cases args; simp_all
  obtain ⟨rfl, rfl⟩ := trodVars_none hV
  have hlt0 : ∀ x ∈ p0, x.block < W.heap.size := fun x hx => by exact hW'.lt x (by simp [hx])
  obtain ⟨A0, n0, c0, rfl, hb0⟩ := open_bytes (hval 0 22 v0 rfl rfl) h0 hlt0
  clear hA0 hval0
  refine (fnBack_walk A0 n0 c0 W hb0).mono fun e W' ⟨he, hb⟩ => ?_
  subst he
  exact ⟨_, rfl, _, _, _, [], _, [], hW', (trodAll_cons_mk (shut_bool Try.underlying4 _) trodAll_mk0), (trodAll_cons_mk (read_again_bytes h0 hlt0 hb) trodAll_mk0), rfl, hb.frame _, fun h => by cases h⟩

set_option maxRecDepth 100000 in
theorem fnBack_closed : joinedFacts Try.prog 5 Try.f5 Rows.fnBackSpec Rows.fnBackRow = true := by
  unfold joinedFacts
  repeat' (with_reducible apply facAnd)
  all_goals first | (with_reducible exact facEnter) | (with_reducible exact facLaid) | (with_reducible exact facMaps) | (with_reducible exact facStops) | (with_reducible exact facKnobs) | (with_reducible exact facHeard) | (rw [facLifts]; as_aux_lemma => kernel_rfl) | (rw [facMake]; as_aux_lemma => kernel_rfl) | (as_aux_lemma => kernel_rfl)

/-- THE STATEMENT -/
theorem fnBack_holds : Rows.FnBackSaid :=
  OpenClaim.holds_of_wide 5 Try.f5 rfl rfl rfl rfl rfl rfl rfl ⟨rfl, rfl, rfl, rfl, rfl⟩ rfl rfl rfl rfl rfl (by kernel_rfl) Try.func5 fnBack_closed
    (of_decide_eq_true (by kernel_rfl)) (by unfold Func.isWrapper; first | (rw [if_pos (by decide +kernel)]; kernel_rfl) | (rw [if_neg (by decide +kernel)]; exact ⟨rfl, rfl⟩))
    (fun os started H enc _ => fnBack_lifted os started H enc)
#print axioms fnBack_holds
end Go.Proofs.Ytndpdoiomoefpaa
