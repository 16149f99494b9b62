/-
  The law FnJoin: joined floors need both lengths. For all codes it answers true. No condition.
-/
import Derived.Test.YtndpdoiomoefpaaFac
import Derived.Test.YtndpdoiomoefpaaRowB
import Derived.Test.YtndpdoiomoefpaaLw
import Derived.Test.YtndpdoiomoefpaaSame
import Derived.Test.YtndpdoiomoefpaaDrwJ
import Derived.Test.YtndpdoiomoefpaaFFloorLength
import Derived.Test.YtndpdoiomoefpaaFlJ
namespace Go.Proofs.Ytndpdoiomoefpaa
open Go.ChangeShapes Go.WideShapes Go.ChangeAt Go.RowKit

set_option maxRecDepth 100000 in
set_option maxHeartbeats 4000000 in
theorem fnJoin_in (A0 : Option Addr) (n0 c0 : Nat) (w : World) (hl0 : n0 ≤ 1048576) (hc0 : n0 ≤ c0) (hb0 : Bytes w.heap.size w A0 n0) :
    Calls Try.prog 4 #[.slice A0 n0 c0] w (RetB (.bool true) w) := by
  have Hb := Lib.hid hb0
  clear hb0
  go_enter Try.func4, Try.ntmps4
  go_wp2_with fail
  refine (DrawFloorJoin_c A0 n0 c0 _ (by omega) hc0 Hb.out).mono ?_
  rintro e w1 ⟨B, d, zs, Bp, dp, ys, rfl, hzl, hyl, hA, hP, hB⟩
  have Ha := Lib.hid hA
  have Hp := Lib.hid hP
  have Bt := Lib.hid hB
  clear hB Hb hA hP
  dsimp only
  go_wp2_with fail
  refine (implFloorJoin_b B d zs Bp dp ys _ Ha.out Hp.out).mono ?_
  rintro e w2 ⟨B1, d1, rfl, ra, _, hb2⟩
  replace Ha := Lib.hid (Ha.out.go hb2)
  replace Hp := Lib.hid (Hp.out.go hb2)
  replace Bt := Lib.hid (below_step Bt.out hb2)
  have H1 := Lib.hid ra
  clear ra hb2
  dsimp only [id]
  go_wp2_with fail
  refine (specFloorJoin_b B d zs Bp dp ys _ Ha.out Hp.out).mono ?_
  rintro e w3 ⟨B2, d2, rfl, ra, _, hb3⟩
  replace Ha := Lib.hid (Ha.out.go hb3)
  replace Hp := Lib.hid (Hp.out.go hb3)
  replace H1 := Lib.hid (H1.out.go hb3)
  replace Bt := Lib.hid (below_step Bt.out hb3)
  have H2 := Lib.hid ra
  clear ra hb3
  dsimp only [id]
  cases hv : joinB zs ys
  · clear hv
    go_wp2_with fail
    refine (sameInts_c _ _ _ _ _ _ _ H1.out H2.out).mono ?_
    rintro e w4 ⟨rfl, q4, hq4⟩
    rw [decide_eq_true rfl]
    have hb4 := below_of_drew hq4
    clear hq4
    replace Ha := Lib.hid (Ha.out.go hb4)
    replace Hp := Lib.hid (Hp.out.go hb4)
    replace H1 := Lib.hid (H1.out.go hb4)
    replace H2 := Lib.hid (H2.out.go hb4)
    replace Bt := Lib.hid (below_step Bt.out hb4)
    clear hb4
    go_wp2_with fail
    refine (sameInts_c _ _ _ _ _ _ _ H1.out H2.out).mono ?_
    rintro e w5 ⟨rfl, q5, hq5⟩
    rw [decide_eq_true rfl]
    have hb5 := below_of_drew hq5
    clear hq5
    replace Ha := Lib.hid (Ha.out.go hb5)
    replace Hp := Lib.hid (Hp.out.go hb5)
    replace H1 := Lib.hid (H1.out.go hb5)
    replace H2 := Lib.hid (H2.out.go hb5)
    replace Bt := Lib.hid (below_step Bt.out hb5)
    clear hb5
    go_wp2
    go_ret
    exact ⟨rfl, Bt.out⟩
  go_wp2_with fail
  refine (sameInts_c _ _ _ _ _ _ _ H1.out H2.out).mono ?_
  rintro e w6 ⟨rfl, q6, hq6⟩
  rw [decide_eq_true rfl]
  have hb6 := below_of_drew hq6
  clear hq6
  replace Ha := Lib.hid (Ha.out.go hb6)
  replace Hp := Lib.hid (Hp.out.go hb6)
  replace H1 := Lib.hid (H1.out.go hb6)
  replace H2 := Lib.hid (H2.out.go hb6)
  replace Bt := Lib.hid (below_step Bt.out hb6)
  clear hb6
  clear H2
  obtain ⟨p1, p2, p3, p4, p5⟩ := join_facts hv
  obtain ⟨hx, hy, _, hj⟩ := joinB_true hv
  have vx := validB_true hx
  have vy := validB_true hy
  have hzl2 := vx.1
  have hyl2 := vy.1
  have hb1 := lenI_bd hx (x := 0) (y := (zs.length : Int) - 1) (by omega) (by omega) (by omega)
  have hb2 := lenI_bd hy (x := 0) (y := (ys.length : Int) - 1) (by omega) (by omega) (by omega)
  obtain ⟨K, hK⟩ : ∃ K, floorJoinL zs ys = K := ⟨_, rfl⟩
  rw [hK] at H1 p1 p2 p3 p4 p5 ⊢
  have q1 : IntKind.i64.wrap ((zs.length : Int) - 1) = (zs.length : Int) - 1 := IntWalk.i64_in _ (by omega)
  have q2 : IntKind.i64.wrap ((ys.length : Int) - 1) = (ys.length : Int) - 1 := IntWalk.i64_in _ (by omega)
  have q3 : IntKind.i64.wrap ((zs.length : Int) - 1 + ((ys.length : Int) - 1)) = (zs.length : Int) - 1 + ((ys.length : Int) - 1) := IntWalk.i64_in _ (by omega)
  have HX0 := fun W h => implFloorPart_b B1 d1 K 0 ((zs.length : Int) - 1) W h
  rw [p1, p2] at HX0
  have HY0 := fun W h => implFloorPart_b B1 d1 K ((zs.length : Int) - 1) ((zs.length : Int) - 1 + ((ys.length : Int) - 1)) W h
  rw [p3, p4] at HY0
  have HU0 := fun W h => implFloorLength_b B1 d1 K 0 ((zs.length : Int) - 1 + ((ys.length : Int) - 1)) W h
  have HV0 := fun W h => implFloorLength_b B d zs 0 ((zs.length : Int) - 1) W h
  have HW0 := fun W h => implFloorLength_b Bp dp ys 0 ((ys.length : Int) - 1) W h
  rw [p5] at HU0
  obtain ⟨u, hu⟩ : ∃ u, floorLengthI zs 0 ((zs.length : Int) - 1) = u := ⟨_, rfl⟩
  obtain ⟨v, hv2⟩ : ∃ v, floorLengthI ys 0 ((ys.length : Int) - 1) = v := ⟨_, rfl⟩
  rw [hu] at HU0 HV0 hb1
  rw [hv2] at HU0 HW0 hb2
  have HX := Lib.hid HX0
  have HY := Lib.hid HY0
  have HU := Lib.hid HU0
  have HV := Lib.hid HV0
  have HW := Lib.hid HW0
  have q4 : IntKind.i64.wrap (u + v) = u + v := IntWalk.i64_in _ (by omega)
  have b1 : (u + v == u + v) = true := by simp
  clear HX0 HY0 HU0 HV0 HW0 p1 p2 p3 p4 p5 hx hy hj vx vy hK hu hv2 hv hb1 hb2
  go_wp2_with fail
  refine (HX.out _ H1.out).mono ?_
  rintro e w7 ⟨B3, d3, rfl, ra, _, hb7⟩
  replace Ha := Lib.hid (Ha.out.go hb7)
  replace Hp := Lib.hid (Hp.out.go hb7)
  replace H1 := Lib.hid (H1.out.go hb7)
  replace Bt := Lib.hid (below_step Bt.out hb7)
  have H3 := Lib.hid ra
  clear ra hb7
  dsimp only [id]
  go_wp2_with fail
  refine (HY.out _ H1.out).mono ?_
  rintro e w8 ⟨B4, d4, rfl, ra, _, hb8⟩
  replace Ha := Lib.hid (Ha.out.go hb8)
  replace Hp := Lib.hid (Hp.out.go hb8)
  replace H1 := Lib.hid (H1.out.go hb8)
  replace H3 := Lib.hid (H3.out.go hb8)
  replace Bt := Lib.hid (below_step Bt.out hb8)
  have H4 := Lib.hid ra
  clear ra hb8
  dsimp only [id]
  go_wp2_with fail
  refine (sameInts_c _ _ _ _ _ _ _ H3.out Ha.out).mono ?_
  rintro e w9 ⟨rfl, q9, hq9⟩
  rw [decide_eq_true rfl]
  have hb9 := below_of_drew hq9
  clear hq9
  replace Ha := Lib.hid (Ha.out.go hb9)
  replace Hp := Lib.hid (Hp.out.go hb9)
  replace H1 := Lib.hid (H1.out.go hb9)
  replace H3 := Lib.hid (H3.out.go hb9)
  replace H4 := Lib.hid (H4.out.go hb9)
  replace Bt := Lib.hid (below_step Bt.out hb9)
  clear hb9
  go_wp2_with fail
  refine (sameInts_c _ _ _ _ _ _ _ H4.out Hp.out).mono ?_
  rintro e w10 ⟨rfl, q10, hq10⟩
  rw [decide_eq_true rfl]
  have hb10 := below_of_drew hq10
  clear hq10
  replace Ha := Lib.hid (Ha.out.go hb10)
  replace Hp := Lib.hid (Hp.out.go hb10)
  replace H1 := Lib.hid (H1.out.go hb10)
  replace H3 := Lib.hid (H3.out.go hb10)
  replace H4 := Lib.hid (H4.out.go hb10)
  replace Bt := Lib.hid (below_step Bt.out hb10)
  clear hb10
  go_wp2_with fail
  refine (HU.out _ H1.out).mono ?_
  rintro e w11 ⟨rfl, hb11⟩
  replace Ha := Lib.hid (Ha.out.go hb11)
  replace Hp := Lib.hid (Hp.out.go hb11)
  replace H1 := Lib.hid (H1.out.go hb11)
  replace H3 := Lib.hid (H3.out.go hb11)
  replace H4 := Lib.hid (H4.out.go hb11)
  replace Bt := Lib.hid (below_step Bt.out hb11)
  clear hb11
  dsimp only
  go_wp2_with fail
  refine (HV.out _ Ha.out).mono ?_
  rintro e w12 ⟨rfl, hb12⟩
  replace Ha := Lib.hid (Ha.out.go hb12)
  replace Hp := Lib.hid (Hp.out.go hb12)
  replace H1 := Lib.hid (H1.out.go hb12)
  replace H3 := Lib.hid (H3.out.go hb12)
  replace H4 := Lib.hid (H4.out.go hb12)
  replace Bt := Lib.hid (below_step Bt.out hb12)
  clear hb12
  dsimp only
  go_wp2_with fail
  refine (HW.out _ Hp.out).mono ?_
  rintro e w13 ⟨rfl, hb13⟩
  replace Ha := Lib.hid (Ha.out.go hb13)
  replace Hp := Lib.hid (Hp.out.go hb13)
  replace H1 := Lib.hid (H1.out.go hb13)
  replace H3 := Lib.hid (H3.out.go hb13)
  replace H4 := Lib.hid (H4.out.go hb13)
  replace Bt := Lib.hid (below_step Bt.out hb13)
  clear hb13
  dsimp only
  go_wp2
  go_ret
  exact ⟨rfl, Bt.out⟩

set_option maxRecDepth 100000 in
theorem fnJoin_walk (A0 : Option Addr) (n0 c0 : Nat) (w : World) (hb0 : Byt0 w A0 n0 c0) :
    Calls Try.prog 4 #[.slice A0 n0 c0] w (RetB (.bool true) w) := by
  by_cases hl0 : 1048576 < n0
  · clear hb0
    go_enter Try.func4, Try.ntmps4
    go_wp2
    go_ret
    exact ⟨rfl, Below.refl _ _⟩
  exact fnJoin_in A0 n0 c0 w (by omega) hb0.1 hb0.2.2

set_option maxRecDepth 100000 in
theorem fnJoin_lifted (os : Os) (started : os.Started) (H : Type) (enc : TypeId × Value → H) :
    ReturnsInHanded {} Try.checked os 4 .any (Rows.fnJoinSpec.pre6 enc Try.prog Try.f4 Rows.fnJoinRow.domain false) (Rows.fnJoinSpec.post enc Try.prog Try.f4 false true false false) := by
  refine returnsInHanded_of_change (C := Try.checked) row_own started (by kernel_rfl) Try.func4
    (ChangeSpec.witness6 (enc := enc) (C := Try.checked) false ⟨#[], #[.slice none 0 0], []⟩ 8 (by kernel_rfl) (by kernel_rfl) (by kernel_rfl) (by kernel_rfl)) ?_
  intro W base args ds gs before hval0 hW hcnd _
  have hval : ∀ (j : Nat) t v, Try.f4.params[j]? = some t → args[j]? = some v → Value.okWide Try.prog W .any base t v := hval0
  have hW' := hW
  obtain ⟨p, q, hA0, hV, rfl, _, _⟩ := hW
  have hA : DataW.TrodAll enc Try.prog W 0 (fun _ => true) true Try.f4.params.toList args.toList ds p := hA0
  rw [Try.params4] at hA hval
  obtain ⟨v0, vs0, d0, ds0, p0, q0, hargs, rfl, rfl, h0, r0⟩ := trodAll_cons hA
  obtain ⟨rfl, rfl, rfl⟩ := trodAll_nil r0
  obtain rfl : args = #[v0] := by cases args; simp_all
  obtain ⟨rfl, rfl⟩ := trodVars_none hV
  have hlt0 : ∀ x ∈ p0, x.block < W.heap.size := fun x hx => by exact hW'.lt x (by simp [hx])
  obtain ⟨A0, n0, c0, rfl, hb0⟩ := open_bytes (hval 0 22 v0 rfl rfl) h0 hlt0
  clear hA0 hval0
  refine (fnJoin_walk A0 n0 c0 W hb0).mono fun e W' ⟨he, hb⟩ => ?_
  subst he
  exact ⟨_, rfl, _, _, _, [], _, [], hW', (trodAll_cons_mk (shut_bool Try.underlying4 _) trodAll_mk0), (trodAll_cons_mk (read_again_bytes h0 hlt0 hb) trodAll_mk0), rfl, hb.frame _, fun h => by cases h⟩

set_option maxRecDepth 100000 in
theorem fnJoin_closed : joinedFacts Try.prog 4 Try.f4 Rows.fnJoinSpec Rows.fnJoinRow = true := by
  unfold joinedFacts
  repeat' (with_reducible apply facAnd)
  all_goals first | (with_reducible exact facEnter) | (with_reducible exact facLaid) | (with_reducible exact facMaps) | (with_reducible exact facStops) | (with_reducible exact facKnobs) | (with_reducible exact facHeard) | (rw [facLifts]; as_aux_lemma => kernel_rfl) | (rw [facMake]; as_aux_lemma => kernel_rfl) | (as_aux_lemma => kernel_rfl)

/-- THE STATEMENT -/
theorem fnJoin_holds : Rows.FnJoinSaid :=
  OpenClaim.holds_of_wide 4 Try.f4 rfl rfl rfl rfl rfl rfl rfl ⟨rfl, rfl, rfl, rfl, rfl⟩ rfl rfl rfl rfl rfl (by kernel_rfl) Try.func4 fnJoin_closed
    (of_decide_eq_true (by kernel_rfl)) (by unfold Func.isWrapper; first | (rw [if_pos (by decide +kernel)]; kernel_rfl) | (rw [if_neg (by decide +kernel)]; exact ⟨rfl, rfl⟩))
    (fun os started H enc _ => fnJoin_lifted os started H enc)
#print axioms fnJoin_holds
end Go.Proofs.Ytndpdoiomoefpaa
