/-
  The exact law of LiftMany: for all arguments the law answers true. No condition.
  (Written by a program of mine, gen9.py.)
-/
import Derived.Test.YtjboamhjfncgdaaBaseK
import Derived.Test.YtjboamhjfncgdaaBaseKD
import Derived.Test.YtjboamhjfncgdaaRowK
import Derived.Test.YtjboamhjfncgdaaRow
import Derived.ChangeMaps5
import Derived.Test.YtjboamhjfncgdaaFac
import Derived.Test.YtjboamhjfncgdaaRtPm
import Derived.Test.YtjboamhjfncgdaaRtPs
namespace Go.Proofs.Ytjboamhjfncgdaa
open Go.ChangeShapes Go.WideShapes Go.ChangeAt Go.RowKit Go.ChangeMaps

set_option maxRecDepth 100000 in
set_option maxHeartbeats 2000000 in
theorem exLiftMany_in (A0 : Option Addr) (c0 : Nat) (z0 : List Rot) (w : World) (ha0 : ArgK w A0 c0 z0) (hl : z0.length ≤ 1048576) :
    Calls Try.prog 12 #[.slice A0 z0.length c0] w (RetB (.bool true) w) := by
  have Ha0 := Lib.hid ha0.held
  clear ha0
  have Bt := Lib.hid (Below.refl w.heap.size w)
  go_enter Try.func12, Try.ntmps12
  go_wp2_with fail
  refine (szRouteS_yes A0 c0 z0.length (1048576) _ (by omega) (by omega)).mono ?_
  rintro e w9 ⟨rfl, rfl⟩
  go_wp2_with fail
  refine (toRouteS_c A0 c0 z0 _ Ha0.out.arg).mono ?_
  rintro e u1 ⟨B1, d1, rfl, ra1, ro1, rb1⟩
  dsimp only [id]
  have sz1 := rb1.size
  replace Ha0 := Lib.hid (Ha0.out.go rb1)
  replace Bt := Lib.hid (below_step Bt.out rb1)
  have Hx1 := Lib.hid (ro1.held (Nat.le_refl _) ra1.len)
  have Ox1 := Lib.hid ro1
  clear ra1 ro1 rb1
  go_wp2_with fail
  refine (specLiftMany_b _ _ _ _  Hx1.out.arg).mono ?_
  rintro e u2 ⟨rfl, rb2⟩
  have sz2 := rb2.size
  replace Ha0 := Lib.hid (Ha0.out.go rb2)
  replace Hx1 := Lib.hid (Hx1.out.go rb2)
  replace Ox1 := Lib.hid (Ox1.out.go rb2 (by omega))
  replace Bt := Lib.hid (below_step Bt.out rb2)
  clear rb2
  clear Hx1 Ox1
  go_wp2_with fail
  refine (toRouteS_c A0 c0 z0 _ Ha0.out.arg).mono ?_
  rintro e u3 ⟨B3, d3, rfl, ra3, ro3, rb3⟩
  dsimp only [id]
  have sz3 := rb3.size
  replace Ha0 := Lib.hid (Ha0.out.go rb3)
  replace Bt := Lib.hid (below_step Bt.out rb3)
  have Hx3 := Lib.hid (ro3.held (Nat.le_refl _) ra3.len)
  have Ox3 := Lib.hid ro3
  clear ra3 ro3 rb3
  go_wp2_with fail
  refine (implLiftMany_b _ _ _ _  Hx3.out.arg).mono ?_
  rintro e u4 ⟨rfl, rb4⟩
  have sz4 := rb4.size
  replace Ha0 := Lib.hid (Ha0.out.go rb4)
  replace Hx3 := Lib.hid (Hx3.out.go rb4)
  replace Ox3 := Lib.hid (Ox3.out.go rb4 (by omega))
  replace Bt := Lib.hid (below_step Bt.out rb4)
  clear rb4
  go_wp2_with fail
  refine (toRouteS_c A0 c0 z0 _ Ha0.out.arg).mono ?_
  rintro e u5 ⟨B5, d5, rfl, ra5, ro5, rb5⟩
  dsimp only [id]
  have sz5 := rb5.size
  replace Ha0 := Lib.hid (Ha0.out.go rb5)
  replace Hx3 := Lib.hid (Hx3.out.go rb5)
  replace Ox3 := Lib.hid (Ox3.out.go rb5 (by omega))
  replace Bt := Lib.hid (below_step Bt.out rb5)
  have Hx5 := Lib.hid (ro5.held (Nat.le_refl _) ra5.len)
  have Ox5 := Lib.hid ro5
  clear ra5 ro5 rb5
  go_wp2_with fail
  refine (eqRouteS_c B3 B5 d3 d5 z0 z0 _ Hx3.out.arg Hx5.out.arg).mono ?_
  rintro e u6 ⟨rfl, rb6⟩
  have sz6 := rb6.size
  replace Ha0 := Lib.hid (Ha0.out.go rb6)
  replace Hx3 := Lib.hid (Hx3.out.go rb6)
  replace Hx5 := Lib.hid (Hx5.out.go rb6)
  replace Ox3 := Lib.hid (Ox3.out.go rb6 (by omega))
  replace Ox5 := Lib.hid (Ox5.out.go rb6 (by omega))
  replace Bt := Lib.hid (below_step Bt.out rb6)
  clear rb6
  clear Hx5 Ox5
  go_wp2
  go_ret
  exact ⟨rfl, Bt.out⟩

theorem exLiftMany_walk (A0 : Option Addr) (c0 : Nat) (z0 : List Rot) (w : World) (ha0 : ArgK0 w A0 c0 z0) :
    Calls Try.prog 12 #[.slice A0 z0.length c0] w (RetB (.bool true) w) := by
  by_cases hl0 : 1048576 < z0.length
  · have hc0 := ha0.1
    have hm0 := ha0.2.1
    have hk0 : (1048576 : Int) < (z0.length : Int) := by omega
    clear ha0
    go_enter Try.func12, Try.ntmps12
    go_wp2_with fail
    refine (szRouteS_no A0 c0 z0.length (1048576) _ hk0 (by omega) hc0 hm0).mono ?_
    rintro e w9 ⟨rfl, rfl⟩
    go_wp2
    go_ret
    exact ⟨rfl, Below.refl _ _⟩
  exact exLiftMany_in A0 c0 z0 w (ha0.arg (by omega)) (by omega)

set_option maxRecDepth 100000 in
theorem exLiftMany_lifted (os : Os) (started : os.Started) (H : Type) (enc : TypeId × Value → H) :
    ReturnsInHanded {} Try.checked os 12 .any (Rows.fnExactLiftManySpec.pre6 enc Try.prog Try.f12 Rows.fnExactLiftManyRow.domain false) (Rows.fnExactLiftManySpec.post enc Try.prog Try.f12 false true false false) := by
  refine returnsInHanded_of_change (C := Try.checked) row_own started (by kernel_rfl) Try.func12
    (ChangeSpec.witness6 (enc := enc) (C := Try.checked) false ⟨#[], #[.slice none 0 0], []⟩ 8 (by kernel_rfl) (by kernel_rfl) (by kernel_rfl) (by kernel_rfl)) ?_
  intro W base args ds gs before hval0 hW hcnd _
  have hval : ∀ (j : Nat) t v, Try.f12.params[j]? = some t → args[j]? = some v → Value.okWide Try.prog W .any base t v := hval0
  have hW' := hW
  obtain ⟨p, q, hA0, hV, rfl, _, _⟩ := hW
  have hA : DataW.TrodAll enc Try.prog W 0 (fun _ => true) true Try.f12.params.toList args.toList ds p := hA0
  rw [Try.params12] at hA hval
  obtain ⟨v0, vs0, d0, ds0, p0, q0, hargs, rfl, rfl, h0, r0⟩ := trodAll_cons hA
  obtain ⟨rfl, rfl, rfl⟩ := trodAll_nil r0
  obtain rfl : args = #[v0] := by cases args; simp_all
  obtain ⟨rfl, rfl⟩ := trodVars_none hV
  have hlt0 : ∀ x ∈ p0, x.block < W.heap.size := fun x hx => by exact hW'.lt x (by simp [hx])
  obtain ⟨A0, c0, z0, rfl, ha0⟩ := open_rots (hval 0 38 v0 rfl rfl) h0 hlt0
  clear hA0 hval0
  refine (exLiftMany_walk A0 c0 z0 W ha0).mono fun e W' ⟨he, hb⟩ => ?_
  subst he
  exact ⟨_, rfl, _, _, _, [], _, [], hW', (trodAll_cons_mk (shut_bool Try.underlying4 _) trodAll_mk0), (trodAll_cons_mk (read_again_rots h0 hlt0 hb) trodAll_mk0), rfl, hb.frame _, fun h => by cases h⟩

set_option maxRecDepth 100000 in
theorem exLiftMany_closed : joinedFacts Try.prog 12 Try.f12 Rows.fnExactLiftManySpec Rows.fnExactLiftManyRow = true := by
  unfold joinedFacts
  repeat' (with_reducible apply facAnd)
  all_goals first | (with_reducible exact facEnter) | (with_reducible exact facLaid) | (with_reducible exact facMaps) | (with_reducible exact facStops) | (with_reducible exact facKnobs) | (with_reducible exact facHeard) | (rw [facLifts]; as_aux_lemma => kernel_rfl) | (rw [facMake]; as_aux_lemma => kernel_rfl) | (as_aux_lemma => kernel_rfl)

/-- THE STATEMENT -/
theorem exLiftMany_holds : Rows.FnExactLiftManySaid :=
  OpenClaim.holds_of_wide 12 Try.f12 rfl rfl rfl rfl rfl rfl rfl ⟨rfl, rfl, rfl, rfl, rfl⟩ rfl rfl rfl rfl rfl (by kernel_rfl) Try.func12 exLiftMany_closed
    (of_decide_eq_true (by kernel_rfl)) (by unfold Func.isWrapper; first | (rw [if_pos (by decide +kernel)]; kernel_rfl) | (rw [if_neg (by decide +kernel)]; exact ⟨rfl, rfl⟩))
    (fun os started H enc _ => exLiftMany_lifted os started H enc)
#print axioms exLiftMany_holds
end Go.Proofs.Ytjboamhjfncgdaa
