/-
  The exact law of RouteClear: for all arguments the law answers true. No condition.
  (Written by a program of mine, gen9.py.)
-/
import Derived.Test.YtjboamhjfncgdaaBaseK
import Derived.Test.YtjboamhjfncgdaaBaseKD
import Derived.Test.YtjboamhjfncgdaaRowK
import Derived.Test.YtjboamhjfncgdaaRow
import Derived.ChangeMaps5
import Derived.Test.YtjboamhjfncgdaaFac
import Derived.Test.YtjboamhjfncgdaaRtK
import Derived.Test.YtjboamhjfncgdaaRtKs
namespace Go.Proofs.Ytjboamhjfncgdaa
open Go.ChangeShapes Go.WideShapes Go.ChangeAt Go.RowKit Go.ChangeMaps

set_option maxRecDepth 100000 in
set_option maxHeartbeats 2000000 in
theorem exRouteClear_in (A0 : Option Addr) (c0 : Nat) (z0 : List Rot) (n1 : Int) (w : World) (ha0 : ArgK w A0 c0 z0) (hl : z0.length ≤ 1048576) :
    Calls Try.prog 9 #[.slice A0 z0.length c0, .int .i64 n1] w (RetB (.bool true) w) := by
  have Ha0 := Lib.hid ha0.held
  clear ha0
  have Bt := Lib.hid (Below.refl w.heap.size w)
  go_enter Try.func9, Try.ntmps9
  go_wp2_with fail
  refine (szRouteS_yes A0 c0 z0.length (1048576) _ (by omega) (by omega)).mono ?_
  rintro e w9 ⟨rfl, rfl⟩
  go_wp2_with fail
  refine (toRouteS_c A0 c0 z0 _ Ha0.out.arg).mono ?_
  rintro e u1 ⟨B1, d1, rfl, ra1, ro1, rb1⟩
  dsimp only [id]
  have sz1 := rb1.size
  replace Ha0 := Lib.hid (Ha0.out.go rb1)
  replace Bt := Lib.hid (below_step Bt.out rb1)
  have Hx1 := Lib.hid (ro1.held (Nat.le_refl _) ra1.len)
  have Ox1 := Lib.hid ro1
  clear ra1 ro1 rb1
  go_wp2_with fail
  refine (specRouteClear_b _ _ _ _ _  Hx1.out.arg).mono ?_
  rintro e u2 ⟨rfl, rb2⟩
  have sz2 := rb2.size
  replace Ha0 := Lib.hid (Ha0.out.go rb2)
  replace Hx1 := Lib.hid (Hx1.out.go rb2)
  replace Ox1 := Lib.hid (Ox1.out.go rb2 (by omega))
  replace Bt := Lib.hid (below_step Bt.out rb2)
  clear rb2
  clear Hx1 Ox1
  go_wp2_with fail
  refine (toRouteS_c A0 c0 z0 _ Ha0.out.arg).mono ?_
  rintro e u3 ⟨B3, d3, rfl, ra3, ro3, rb3⟩
  dsimp only [id]
  have sz3 := rb3.size
  replace Ha0 := Lib.hid (Ha0.out.go rb3)
  replace Bt := Lib.hid (below_step Bt.out rb3)
  have Hx3 := Lib.hid (ro3.held (Nat.le_refl _) ra3.len)
  have Ox3 := Lib.hid ro3
  clear ra3 ro3 rb3
  go_wp2_with fail
  refine (implRouteClear_b _ _ _ _ _  Hx3.out.arg).mono ?_
  rintro e u4 ⟨rfl, rb4⟩
  have sz4 := rb4.size
  replace Ha0 := Lib.hid (Ha0.out.go rb4)
  replace Hx3 := Lib.hid (Hx3.out.go rb4)
  replace Ox3 := Lib.hid (Ox3.out.go rb4 (by omega))
  replace Bt := Lib.hid (below_step Bt.out rb4)
  clear rb4
  go_wp2_with fail
  refine (toRouteS_c A0 c0 z0 _ Ha0.out.arg).mono ?_
  rintro e u5 ⟨B5, d5, rfl, ra5, ro5, rb5⟩
  dsimp only [id]
  have sz5 := rb5.size
  replace Ha0 := Lib.hid (Ha0.out.go rb5)
  replace Hx3 := Lib.hid (Hx3.out.go rb5)
  replace Ox3 := Lib.hid (Ox3.out.go rb5 (by omega))
  replace Bt := Lib.hid (below_step Bt.out rb5)
  have Hx5 := Lib.hid (ro5.held (Nat.le_refl _) ra5.len)
  have Ox5 := Lib.hid ro5
  clear ra5 ro5 rb5
  go_wp2_with fail
  refine (eqRouteS_c B3 B5 d3 d5 z0 z0 _ Hx3.out.arg Hx5.out.arg).mono ?_
  rintro e u6 ⟨rfl, rb6⟩
  have sz6 := rb6.size
  replace Ha0 := Lib.hid (Ha0.out.go rb6)
  replace Hx3 := Lib.hid (Hx3.out.go rb6)
  replace Hx5 := Lib.hid (Hx5.out.go rb6)
  replace Ox3 := Lib.hid (Ox3.out.go rb6 (by omega))
  replace Ox5 := Lib.hid (Ox5.out.go rb6 (by omega))
  replace Bt := Lib.hid (below_step Bt.out rb6)
  clear rb6
  clear Hx5 Ox5
  go_wp2
  go_ret
  exact ⟨rfl, Bt.out⟩

theorem exRouteClear_walk (A0 : Option Addr) (c0 : Nat) (z0 : List Rot) (n1 : Int) (w : World) (ha0 : ArgK0 w A0 c0 z0) :
    Calls Try.prog 9 #[.slice A0 z0.length c0, .int .i64 n1] w (RetB (.bool true) w) := by
  by_cases hl0 : 1048576 < z0.length
  · have hc0 := ha0.1
    have hm0 := ha0.2.1
    have hk0 : (1048576 : Int) < (z0.length : Int) := by omega
    clear ha0
    go_enter Try.func9, Try.ntmps9
    go_wp2_with fail
    refine (szRouteS_no A0 c0 z0.length (1048576) _ hk0 (by omega) hc0 hm0).mono ?_
    rintro e w9 ⟨rfl, rfl⟩
    go_wp2
    go_ret
    exact ⟨rfl, Below.refl _ _⟩
  exact exRouteClear_in A0 c0 z0 n1 w (ha0.arg (by omega)) (by omega)

set_option maxRecDepth 100000 in
theorem exRouteClear_lifted (os : Os) (started : os.Started) (H : Type) (enc : TypeId × Value → H) :
    ReturnsInHanded {} Try.checked os 9 .any (Rows.fnExactRouteClearSpec.pre6 enc Try.prog Try.f9 Rows.fnExactRouteClearRow.domain false) (Rows.fnExactRouteClearSpec.post enc Try.prog Try.f9 false true false false) := by
  refine returnsInHanded_of_change (C := Try.checked) row_own started (by kernel_rfl) Try.func9
    (ChangeSpec.witness6 (enc := enc) (C := Try.checked) false ⟨#[], #[.slice none 0 0, .int .i64 0], []⟩ 8 (by kernel_rfl) (by kernel_rfl) (by kernel_rfl) (by kernel_rfl)) ?_
  intro W base args ds gs before hval0 hW hcnd _
  have hval : ∀ (j : Nat) t v, Try.f9.params[j]? = some t → args[j]? = some v → Value.okWide Try.prog W .any base t v := hval0
  have hW' := hW
  obtain ⟨p, q, hA0, hV, rfl, _, _⟩ := hW
  have hA : DataW.TrodAll enc Try.prog W 0 (fun _ => true) true Try.f9.params.toList args.toList ds p := hA0
  rw [Try.params9] at hA hval
  obtain ⟨v0, vs0, d0, ds0, p0, q0, hargs, rfl, rfl, h0, r0⟩ := trodAll_cons hA
  obtain ⟨v1, vs1, d1, ds1, p1, q1, rfl, rfl, rfl, h1, r1⟩ := trodAll_cons r0
  obtain ⟨rfl, rfl, rfl⟩ := trodAll_nil r1
  obtain rfl : args = #[v0, v1] := by cases args; simp_all
  obtain ⟨rfl, rfl⟩ := trodVars_none hV
  have hlt0 : ∀ x ∈ p0, x.block < W.heap.size := fun x hx => by exact hW'.lt x (by simp [hx])
  obtain ⟨A0, c0, z0, rfl, ha0⟩ := open_rots (hval 0 38 v0 rfl rfl) h0 hlt0
  obtain ⟨n1, rfl, rfl, rfl, wf1⟩ := open_int Try.underlying3 (hval 1 3 v1 rfl rfl) h1
  clear hA0 hval0
  refine (exRouteClear_walk A0 c0 z0 n1 W ha0).mono fun e W' ⟨he, hb⟩ => ?_
  subst he
  exact ⟨_, rfl, _, _, _, [], _, [], hW', (trodAll_cons_mk (shut_bool Try.underlying4 _) trodAll_mk0), (trodAll_cons_mk (read_again_rots h0 hlt0 hb) (trodAll_cons_mk (shut_int Try.underlying3 wf1) trodAll_mk0)), rfl, hb.frame _, fun h => by cases h⟩

set_option maxRecDepth 100000 in
theorem exRouteClear_closed : joinedFacts Try.prog 9 Try.f9 Rows.fnExactRouteClearSpec Rows.fnExactRouteClearRow = true := by
  unfold joinedFacts
  repeat' (with_reducible apply facAnd)
  all_goals first | (with_reducible exact facEnter) | (with_reducible exact facLaid) | (with_reducible exact facMaps) | (with_reducible exact facStops) | (with_reducible exact facKnobs) | (with_reducible exact facHeard) | (rw [facLifts]; as_aux_lemma => kernel_rfl) | (rw [facMake]; as_aux_lemma => kernel_rfl) | (as_aux_lemma => kernel_rfl)

/-- THE STATEMENT -/
theorem exRouteClear_holds : Rows.FnExactRouteClearSaid :=
  OpenClaim.holds_of_wide 9 Try.f9 rfl rfl rfl rfl rfl rfl rfl ⟨rfl, rfl, rfl, rfl, rfl⟩ rfl rfl rfl rfl rfl (by kernel_rfl) Try.func9 exRouteClear_closed
    (of_decide_eq_true (by kernel_rfl)) (by unfold Func.isWrapper; first | (rw [if_pos (by decide +kernel)]; kernel_rfl) | (rw [if_neg (by decide +kernel)]; exact ⟨rfl, rfl⟩))
    (fun os started H enc _ => exRouteClear_lifted os started H enc)
#print axioms exRouteClear_holds
end Go.Proofs.Ytjboamhjfncgdaa
