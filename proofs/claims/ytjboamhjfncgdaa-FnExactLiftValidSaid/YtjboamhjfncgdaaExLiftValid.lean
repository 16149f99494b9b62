/-
  The exact law of LiftValid: for all arguments the law answers true. No condition.
  (Written by a program of mine, gen9.py.)
-/
import Derived.Test.YtjboamhjfncgdaaBaseK
import Derived.Test.YtjboamhjfncgdaaBaseKD
import Derived.Test.YtjboamhjfncgdaaRowK
import Derived.Test.YtjboamhjfncgdaaBase
import Derived.Test.YtjboamhjfncgdaaRow
import Derived.ChangeMaps5
import Derived.Test.YtjboamhjfncgdaaFac
import Derived.Test.YtjboamhjfncgdaaRtL
import Derived.Test.YtjboamhjfncgdaaRtFs
namespace Go.Proofs.Ytjboamhjfncgdaa
open Go.ChangeShapes Go.WideShapes Go.ChangeAt Go.RowKit Go.ChangeMaps

set_option maxRecDepth 100000 in
set_option maxHeartbeats 2000000 in
theorem exLiftValid_in (A0 : Option Addr) (c0 : Nat) (z0 : List Rot) (A1 : Option Addr) (c1 : Nat) (z1 : List Int) (w : World) (ha0 : ArgK w A0 c0 z0) (ha1 : Arg w A1 c1 z1) (hl1 : z1.length ≤ 1048576) (hl : z0.length ≤ 1048576) :
    Calls Try.prog 10 #[.slice A0 z0.length c0, .slice A1 z1.length c1] w (RetB (.bool true) w) := by
  have Ha0 := Lib.hid ha0.held
  clear ha0
  have Ha1 := Lib.hid ha1.held
  clear ha1
  have gN1 : (z1.length : Int) ≤ 1048576 := by omega
  have Bt := Lib.hid (Below.refl w.heap.size w)
  go_enter Try.func10, Try.ntmps10
  go_wp2_with fail
  refine (szRouteS_yes A0 c0 z0.length (1048576) _ (by omega) (by omega)).mono ?_
  rintro e w9 ⟨rfl, rfl⟩
  go_wp2_with fail
  refine (toRouteS_c A0 c0 z0 _ Ha0.out.arg).mono ?_
  rintro e u1 ⟨B1, d1, rfl, ra1, ro1, rb1⟩
  dsimp only [id]
  have sz1 := rb1.size
  replace Ha0 := Lib.hid (Ha0.out.go rb1)
  replace Ha1 := Lib.hid (Ha1.out.go rb1)
  replace Bt := Lib.hid (below_step Bt.out rb1)
  have Hx1 := Lib.hid (ro1.held (Nat.le_refl _) ra1.len)
  have Ox1 := Lib.hid ro1
  clear ra1 ro1 rb1
  go_wp2_with fail
  refine (toIntS_c A1 c1 z1 _ Ha1.out.arg).mono ?_
  rintro e u2 ⟨B2, d2, rfl, ra2, ro2, rb2⟩
  dsimp only [id]
  have sz2 := rb2.size
  replace Ha0 := Lib.hid (Ha0.out.go rb2)
  replace Ha1 := Lib.hid (Ha1.out.go rb2)
  replace Hx1 := Lib.hid (Hx1.out.go rb2)
  replace Ox1 := Lib.hid (Ox1.out.go rb2 (by omega))
  replace Bt := Lib.hid (below_step Bt.out rb2)
  have Hx2 := Lib.hid (ro2.held (Nat.le_refl _) ra2.len)
  have Ox2 := Lib.hid ro2
  clear ra2 ro2 rb2
  go_wp2_with fail
  refine (specLiftValid_b _ _ _ _ _ _ _  Hx1.out.arg Hx2.out.arg).mono ?_
  rintro e u3 ⟨rfl, rb3⟩
  have sz3 := rb3.size
  replace Ha0 := Lib.hid (Ha0.out.go rb3)
  replace Ha1 := Lib.hid (Ha1.out.go rb3)
  replace Hx1 := Lib.hid (Hx1.out.go rb3)
  replace Hx2 := Lib.hid (Hx2.out.go rb3)
  replace Ox1 := Lib.hid (Ox1.out.go rb3 (by omega))
  replace Ox2 := Lib.hid (Ox2.out.go rb3 (by omega))
  replace Bt := Lib.hid (below_step Bt.out rb3)
  clear rb3
  clear Hx1 Ox1
  clear Hx2 Ox2
  go_wp2_with fail
  refine (toRouteS_c A0 c0 z0 _ Ha0.out.arg).mono ?_
  rintro e u4 ⟨B4, d4, rfl, ra4, ro4, rb4⟩
  dsimp only [id]
  have sz4 := rb4.size
  replace Ha0 := Lib.hid (Ha0.out.go rb4)
  replace Ha1 := Lib.hid (Ha1.out.go rb4)
  replace Bt := Lib.hid (below_step Bt.out rb4)
  have Hx4 := Lib.hid (ro4.held (Nat.le_refl _) ra4.len)
  have Ox4 := Lib.hid ro4
  clear ra4 ro4 rb4
  go_wp2_with fail
  refine (toIntS_c A1 c1 z1 _ Ha1.out.arg).mono ?_
  rintro e u5 ⟨B5, d5, rfl, ra5, ro5, rb5⟩
  dsimp only [id]
  have sz5 := rb5.size
  replace Ha0 := Lib.hid (Ha0.out.go rb5)
  replace Ha1 := Lib.hid (Ha1.out.go rb5)
  replace Hx4 := Lib.hid (Hx4.out.go rb5)
  replace Ox4 := Lib.hid (Ox4.out.go rb5 (by omega))
  replace Bt := Lib.hid (below_step Bt.out rb5)
  have Hx5 := Lib.hid (ro5.held (Nat.le_refl _) ra5.len)
  have Ox5 := Lib.hid ro5
  clear ra5 ro5 rb5
  go_wp2_with fail
  refine (implLiftValid_b _ _ _ _ _ _ _  Hx4.out.arg Hx5.out.arg).mono ?_
  rintro e u6 ⟨rfl, rb6⟩
  have sz6 := rb6.size
  replace Ha0 := Lib.hid (Ha0.out.go rb6)
  replace Ha1 := Lib.hid (Ha1.out.go rb6)
  replace Hx4 := Lib.hid (Hx4.out.go rb6)
  replace Hx5 := Lib.hid (Hx5.out.go rb6)
  replace Ox4 := Lib.hid (Ox4.out.go rb6 (by omega))
  replace Ox5 := Lib.hid (Ox5.out.go rb6 (by omega))
  replace Bt := Lib.hid (below_step Bt.out rb6)
  clear rb6
  go_wp2_with fail
  refine (toRouteS_c A0 c0 z0 _ Ha0.out.arg).mono ?_
  rintro e u7 ⟨B7, d7, rfl, ra7, ro7, rb7⟩
  dsimp only [id]
  have sz7 := rb7.size
  replace Ha0 := Lib.hid (Ha0.out.go rb7)
  replace Ha1 := Lib.hid (Ha1.out.go rb7)
  replace Hx4 := Lib.hid (Hx4.out.go rb7)
  replace Hx5 := Lib.hid (Hx5.out.go rb7)
  replace Ox4 := Lib.hid (Ox4.out.go rb7 (by omega))
  replace Ox5 := Lib.hid (Ox5.out.go rb7 (by omega))
  replace Bt := Lib.hid (below_step Bt.out rb7)
  have Hx7 := Lib.hid (ro7.held (Nat.le_refl _) ra7.len)
  have Ox7 := Lib.hid ro7
  clear ra7 ro7 rb7
  go_wp2_with fail
  refine (eqRouteS_c B4 B7 d4 d7 z0 z0 _ Hx4.out.arg Hx7.out.arg).mono ?_
  rintro e u8 ⟨rfl, rb8⟩
  have sz8 := rb8.size
  replace Ha0 := Lib.hid (Ha0.out.go rb8)
  replace Ha1 := Lib.hid (Ha1.out.go rb8)
  replace Hx4 := Lib.hid (Hx4.out.go rb8)
  replace Hx5 := Lib.hid (Hx5.out.go rb8)
  replace Hx7 := Lib.hid (Hx7.out.go rb8)
  replace Ox4 := Lib.hid (Ox4.out.go rb8 (by omega))
  replace Ox5 := Lib.hid (Ox5.out.go rb8 (by omega))
  replace Ox7 := Lib.hid (Ox7.out.go rb8 (by omega))
  replace Bt := Lib.hid (below_step Bt.out rb8)
  clear rb8
  clear Hx7 Ox7
  go_wp2_with fail
  refine (toIntS_c A1 c1 z1 _ Ha1.out.arg).mono ?_
  rintro e u9 ⟨B9, d9, rfl, ra9, ro9, rb9⟩
  dsimp only [id]
  have sz9 := rb9.size
  replace Ha0 := Lib.hid (Ha0.out.go rb9)
  replace Ha1 := Lib.hid (Ha1.out.go rb9)
  replace Hx4 := Lib.hid (Hx4.out.go rb9)
  replace Hx5 := Lib.hid (Hx5.out.go rb9)
  replace Ox4 := Lib.hid (Ox4.out.go rb9 (by omega))
  replace Ox5 := Lib.hid (Ox5.out.go rb9 (by omega))
  replace Bt := Lib.hid (below_step Bt.out rb9)
  have Hx9 := Lib.hid (ro9.held (Nat.le_refl _) ra9.len)
  have Ox9 := Lib.hid ro9
  clear ra9 ro9 rb9
  go_wp2_with fail
  refine (eqIntS_c B5 B9 d5 d9 z1 z1 _ Hx5.out.arg Hx9.out.arg).mono ?_
  intro e0 v0 h0
  replace h0 := h0.toB
  revert e0 v0 h0
  rintro e u10 ⟨rfl, rb10⟩
  have sz10 := rb10.size
  replace Ha0 := Lib.hid (Ha0.out.go rb10)
  replace Ha1 := Lib.hid (Ha1.out.go rb10)
  replace Hx4 := Lib.hid (Hx4.out.go rb10)
  replace Hx5 := Lib.hid (Hx5.out.go rb10)
  replace Hx9 := Lib.hid (Hx9.out.go rb10)
  replace Ox4 := Lib.hid (Ox4.out.go rb10 (by omega))
  replace Ox5 := Lib.hid (Ox5.out.go rb10 (by omega))
  replace Ox9 := Lib.hid (Ox9.out.go rb10 (by omega))
  replace Bt := Lib.hid (below_step Bt.out rb10)
  clear rb10
  clear Hx9 Ox9
  go_wp2
  go_ret
  exact ⟨rfl, Bt.out⟩

theorem exLiftValid_walk (A0 : Option Addr) (c0 : Nat) (z0 : List Rot) (A1 : Option Addr) (c1 : Nat) (z1 : List Int) (w : World) (ha0 : ArgK0 w A0 c0 z0) (ha1 : Arg0 w A1 c1 z1) :
    Calls Try.prog 10 #[.slice A0 z0.length c0, .slice A1 z1.length c1] w (RetB (.bool true) w) := by
  by_cases hlN1 : 1048576 < z1.length
  · have hk1 : ¬ (z1.length : Int) ≤ 1048576 := by omega
    have hj1 : (1048576 : Int) < (z1.length : Int) := by omega
    clear ha0 ha1
    go_enter Try.func10, Try.ntmps10
    go_wp2
    go_ret
    exact ⟨rfl, Below.refl _ _⟩
  have gN1 : (z1.length : Int) ≤ 1048576 := by omega
  by_cases hl0 : 1048576 < z0.length
  · have hc0 := ha0.1
    have hm0 := ha0.2.1
    have hk0 : (1048576 : Int) < (z0.length : Int) := by omega
    clear ha0 ha1
    go_enter Try.func10, Try.ntmps10
    go_wp2_with fail
    refine (szRouteS_no A0 c0 z0.length (1048576) _ hk0 (by omega) hc0 hm0).mono ?_
    rintro e w9 ⟨rfl, rfl⟩
    go_wp2
    go_ret
    exact ⟨rfl, Below.refl _ _⟩
  exact exLiftValid_in A0 c0 z0 A1 c1 z1 w (ha0.arg (by omega)) (ha1.arg (by omega)) (by omega) (by omega)

set_option maxRecDepth 100000 in
theorem exLiftValid_lifted (os : Os) (started : os.Started) (H : Type) (enc : TypeId × Value → H) :
    ReturnsInHanded {} Try.checked os 10 .any (Rows.fnExactLiftValidSpec.pre6 enc Try.prog Try.f10 Rows.fnExactLiftValidRow.domain false) (Rows.fnExactLiftValidSpec.post enc Try.prog Try.f10 false true false false) := by
  refine returnsInHanded_of_change (C := Try.checked) row_own started (by kernel_rfl) Try.func10
    (ChangeSpec.witness6 (enc := enc) (C := Try.checked) false ⟨#[], #[.slice none 0 0, .slice none 0 0], []⟩ 8 (by kernel_rfl) (by kernel_rfl) (by kernel_rfl) (by kernel_rfl)) ?_
  intro W base args ds gs before hval0 hW hcnd _
  have hval : ∀ (j : Nat) t v, Try.f10.params[j]? = some t → args[j]? = some v → Value.okWide Try.prog W .any base t v := hval0
  have hW' := hW
  obtain ⟨p, q, hA0, hV, rfl, _, _⟩ := hW
  have hA : DataW.TrodAll enc Try.prog W 0 (fun _ => true) true Try.f10.params.toList args.toList ds p := hA0
  rw [Try.params10] at hA hval
  obtain ⟨v0, vs0, d0, ds0, p0, q0, hargs, rfl, rfl, h0, r0⟩ := trodAll_cons hA
  obtain ⟨v1, vs1, d1, ds1, p1, q1, rfl, rfl, rfl, h1, r1⟩ := trodAll_cons r0
  obtain ⟨rfl, rfl, rfl⟩ := trodAll_nil r1
  obtain rfl : args = #[v0, v1] := by cases args; simp_all
  obtain ⟨rfl, rfl⟩ := trodVars_none hV
  have hlt0 : ∀ x ∈ p0, x.block < W.heap.size := fun x hx => by exact hW'.lt x (by simp [hx])
  obtain ⟨A0, c0, z0, rfl, ha0⟩ := open_rots (hval 0 38 v0 rfl rfl) h0 hlt0
  have hlt1 : ∀ x ∈ p1, x.block < W.heap.size := fun x hx => by exact hW'.lt x (by simp [hx])
  obtain ⟨A1, c1, z1, rfl, ha1⟩ := open_slice (hval 1 25 v1 rfl rfl) h1 hlt1
  clear hA0 hval0
  refine (exLiftValid_walk A0 c0 z0 A1 c1 z1 W ha0 ha1).mono fun e W' ⟨he, hb⟩ => ?_
  subst he
  exact ⟨_, rfl, _, _, _, [], _, [], hW', (trodAll_cons_mk (shut_bool Try.underlying4 _) trodAll_mk0), (trodAll_cons_mk (read_again_rots h0 hlt0 hb) (trodAll_cons_mk (read_again h1 hlt1 hb) trodAll_mk0)), rfl, hb.frame _, fun h => by cases h⟩

set_option maxRecDepth 100000 in
theorem exLiftValid_closed : joinedFacts Try.prog 10 Try.f10 Rows.fnExactLiftValidSpec Rows.fnExactLiftValidRow = true := by
  unfold joinedFacts
  repeat' (with_reducible apply facAnd)
  all_goals first | (with_reducible exact facEnter) | (with_reducible exact facLaid) | (with_reducible exact facMaps) | (with_reducible exact facStops) | (with_reducible exact facKnobs) | (with_reducible exact facHeard) | (rw [facLifts]; as_aux_lemma => kernel_rfl) | (rw [facMake]; as_aux_lemma => kernel_rfl) | (as_aux_lemma => kernel_rfl)

/-- THE STATEMENT -/
theorem exLiftValid_holds : Rows.FnExactLiftValidSaid :=
  OpenClaim.holds_of_wide 10 Try.f10 rfl rfl rfl rfl rfl rfl rfl ⟨rfl, rfl, rfl, rfl, rfl⟩ rfl rfl rfl rfl rfl (by kernel_rfl) Try.func10 exLiftValid_closed
    (of_decide_eq_true (by kernel_rfl)) (by unfold Func.isWrapper; first | (rw [if_pos (by decide +kernel)]; kernel_rfl) | (rw [if_neg (by decide +kernel)]; exact ⟨rfl, rfl⟩))
    (fun os started H enc _ => exLiftValid_lifted os started H enc)
#print axioms exLiftValid_holds
end Go.Proofs.Ytjboamhjfncgdaa
