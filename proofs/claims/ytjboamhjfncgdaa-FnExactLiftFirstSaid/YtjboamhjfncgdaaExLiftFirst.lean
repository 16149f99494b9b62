/-
  The exact law of LiftFirst: for all arguments the law answers true. No condition.
  (Written by a program of mine, gen9.py.)
-/
import Derived.Test.YtjboamhjfncgdaaBaseK
import Derived.Test.YtjboamhjfncgdaaBaseKD
import Derived.Test.YtjboamhjfncgdaaRowK
import Derived.Test.YtjboamhjfncgdaaBase
import Derived.Test.YtjboamhjfncgdaaRow
import Derived.ChangeMaps5
import Derived.Test.YtjboamhjfncgdaaFac
import Derived.Test.YtjboamhjfncgdaaRtH
import Derived.Test.YtjboamhjfncgdaaRtGs
namespace Go.Proofs.Ytjboamhjfncgdaa
open Go.ChangeShapes Go.WideShapes Go.ChangeAt Go.RowKit Go.ChangeMaps

set_option maxRecDepth 100000 in
set_option maxHeartbeats 2000000 in
theorem exLiftFirst_in (A0 : Option Addr) (c0 : Nat) (z0 : List Rot) (w : World) (ha0 : ArgK w A0 c0 z0) (hl : z0.length ≤ 1048576) :
    Calls Try.prog 11 #[.slice A0 z0.length c0] w (RetB (.bool true) w) := by
  have Ha0 := Lib.hid ha0.held
  clear ha0
  have Bt := Lib.hid (Below.refl w.heap.size w)
  go_enter Try.func11, Try.ntmps11
  go_wp2_with fail
  refine (szRouteS_yes A0 c0 z0.length (1048576) _ (by omega) (by omega)).mono ?_
  rintro e w9 ⟨rfl, rfl⟩
  go_wp2_with fail
  refine (toRouteS_c A0 c0 z0 _ Ha0.out.arg).mono ?_
  rintro e u1 ⟨B1, d1, rfl, ra1, ro1, rb1⟩
  dsimp only [id]
  have sz1 := rb1.size
  replace Ha0 := Lib.hid (Ha0.out.go rb1)
  replace Bt := Lib.hid (below_step Bt.out rb1)
  have Hx1 := Lib.hid (ro1.held (Nat.le_refl _) ra1.len)
  have Ox1 := Lib.hid ro1
  clear ra1 ro1 rb1
  go_wp2_with fail
  refine (specLiftFirst_b _ _ _ _  Hx1.out.arg).mono ?_
  rintro e u2 ⟨B2, d2, rfl, ra2, ro2, rb2⟩
  dsimp only
  have sz2 := rb2.size
  replace Ha0 := Lib.hid (Ha0.out.go rb2)
  replace Hx1 := Lib.hid (Hx1.out.go rb2)
  replace Ox1 := Lib.hid (Ox1.out.go rb2 (by omega))
  replace Bt := Lib.hid (below_step Bt.out rb2)
  have Hx2 := Lib.hid (ro2.held (Nat.le_refl _) ra2.len)
  have Ox2 := Lib.hid ro2
  clear ra2 ro2 rb2
  clear Hx1 Ox1
  go_wp2_with fail
  refine (toRouteS_c A0 c0 z0 _ Ha0.out.arg).mono ?_
  rintro e u3 ⟨B3, d3, rfl, ra3, ro3, rb3⟩
  dsimp only [id]
  have sz3 := rb3.size
  replace Ha0 := Lib.hid (Ha0.out.go rb3)
  replace Hx2 := Lib.hid (Hx2.out.go rb3)
  replace Ox2 := Lib.hid (Ox2.out.go rb3 (by omega))
  replace Bt := Lib.hid (below_step Bt.out rb3)
  have Hx3 := Lib.hid (ro3.held (Nat.le_refl _) ra3.len)
  have Ox3 := Lib.hid ro3
  clear ra3 ro3 rb3
  go_wp2_with fail
  refine (implLiftFirst_b _ _ _ _  Hx3.out.arg).mono ?_
  rintro e u4 ⟨B4, d4, rfl, ra4, ro4, rb4⟩
  dsimp only
  have sz4 := rb4.size
  replace Ha0 := Lib.hid (Ha0.out.go rb4)
  replace Hx2 := Lib.hid (Hx2.out.go rb4)
  replace Hx3 := Lib.hid (Hx3.out.go rb4)
  replace Ox2 := Lib.hid (Ox2.out.go rb4 (by omega))
  replace Ox3 := Lib.hid (Ox3.out.go rb4 (by omega))
  replace Bt := Lib.hid (below_step Bt.out rb4)
  have Hx4 := Lib.hid (ro4.held (Nat.le_refl _) ra4.len)
  have Ox4 := Lib.hid ro4
  clear ra4 ro4 rb4
  have hlr0 : List.length (firstV z0) ≤ 2097152 := Hx4.out.arg.len
  go_wp2_with fail
  refine (eqIntS_c B4 B2 d4 d2 (firstV z0) (firstV z0) _ Hx4.out.arg Hx2.out.arg).mono ?_
  intro e0 v0 h0
  replace h0 := h0.toB
  revert e0 v0 h0
  rintro e u5 ⟨rfl, rb5⟩
  have sz5 := rb5.size
  replace Ha0 := Lib.hid (Ha0.out.go rb5)
  replace Hx2 := Lib.hid (Hx2.out.go rb5)
  replace Hx3 := Lib.hid (Hx3.out.go rb5)
  replace Hx4 := Lib.hid (Hx4.out.go rb5)
  replace Ox2 := Lib.hid (Ox2.out.go rb5 (by omega))
  replace Ox3 := Lib.hid (Ox3.out.go rb5 (by omega))
  replace Ox4 := Lib.hid (Ox4.out.go rb5 (by omega))
  replace Bt := Lib.hid (below_step Bt.out rb5)
  clear rb5
  go_wp2_with fail
  refine (toRouteS_c A0 c0 z0 _ Ha0.out.arg).mono ?_
  rintro e u6 ⟨B6, d6, rfl, ra6, ro6, rb6⟩
  dsimp only [id]
  have sz6 := rb6.size
  replace Ha0 := Lib.hid (Ha0.out.go rb6)
  replace Hx2 := Lib.hid (Hx2.out.go rb6)
  replace Hx3 := Lib.hid (Hx3.out.go rb6)
  replace Hx4 := Lib.hid (Hx4.out.go rb6)
  replace Ox2 := Lib.hid (Ox2.out.go rb6 (by omega))
  replace Ox3 := Lib.hid (Ox3.out.go rb6 (by omega))
  replace Ox4 := Lib.hid (Ox4.out.go rb6 (by omega))
  replace Bt := Lib.hid (below_step Bt.out rb6)
  have Hx6 := Lib.hid (ro6.held (Nat.le_refl _) ra6.len)
  have Ox6 := Lib.hid ro6
  clear ra6 ro6 rb6
  go_wp2_with fail
  refine (eqRouteS_c B3 B6 d3 d6 z0 z0 _ Hx3.out.arg Hx6.out.arg).mono ?_
  rintro e u7 ⟨rfl, rb7⟩
  have sz7 := rb7.size
  replace Ha0 := Lib.hid (Ha0.out.go rb7)
  replace Hx2 := Lib.hid (Hx2.out.go rb7)
  replace Hx3 := Lib.hid (Hx3.out.go rb7)
  replace Hx4 := Lib.hid (Hx4.out.go rb7)
  replace Hx6 := Lib.hid (Hx6.out.go rb7)
  replace Ox2 := Lib.hid (Ox2.out.go rb7 (by omega))
  replace Ox3 := Lib.hid (Ox3.out.go rb7 (by omega))
  replace Ox4 := Lib.hid (Ox4.out.go rb7 (by omega))
  replace Ox6 := Lib.hid (Ox6.out.go rb7 (by omega))
  replace Bt := Lib.hid (below_step Bt.out rb7)
  clear rb7
  clear Hx6 Ox6
  go_wp2_with fail
  refine (markRouteS_c B3 d3 z0 1 _ _ _ Hx3.out.arg.len (by omega) (by omega) Ox3.out).mono ?_
  rintro e u8 ⟨rfl, rg8, ro8⟩
  have sz8 := rg8.size
  have rr8 := Ox3.out.range
  replace Ha0 := Lib.hid (Ha0.out.grown rg8 (fun r e => by have := rr8 r e; omega))
  replace Hx2 := Lib.hid (Hx2.out.grown rg8 (fun r e => by have := rr8 r e; omega))
  replace Hx4 := Lib.hid (Hx4.out.grown rg8 (fun r e => by have := rr8 r e; omega))
  replace Ox2 := Lib.hid (Ox2.out.kept rg8 (fun r e => by have := rr8 r e; omega))
  replace Ox4 := Lib.hid (Ox4.out.kept rg8 (fun r e => by have := rr8 r e; omega))
  replace Bt := Lib.hid (below_row Bt.out rg8 (fun r e => by have := rr8 r e; omega))
  replace Ox3 := Lib.hid ro8
  replace Hx3 := Lib.hid ((owK_marks Ox3.out).held (by have := Hx3.out.2.1; omega) (by rw [marksK_length]; exact Hx3.out.arg.len))
  clear ro8 rg8 rr8
  go_wp2_with fail
  refine (eqIntS_c B4 B2 d4 d2 (firstV z0) (firstV z0) _ Hx4.out.arg Hx2.out.arg).mono ?_
  intro e0 v0 h0
  replace h0 := h0.toB
  revert e0 v0 h0
  rintro e u9 ⟨rfl, rb9⟩
  have sz9 := rb9.size
  replace Ha0 := Lib.hid (Ha0.out.go rb9)
  replace Hx2 := Lib.hid (Hx2.out.go rb9)
  replace Hx3 := Lib.hid (Hx3.out.go rb9)
  replace Hx4 := Lib.hid (Hx4.out.go rb9)
  replace Ox2 := Lib.hid (Ox2.out.go rb9 (by omega))
  replace Ox3 := Lib.hid (Ox3.out.go rb9 (by omega))
  replace Ox4 := Lib.hid (Ox4.out.go rb9 (by omega))
  replace Bt := Lib.hid (below_step Bt.out rb9)
  clear rb9
  clear Hx3 Ox3
  go_wp2_with fail
  refine (markIntS_c B4 d4 (firstV z0) 1 _ _ _ Hx4.out.arg.len (by omega) (by omega) Ox4.out).mono ?_
  rintro e u10 ⟨rfl, rg10, ro10⟩
  have sz10 := rg10.size
  have rr10 := Ox4.out.range
  replace Ha0 := Lib.hid (Ha0.out.grown rg10 (fun r e => by have := rr10 r e; omega))
  replace Hx2 := Lib.hid (Hx2.out.grown rg10 (fun r e => by have := rr10 r e; omega))
  replace Ox2 := Lib.hid (Ox2.out.kept rg10 (fun r e => by have := rr10 r e; omega))
  replace Bt := Lib.hid (below_row Bt.out rg10 (fun r e => by have := rr10 r e; omega))
  replace Ox4 := Lib.hid ro10
  replace Hx4 := Lib.hid ((ow_marks Ox4.out).held (by have := Hx4.out.2.1; omega) (by rw [marks_length]; exact Hx4.out.arg.len))
  clear ro10 rg10 rr10
  go_wp2_with fail
  refine (heldIntS_c B4 d4 (List.length (firstV z0)) 1 _ (by omega) (by omega) Hx4.out.arg).mono ?_
  rintro e w9 ⟨rfl, rfl⟩
  go_wp2_with fail
  refine (toRouteS_c A0 c0 z0 _ Ha0.out.arg).mono ?_
  rintro e u11 ⟨B11, d11, rfl, ra11, ro11, rb11⟩
  dsimp only [id]
  have sz11 := rb11.size
  replace Ha0 := Lib.hid (Ha0.out.go rb11)
  replace Hx2 := Lib.hid (Hx2.out.go rb11)
  replace Hx4 := Lib.hid (Hx4.out.go rb11)
  replace Ox2 := Lib.hid (Ox2.out.go rb11 (by omega))
  replace Ox4 := Lib.hid (Ox4.out.go rb11 (by omega))
  replace Bt := Lib.hid (below_step Bt.out rb11)
  have Hx11 := Lib.hid (ro11.held (Nat.le_refl _) ra11.len)
  have Ox11 := Lib.hid ro11
  clear ra11 ro11 rb11
  go_wp2_with fail
  refine (implLiftFirst_b _ _ _ _  Hx11.out.arg).mono ?_
  rintro e u12 ⟨B12, d12, rfl, ra12, ro12, rb12⟩
  dsimp only
  have sz12 := rb12.size
  replace Ha0 := Lib.hid (Ha0.out.go rb12)
  replace Hx2 := Lib.hid (Hx2.out.go rb12)
  replace Hx4 := Lib.hid (Hx4.out.go rb12)
  replace Hx11 := Lib.hid (Hx11.out.go rb12)
  replace Ox2 := Lib.hid (Ox2.out.go rb12 (by omega))
  replace Ox4 := Lib.hid (Ox4.out.go rb12 (by omega))
  replace Ox11 := Lib.hid (Ox11.out.go rb12 (by omega))
  replace Bt := Lib.hid (below_step Bt.out rb12)
  have Hx12 := Lib.hid (ro12.held (Nat.le_refl _) ra12.len)
  have Ox12 := Lib.hid ro12
  clear ra12 ro12 rb12
  go_wp2_with fail
  refine (eqIntS_c B12 B2 d12 d2 (firstV z0) (firstV z0) _ Hx12.out.arg Hx2.out.arg).mono ?_
  intro e0 v0 h0
  replace h0 := h0.toB
  revert e0 v0 h0
  rintro e u13 ⟨rfl, rb13⟩
  have sz13 := rb13.size
  replace Ha0 := Lib.hid (Ha0.out.go rb13)
  replace Hx2 := Lib.hid (Hx2.out.go rb13)
  replace Hx4 := Lib.hid (Hx4.out.go rb13)
  replace Hx11 := Lib.hid (Hx11.out.go rb13)
  replace Hx12 := Lib.hid (Hx12.out.go rb13)
  replace Ox2 := Lib.hid (Ox2.out.go rb13 (by omega))
  replace Ox4 := Lib.hid (Ox4.out.go rb13 (by omega))
  replace Ox11 := Lib.hid (Ox11.out.go rb13 (by omega))
  replace Ox12 := Lib.hid (Ox12.out.go rb13 (by omega))
  replace Bt := Lib.hid (below_step Bt.out rb13)
  clear rb13
  go_wp2_with fail
  refine (heldIntS_c B4 d4 (List.length (firstV z0)) 1 _ (by omega) (by omega) Hx4.out.arg).mono ?_
  rintro e w9 ⟨rfl, rfl⟩
  go_wp2
  go_ret
  exact ⟨rfl, Bt.out⟩

theorem exLiftFirst_walk (A0 : Option Addr) (c0 : Nat) (z0 : List Rot) (w : World) (ha0 : ArgK0 w A0 c0 z0) :
    Calls Try.prog 11 #[.slice A0 z0.length c0] w (RetB (.bool true) w) := by
  by_cases hl0 : 1048576 < z0.length
  · have hc0 := ha0.1
    have hm0 := ha0.2.1
    have hk0 : (1048576 : Int) < (z0.length : Int) := by omega
    clear ha0
    go_enter Try.func11, Try.ntmps11
    go_wp2_with fail
    refine (szRouteS_no A0 c0 z0.length (1048576) _ hk0 (by omega) hc0 hm0).mono ?_
    rintro e w9 ⟨rfl, rfl⟩
    go_wp2
    go_ret
    exact ⟨rfl, Below.refl _ _⟩
  exact exLiftFirst_in A0 c0 z0 w (ha0.arg (by omega)) (by omega)

set_option maxRecDepth 100000 in
theorem exLiftFirst_lifted (os : Os) (started : os.Started) (H : Type) (enc : TypeId × Value → H) :
    ReturnsInHanded {} Try.checked os 11 .any (Rows.fnExactLiftFirstSpec.pre6 enc Try.prog Try.f11 Rows.fnExactLiftFirstRow.domain false) (Rows.fnExactLiftFirstSpec.post enc Try.prog Try.f11 false true false false) := by
  refine returnsInHanded_of_change (C := Try.checked) row_own started (by kernel_rfl) Try.func11
    (ChangeSpec.witness6 (enc := enc) (C := Try.checked) false ⟨#[], #[.slice none 0 0], []⟩ 8 (by kernel_rfl) (by kernel_rfl) (by kernel_rfl) (by kernel_rfl)) ?_
  intro W base args ds gs before hval0 hW hcnd _
  have hval : ∀ (j : Nat) t v, Try.f11.params[j]? = some t → args[j]? = some v → Value.okWide Try.prog W .any base t v := hval0
  have hW' := hW
  obtain ⟨p, q, hA0, hV, rfl, _, _⟩ := hW
  have hA : DataW.TrodAll enc Try.prog W 0 (fun _ => true) true Try.f11.params.toList args.toList ds p := hA0
  rw [Try.params11] at hA hval
  obtain ⟨v0, vs0, d0, ds0, p0, q0, hargs, rfl, rfl, h0, r0⟩ := trodAll_cons hA
  obtain ⟨rfl, rfl, rfl⟩ := trodAll_nil r0
  obtain rfl : args = #[v0] := by cases args; simp_all
  obtain ⟨rfl, rfl⟩ := trodVars_none hV
  have hlt0 : ∀ x ∈ p0, x.block < W.heap.size := fun x hx => by exact hW'.lt x (by simp [hx])
  obtain ⟨A0, c0, z0, rfl, ha0⟩ := open_rots (hval 0 38 v0 rfl rfl) h0 hlt0
  clear hA0 hval0
  refine (exLiftFirst_walk A0 c0 z0 W ha0).mono fun e W' ⟨he, hb⟩ => ?_
  subst he
  exact ⟨_, rfl, _, _, _, [], _, [], hW', (trodAll_cons_mk (shut_bool Try.underlying4 _) trodAll_mk0), (trodAll_cons_mk (read_again_rots h0 hlt0 hb) trodAll_mk0), rfl, hb.frame _, fun h => by cases h⟩

set_option maxRecDepth 100000 in
theorem exLiftFirst_closed : joinedFacts Try.prog 11 Try.f11 Rows.fnExactLiftFirstSpec Rows.fnExactLiftFirstRow = true := by
  unfold joinedFacts
  repeat' (with_reducible apply facAnd)
  all_goals first | (with_reducible exact facEnter) | (with_reducible exact facLaid) | (with_reducible exact facMaps) | (with_reducible exact facStops) | (with_reducible exact facKnobs) | (with_reducible exact facHeard) | (rw [facLifts]; as_aux_lemma => kernel_rfl) | (rw [facMake]; as_aux_lemma => kernel_rfl) | (as_aux_lemma => kernel_rfl)

/-- THE STATEMENT -/
theorem exLiftFirst_holds : Rows.FnExactLiftFirstSaid :=
  OpenClaim.holds_of_wide 11 Try.f11 rfl rfl rfl rfl rfl rfl rfl ⟨rfl, rfl, rfl, rfl, rfl⟩ rfl rfl rfl rfl rfl (by kernel_rfl) Try.func11 exLiftFirst_closed
    (of_decide_eq_true (by kernel_rfl)) (by unfold Func.isWrapper; first | (rw [if_pos (by decide +kernel)]; kernel_rfl) | (rw [if_neg (by decide +kernel)]; exact ⟨rfl, rfl⟩))
    (fun os started H enc _ => exLiftFirst_lifted os started H enc)
#print axioms exLiftFirst_holds
end Go.Proofs.Ytjboamhjfncgdaa
