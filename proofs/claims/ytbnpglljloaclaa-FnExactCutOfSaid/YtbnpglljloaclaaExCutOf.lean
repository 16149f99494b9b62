/-
  The exact law of CutOf: for all arguments the law answers true. No condition.
  (Written by a program of mine, gen7.py.)
-/
import Derived.Test.YtbnpglljloaclaaBaseL
import Derived.Test.YtbnpglljloaclaaBaseLD
import Derived.Test.YtbnpglljloaclaaRowL
import Derived.Test.YtbnpglljloaclaaBase
import Derived.Test.YtbnpglljloaclaaRow
import Derived.ChangeMaps5
import Derived.Test.YtbnpglljloaclaaFac
import Derived.Test.YtbnpglljloaclaaTfK
namespace Go.Proofs.Ytbnpglljloaclaa
open Go.ChangeShapes Go.WideShapes Go.ChangeAt Go.RowKit Go.ChangeMaps

set_option maxRecDepth 100000 in
set_option maxHeartbeats 2000000 in
theorem exCutOf_in (n0 : Int) (A1 : Option Addr) (c1 : Nat) (z1 : List Lin) (n2 : Int) (n3 : Int) (A4 : Option Addr) (c4 : Nat) (z4 : List Int) (w : World) (ha1 : ArgL w A1 c1 z1) (ha4 : Arg w A4 c4 z4) (hl4 : z4.length ≤ 1048576) (hl : z1.length ≤ 1048576) :
    Calls Try.prog 11 #[.int .i64 n0, .slice A1 z1.length c1, .int .i64 n2, .int .i64 n3, .slice A4 z4.length c4] w (RetB (.bool true) w) := by
  have Ha1 := Lib.hid ha1.held
  clear ha1
  have Ha4 := Lib.hid ha4.held
  clear ha4
  have gN4 : (z4.length : Int) ≤ 1048576 := by omega
  have Bt := Lib.hid (Below.refl w.heap.size w)
  go_enter Try.func11, Try.ntmps11
  go_wp2_with fail
  refine (szLineS_yes A1 c1 z1.length (1048576) _ (by omega) (by omega)).mono ?_
  rintro e w9 ⟨rfl, rfl⟩
  go_wp2_with fail
  refine (toLineS_c A1 c1 z1 _ Ha1.out.arg).mono ?_
  rintro e u1 ⟨B1, d1, rfl, ra1, ro1, rb1⟩
  dsimp only [id]
  have sz1 := rb1.size
  replace Ha1 := Lib.hid (Ha1.out.go rb1)
  replace Ha4 := Lib.hid (Ha4.out.go rb1)
  replace Bt := Lib.hid (below_step Bt.out rb1)
  have Hx1 := Lib.hid (ro1.held (Nat.le_refl _) ra1.len)
  have Ox1 := Lib.hid ro1
  clear ra1 ro1 rb1
  go_wp2_with fail
  refine (toIntS_c A4 c4 z4 _ Ha4.out.arg).mono ?_
  rintro e u2 ⟨B2, d2, rfl, ra2, ro2, rb2⟩
  dsimp only [id]
  have sz2 := rb2.size
  replace Ha1 := Lib.hid (Ha1.out.go rb2)
  replace Ha4 := Lib.hid (Ha4.out.go rb2)
  replace Hx1 := Lib.hid (Hx1.out.go rb2)
  replace Ox1 := Lib.hid (Ox1.out.go rb2 (by omega))
  replace Bt := Lib.hid (below_step Bt.out rb2)
  have Hx2 := Lib.hid (ro2.held (Nat.le_refl _) ra2.len)
  have Ox2 := Lib.hid ro2
  clear ra2 ro2 rb2
  go_wp2_with fail
  refine (specCutOf_b _ _ _ _ _ _ _ _ _ _  Hx1.out.arg Hx2.out.arg).mono ?_
  rintro e u3 ⟨rfl, rb3⟩
  have sz3 := rb3.size
  replace Ha1 := Lib.hid (Ha1.out.go rb3)
  replace Ha4 := Lib.hid (Ha4.out.go rb3)
  replace Hx1 := Lib.hid (Hx1.out.go rb3)
  replace Hx2 := Lib.hid (Hx2.out.go rb3)
  replace Ox1 := Lib.hid (Ox1.out.go rb3 (by omega))
  replace Ox2 := Lib.hid (Ox2.out.go rb3 (by omega))
  replace Bt := Lib.hid (below_step Bt.out rb3)
  clear rb3
  clear Hx1 Ox1
  clear Hx2 Ox2
  go_wp2_with fail
  refine (toLineS_c A1 c1 z1 _ Ha1.out.arg).mono ?_
  rintro e u4 ⟨B4, d4, rfl, ra4, ro4, rb4⟩
  dsimp only [id]
  have sz4 := rb4.size
  replace Ha1 := Lib.hid (Ha1.out.go rb4)
  replace Ha4 := Lib.hid (Ha4.out.go rb4)
  replace Bt := Lib.hid (below_step Bt.out rb4)
  have Hx4 := Lib.hid (ro4.held (Nat.le_refl _) ra4.len)
  have Ox4 := Lib.hid ro4
  clear ra4 ro4 rb4
  go_wp2_with fail
  refine (toIntS_c A4 c4 z4 _ Ha4.out.arg).mono ?_
  rintro e u5 ⟨B5, d5, rfl, ra5, ro5, rb5⟩
  dsimp only [id]
  have sz5 := rb5.size
  replace Ha1 := Lib.hid (Ha1.out.go rb5)
  replace Ha4 := Lib.hid (Ha4.out.go rb5)
  replace Hx4 := Lib.hid (Hx4.out.go rb5)
  replace Ox4 := Lib.hid (Ox4.out.go rb5 (by omega))
  replace Bt := Lib.hid (below_step Bt.out rb5)
  have Hx5 := Lib.hid (ro5.held (Nat.le_refl _) ra5.len)
  have Ox5 := Lib.hid ro5
  clear ra5 ro5 rb5
  go_wp2_with fail
  refine (implCutOf_b _ _ _ _ _ _ _ _ _ _  Hx4.out.arg Hx5.out.arg).mono ?_
  rintro e u6 ⟨rfl, rb6⟩
  have sz6 := rb6.size
  replace Ha1 := Lib.hid (Ha1.out.go rb6)
  replace Ha4 := Lib.hid (Ha4.out.go rb6)
  replace Hx4 := Lib.hid (Hx4.out.go rb6)
  replace Hx5 := Lib.hid (Hx5.out.go rb6)
  replace Ox4 := Lib.hid (Ox4.out.go rb6 (by omega))
  replace Ox5 := Lib.hid (Ox5.out.go rb6 (by omega))
  replace Bt := Lib.hid (below_step Bt.out rb6)
  clear rb6
  go_wp2_with fail
  refine (toLineS_c A1 c1 z1 _ Ha1.out.arg).mono ?_
  rintro e u7 ⟨B7, d7, rfl, ra7, ro7, rb7⟩
  dsimp only [id]
  have sz7 := rb7.size
  replace Ha1 := Lib.hid (Ha1.out.go rb7)
  replace Ha4 := Lib.hid (Ha4.out.go rb7)
  replace Hx4 := Lib.hid (Hx4.out.go rb7)
  replace Hx5 := Lib.hid (Hx5.out.go rb7)
  replace Ox4 := Lib.hid (Ox4.out.go rb7 (by omega))
  replace Ox5 := Lib.hid (Ox5.out.go rb7 (by omega))
  replace Bt := Lib.hid (below_step Bt.out rb7)
  have Hx7 := Lib.hid (ro7.held (Nat.le_refl _) ra7.len)
  have Ox7 := Lib.hid ro7
  clear ra7 ro7 rb7
  go_wp2_with fail
  refine (eqLineS_c B4 B7 d4 d7 z1 z1 _ Hx4.out.arg Hx7.out.arg).mono ?_
  rintro e u8 ⟨rfl, rb8⟩
  have sz8 := rb8.size
  replace Ha1 := Lib.hid (Ha1.out.go rb8)
  replace Ha4 := Lib.hid (Ha4.out.go rb8)
  replace Hx4 := Lib.hid (Hx4.out.go rb8)
  replace Hx5 := Lib.hid (Hx5.out.go rb8)
  replace Hx7 := Lib.hid (Hx7.out.go rb8)
  replace Ox4 := Lib.hid (Ox4.out.go rb8 (by omega))
  replace Ox5 := Lib.hid (Ox5.out.go rb8 (by omega))
  replace Ox7 := Lib.hid (Ox7.out.go rb8 (by omega))
  replace Bt := Lib.hid (below_step Bt.out rb8)
  clear rb8
  clear Hx7 Ox7
  go_wp2_with fail
  refine (toIntS_c A4 c4 z4 _ Ha4.out.arg).mono ?_
  rintro e u9 ⟨B9, d9, rfl, ra9, ro9, rb9⟩
  dsimp only [id]
  have sz9 := rb9.size
  replace Ha1 := Lib.hid (Ha1.out.go rb9)
  replace Ha4 := Lib.hid (Ha4.out.go rb9)
  replace Hx4 := Lib.hid (Hx4.out.go rb9)
  replace Hx5 := Lib.hid (Hx5.out.go rb9)
  replace Ox4 := Lib.hid (Ox4.out.go rb9 (by omega))
  replace Ox5 := Lib.hid (Ox5.out.go rb9 (by omega))
  replace Bt := Lib.hid (below_step Bt.out rb9)
  have Hx9 := Lib.hid (ro9.held (Nat.le_refl _) ra9.len)
  have Ox9 := Lib.hid ro9
  clear ra9 ro9 rb9
  go_wp2_with fail
  refine (eqIntS_c B5 B9 d5 d9 z4 z4 _ Hx5.out.arg Hx9.out.arg).mono ?_
  intro e0 v0 h0
  replace h0 := h0.toB
  revert e0 v0 h0
  rintro e u10 ⟨rfl, rb10⟩
  have sz10 := rb10.size
  replace Ha1 := Lib.hid (Ha1.out.go rb10)
  replace Ha4 := Lib.hid (Ha4.out.go rb10)
  replace Hx4 := Lib.hid (Hx4.out.go rb10)
  replace Hx5 := Lib.hid (Hx5.out.go rb10)
  replace Hx9 := Lib.hid (Hx9.out.go rb10)
  replace Ox4 := Lib.hid (Ox4.out.go rb10 (by omega))
  replace Ox5 := Lib.hid (Ox5.out.go rb10 (by omega))
  replace Ox9 := Lib.hid (Ox9.out.go rb10 (by omega))
  replace Bt := Lib.hid (below_step Bt.out rb10)
  clear rb10
  clear Hx9 Ox9
  go_wp2
  go_ret
  exact ⟨rfl, Bt.out⟩

theorem exCutOf_walk (n0 : Int) (A1 : Option Addr) (c1 : Nat) (z1 : List Lin) (n2 : Int) (n3 : Int) (A4 : Option Addr) (c4 : Nat) (z4 : List Int) (w : World) (ha1 : ArgL0 w A1 c1 z1) (ha4 : Arg0 w A4 c4 z4) :
    Calls Try.prog 11 #[.int .i64 n0, .slice A1 z1.length c1, .int .i64 n2, .int .i64 n3, .slice A4 z4.length c4] w (RetB (.bool true) w) := by
  by_cases hlN4 : 1048576 < z4.length
  · have hk4 : ¬ (z4.length : Int) ≤ 1048576 := by omega
    have hj4 : (1048576 : Int) < (z4.length : Int) := by omega
    clear ha1 ha4
    go_enter Try.func11, Try.ntmps11
    go_wp2
    go_ret
    exact ⟨rfl, Below.refl _ _⟩
  have gN4 : (z4.length : Int) ≤ 1048576 := by omega
  by_cases hl1 : 1048576 < z1.length
  · have hc1 := ha1.1
    have hm1 := ha1.2.1
    have hk1 : (1048576 : Int) < (z1.length : Int) := by omega
    clear ha1 ha4
    go_enter Try.func11, Try.ntmps11
    go_wp2_with fail
    refine (szLineS_no A1 c1 z1.length (1048576) _ hk1 (by omega) hc1 hm1).mono ?_
    rintro e w9 ⟨rfl, rfl⟩
    go_wp2
    go_ret
    exact ⟨rfl, Below.refl _ _⟩
  exact exCutOf_in n0 A1 c1 z1 n2 n3 A4 c4 z4 w (ha1.arg (by omega)) (ha4.arg (by omega)) (by omega) (by omega)

set_option maxRecDepth 100000 in
theorem exCutOf_lifted (os : Os) (started : os.Started) (H : Type) (enc : TypeId × Value → H) :
    ReturnsInHanded {} Try.checked os 11 .any (Rows.fnExactCutOfSpec.pre6 enc Try.prog Try.f11 Rows.fnExactCutOfRow.domain false) (Rows.fnExactCutOfSpec.post enc Try.prog Try.f11 false true false false) := by
  refine returnsInHanded_of_change (C := Try.checked) row_own started (by kernel_rfl) Try.func11
    (ChangeSpec.witness6 (enc := enc) (C := Try.checked) false ⟨#[], #[.int .i64 0, .slice none 0 0, .int .i64 0, .int .i64 0, .slice none 0 0], []⟩ 8 (by kernel_rfl) (by kernel_rfl) (by kernel_rfl) (by kernel_rfl)) ?_
  intro W base args ds gs before hval0 hW hcnd _
  have hval : ∀ (j : Nat) t v, Try.f11.params[j]? = some t → args[j]? = some v → Value.okWide Try.prog W .any base t v := hval0
  have hW' := hW
  obtain ⟨p, q, hA0, hV, rfl, _, _⟩ := hW
  have hA : DataW.TrodAll enc Try.prog W 0 (fun _ => true) true Try.f11.params.toList args.toList ds p := hA0
  rw [Try.params11] at hA hval
  obtain ⟨v0, vs0, d0, ds0, p0, q0, hargs, rfl, rfl, h0, r0⟩ := trodAll_cons hA
  obtain ⟨v1, vs1, d1, ds1, p1, q1, rfl, rfl, rfl, h1, r1⟩ := trodAll_cons r0
  obtain ⟨v2, vs2, d2, ds2, p2, q2, rfl, rfl, rfl, h2, r2⟩ := trodAll_cons r1
  obtain ⟨v3, vs3, d3, ds3, p3, q3, rfl, rfl, rfl, h3, r3⟩ := trodAll_cons r2
  obtain ⟨v4, vs4, d4, ds4, p4, q4, rfl, rfl, rfl, h4, r4⟩ := trodAll_cons r3
  obtain ⟨rfl, rfl, rfl⟩ := trodAll_nil r4
  obtain rfl : args = #[v0, v1, v2, v3, v4] := by cases args; simp_all
  obtain ⟨rfl, rfl⟩ := trodVars_none hV
  obtain ⟨n0, rfl, rfl, rfl, wf0⟩ := open_int Try.underlying3 (hval 0 3 v0 rfl rfl) h0
  have hlt1 : ∀ x ∈ p1, x.block < W.heap.size := fun x hx => by exact hW'.lt x (by simp [hx])
  obtain ⟨A1, c1, z1, rfl, ha1⟩ := open_lins (hval 1 41 v1 rfl rfl) h1 hlt1
  obtain ⟨n2, rfl, rfl, rfl, wf2⟩ := open_int Try.underlying3 (hval 2 3 v2 rfl rfl) h2
  obtain ⟨n3, rfl, rfl, rfl, wf3⟩ := open_int Try.underlying3 (hval 3 3 v3 rfl rfl) h3
  have hlt4 : ∀ x ∈ p4, x.block < W.heap.size := fun x hx => by exact hW'.lt x (by simp [hx])
  obtain ⟨A4, c4, z4, rfl, ha4⟩ := open_slice (hval 4 24 v4 rfl rfl) h4 hlt4
  clear hA0 hval0
  refine (exCutOf_walk n0 A1 c1 z1 n2 n3 A4 c4 z4 W ha1 ha4).mono fun e W' ⟨he, hb⟩ => ?_
  subst he
  exact ⟨_, rfl, _, _, _, [], _, [], hW', (trodAll_cons_mk (shut_bool Try.underlying4 _) trodAll_mk0), (trodAll_cons_mk (shut_int Try.underlying3 wf0) (trodAll_cons_mk (read_again_lins h1 hlt1 hb) (trodAll_cons_mk (shut_int Try.underlying3 wf2) (trodAll_cons_mk (shut_int Try.underlying3 wf3) (trodAll_cons_mk (read_again h4 hlt4 hb) trodAll_mk0))))), rfl, hb.frame _, fun h => by cases h⟩

set_option maxRecDepth 100000 in
theorem exCutOf_closed : joinedFacts Try.prog 11 Try.f11 Rows.fnExactCutOfSpec Rows.fnExactCutOfRow = true := by
  unfold joinedFacts
  repeat' (with_reducible apply facAnd)
  all_goals first | (with_reducible exact facEnter) | (with_reducible exact facLaid) | (with_reducible exact facMaps) | (with_reducible exact facStops) | (with_reducible exact facKnobs) | (with_reducible exact facHeard) | (rw [facLifts]; as_aux_lemma => kernel_rfl) | (rw [facMake]; as_aux_lemma => kernel_rfl) | (as_aux_lemma => kernel_rfl)

/-- THE STATEMENT -/
theorem exCutOf_holds : Rows.FnExactCutOfSaid :=
  OpenClaim.holds_of_wide 11 Try.f11 rfl rfl rfl rfl rfl rfl rfl ⟨rfl, rfl, rfl, rfl, rfl⟩ rfl rfl rfl rfl rfl (by kernel_rfl) Try.func11 exCutOf_closed
    (of_decide_eq_true (by kernel_rfl)) (by unfold Func.isWrapper; first | (rw [if_pos (by decide +kernel)]; kernel_rfl) | (rw [if_neg (by decide +kernel)]; exact ⟨rfl, rfl⟩))
    (fun os started H enc _ => exCutOf_lifted os started H enc)
#print axioms exCutOf_holds
end Go.Proofs.Ytbnpglljloaclaa
