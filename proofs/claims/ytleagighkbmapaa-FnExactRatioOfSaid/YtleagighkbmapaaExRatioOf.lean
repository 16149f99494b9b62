/-
  The exact law of RatioOf: for all arguments the law answers true. No condition.
  (Written by a program of mine, genf.py.)
-/
import Derived.Test.YtleagighkbmapaaRowG
import Derived.Test.YtleagighkbmapaaRatio
import Derived.Deep.RegionHeld3
namespace Go.Proofs.Ytleagighkbmapaa
open Go.ChangeShapes Go.WideShapes Go.ChangeAt Go.RowKit

theorem ratioV_form (n0 : Int) (n1 : Int) : ∃ (x0 : Rat2) (x1 : Bool), ratioV n0 n1 = .tuple #[.agg #[.int .i64 x0.t, .int .i64 x0.l], .bool x1] := by
  unfold ratioV
  split
  · exact ⟨_, true, rfl⟩
  · exact ⟨⟨0, 0⟩, false, rfl⟩

set_option maxRecDepth 100000 in
set_option maxHeartbeats 4000000 in
theorem exRatioOf_in (n0 : Int) (n1 : Int) (w : World)  (hn0 : -9223372036854775808 ≤ n0 ∧ n0 ≤ 9223372036854775807) (hn1 : -9223372036854775808 ≤ n1 ∧ n1 ≤ 9223372036854775807) :
    Calls Try.prog 6 #[.int .i64 n0, .int .i64 n1] w (RetB (.bool true) w) := by
  have Hn0 := Lib.hid hn0
  clear hn0
  have Hn1 := Lib.hid hn1
  clear hn1
  have Bt := Lib.hid (Below.refl w.heap.size w)
  obtain ⟨x0, x1, hform⟩ := ratioV_form n0 n1
  have Hform := Lib.hid hform
  clear hform
  go_enter Try.func6, Try.ntmps6
  go_wp2_with fail
  refine (specRatioOf_b n0 n1 _  Hn0.out.2 Hn1.out.2).mono ?_
  rintro e u1 ⟨rfl, rb1⟩
  rw [Hform.out]
  have sz1 := rb1.size
  replace Bt := Lib.hid (below_step Bt.out rb1)
  clear rb1
  have rv1 : Below u1.heap.size u1 (u1.alloc (.cells #[.int .i64 x0.t, .int .i64 x0.l] 42)) := (Below.refl _ _).alloc (Nat.le_refl _) _
  have hV1 : TwoAt 42 (u1.alloc (.cells #[.int .i64 x0.t, .int .i64 x0.l] 42)) u1.heap.size x0.t x0.l := TwoAt.new _ u1 x0.t x0.l
  have sv1 : (u1.alloc (.cells #[.int .i64 x0.t, .int .i64 x0.l] 42)).heap.size = u1.heap.size + 1 := by simp
  replace Bt := Lib.hid (below_step Bt.out rv1)
  have HV1 := Lib.hid hV1
  clear rv1 hV1
  go_wp2_with fail
  refine (implRatioOf_b n0 n1 _  Hn0.out.2 Hn1.out.2).mono ?_
  rintro e u2 ⟨rfl, rb2⟩
  rw [Hform.out]
  have sz2 := rb2.size
  replace HV1 := Lib.hid (HV1.out.go rb2)
  replace Bt := Lib.hid (below_step Bt.out rb2)
  clear rb2
  have rv2 : Below u2.heap.size u2 (u2.alloc (.cells #[.int .i64 x0.t, .int .i64 x0.l] 42)) := (Below.refl _ _).alloc (Nat.le_refl _) _
  have hV2 : TwoAt 42 (u2.alloc (.cells #[.int .i64 x0.t, .int .i64 x0.l] 42)) u2.heap.size x0.t x0.l := TwoAt.new _ u2 x0.t x0.l
  have sv2 : (u2.alloc (.cells #[.int .i64 x0.t, .int .i64 x0.l] 42)).heap.size = u2.heap.size + 1 := by simp
  replace HV1 := Lib.hid (HV1.out.go rv2)
  replace Bt := Lib.hid (below_step Bt.out rv2)
  have HV2 := Lib.hid hV2
  clear rv2 hV2
  have cdbw0 := HV1.out.c0
  have cdbw1 := HV1.out.c1
  have cdbg0 := HV2.out.c0
  have cdbg1 := HV2.out.c1
  go_wp2_with fail
  refine (eqRatio_yes x0 _).mono ?_
  rintro e u3 ⟨rfl, rb3⟩
  have sz3 := rb3.size
  replace HV1 := Lib.hid (HV1.out.go rb3)
  replace HV2 := Lib.hid (HV2.out.go rb3)
  replace Bt := Lib.hid (below_step Bt.out rb3)
  clear rb3
  go_wp2
  go_ret
  exact ⟨rfl, Bt.out⟩

theorem exRatioOf_walk (n0 : Int) (n1 : Int) (w : World) (hn0 : -9223372036854775808 ≤ n0 ∧ n0 ≤ 9223372036854775807) (hn1 : -9223372036854775808 ≤ n1 ∧ n1 ≤ 9223372036854775807) :
    Calls Try.prog 6 #[.int .i64 n0, .int .i64 n1] w (RetB (.bool true) w) := exRatioOf_in n0 n1 w hn0 hn1

set_option maxRecDepth 100000 in
theorem exRatioOf_lifted (os : Os) (started : os.Started) (H : Type) (enc : TypeId × Value → H) :
    ReturnsInHanded {} Try.checked os 6 .any (Rows.fnExactRatioOfSpec.pre6 enc Try.prog Try.f6 Rows.fnExactRatioOfRow.domain false) (Rows.fnExactRatioOfSpec.post enc Try.prog Try.f6 false true false false) := by
  refine returnsInHanded_of_change (C := Try.checked) row_own started (by kernel_rfl) Try.func6
    (ChangeSpec.witness6 (enc := enc) (C := Try.checked) false ⟨#[], #[.int .i64 0, .int .i64 0], []⟩ 8 (by kernel_rfl) (by kernel_rfl) (by kernel_rfl) (by kernel_rfl)) ?_
  intro W base args ds gs before hval0 hW hcnd _
  have hval : ∀ (j : Nat) t v, Try.f6.params[j]? = some t → args[j]? = some v → Value.okWide Try.prog W .any base t v := hval0
  have hW' := hW
  obtain ⟨p, q, hA0, hV, rfl, _, _⟩ := hW
  have hA : DataW.TrodAll enc Try.prog W 0 (fun _ => true) true Try.f6.params.toList args.toList ds p := hA0
  rw [Try.params6] at hA hval
  obtain ⟨v0, vs0, d0, ds0, p0, q0, hargs, rfl, rfl, h0, r0⟩ := trodAll_cons hA
  obtain ⟨v1, vs1, d1, ds1, p1, q1, rfl, rfl, rfl, h1, r1⟩ := trodAll_cons r0
  obtain ⟨rfl, rfl, rfl⟩ := trodAll_nil r1
  obtain rfl : args = #[v0, v1] := by cases args; simp_all
  obtain ⟨rfl, rfl⟩ := trodVars_none hV
  obtain ⟨n0, rfl, rfl, rfl, wf0⟩ := open_int Try.underlying3 (hval 0 3 v0 rfl rfl) h0
  obtain ⟨n1, rfl, rfl, rfl, wf1⟩ := open_int Try.underlying3 (hval 1 3 v1 rfl rfl) h1
  clear hA0 hval0
  refine (exRatioOf_walk n0 n1 W  (wf_i64 wf0) (wf_i64 wf1)).mono fun e W' ⟨he, hb⟩ => ?_
  subst he
  exact ⟨_, rfl, _, _, _, [], _, [], hW', (trodAll_cons_mk (shut_bool Try.underlying4 _) trodAll_mk0), (trodAll_cons_mk (shut_int Try.underlying3 wf0) (trodAll_cons_mk (shut_int Try.underlying3 wf1) trodAll_mk0)), rfl, hb.frame _, fun h => by cases h⟩

/-- THE STATEMENT -/
theorem exRatioOf_holds : Rows.FnExactRatioOfSaid :=
  OpenClaim.holds_of_wide 6 Try.f6 rfl rfl rfl rfl rfl rfl rfl ⟨rfl, rfl, rfl, rfl, rfl⟩ rfl rfl rfl rfl rfl (by kernel_rfl) Try.func6 (by kernel_rfl)
    (of_decide_eq_true (by kernel_rfl)) (by unfold Func.isWrapper; first | (rw [if_pos (by decide +kernel)]; kernel_rfl) | (rw [if_neg (by decide +kernel)]; exact ⟨rfl, rfl⟩))
    (fun os started H enc _ => exRatioOf_lifted os started H enc)
#print axioms exRatioOf_holds
end Go.Proofs.Ytleagighkbmapaa
