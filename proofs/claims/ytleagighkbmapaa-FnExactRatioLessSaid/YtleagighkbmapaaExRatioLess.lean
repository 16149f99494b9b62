/-
  The exact law of RatioLess: for all arguments the law answers true. No condition.
  (Written by a program of mine, genf.py.)
-/
import Derived.Test.YtleagighkbmapaaRowG
import Derived.Test.YtleagighkbmapaaRatioL
import Derived.Deep.RegionHeld3
import Derived.Deep.RegionWith
namespace Go.Proofs.Ytleagighkbmapaa
open Go.ChangeShapes Go.WideShapes Go.ChangeAt Go.RowKit

set_option maxRecDepth 100000 in
set_option maxHeartbeats 4000000 in
theorem exRatioLess_in (f0 : Rat2) (f1 : Rat2) (w : World)   :
    Calls Try.prog 16 #[.agg #[.int .i64 f0.t, .int .i64 f0.l], .agg #[.int .i64 f1.t, .int .i64 f1.l]] w (RetB (.bool true) w) := by
  have Bt := Lib.hid (Below.refl w.heap.size w)
  obtain ⟨w0, hw0⟩ : ∃ w0, (w.alloc (.cells #[.int .i64 f0.t, .int .i64 f0.l] 57)).alloc (.cells #[.int .i64 f1.t, .int .i64 f1.l] 57) = w0 := ⟨_, rfl⟩
  have hs0 : w0.heap.size = w.heap.size + 2 := by rw [← hw0]; simp
  have rb0 : Below w.heap.size w w0 := by rw [← hw0]; exact ((Below.refl _ _).alloc (Nat.le_refl _) _).alloc (by simp) _
  have hT0 : TwoAt 57 w0 (w.heap.size) f0.t f0.l := by rw [← hw0]; exact (TwoAt.new _ w f0.t f0.l).old _
  have hT1 : TwoAt 57 w0 (w.heap.size + 1) f1.t f1.l := by rw [← hw0]; exact TwoAt.new1 _ w _ f1.t f1.l
  replace Bt := Lib.hid (below_step Bt.out rb0)
  have HT0 := Lib.hid hT0
  have HT1 := Lib.hid hT1
  have Hw0 := Lib.hid hw0
  clear hw0 rb0 hT0 hT1
  go_enter Try.func16, Try.ntmps16
  go_wp2
  rw [Hw0.out]
  go_wp2
  have rb1 := (Below.refl w0.heap.size w0).drew
  replace HT0 := Lib.hid (HT0.out.go rb1)
  replace HT1 := Lib.hid (HT1.out.go rb1)
  replace Bt := Lib.hid (below_step Bt.out rb1)
  clear rb1
  have pk1 := And.intro (HT0.out).c0 (And.intro (HT0.out).c1 (And.intro (HT1.out).c0 (HT1.out).c1))
  go_region_held3 (fun w9 => w9.cell? ⟨w.heap.size, 0, none⟩ = some (.int .i64 f0.t) ∧ w9.cell? ⟨w.heap.size, 1, none⟩ = some (.int .i64 f0.l) ∧ w9.cell? ⟨w.heap.size + 1, 0, none⟩ = some (.int .i64 f1.t) ∧ w9.cell? ⟨w.heap.size + 1, 1, none⟩ = some (.int .i64 f1.l)) (first | exact pk4 | exact pk3 | exact pk2 | exact pk1)
    (first | (go_at_call_of 43 (f0.t); refine (toRatio_c f0 _).mono ?_; rintro e u2 ⟨rfl, rb2⟩; have sz2 := rb2.size; replace HT0 := Lib.hid (HT0.out.go rb2); replace HT1 := Lib.hid (HT1.out.go rb2); replace Bt := Lib.hid (below_step Bt.out rb2); clear rb2; have pk2 := And.intro (HT0.out).c0 (And.intro (HT0.out).c1 (And.intro (HT1.out).c0 (HT1.out).c1))) | (go_at_call_of 43 (f1.t); refine (toRatio_c f1 _).mono ?_; rintro e u3 ⟨rfl, rb3⟩; have sz3 := rb3.size; replace HT0 := Lib.hid (HT0.out.go rb3); replace HT1 := Lib.hid (HT1.out.go rb3); replace Bt := Lib.hid (below_step Bt.out rb3); clear rb3; have pk3 := And.intro (HT0.out).c0 (And.intro (HT0.out).c1 (And.intro (HT1.out).c0 (HT1.out).c1))) | (go_at_call 53; refine (specRatioLess_b f0.t f0.l f1.t f1.l _  ).mono ?_; rintro e u4 ⟨rfl, rb4⟩; have sz4 := rb4.size; replace HT0 := Lib.hid (HT0.out.go rb4); replace HT1 := Lib.hid (HT1.out.go rb4); replace Bt := Lib.hid (below_step Bt.out rb4); clear rb4; have pk4 := And.intro (HT0.out).c0 (And.intro (HT0.out).c1 (And.intro (HT1.out).c0 (HT1.out).c1))))
  clear pk1 pk2 pk3 pk4
  go_wp2
  have rb5 := (Below.refl u4.heap.size u4).drew
  replace HT0 := Lib.hid (HT0.out.go rb5)
  replace HT1 := Lib.hid (HT1.out.go rb5)
  replace Bt := Lib.hid (below_step Bt.out rb5)
  clear rb5
  have pk5 := And.intro (HT0.out).c0 (And.intro (HT0.out).c1 (And.intro (HT1.out).c0 (HT1.out).c1))
  go_region_held3 (fun w9 => w9.cell? ⟨w.heap.size, 0, none⟩ = some (.int .i64 f0.t) ∧ w9.cell? ⟨w.heap.size, 1, none⟩ = some (.int .i64 f0.l) ∧ w9.cell? ⟨w.heap.size + 1, 0, none⟩ = some (.int .i64 f1.t) ∧ w9.cell? ⟨w.heap.size + 1, 1, none⟩ = some (.int .i64 f1.l)) (first | exact pk8 | exact pk7 | exact pk6 | exact pk5)
    (first | (go_at_call_of 43 (f0.t); refine (toRatio_c f0 _).mono ?_; rintro e u6 ⟨rfl, rb6⟩; have sz6 := rb6.size; replace HT0 := Lib.hid (HT0.out.go rb6); replace HT1 := Lib.hid (HT1.out.go rb6); replace Bt := Lib.hid (below_step Bt.out rb6); clear rb6; have pk6 := And.intro (HT0.out).c0 (And.intro (HT0.out).c1 (And.intro (HT1.out).c0 (HT1.out).c1))) | (go_at_call_of 43 (f1.t); refine (toRatio_c f1 _).mono ?_; rintro e u7 ⟨rfl, rb7⟩; have sz7 := rb7.size; replace HT0 := Lib.hid (HT0.out.go rb7); replace HT1 := Lib.hid (HT1.out.go rb7); replace Bt := Lib.hid (below_step Bt.out rb7); clear rb7; have pk7 := And.intro (HT0.out).c0 (And.intro (HT0.out).c1 (And.intro (HT1.out).c0 (HT1.out).c1))) | (go_at_call 54; refine (implRatioLess_b f0.t f0.l f1.t f1.l _  ).mono ?_; rintro e u8 ⟨rfl, rb8⟩; have sz8 := rb8.size; replace HT0 := Lib.hid (HT0.out.go rb8); replace HT1 := Lib.hid (HT1.out.go rb8); replace Bt := Lib.hid (below_step Bt.out rb8); clear rb8; have pk8 := And.intro (HT0.out).c0 (And.intro (HT0.out).c1 (And.intro (HT1.out).c0 (HT1.out).c1))))
  clear pk5 pk6 pk7 pk8
  go_wp2
  go_ret
  exact ⟨rfl, Bt.out⟩

theorem exRatioLess_walk (f0 : Rat2) (f1 : Rat2) (w : World)  :
    Calls Try.prog 16 #[.agg #[.int .i64 f0.t, .int .i64 f0.l], .agg #[.int .i64 f1.t, .int .i64 f1.l]] w (RetB (.bool true) w) := exRatioLess_in f0 f1 w 

set_option maxRecDepth 100000 in
theorem exRatioLess_lifted (os : Os) (started : os.Started) (H : Type) (enc : TypeId × Value → H) :
    ReturnsInHanded {} Try.checked os 16 .any (Rows.fnExactRatioLessSpec.pre6 enc Try.prog Try.f16 Rows.fnExactRatioLessRow.domain false) (Rows.fnExactRatioLessSpec.post enc Try.prog Try.f16 false true false false) := by
  refine returnsInHanded_of_change (C := Try.checked) row_own started (by kernel_rfl) Try.func16
    (ChangeSpec.witness6 (enc := enc) (C := Try.checked) false ⟨#[], #[.agg #[.int .i64 0, .int .i64 0], .agg #[.int .i64 0, .int .i64 0]], []⟩ 8 (by kernel_rfl) (by kernel_rfl) (by kernel_rfl) (by kernel_rfl)) ?_
  intro W base args ds gs before hval0 hW hcnd _
  have hval : ∀ (j : Nat) t v, Try.f16.params[j]? = some t → args[j]? = some v → Value.okWide Try.prog W .any base t v := hval0
  have hW' := hW
  obtain ⟨p, q, hA0, hV, rfl, _, _⟩ := hW
  have hA : DataW.TrodAll enc Try.prog W 0 (fun _ => true) true Try.f16.params.toList args.toList ds p := hA0
  rw [Try.params16] at hA hval
  obtain ⟨v0, vs0, d0, ds0, p0, q0, hargs, rfl, rfl, h0, r0⟩ := trodAll_cons hA
  obtain ⟨v1, vs1, d1, ds1, p1, q1, rfl, rfl, rfl, h1, r1⟩ := trodAll_cons r0
  obtain ⟨rfl, rfl, rfl⟩ := trodAll_nil r1
  obtain rfl : args = #[v0, v1] := by cases args; simp_all
  obtain ⟨rfl, rfl⟩ := trodVars_none hV
  obtain ⟨f0, rfl, rfl, rfl, wf0a, wf0b⟩ := open_ratio (hval 0 57 v0 rfl rfl) h0
  obtain ⟨f1, rfl, rfl, rfl, wf1a, wf1b⟩ := open_ratio (hval 1 57 v1 rfl rfl) h1
  clear hA0 hval0
  refine (exRatioLess_walk f0 f1 W  ).mono fun e W' ⟨he, hb⟩ => ?_
  subst he
  exact ⟨_, rfl, _, _, _, [], _, [], hW', (trodAll_cons_mk (shut_bool Try.underlying4 _) trodAll_mk0), (trodAll_cons_mk (shut_ratio wf0a wf0b) (trodAll_cons_mk (shut_ratio wf1a wf1b) trodAll_mk0)), rfl, hb.frame _, fun h => by cases h⟩

/-- THE STATEMENT -/
theorem exRatioLess_holds : Rows.FnExactRatioLessSaid :=
  OpenClaim.holds_of_wide 16 Try.f16 rfl rfl rfl rfl rfl rfl rfl ⟨rfl, rfl, rfl, rfl, rfl⟩ rfl rfl rfl rfl rfl (by kernel_rfl) Try.func16 (by kernel_rfl)
    (of_decide_eq_true (by kernel_rfl)) (by unfold Func.isWrapper; first | (rw [if_pos (by decide +kernel)]; kernel_rfl) | (rw [if_neg (by decide +kernel)]; exact ⟨rfl, rfl⟩))
    (fun os started H enc _ => exRatioLess_lifted os started H enc)
#print axioms exRatioLess_holds
end Go.Proofs.Ytleagighkbmapaa
