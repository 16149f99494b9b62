/-
  The exact law of SignalLetters: for all arguments the law answers true. No condition.
  (Written by a program of mine, gen8.py.)
-/
import Derived.Test.YthhckijoilphiaaRow
import Derived.ChangeMaps5
import Derived.Test.YthhckijoilphiaaFac
import Derived.Test.YthhckijoilphiaaSlS
import Derived.Test.YthhckijoilphiaaSlI
namespace Go.Proofs.Ythhckijoilphiaa
open Go.ChangeShapes Go.WideShapes Go.ChangeAt Go.RowKit Go.ChangeMaps

set_option maxRecDepth 100000 in
set_option maxHeartbeats 2000000 in
theorem exSignalLetters_in (n0 : Int) (w : World)   :
    Calls Try.prog 5 #[.int .i64 n0] w (RetB (.bool true) w) := by
  have Bt := Lib.hid (Below.refl w.heap.size w)
  go_enter Try.func5, Try.ntmps5
  go_wp2_with fail
  refine (specSignalLetters_b n0 _  ).mono ?_
  rintro e u1 ⟨rfl, rb1⟩
  have sz1 := rb1.size
  replace Bt := Lib.hid (below_step Bt.out rb1)
  clear rb1
  go_wp2_with fail
  refine (implSignalLetters_b n0 _  ).mono ?_
  rintro e u2 ⟨rfl, rb2⟩
  have sz2 := rb2.size
  replace Bt := Lib.hid (below_step Bt.out rb2)
  clear rb2
  go_wp2
  go_ret
  exact ⟨rfl, Bt.out⟩

theorem exSignalLetters_walk (n0 : Int) (w : World)  :
    Calls Try.prog 5 #[.int .i64 n0] w (RetB (.bool true) w) := by
  exact exSignalLetters_in n0 w 

set_option maxRecDepth 100000 in
theorem exSignalLetters_lifted (os : Os) (started : os.Started) (H : Type) (enc : TypeId × Value → H) :
    ReturnsInHanded {} Try.checked os 5 .any (Rows.fnExactSignalLettersSpec.pre6 enc Try.prog Try.f5 Rows.fnExactSignalLettersRow.domain false) (Rows.fnExactSignalLettersSpec.post enc Try.prog Try.f5 false true false false) := by
  refine returnsInHanded_of_change (C := Try.checked) row_own started (by kernel_rfl) Try.func5
    (ChangeSpec.witness6 (enc := enc) (C := Try.checked) false ⟨#[], #[.int .i64 0], []⟩ 8 (by kernel_rfl) (by kernel_rfl) (by kernel_rfl) (by kernel_rfl)) ?_
  intro W base args ds gs before hval0 hW hcnd _
  have hval : ∀ (j : Nat) t v, Try.f5.params[j]? = some t → args[j]? = some v → Value.okWide Try.prog W .any base t v := hval0
  have hW' := hW
  obtain ⟨p, q, hA0, hV, rfl, _, _⟩ := hW
  have hA : DataW.TrodAll enc Try.prog W 0 (fun _ => true) true Try.f5.params.toList args.toList ds p := hA0
  rw [Try.params5] at hA hval
  obtain ⟨v0, vs0, d0, ds0, p0, q0, hargs, rfl, rfl, h0, r0⟩ := trodAll_cons hA
  obtain ⟨rfl, rfl, rfl⟩ := trodAll_nil r0
  obtain rfl : args = #[v0] := by cases args; simp_all
  obtain ⟨rfl, rfl⟩ := trodVars_none hV
  obtain ⟨n0, rfl, rfl, rfl, wf0⟩ := open_int Try.underlying3 (hval 0 3 v0 rfl rfl) h0
  clear hA0 hval0
  refine (exSignalLetters_walk n0 W ).mono fun e W' ⟨he, hb⟩ => ?_
  subst he
  exact ⟨_, rfl, _, _, _, [], _, [], hW', (trodAll_cons_mk (shut_bool Try.underlying4 _) trodAll_mk0), (trodAll_cons_mk (shut_int Try.underlying3 wf0) trodAll_mk0), rfl, hb.frame _, fun h => by cases h⟩

set_option maxRecDepth 100000 in
theorem exSignalLetters_closed : joinedFacts Try.prog 5 Try.f5 Rows.fnExactSignalLettersSpec Rows.fnExactSignalLettersRow = true := by
  unfold joinedFacts
  repeat' (with_reducible apply facAnd)
  all_goals first | (with_reducible exact facEnter) | (with_reducible exact facLaid) | (with_reducible exact facMaps) | (with_reducible exact facStops) | (with_reducible exact facKnobs) | (with_reducible exact facHeard) | (rw [facLifts]; as_aux_lemma => kernel_rfl) | (rw [facMake]; as_aux_lemma => kernel_rfl) | (as_aux_lemma => kernel_rfl)

/-- THE STATEMENT -/
theorem exSignalLetters_holds : Rows.FnExactSignalLettersSaid :=
  OpenClaim.holds_of_wide 5 Try.f5 rfl rfl rfl rfl rfl rfl rfl ⟨rfl, rfl, rfl, rfl, rfl⟩ rfl rfl rfl rfl rfl (by kernel_rfl) Try.func5 exSignalLetters_closed
    (of_decide_eq_true (by kernel_rfl)) (by unfold Func.isWrapper; first | (rw [if_pos (by decide +kernel)]; kernel_rfl) | (rw [if_neg (by decide +kernel)]; exact ⟨rfl, rfl⟩))
    (fun os started H enc _ => exSignalLetters_lifted os started H enc)
#print axioms exSignalLetters_holds
end Go.Proofs.Ythhckijoilphiaa
