/-
  The exact law of SignalOf: for all arguments the law answers true. No condition.
  (Written by a program of mine, gen8.py.)
-/
import Derived.Test.YthhckijoilphiaaRow
import Derived.ChangeMaps5
import Derived.Test.YthhckijoilphiaaFac
import Derived.Test.YthhckijoilphiaaSoS
import Derived.Test.YthhckijoilphiaaSoI
namespace Go.Proofs.Ythhckijoilphiaa
open Go.ChangeShapes Go.WideShapes Go.ChangeAt Go.RowKit Go.ChangeMaps

set_option maxRecDepth 100000 in
set_option maxHeartbeats 2000000 in
theorem exSignalOf_in (s0 : ByteArray) (w : World)  (hs0 : s0.size ≤ 1048576) :
    Calls Try.prog 4 #[.string s0] w (RetB (.bool true) w) := by
  have gT0 : ¬ (1048576 : Int) < (s0.size : Int) := by omega
  have Bt := Lib.hid (Below.refl w.heap.size w)
  go_enter Try.func4, Try.ntmps4
  go_wp2_with fail
  refine (specSignalOf_b s0 _ (by omega) ).mono ?_
  rintro e u1 ⟨rfl, rb1⟩
  have sz1 := rb1.size
  replace Bt := Lib.hid (below_step Bt.out rb1)
  clear rb1
  go_wp2_with fail
  refine (implSignalOf_b s0 _  ).mono ?_
  rintro e u2 ⟨rfl, rb2⟩
  have sz2 := rb2.size
  replace Bt := Lib.hid (below_step Bt.out rb2)
  clear rb2
  go_wp2
  go_ret
  exact ⟨rfl, Bt.out⟩

theorem exSignalOf_walk (s0 : ByteArray) (w : World)  :
    Calls Try.prog 4 #[.string s0] w (RetB (.bool true) w) := by
  by_cases hs0 : 1048576 < s0.size
  · have hj0 : (1048576 : Int) < (s0.size : Int) := by omega
    go_enter Try.func4, Try.ntmps4
    go_wp2
    go_ret
    exact ⟨rfl, Below.refl _ _⟩
  have gT0 : ¬ (1048576 : Int) < (s0.size : Int) := by omega
  exact exSignalOf_in s0 w (by omega)

set_option maxRecDepth 100000 in
theorem exSignalOf_lifted (os : Os) (started : os.Started) (H : Type) (enc : TypeId × Value → H) :
    ReturnsInHanded {} Try.checked os 4 .any (Rows.fnExactSignalOfSpec.pre6 enc Try.prog Try.f4 Rows.fnExactSignalOfRow.domain false) (Rows.fnExactSignalOfSpec.post enc Try.prog Try.f4 false true false false) := by
  refine returnsInHanded_of_change (C := Try.checked) row_own started (by kernel_rfl) Try.func4
    (ChangeSpec.witness6 (enc := enc) (C := Try.checked) false ⟨#[], #[.string ⟨#[]⟩], []⟩ 8 (by kernel_rfl) (by kernel_rfl) (by kernel_rfl) (by kernel_rfl)) ?_
  intro W base args ds gs before hval0 hW hcnd _
  have hval : ∀ (j : Nat) t v, Try.f4.params[j]? = some t → args[j]? = some v → Value.okWide Try.prog W .any base t v := hval0
  have hW' := hW
  obtain ⟨p, q, hA0, hV, rfl, _, _⟩ := hW
  have hA : DataW.TrodAll enc Try.prog W 0 (fun _ => true) true Try.f4.params.toList args.toList ds p := hA0
  rw [Try.params4] at hA hval
  obtain ⟨v0, vs0, d0, ds0, p0, q0, hargs, rfl, rfl, h0, r0⟩ := trodAll_cons hA
  obtain ⟨rfl, rfl, rfl⟩ := trodAll_nil r0
  obtain rfl : args = #[v0] := by cases args; simp_all
  obtain ⟨rfl, rfl⟩ := trodVars_none hV
  obtain ⟨s0, rfl, rfl, rfl, ws0⟩ := open_string Try.underlying9 (hval 0 9 v0 rfl rfl) h0
  clear hA0 hval0
  refine (exSignalOf_walk s0 W ).mono fun e W' ⟨he, hb⟩ => ?_
  subst he
  exact ⟨_, rfl, _, _, _, [], _, [], hW', (trodAll_cons_mk (shut_bool Try.underlying4 _) trodAll_mk0), (trodAll_cons_mk (shut_string Try.underlying9 ws0) trodAll_mk0), rfl, hb.frame _, fun h => by cases h⟩

set_option maxRecDepth 100000 in
theorem exSignalOf_closed : joinedFacts Try.prog 4 Try.f4 Rows.fnExactSignalOfSpec Rows.fnExactSignalOfRow = true := by
  unfold joinedFacts
  repeat' (with_reducible apply facAnd)
  all_goals first | (with_reducible exact facEnter) | (with_reducible exact facLaid) | (with_reducible exact facMaps) | (with_reducible exact facStops) | (with_reducible exact facKnobs) | (with_reducible exact facHeard) | (rw [facLifts]; as_aux_lemma => kernel_rfl) | (rw [facMake]; as_aux_lemma => kernel_rfl) | (as_aux_lemma => kernel_rfl)

/-- THE STATEMENT -/
theorem exSignalOf_holds : Rows.FnExactSignalOfSaid :=
  OpenClaim.holds_of_wide 4 Try.f4 rfl rfl rfl rfl rfl rfl rfl ⟨rfl, rfl, rfl, rfl, rfl⟩ rfl rfl rfl rfl rfl (by kernel_rfl) Try.func4 exSignalOf_closed
    (of_decide_eq_true (by kernel_rfl)) (by unfold Func.isWrapper; first | (rw [if_pos (by decide +kernel)]; kernel_rfl) | (rw [if_neg (by decide +kernel)]; exact ⟨rfl, rfl⟩))
    (fun os started H enc _ => exSignalOf_lifted os started H enc)
#print axioms exSignalOf_holds
end Go.Proofs.Ythhckijoilphiaa
