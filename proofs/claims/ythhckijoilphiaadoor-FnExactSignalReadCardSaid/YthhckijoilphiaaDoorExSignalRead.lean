/-
  The exact law of SignalRead: for all arguments the law answers true. No condition but the tie of the card.
  (Written by a program of mine, gen8.py.)
-/
import Derived.Test.YthhckijoilphiaaDoorRow
import Derived.ChangeMaps5
import Derived.Test.YthhckijoilphiaaDoorDoorV
import Derived.Test.YthhckijoilphiaaDoorTie
import Derived.Test.YthhckijoilphiaaDoorFacD
import Derived.Test.YthhckijoilphiaaDoorRsS
import Derived.Test.YthhckijoilphiaaDoorReI
namespace Go.Proofs.YthhckijoilphiaaDoor
open Go.ChangeShapes Go.WideShapes Go.ChangeAt Go.RowKit Go.ChangeMaps

set_option maxRecDepth 100000 in
set_option maxHeartbeats 2000000 in
theorem exSignalRead_in (s0 : ByteArray) (w : World)  (hs0 : s0.size ≤ 1048576) (hT : Tab w) :
    Calls Tryd.prog 7 #[.string s0] w (RetB (.bool true) w) := by
  have gT0 : ¬ (1048576 : Int) < (s0.size : Int) := by omega
  have tz0 := hT.lt
  have HT := Lib.hid hT
  clear hT
  have Bt := Lib.hid (Below.refl w.heap.size w)
  go_enter Tryd.func7, Tryd.ntmps7
  go_wp2_with fail
  refine (specSignalRead_b s0 _ (by omega) ).mono ?_
  rintro e u1 ⟨rfl, rb1⟩
  have sz1 := rb1.size
  replace HT := Lib.hid (HT.out.go rb1)
  replace Bt := Lib.hid (below_step Bt.out rb1)
  clear rb1
  go_wp2_with fail
  refine (implSignalRead_b s0 _ (by omega)  HT.out).mono ?_
  rintro e u2 ⟨rfl, rb2⟩
  have sz2 := rb2.size
  replace HT := Lib.hid (HT.out.go rb2)
  replace Bt := Lib.hid (below_step Bt.out rb2)
  clear rb2
  go_wp2
  go_ret
  exact ⟨rfl, Bt.out⟩

theorem exSignalRead_walk (s0 : ByteArray) (w : World)  (hT : Tab w) :
    Calls Tryd.prog 7 #[.string s0] w (RetB (.bool true) w) := by
  by_cases hs0 : 1048576 < s0.size
  · have hj0 : (1048576 : Int) < (s0.size : Int) := by omega
    clear hT
    go_enter Tryd.func7, Tryd.ntmps7
    go_wp2
    go_ret
    exact ⟨rfl, Below.refl _ _⟩
  have gT0 : ¬ (1048576 : Int) < (s0.size : Int) := by omega
  exact exSignalRead_in s0 w (by omega) hT

set_option maxRecDepth 100000 in
theorem exSignalRead_lifted (os : Os) (started : os.Started) (H : Type) (enc : TypeId × Value → H) :
    ReturnsInHanded {} Tryd.checked os 7 .any (fun w args => (Rows.fnExactSignalReadSpec.pre enc Tryd.prog Tryd.f7 [] false w args ∧ laidMetH Tryd.prog Rows.fnExactSignalReadRow.laid w) ∧ sizedMet enc Tryd.prog Tryd.f7 (OpenSpec.ofChange Rows.fnExactSignalReadSpec) false w args)
      (Rows.fnExactSignalReadSpec.post enc Tryd.prog Tryd.f7 false true false false) := by
  refine handed_shaped started (by kernel_rfl) Tryd.func7
    (ChangeSpec.witness_shaped (enc := enc) (C := Tryd.checked) (os := os) (X := fun w _ => laidMetH Tryd.prog laidU w) false (doorW os) #[.string ⟨#[]⟩] 8 (doorW_os os) (door_shaped os _) (by kernel_rfl) (by kernel_rfl) (by kernel_rfl) (door_laid os _)) ?_
  intro W base args ds gs before hval0 hW hT
  have hval : ∀ (j : Nat) t v, Tryd.f7.params[j]? = some t → args[j]? = some v → Value.okWide Tryd.prog W .any base t v := hval0
  have hW' := hW
  obtain ⟨p, q, hA0, hV, rfl, _, _⟩ := hW
  have hA : DataW.TrodAll enc Tryd.prog W 0 (fun _ => true) true Tryd.f7.params.toList args.toList ds p := hA0
  rw [Tryd.params7] at hA hval
  obtain ⟨v0, vs0, d0, ds0, p0, q0, hargs, rfl, rfl, h0, r0⟩ := trodAll_cons hA
  obtain ⟨rfl, rfl, rfl⟩ := trodAll_nil r0
  obtain rfl : args = #[v0] := by cases args; simp_all
  obtain ⟨rfl, rfl⟩ := trodVars_none hV
  obtain ⟨s0, rfl, rfl, rfl, ws0⟩ := open_string Tryd.underlying9 (hval 0 9 v0 rfl rfl) h0
  clear hA0 hval0
  refine (exSignalRead_walk s0 W hT).mono fun e W' ⟨he, hb⟩ => ?_
  subst he
  exact ⟨_, rfl, _, _, _, [], _, [], hW', (trodAll_cons_mk (shut_bool Tryd.underlying4 _) trodAll_mk0), (trodAll_cons_mk (shut_string Tryd.underlying9 ws0) trodAll_mk0), rfl, hb.frame _, fun h => by cases h⟩

set_option maxRecDepth 100000 in
theorem exSignalRead_closed : joinedFacts Tryd.prog 7 Tryd.f7 Rows.fnExactSignalReadSpec Rows.fnExactSignalReadRow = true := by
  unfold joinedFacts
  repeat' (with_reducible apply facAnd)
  all_goals first | (with_reducible exact facEnter) | (with_reducible exact facLaid) | (with_reducible exact facMaps) | (with_reducible exact facStops) | (with_reducible exact facKnobs) | (with_reducible exact facHeard) | (rw [facLifts]; as_aux_lemma => kernel_rfl) | (rw [facMake]; as_aux_lemma => kernel_rfl) | (as_aux_lemma => kernel_rfl)

/-- the bare row -/
theorem exSignalRead_row : Rows.FnExactSignalReadSaid :=
  OpenClaim.holds_of_wide 7 Tryd.f7 rfl rfl rfl rfl rfl rfl rfl ⟨rfl, rfl, rfl, rfl, rfl⟩ rfl rfl rfl rfl rfl (by kernel_rfl) Tryd.func7 exSignalRead_closed
    (of_decide_eq_true (by kernel_rfl)) (by unfold Func.isWrapper; first | (rw [if_pos (by decide +kernel)]; kernel_rfl) | (rw [if_neg (by decide +kernel)]; exact ⟨rfl, rfl⟩))
    (fun os started H enc _ => exSignalRead_lifted os started H enc)

/-- THE STATEMENT: the card -/
theorem exSignalRead_holds : Rows.FnExactSignalReadCardSaid :=
  Claim7.holds_tied_plain_at .later [] [.data, .pinned] true Rows.fnExactSignalReadCard.stood.harness false
    exSignalRead_row (fun _ h => by cases h) (by kernel_rfl) (fun _ h => by cases h) fnExactSignalRead_row_tie rfl ⟨rfl, rfl⟩ door_main rfl
    (fun f fn hf hfn => by
      obtain rfl : f = 7 := Option.some.inj ((show Tryd.prog.funcNamed Rows.fnExactSignalReadRow.func = some 7 by kernel_rfl).symm.trans hf) |>.symm
      obtain rfl : fn = Tryd.f7 := (Option.some.inj (Tryd.func7.symm.trans hfn)).symm
      exact ⟨door_looks, fun j t ht => by
        rw [Tryd.params7] at ht
        have hm : t ∈ [9] := by simpa using Array.mem_of_getElem? ht
        have hall : ([9].all fun u => !Tryd.prog.wantsStandIn u) = true := by kernel_rfl
        exact (show Tryd.prog.wantsStandIn t = false by simpa using List.all_eq_true.1 hall t hm)⟩)
    (by kernel_rfl)
#print axioms exSignalRead_holds
end Go.Proofs.YthhckijoilphiaaDoor
