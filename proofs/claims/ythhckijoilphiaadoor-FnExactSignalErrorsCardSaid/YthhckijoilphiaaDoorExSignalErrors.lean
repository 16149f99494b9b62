/-
  The exact law of SignalErrors: for all arguments the law answers true. No condition but the tie of the card.
  (Written by a program of mine, gen8.py.)
-/
import Derived.Test.YthhckijoilphiaaDoorBaseX
import Derived.Test.YthhckijoilphiaaDoorRow
import Derived.ChangeMaps5
import Derived.Test.YthhckijoilphiaaDoorDoorV
import Derived.Test.YthhckijoilphiaaDoorTie
import Derived.Test.YthhckijoilphiaaDoorFacD
import Derived.Test.YthhckijoilphiaaDoorErS
import Derived.Test.YthhckijoilphiaaDoorErI
namespace Go.Proofs.YthhckijoilphiaaDoor
open Go.ChangeShapes Go.WideShapes Go.ChangeAt Go.RowKit Go.ChangeMaps

set_option maxRecDepth 100000 in
set_option maxHeartbeats 2000000 in
theorem exSignalErrors_in (s0 : ByteArray) (w : World)  (hs0 : s0.size ≤ 1048576) (hT : Tab w) :
    Calls Tryd.prog 13 #[.string s0] w (RetB (.bool true) w) := by
  have gT0 : ¬ (1048576 : Int) < (s0.size : Int) := by omega
  have tz0 := hT.lt
  have HT := Lib.hid hT
  clear hT
  have Bt := Lib.hid (Below.refl w.heap.size w)
  go_enter Tryd.func13, Tryd.ntmps13
  go_wp2_with fail
  refine (specSignalErrors_b s0 _ (by omega) ).mono ?_
  rintro e u1 ⟨B1, d1, rfl, ra1, ro1, rb1⟩
  dsimp only
  have sz1 := rb1.size
  replace HT := Lib.hid (HT.out.go rb1)
  replace Bt := Lib.hid (below_step Bt.out rb1)
  have Hx1 := Lib.hid (ro1.held (Nat.le_refl _) ra1.len)
  have Ox1 := Lib.hid ro1
  clear ra1 ro1 rb1
  go_wp2_with fail
  refine (implSignalErrors_b s0 _ (by omega)  HT.out).mono ?_
  rintro e u2 ⟨B2, d2, rfl, ra2, ro2, rb2⟩
  dsimp only
  have sz2 := rb2.size
  replace Hx1 := Lib.hid (Hx1.out.go rb2)
  replace Ox1 := Lib.hid (Ox1.out.go rb2 (by omega))
  replace HT := Lib.hid (HT.out.go rb2)
  replace Bt := Lib.hid (below_step Bt.out rb2)
  have Hx2 := Lib.hid (ro2.held (Nat.le_refl _) ra2.len)
  have Ox2 := Lib.hid ro2
  clear ra2 ro2 rb2
  have hlr0 : List.length (errL (byL s0)) ≤ 2097152 := Hx2.out.arg.len
  go_wp2_with fail
  refine (eqStringS_c B2 B1 d2 d1 (errL (byL s0)) (errL (byL s0)) _ Hx2.out.arg Hx1.out.arg).mono ?_
  intro e0 v0 h0
  replace h0 := h0.toB
  revert e0 v0 h0
  rintro e u3 ⟨rfl, rb3⟩
  have sz3 := rb3.size
  replace Hx1 := Lib.hid (Hx1.out.go rb3)
  replace Hx2 := Lib.hid (Hx2.out.go rb3)
  replace Ox1 := Lib.hid (Ox1.out.go rb3 (by omega))
  replace Ox2 := Lib.hid (Ox2.out.go rb3 (by omega))
  replace HT := Lib.hid (HT.out.go rb3)
  replace Bt := Lib.hid (below_step Bt.out rb3)
  clear rb3
  go_wp2_with fail
  refine (markStringS_c B2 d2 (errL (byL s0)) 1 _ _ _ Hx2.out.arg.len (by omega) (by omega) Ox2.out).mono ?_
  rintro e u4 ⟨rfl, rg4, ro4⟩
  have sz4 := rg4.size
  have rr4 := Ox2.out.range
  replace Hx1 := Lib.hid (Hx1.out.grown rg4 (fun r e => by have := rr4 r e; omega))
  replace Ox1 := Lib.hid (Ox1.out.kept rg4 (fun r e => by have := rr4 r e; omega))
  replace HT := Lib.hid (HT.out.grown rg4 (fun r e => by have := rr4 r e; omega))
  replace Bt := Lib.hid (below_row Bt.out rg4 (fun r e => by have := rr4 r e; omega))
  replace Ox2 := Lib.hid ro4
  replace Hx2 := Lib.hid ((owX_marks Ox2.out).held (by have := Hx2.out.2.1; omega) (by rw [marksX_length]; exact Hx2.out.arg.len))
  clear ro4 rg4 rr4
  go_wp2_with fail
  refine (heldStringS_c B2 d2 (List.length (errL (byL s0))) 1 _ (by omega) (by omega) Hx2.out.arg).mono ?_
  rintro e u5 ⟨rfl, rb5⟩
  have sz5 := rb5.size
  replace Hx1 := Lib.hid (Hx1.out.go rb5)
  replace Hx2 := Lib.hid (Hx2.out.go rb5)
  replace Ox1 := Lib.hid (Ox1.out.go rb5 (by omega))
  replace Ox2 := Lib.hid (Ox2.out.go rb5 (by omega))
  replace HT := Lib.hid (HT.out.go rb5)
  replace Bt := Lib.hid (below_step Bt.out rb5)
  clear rb5
  go_wp2_with fail
  refine (implSignalErrors_b s0 _ (by omega)  HT.out).mono ?_
  rintro e u6 ⟨B6, d6, rfl, ra6, ro6, rb6⟩
  dsimp only
  have sz6 := rb6.size
  replace Hx1 := Lib.hid (Hx1.out.go rb6)
  replace Hx2 := Lib.hid (Hx2.out.go rb6)
  replace Ox1 := Lib.hid (Ox1.out.go rb6 (by omega))
  replace Ox2 := Lib.hid (Ox2.out.go rb6 (by omega))
  replace HT := Lib.hid (HT.out.go rb6)
  replace Bt := Lib.hid (below_step Bt.out rb6)
  have Hx6 := Lib.hid (ro6.held (Nat.le_refl _) ra6.len)
  have Ox6 := Lib.hid ro6
  clear ra6 ro6 rb6
  go_wp2_with fail
  refine (eqStringS_c B6 B1 d6 d1 (errL (byL s0)) (errL (byL s0)) _ Hx6.out.arg Hx1.out.arg).mono ?_
  intro e0 v0 h0
  replace h0 := h0.toB
  revert e0 v0 h0
  rintro e u7 ⟨rfl, rb7⟩
  have sz7 := rb7.size
  replace Hx1 := Lib.hid (Hx1.out.go rb7)
  replace Hx2 := Lib.hid (Hx2.out.go rb7)
  replace Hx6 := Lib.hid (Hx6.out.go rb7)
  replace Ox1 := Lib.hid (Ox1.out.go rb7 (by omega))
  replace Ox2 := Lib.hid (Ox2.out.go rb7 (by omega))
  replace Ox6 := Lib.hid (Ox6.out.go rb7 (by omega))
  replace HT := Lib.hid (HT.out.go rb7)
  replace Bt := Lib.hid (below_step Bt.out rb7)
  clear rb7
  go_wp2_with fail
  refine (heldStringS_c B2 d2 (List.length (errL (byL s0))) 1 _ (by omega) (by omega) Hx2.out.arg).mono ?_
  rintro e u8 ⟨rfl, rb8⟩
  have sz8 := rb8.size
  replace Hx1 := Lib.hid (Hx1.out.go rb8)
  replace Hx2 := Lib.hid (Hx2.out.go rb8)
  replace Hx6 := Lib.hid (Hx6.out.go rb8)
  replace Ox1 := Lib.hid (Ox1.out.go rb8 (by omega))
  replace Ox2 := Lib.hid (Ox2.out.go rb8 (by omega))
  replace Ox6 := Lib.hid (Ox6.out.go rb8 (by omega))
  replace HT := Lib.hid (HT.out.go rb8)
  replace Bt := Lib.hid (below_step Bt.out rb8)
  clear rb8
  go_wp2
  go_ret
  exact ⟨rfl, Bt.out⟩

theorem exSignalErrors_walk (s0 : ByteArray) (w : World)  (hT : Tab w) :
    Calls Tryd.prog 13 #[.string s0] w (RetB (.bool true) w) := by
  by_cases hs0 : 1048576 < s0.size
  · have hj0 : (1048576 : Int) < (s0.size : Int) := by omega
    clear hT
    go_enter Tryd.func13, Tryd.ntmps13
    go_wp2
    go_ret
    exact ⟨rfl, Below.refl _ _⟩
  have gT0 : ¬ (1048576 : Int) < (s0.size : Int) := by omega
  exact exSignalErrors_in s0 w (by omega) hT

set_option maxRecDepth 100000 in
theorem exSignalErrors_lifted (os : Os) (started : os.Started) (H : Type) (enc : TypeId × Value → H) :
    ReturnsInHanded {} Tryd.checked os 13 .any (fun w args => (Rows.fnExactSignalErrorsSpec.pre enc Tryd.prog Tryd.f13 [] false w args ∧ laidMetH Tryd.prog Rows.fnExactSignalErrorsRow.laid w) ∧ sizedMet enc Tryd.prog Tryd.f13 (OpenSpec.ofChange Rows.fnExactSignalErrorsSpec) false w args)
      (Rows.fnExactSignalErrorsSpec.post enc Tryd.prog Tryd.f13 false true false false) := by
  refine handed_shaped started (by kernel_rfl) Tryd.func13
    (ChangeSpec.witness_shaped (enc := enc) (C := Tryd.checked) (os := os) (X := fun w _ => laidMetH Tryd.prog laidU w) false (doorW os) #[.string ⟨#[]⟩] 8 (doorW_os os) (door_shaped os _) (by kernel_rfl) (by kernel_rfl) (by kernel_rfl) (door_laid os _)) ?_
  intro W base args ds gs before hval0 hW hT
  have hval : ∀ (j : Nat) t v, Tryd.f13.params[j]? = some t → args[j]? = some v → Value.okWide Tryd.prog W .any base t v := hval0
  have hW' := hW
  obtain ⟨p, q, hA0, hV, rfl, _, _⟩ := hW
  have hA : DataW.TrodAll enc Tryd.prog W 0 (fun _ => true) true Tryd.f13.params.toList args.toList ds p := hA0
  rw [Tryd.params13] at hA hval
  obtain ⟨v0, vs0, d0, ds0, p0, q0, hargs, rfl, rfl, h0, r0⟩ := trodAll_cons hA
  obtain ⟨rfl, rfl, rfl⟩ := trodAll_nil r0
  obtain rfl : args = #[v0] := by cases args; simp_all
  obtain ⟨rfl, rfl⟩ := trodVars_none hV
  obtain ⟨s0, rfl, rfl, rfl, ws0⟩ := open_string Tryd.underlying9 (hval 0 9 v0 rfl rfl) h0
  clear hA0 hval0
  refine (exSignalErrors_walk s0 W hT).mono fun e W' ⟨he, hb⟩ => ?_
  subst he
  exact ⟨_, rfl, _, _, _, [], _, [], hW', (trodAll_cons_mk (shut_bool Tryd.underlying4 _) trodAll_mk0), (trodAll_cons_mk (shut_string Tryd.underlying9 ws0) trodAll_mk0), rfl, hb.frame _, fun h => by cases h⟩

set_option maxRecDepth 100000 in
theorem exSignalErrors_closed : joinedFacts Tryd.prog 13 Tryd.f13 Rows.fnExactSignalErrorsSpec Rows.fnExactSignalErrorsRow = true := by
  unfold joinedFacts
  repeat' (with_reducible apply facAnd)
  all_goals first | (with_reducible exact facEnter) | (with_reducible exact facLaid) | (with_reducible exact facMaps) | (with_reducible exact facStops) | (with_reducible exact facKnobs) | (with_reducible exact facHeard) | (rw [facLifts]; as_aux_lemma => kernel_rfl) | (rw [facMake]; as_aux_lemma => kernel_rfl) | (as_aux_lemma => kernel_rfl)

/-- the bare row -/
theorem exSignalErrors_row : Rows.FnExactSignalErrorsSaid :=
  OpenClaim.holds_of_wide 13 Tryd.f13 rfl rfl rfl rfl rfl rfl rfl ⟨rfl, rfl, rfl, rfl, rfl⟩ rfl rfl rfl rfl rfl (by kernel_rfl) Tryd.func13 exSignalErrors_closed
    (of_decide_eq_true (by kernel_rfl)) (by unfold Func.isWrapper; first | (rw [if_pos (by decide +kernel)]; kernel_rfl) | (rw [if_neg (by decide +kernel)]; exact ⟨rfl, rfl⟩))
    (fun os started H enc _ => exSignalErrors_lifted os started H enc)

/-- THE STATEMENT: the card -/
theorem exSignalErrors_holds : Rows.FnExactSignalErrorsCardSaid :=
  Claim7.holds_tied_plain_at .later [] [.data, .pinned] true Rows.fnExactSignalErrorsCard.stood.harness false
    exSignalErrors_row (fun _ h => by cases h) (by kernel_rfl) (fun _ h => by cases h) fnExactSignalErrors_row_tie rfl ⟨rfl, rfl⟩ door_main rfl
    (fun f fn hf hfn => by
      obtain rfl : f = 13 := Option.some.inj ((show Tryd.prog.funcNamed Rows.fnExactSignalErrorsRow.func = some 13 by kernel_rfl).symm.trans hf) |>.symm
      obtain rfl : fn = Tryd.f13 := (Option.some.inj (Tryd.func13.symm.trans hfn)).symm
      exact ⟨door_looks, fun j t ht => by
        rw [Tryd.params13] at ht
        have hm : t ∈ [9] := by simpa using Array.mem_of_getElem? ht
        have hall : ([9].all fun u => !Tryd.prog.wantsStandIn u) = true := by kernel_rfl
        exact (show Tryd.prog.wantsStandIn t = false by simpa using List.all_eq_true.1 hall t hm)⟩)
    (by kernel_rfl)
#print axioms exSignalErrors_holds
end Go.Proofs.YthhckijoilphiaaDoor
