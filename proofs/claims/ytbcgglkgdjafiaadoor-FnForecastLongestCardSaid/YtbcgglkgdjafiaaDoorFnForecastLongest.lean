/-
  The law FnForecastLongest: for every code the law answers true. No condition but the tie of the card.
-/
import Derived.Test.YtbcgglkgdjafiaaDoorRowB
import Derived.Test.YtbcgglkgdjafiaaDoorRow
import Derived.ChangeMaps5
import Derived.Test.YtbcgglkgdjafiaaDoorDoorM
import Derived.Test.YtbcgglkgdjafiaaDoorTie
import Derived.Test.YtbcgglkgdjafiaaDoorCards
import Derived.LaidMore
import Derived.SevenTiedAt
import Derived.Stop.Joined
import Derived.Test.YtbcgglkgdjafiaaDoorFacD
import Derived.Test.YtbcgglkgdjafiaaDoorWDrawS
import Derived.Test.YtbcgglkgdjafiaaDoorWFacts
namespace Go.Proofs.YtbcgglkgdjafiaaDoor
open Go.ChangeShapes Go.WideShapes Go.ChangeAt Go.RowKit Go.ChangeMaps

set_option maxRecDepth 100000 in
set_option maxHeartbeats 2000000 in
theorem fnForecastLongest_in (A : Option Addr) (n c : Nat) (w : World) (hl : n ≤ 1048576) (hnc : n ≤ c) (hb : Bytes w.heap.size w A n) (hT : Tab w) :
    Calls Tryd.prog 5 #[.slice A n c] w (RetB (.bool true) w) := by
  have Hb := Lib.hid hb
  have tz0 := hT.lt
  have HT := Lib.hid hT
  clear hb hT
  go_enter Tryd.func5, Tryd.ntmps5
  go_wp2_with fail
  refine (DrawForecastLongest_c A n c _ (by omega) hnc Hb.out).mono ?_
  rintro e w1 ⟨s, rfl, hs, hB⟩
  replace HT := Lib.hid (HT.out.go hB)
  have Bt := Lib.hid hB
  clear hB Hb
  have Hlen := Lib.hid (byL_len s)
  have Hop := Lib.hid (fun (d : Int) W => (implForecastOpen_q s d W).mono fun _ _ h => h.toB)
  have Hwi := Lib.hid (fun (d : Int) W h => implForecastWindow_b s d W (by omega) h)
  have Hi1 := Lib.hid (fun W h => implForecastLongest_b s W (by omega) h)
  have Hspec := Lib.hid (fun W => specForecastLongest_c s (by omega) W)
  have Hno := Lib.hid (@loV_no (byL s))
  have Hyes := Lib.hid (@loV_yes (byL s))
  obtain ⟨v, hv⟩ : ∃ v, loV (byL s) = v := ⟨_, rfl⟩
  rw [hv] at Hi1 Hspec Hno Hyes
  clear hv
  have nv : (v != v) = false := by simp
  have ne : (v == v) = true := by simp
  go_wp2_with fail
  refine (Hi1.out _ HT.out).mono ?_
  rintro e w2 ⟨rfl, rb2⟩
  replace HT := Lib.hid (HT.out.go rb2)
  replace Bt := Lib.hid (below_step Bt.out rb2)
  clear rb2
  go_wp2_with fail
  refine (Hspec.out _).mono ?_
  rintro e w3 ⟨rfl, rfl⟩
  cases hf : fcB (byL s)
  · have hv1 := Hno.out hf
    subst hv1
    clear hf
    go_wp2
    go_ret
    exact ⟨rfl, Bt.out⟩
  have hv1 := Hyes.out hf
  have hle := lgT_le (byL s)
  have hop := lgT_op (byL s)
  have hall := open_at hf (Nat.le_refl _)
  have ht2 := opT_all (byL s)
  have Hat := Lib.hid (fun v => @lg_at (byL s) hf v)
  have Hnx := Lib.hid (fun v => @lg_next (byL s) hf v)
  rw [Hlen.out] at hle hop hall ht2
  obtain ⟨x, hx⟩ : ∃ x, lgT (byL s) = x := ⟨_, rfl⟩
  rw [hx] at hle hop hv1
  obtain ⟨z, hz⟩ : ∃ z, opT (byL s) s.size = z := ⟨_, rfl⟩
  rw [hz] at hop hall ht2
  subst hv1
  have hwn := Hwi.out ((x : Int) + 1)
  rw [Hnx.out x hx] at hwn
  have hoa := Hop.out (s.size : Int)
  rw [hall] at hoa
  have Hwn := Lib.hid hwn
  have Hoa := Lib.hid hoa
  have g0 : ¬ (x : Int) < 0 := by omega
  have g1 : ((x : Int) == 30) = false := by rw [beq_eq_false_iff_ne]; omega
  have g2 : (x : Int) ≤ (z : Int) := by omega
  have q1 : IntKind.i64.wrap ((x : Int) + 1) = (x : Int) + 1 := IntWalk.i64_in _ (by omega)
  have Hx := Lib.hid hx
  clear hwn hoa hall hop hz hf Hop Hi1 Hspec Hno Hyes hx
  by_cases h0 : x = 0
  · subst h0
    go_wp2_with fail
    refine (Hwn.out _ HT.out).mono ?_
    rintro e w4 ⟨rfl, rb⟩
    replace HT := Lib.hid (HT.out.go rb)
    replace Bt := Lib.hid (below_step Bt.out rb)
    clear rb
    go_wp2_with fail
    refine (Hoa.out _).mono ?_
    rintro e w5 ⟨rfl, rb⟩
    replace HT := Lib.hid (HT.out.go rb)
    replace Bt := Lib.hid (below_step Bt.out rb)
    clear rb
    go_wp2
    go_ret
    exact ⟨rfl, Bt.out⟩
  · obtain ⟨d, hd⟩ := Hat.out x Hx.out (by omega)
    have hw1 := Hwi.out (x : Int)
    rw [hd] at hw1
    have Hw1 := Lib.hid hw1
    have g3 : ((x : Int) == 0) = false := by rw [beq_eq_false_iff_ne]; omega
    clear hw1 hd
    go_wp2_with fail
    refine (Hw1.out _ HT.out).mono ?_
    rintro e w4 ⟨rfl, rb⟩
    replace HT := Lib.hid (HT.out.go rb)
    replace Bt := Lib.hid (below_step Bt.out rb)
    clear rb
    go_wp2_with fail
    refine (Hwn.out _ HT.out).mono ?_
    rintro e w5 ⟨rfl, rb⟩
    replace HT := Lib.hid (HT.out.go rb)
    replace Bt := Lib.hid (below_step Bt.out rb)
    clear rb
    go_wp2_with fail
    refine (Hoa.out _).mono ?_
    rintro e w6 ⟨rfl, rb⟩
    replace HT := Lib.hid (HT.out.go rb)
    replace Bt := Lib.hid (below_step Bt.out rb)
    clear rb
    go_wp2
    go_ret
    exact ⟨rfl, Bt.out⟩

theorem fnForecastLongest_walk (A0 : Option Addr) (n0 c0 : Nat) (w : World) (hb0 : Byt0 w A0 n0 c0) (hT : Tab w) :
    Calls Tryd.prog 5 #[.slice A0 n0 c0] w (RetB (.bool true) w) := by
  by_cases hl0 : 1048576 < n0
  · clear hb0 hT
    go_enter Tryd.func5, Tryd.ntmps5
    go_wp2
    go_ret
    exact ⟨rfl, Below.refl _ _⟩
  exact fnForecastLongest_in A0 n0 c0 w (by omega) hb0.1 hb0.2.2 hT

set_option maxRecDepth 100000 in
theorem fnForecastLongest_lifted (os : Os) (started : os.Started) (H : Type) (enc : TypeId × Value → H) :
    ReturnsInHanded {} Tryd.checked os 5 .any (fun w args => (Rows.fnForecastLongestSpec.pre enc Tryd.prog Tryd.f5 [] false w args ∧ laidMetH Tryd.prog Rows.fnForecastLongestRow.laid w) ∧ sizedMet enc Tryd.prog Tryd.f5 (OpenSpec.ofChange Rows.fnForecastLongestSpec) false w args)
      (Rows.fnForecastLongestSpec.post enc Tryd.prog Tryd.f5 false true false false) := by
  refine returnsInHanded_of_change_and (C := Tryd.checked) (X := fun w _ => laidMetH Tryd.prog Rows.fnForecastLongestRow.laid w) (fun _ _ _ hh h => h.of_heap hh) row_own started (by kernel_rfl) Tryd.func5
    (ChangeSpec.witness_shaped (enc := enc) (C := Tryd.checked) (os := os) (X := fun w _ => laidMetH Tryd.prog Rows.fnForecastLongestRow.laid w) false (World.doorLaid Tryd.prog 4000 os) #[.slice none 0 0] 8 rfl (door_shaped os _) (by kernel_rfl) (by kernel_rfl) (by kernel_rfl) (door_laid os _)) ?_
  intro W base args ds gs before hval0 hW hcnd _ hlaid _
  have hval : ∀ (j : Nat) t v, Tryd.f5.params[j]? = some t → args[j]? = some v → Value.okWide Tryd.prog W .any base t v := hval0
  have hW' := hW
  obtain ⟨p, q, hA0, hV, rfl, _, _⟩ := hW
  have hA : DataW.TrodAll enc Tryd.prog W 0 (fun _ => true) true Tryd.f5.params.toList args.toList ds p := hA0
  rw [Tryd.params5] at hA hval
  obtain ⟨v0, vs0, d0, ds0, p0, q0, hargs, rfl, rfl, h0, r0⟩ := trodAll_cons hA
  obtain ⟨rfl, rfl, rfl⟩ := trodAll_nil r0
  obtain rfl : args = #[v0] := by cases args; simp_all
  obtain ⟨rfl, rfl⟩ := trodVars_none hV
  have hlt0 : ∀ x ∈ p0, x.block < W.heap.size := fun x hx => by exact hW'.lt x (by simp [hx])
  obtain ⟨A0, n0, c0, rfl, hb0⟩ := open_bytes (hval 0 22 v0 rfl rfl) h0 hlt0
  clear hA0 hval0
  refine (fnForecastLongest_walk A0 n0 c0 W hb0 (tab_of hlaid)).mono fun e W' ⟨he, hb⟩ => ?_
  subst he
  exact ⟨_, rfl, _, _, _, [], _, [], hW', (trodAll_cons_mk (shut_bool Tryd.underlying4 _) trodAll_mk0), (trodAll_cons_mk (read_again_bytes h0 hlt0 hb) trodAll_mk0), rfl, hb.frame _, fun h => by cases h⟩

set_option maxRecDepth 100000 in
theorem fnForecastLongest_closed : joinedFacts Tryd.prog 5 Tryd.f5 Rows.fnForecastLongestSpec Rows.fnForecastLongestRow = true := by
  unfold joinedFacts
  repeat' (with_reducible apply facAnd)
  all_goals first | (with_reducible exact facEnter) | (with_reducible exact facLaid) | (with_reducible exact facMaps) | (with_reducible exact facStops) | (with_reducible exact facKnobs) | (with_reducible exact facHeard) | (rw [facLifts]; as_aux_lemma => kernel_rfl) | (rw [facMake]; as_aux_lemma => kernel_rfl) | (as_aux_lemma => kernel_rfl)

/-- the bare row -/
theorem fnForecastLongest_row : Rows.FnForecastLongestSaid :=
  OpenClaim.holds_of_wide 5 Tryd.f5 rfl rfl rfl rfl rfl rfl rfl ⟨rfl, rfl, rfl, rfl, rfl⟩ rfl rfl rfl rfl rfl (by kernel_rfl) Tryd.func5 fnForecastLongest_closed
    (of_decide_eq_true (by kernel_rfl)) (by unfold Func.isWrapper; first | (rw [if_pos (by decide +kernel)]; kernel_rfl) | (rw [if_neg (by decide +kernel)]; exact ⟨rfl, rfl⟩))
    (fun os started H enc _ => fnForecastLongest_lifted os started H enc)

/-- THE STATEMENT: the card -/
theorem fnForecastLongest_holds : Rows.FnForecastLongestCardSaid :=
  Claim7.holds_tied_plain_at .later [] [.data] true Rows.fnForecastLongestCard.stood.harness false
    fnForecastLongest_row (fun _ h => by cases h) (by kernel_rfl) (fun _ h => by cases h) fnForecastLongest_row_tie rfl ⟨rfl, rfl⟩ door_main rfl
    (fun f fn hf hfn => by
      obtain rfl : f = 5 := Option.some.inj ((show Tryd.prog.funcNamed Rows.fnForecastLongestRow.func = some 5 by kernel_rfl).symm.trans hf) |>.symm
      obtain rfl : fn = Tryd.f5 := (Option.some.inj (Tryd.func5.symm.trans hfn)).symm
      exact ⟨door_looks, fun j t ht => by
        rw [Tryd.params5] at ht
        have hm : t ∈ [22] := by simpa using Array.mem_of_getElem? ht
        have hall : ([22].all fun u => !Tryd.prog.wantsStandIn u) = true := by kernel_rfl
        exact (show Tryd.prog.wantsStandIn t = false by simpa using List.all_eq_true.1 hall t hm)⟩)
    (by kernel_rfl)
#print axioms fnForecastLongest_holds
end Go.Proofs.YtbcgglkgdjafiaaDoor
