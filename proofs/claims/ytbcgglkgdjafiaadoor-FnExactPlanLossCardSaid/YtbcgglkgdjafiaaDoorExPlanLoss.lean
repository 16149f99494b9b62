/-
  The exact law of PlanLoss: for all arguments the law answers true. No condition but the tie of the card.
  (Written by a program of mine, gen6.py.)
-/
import Derived.Test.YtbcgglkgdjafiaaDoorBaseJ
import Derived.Test.YtbcgglkgdjafiaaDoorBaseJD
import Derived.Test.YtbcgglkgdjafiaaDoorRowJ
import Derived.Test.YtbcgglkgdjafiaaDoorBase
import Derived.Test.YtbcgglkgdjafiaaDoorRow
import Derived.ChangeMaps5
import Derived.Test.YtbcgglkgdjafiaaDoorDoorM
import Derived.Test.YtbcgglkgdjafiaaDoorTie
import Derived.Test.YtbcgglkgdjafiaaDoorCards
import Derived.LaidMore
import Derived.SevenTiedAt
import Derived.Stop.Joined
import Derived.Test.YtbcgglkgdjafiaaDoorFacD
import Derived.Test.YtbcgglkgdjafiaaDoorPlL
namespace Go.Proofs.YtbcgglkgdjafiaaDoor
open Go.ChangeShapes Go.WideShapes Go.ChangeAt Go.RowKit Go.ChangeMaps

set_option maxRecDepth 100000 in
set_option maxHeartbeats 2000000 in
theorem exPlanLoss_in (s0 : ByteArray) (A1 : Option Addr) (c1 : Nat) (z1 : List Jbs) (A2 : Option Addr) (c2 : Nat) (z2 : List Int) (w : World) (ha1 : ArgJ w A1 c1 z1) (ha2 : Arg w A2 c2 z2) (hl2 : z2.length ≤ 1048576) (hl : z1.length ≤ 1048576) (hs0 : s0.size ≤ 1048576) (hT : Tab w) :
    Calls Tryd.prog 13 #[.string s0, .slice A1 z1.length c1, .slice A2 z2.length c2] w (RetB (.bool true) w) := by
  have Ha1 := Lib.hid ha1.held
  clear ha1
  have Ha2 := Lib.hid ha2.held
  clear ha2
  have gN2 : (z2.length : Int) ≤ 1048576 := by omega
  have gT0 : ¬ (1048576 : Int) < (s0.size : Int) := by omega
  have tz0 := hT.lt
  have HT := Lib.hid hT
  clear hT
  have Bt := Lib.hid (Below.refl w.heap.size w)
  go_enter Tryd.func13, Tryd.ntmps13
  go_wp2_with fail
  refine (szJobS_yes A1 c1 z1.length (1048576) _ (by omega) (by omega)).mono ?_
  rintro e w9 ⟨rfl, rfl⟩
  go_wp2_with fail
  refine (toJobS_c A1 c1 z1 _ Ha1.out.arg).mono ?_
  rintro e u1 ⟨B1, d1, rfl, ra1, ro1, rb1⟩
  dsimp only [id]
  have sz1 := rb1.size
  replace Ha1 := Lib.hid (Ha1.out.go rb1)
  replace Ha2 := Lib.hid (Ha2.out.go rb1)
  replace HT := Lib.hid (HT.out.go rb1)
  replace Bt := Lib.hid (below_step Bt.out rb1)
  have Hx1 := Lib.hid (ro1.held (Nat.le_refl _) ra1.len)
  have Ox1 := Lib.hid ro1
  clear ra1 ro1 rb1
  go_wp2_with fail
  refine (toIntS_c A2 c2 z2 _ Ha2.out.arg).mono ?_
  rintro e u2 ⟨B2, d2, rfl, ra2, ro2, rb2⟩
  dsimp only [id]
  have sz2 := rb2.size
  replace Ha1 := Lib.hid (Ha1.out.go rb2)
  replace Ha2 := Lib.hid (Ha2.out.go rb2)
  replace Hx1 := Lib.hid (Hx1.out.go rb2)
  replace Ox1 := Lib.hid (Ox1.out.go rb2 (by omega))
  replace HT := Lib.hid (HT.out.go rb2)
  replace Bt := Lib.hid (below_step Bt.out rb2)
  have Hx2 := Lib.hid (ro2.held (Nat.le_refl _) ra2.len)
  have Ox2 := Lib.hid ro2
  clear ra2 ro2 rb2
  go_wp2_with fail
  refine (specPlanLoss_b s0 B1 d1 z1 B2 d2 z2 _ (by omega) Hx1.out.arg Hx2.out.arg).mono ?_
  rintro e u3 ⟨rfl, rb3⟩
  have sz3 := rb3.size
  replace Ha1 := Lib.hid (Ha1.out.go rb3)
  replace Ha2 := Lib.hid (Ha2.out.go rb3)
  replace Hx1 := Lib.hid (Hx1.out.go rb3)
  replace Hx2 := Lib.hid (Hx2.out.go rb3)
  replace Ox1 := Lib.hid (Ox1.out.go rb3 (by omega))
  replace Ox2 := Lib.hid (Ox2.out.go rb3 (by omega))
  replace HT := Lib.hid (HT.out.go rb3)
  replace Bt := Lib.hid (below_step Bt.out rb3)
  clear rb3
  clear Hx1 Ox1
  clear Hx2 Ox2
  go_wp2_with fail
  refine (toJobS_c A1 c1 z1 _ Ha1.out.arg).mono ?_
  rintro e u4 ⟨B4, d4, rfl, ra4, ro4, rb4⟩
  dsimp only [id]
  have sz4 := rb4.size
  replace Ha1 := Lib.hid (Ha1.out.go rb4)
  replace Ha2 := Lib.hid (Ha2.out.go rb4)
  replace HT := Lib.hid (HT.out.go rb4)
  replace Bt := Lib.hid (below_step Bt.out rb4)
  have Hx4 := Lib.hid (ro4.held (Nat.le_refl _) ra4.len)
  have Ox4 := Lib.hid ro4
  clear ra4 ro4 rb4
  go_wp2_with fail
  refine (toIntS_c A2 c2 z2 _ Ha2.out.arg).mono ?_
  rintro e u5 ⟨B5, d5, rfl, ra5, ro5, rb5⟩
  dsimp only [id]
  have sz5 := rb5.size
  replace Ha1 := Lib.hid (Ha1.out.go rb5)
  replace Ha2 := Lib.hid (Ha2.out.go rb5)
  replace Hx4 := Lib.hid (Hx4.out.go rb5)
  replace Ox4 := Lib.hid (Ox4.out.go rb5 (by omega))
  replace HT := Lib.hid (HT.out.go rb5)
  replace Bt := Lib.hid (below_step Bt.out rb5)
  have Hx5 := Lib.hid (ro5.held (Nat.le_refl _) ra5.len)
  have Ox5 := Lib.hid ro5
  clear ra5 ro5 rb5
  go_wp2_with fail
  refine (implPlanLoss_b s0 B4 d4 z1 B5 d5 z2 _ (by omega) Hx4.out.arg Hx5.out.arg HT.out).mono ?_
  rintro e u6 ⟨rfl, rb6⟩
  have sz6 := rb6.size
  replace Ha1 := Lib.hid (Ha1.out.go rb6)
  replace Ha2 := Lib.hid (Ha2.out.go rb6)
  replace Hx4 := Lib.hid (Hx4.out.go rb6)
  replace Hx5 := Lib.hid (Hx5.out.go rb6)
  replace Ox4 := Lib.hid (Ox4.out.go rb6 (by omega))
  replace Ox5 := Lib.hid (Ox5.out.go rb6 (by omega))
  replace HT := Lib.hid (HT.out.go rb6)
  replace Bt := Lib.hid (below_step Bt.out rb6)
  clear rb6
  go_wp2_with fail
  refine (toJobS_c A1 c1 z1 _ Ha1.out.arg).mono ?_
  rintro e u7 ⟨B7, d7, rfl, ra7, ro7, rb7⟩
  dsimp only [id]
  have sz7 := rb7.size
  replace Ha1 := Lib.hid (Ha1.out.go rb7)
  replace Ha2 := Lib.hid (Ha2.out.go rb7)
  replace Hx4 := Lib.hid (Hx4.out.go rb7)
  replace Hx5 := Lib.hid (Hx5.out.go rb7)
  replace Ox4 := Lib.hid (Ox4.out.go rb7 (by omega))
  replace Ox5 := Lib.hid (Ox5.out.go rb7 (by omega))
  replace HT := Lib.hid (HT.out.go rb7)
  replace Bt := Lib.hid (below_step Bt.out rb7)
  have Hx7 := Lib.hid (ro7.held (Nat.le_refl _) ra7.len)
  have Ox7 := Lib.hid ro7
  clear ra7 ro7 rb7
  go_wp2_with fail
  refine (eqJobS_c B4 B7 d4 d7 z1 z1 _ Hx4.out.arg Hx7.out.arg).mono ?_
  rintro e u8 ⟨rfl, rb8⟩
  have sz8 := rb8.size
  replace Ha1 := Lib.hid (Ha1.out.go rb8)
  replace Ha2 := Lib.hid (Ha2.out.go rb8)
  replace Hx4 := Lib.hid (Hx4.out.go rb8)
  replace Hx5 := Lib.hid (Hx5.out.go rb8)
  replace Hx7 := Lib.hid (Hx7.out.go rb8)
  replace Ox4 := Lib.hid (Ox4.out.go rb8 (by omega))
  replace Ox5 := Lib.hid (Ox5.out.go rb8 (by omega))
  replace Ox7 := Lib.hid (Ox7.out.go rb8 (by omega))
  replace HT := Lib.hid (HT.out.go rb8)
  replace Bt := Lib.hid (below_step Bt.out rb8)
  clear rb8
  clear Hx7 Ox7
  go_wp2_with fail
  refine (toIntS_c A2 c2 z2 _ Ha2.out.arg).mono ?_
  rintro e u9 ⟨B9, d9, rfl, ra9, ro9, rb9⟩
  dsimp only [id]
  have sz9 := rb9.size
  replace Ha1 := Lib.hid (Ha1.out.go rb9)
  replace Ha2 := Lib.hid (Ha2.out.go rb9)
  replace Hx4 := Lib.hid (Hx4.out.go rb9)
  replace Hx5 := Lib.hid (Hx5.out.go rb9)
  replace Ox4 := Lib.hid (Ox4.out.go rb9 (by omega))
  replace Ox5 := Lib.hid (Ox5.out.go rb9 (by omega))
  replace HT := Lib.hid (HT.out.go rb9)
  replace Bt := Lib.hid (below_step Bt.out rb9)
  have Hx9 := Lib.hid (ro9.held (Nat.le_refl _) ra9.len)
  have Ox9 := Lib.hid ro9
  clear ra9 ro9 rb9
  go_wp2_with fail
  refine (eqIntS_c B5 B9 d5 d9 z2 z2 _ Hx5.out.arg Hx9.out.arg).mono ?_
  intro e0 v0 h0
  replace h0 := h0.toB
  revert e0 v0 h0
  rintro e u10 ⟨rfl, rb10⟩
  have sz10 := rb10.size
  replace Ha1 := Lib.hid (Ha1.out.go rb10)
  replace Ha2 := Lib.hid (Ha2.out.go rb10)
  replace Hx4 := Lib.hid (Hx4.out.go rb10)
  replace Hx5 := Lib.hid (Hx5.out.go rb10)
  replace Hx9 := Lib.hid (Hx9.out.go rb10)
  replace Ox4 := Lib.hid (Ox4.out.go rb10 (by omega))
  replace Ox5 := Lib.hid (Ox5.out.go rb10 (by omega))
  replace Ox9 := Lib.hid (Ox9.out.go rb10 (by omega))
  replace HT := Lib.hid (HT.out.go rb10)
  replace Bt := Lib.hid (below_step Bt.out rb10)
  clear rb10
  clear Hx9 Ox9
  go_wp2
  go_ret
  exact ⟨rfl, Bt.out⟩

theorem exPlanLoss_walk (s0 : ByteArray) (A1 : Option Addr) (c1 : Nat) (z1 : List Jbs) (A2 : Option Addr) (c2 : Nat) (z2 : List Int) (w : World) (ha1 : ArgJ0 w A1 c1 z1) (ha2 : Arg0 w A2 c2 z2) (hT : Tab w) :
    Calls Tryd.prog 13 #[.string s0, .slice A1 z1.length c1, .slice A2 z2.length c2] w (RetB (.bool true) w) := by
  by_cases hs0 : 1048576 < s0.size
  · have hj0 : (1048576 : Int) < (s0.size : Int) := by omega
    clear ha1 ha2 hT
    go_enter Tryd.func13, Tryd.ntmps13
    go_wp2
    go_ret
    exact ⟨rfl, Below.refl _ _⟩
  have gT0 : ¬ (1048576 : Int) < (s0.size : Int) := by omega
  by_cases hlN2 : 1048576 < z2.length
  · have hk2 : ¬ (z2.length : Int) ≤ 1048576 := by omega
    have hj2 : (1048576 : Int) < (z2.length : Int) := by omega
    clear ha1 ha2 hT
    go_enter Tryd.func13, Tryd.ntmps13
    go_wp2
    go_ret
    exact ⟨rfl, Below.refl _ _⟩
  have gN2 : (z2.length : Int) ≤ 1048576 := by omega
  by_cases hl1 : 1048576 < z1.length
  · have hc1 := ha1.1
    have hm1 := ha1.2.1
    have hk1 : (1048576 : Int) < (z1.length : Int) := by omega
    clear ha1 ha2 hT
    go_enter Tryd.func13, Tryd.ntmps13
    go_wp2_with fail
    refine (szJobS_no A1 c1 z1.length (1048576) _ hk1 (by omega) hc1 hm1).mono ?_
    rintro e w9 ⟨rfl, rfl⟩
    go_wp2
    go_ret
    exact ⟨rfl, Below.refl _ _⟩
  exact exPlanLoss_in s0 A1 c1 z1 A2 c2 z2 w (ha1.arg (by omega)) (ha2.arg (by omega)) (by omega) (by omega) (by omega) hT

set_option maxRecDepth 100000 in
theorem exPlanLoss_lifted (os : Os) (started : os.Started) (H : Type) (enc : TypeId × Value → H) :
    ReturnsInHanded {} Tryd.checked os 13 .any (fun w args => (Rows.fnExactPlanLossSpec.pre enc Tryd.prog Tryd.f13 [] false w args ∧ laidMetH Tryd.prog Rows.fnExactPlanLossRow.laid w) ∧ sizedMet enc Tryd.prog Tryd.f13 (OpenSpec.ofChange Rows.fnExactPlanLossSpec) false w args)
      (Rows.fnExactPlanLossSpec.post enc Tryd.prog Tryd.f13 false true false false) := by
  refine returnsInHanded_of_change_and (C := Tryd.checked) (X := fun w _ => laidMetH Tryd.prog Rows.fnExactPlanLossRow.laid w) (fun _ _ _ hh h => h.of_heap hh) row_own started (by kernel_rfl) Tryd.func13
    (ChangeSpec.witness_shaped (enc := enc) (C := Tryd.checked) (os := os) (X := fun w _ => laidMetH Tryd.prog Rows.fnExactPlanLossRow.laid w) false (World.doorLaid Tryd.prog 4000 os) #[.string ⟨#[]⟩, .slice none 0 0, .slice none 0 0] 8 rfl (door_shaped os _) (by kernel_rfl) (by kernel_rfl) (by kernel_rfl) (door_laid os _)) ?_
  intro W base args ds gs before hval0 hW hcnd _ hlaid _
  have hval : ∀ (j : Nat) t v, Tryd.f13.params[j]? = some t → args[j]? = some v → Value.okWide Tryd.prog W .any base t v := hval0
  have hW' := hW
  obtain ⟨p, q, hA0, hV, rfl, _, _⟩ := hW
  have hA : DataW.TrodAll enc Tryd.prog W 0 (fun _ => true) true Tryd.f13.params.toList args.toList ds p := hA0
  rw [Tryd.params13] at hA hval
  obtain ⟨v0, vs0, d0, ds0, p0, q0, hargs, rfl, rfl, h0, r0⟩ := trodAll_cons hA
  obtain ⟨v1, vs1, d1, ds1, p1, q1, rfl, rfl, rfl, h1, r1⟩ := trodAll_cons r0
  obtain ⟨v2, vs2, d2, ds2, p2, q2, rfl, rfl, rfl, h2, r2⟩ := trodAll_cons r1
  obtain ⟨rfl, rfl, rfl⟩ := trodAll_nil r2
  obtain rfl : args = #[v0, v1, v2] := by cases args; simp_all
  obtain ⟨rfl, rfl⟩ := trodVars_none hV
  obtain ⟨s0, rfl, rfl, rfl, ws0⟩ := open_string Tryd.underlying9 (hval 0 9 v0 rfl rfl) h0
  have hlt1 : ∀ x ∈ p1, x.block < W.heap.size := fun x hx => by exact hW'.lt x (by simp [hx])
  obtain ⟨A1, c1, z1, rfl, ha1⟩ := open_jbss (hval 1 45 v1 rfl rfl) h1 hlt1
  have hlt2 : ∀ x ∈ p2, x.block < W.heap.size := fun x hx => by exact hW'.lt x (by simp [hx])
  obtain ⟨A2, c2, z2, rfl, ha2⟩ := open_slice (hval 2 31 v2 rfl rfl) h2 hlt2
  clear hA0 hval0
  refine (exPlanLoss_walk s0 A1 c1 z1 A2 c2 z2 W ha1 ha2 (tab_of hlaid)).mono fun e W' ⟨he, hb⟩ => ?_
  subst he
  exact ⟨_, rfl, _, _, _, [], _, [], hW', (trodAll_cons_mk (shut_bool Tryd.underlying4 _) trodAll_mk0), (trodAll_cons_mk (shut_string Tryd.underlying9 ws0) (trodAll_cons_mk (read_again_jbss h1 hlt1 hb) (trodAll_cons_mk (read_again h2 hlt2 hb) trodAll_mk0))), rfl, hb.frame _, fun h => by cases h⟩

set_option maxRecDepth 100000 in
theorem exPlanLoss_closed : joinedFacts Tryd.prog 13 Tryd.f13 Rows.fnExactPlanLossSpec Rows.fnExactPlanLossRow = true := by
  unfold joinedFacts
  repeat' (with_reducible apply facAnd)
  all_goals first | (with_reducible exact facEnter) | (with_reducible exact facLaid) | (with_reducible exact facMaps) | (with_reducible exact facStops) | (with_reducible exact facKnobs) | (with_reducible exact facHeard) | (rw [facLifts]; as_aux_lemma => kernel_rfl) | (rw [facMake]; as_aux_lemma => kernel_rfl) | (as_aux_lemma => kernel_rfl)

/-- the bare row -/
theorem exPlanLoss_row : Rows.FnExactPlanLossSaid :=
  OpenClaim.holds_of_wide 13 Tryd.f13 rfl rfl rfl rfl rfl rfl rfl ⟨rfl, rfl, rfl, rfl, rfl⟩ rfl rfl rfl rfl rfl (by kernel_rfl) Tryd.func13 exPlanLoss_closed
    (of_decide_eq_true (by kernel_rfl)) (by unfold Func.isWrapper; first | (rw [if_pos (by decide +kernel)]; kernel_rfl) | (rw [if_neg (by decide +kernel)]; exact ⟨rfl, rfl⟩))
    (fun os started H enc _ => exPlanLoss_lifted os started H enc)

/-- THE STATEMENT: the card -/
theorem exPlanLoss_holds : Rows.FnExactPlanLossCardSaid :=
  Claim7.holds_tied_plain_at .later [] [.data] true Rows.fnExactPlanLossCard.stood.harness false
    exPlanLoss_row (fun _ h => by cases h) (by kernel_rfl) (fun _ h => by cases h) fnExactPlanLoss_row_tie rfl ⟨rfl, rfl⟩ door_main rfl
    (fun f fn hf hfn => by
      obtain rfl : f = 13 := Option.some.inj ((show Tryd.prog.funcNamed Rows.fnExactPlanLossRow.func = some 13 by kernel_rfl).symm.trans hf) |>.symm
      obtain rfl : fn = Tryd.f13 := (Option.some.inj (Tryd.func13.symm.trans hfn)).symm
      exact ⟨door_looks, fun j t ht => by
        rw [Tryd.params13] at ht
        have hm : t ∈ [9, 45, 31] := by simpa using Array.mem_of_getElem? ht
        have hall : ([9, 45, 31].all fun u => !Tryd.prog.wantsStandIn u) = true := by kernel_rfl
        exact (show Tryd.prog.wantsStandIn t = false by simpa using List.all_eq_true.1 hall t hm)⟩)
    (by kernel_rfl)
#print axioms exPlanLoss_holds
end Go.Proofs.YtbcgglkgdjafiaaDoor
