/-
  The law FnLevelSignal: for every code the law answers true. No condition but the tie of the card.
-/
import Derived.Test.YtgnolhikphoagaaDoorRowB
import Derived.Test.YtgnolhikphoagaaDoorRow
import Derived.ChangeMaps5
import Derived.Test.YtgnolhikphoagaaDoorDoorV
import Derived.Test.YtgnolhikphoagaaDoorTie
import Derived.Test.YtgnolhikphoagaaDoorFacD
import Derived.Test.YtgnolhikphoagaaDoorSDrawB
import Derived.Test.YtgnolhikphoagaaDoorSgP
import Derived.Test.YtgnolhikphoagaaDoorLeS
import Derived.Test.YtgnolhikphoagaaDoorLeI
import Derived.Test.YtgnolhikphoagaaDoorDrI
import Derived.Test.YtgnolhikphoagaaDoorMem
namespace Go.Proofs.YtgnolhikphoagaaDoor
open Go.ChangeShapes Go.WideShapes Go.ChangeAt Go.RowKit Go.ChangeMaps


set_option maxRecDepth 100000 in
set_option maxHeartbeats 4000000 in
theorem fnLevelSignal_in (A : Option Addr) (n c : Nat) (w : World) (hl : n ≤ 1048576) (hnc : n ≤ c) (hb : Bytes w.heap.size w A n) (hT : Tab w) :
    Calls Tryd.prog 10 #[.slice A n c] w (RetB (.bool true) w) := by
  have Hb := Lib.hid hb
  have tz0 := hT.lt
  have HT := Lib.hid hT
  have gn : ¬ (1048576 : Int) < (n : Int) := by omega
  clear hb hT
  go_enter Tryd.func10, Tryd.ntmps10
  go_wp2_with fail
  refine (DrawSignalLevel_c A n c _ (by omega) hnc Hb.out).mono ?_
  rintro e w1 ⟨s, rfl, zs, hB⟩
  replace HT := Lib.hid (HT.out.go hB)
  have Bt := Lib.hid hB
  clear hB Hb
  have Himpl := Lib.hid (fun W => implSignalLevel_b s W (by omega))
  have Hspec := Lib.hid (fun W => specSignalLevel_b s W (by omega))
  cases ho : levB (byL s)
  · rw [ho, levR_no ho] at Himpl Hspec
    obtain ⟨U, hU⟩ : ∃ x, str [] = x := ⟨_, rfl⟩
    rw [hU] at Himpl Hspec
    have e1 : (U.toList == U.toList) = true := beq_self_eq_true _
    have e2 : (U.toList != U.toList) = false := bne_self_eq_false _
    clear ho hU
    go_wp2_with fail
    refine (Himpl.out _).mono ?_
    rintro e w2 ⟨rfl, rb2⟩
    replace HT := Lib.hid (HT.out.go rb2)
    replace Bt := Lib.hid (below_step Bt.out rb2)
    clear rb2
    go_wp2_with fail
    refine (Hspec.out _).mono ?_
    rintro e w3 ⟨rfl, rb3⟩
    replace HT := Lib.hid (HT.out.go rb3)
    replace Bt := Lib.hid (below_step Bt.out rb3)
    clear rb3
    go_wp2
    go_ret
    exact ⟨rfl, Bt.out⟩
  obtain ⟨ha, hb2, hs⟩ := lev_again ho
  obtain ⟨t1, t2⟩ := lev_take (byL s)
  rw [ho, levR_yes ho] at Himpl Hspec
  have Hag := Lib.hid (fun W => implSignalLevel_b (str (levV (byL s))) W (by rw [str_size]; have := (sigB_true.1 hs).1; omega))
  have Hdr := Lib.hid (fun W => implSignalDrift_b (str (levV (byL s))) W (by rw [str_size]; have := (sigB_true.1 hs).1; omega))
  rw [by_str, ha, hb2] at Hag
  rw [by_str, hs, driL_yes hs] at Hdr
  have hlast := fun h => driT_last (l := levV (byL s)) h
  rw [levV_dri] at hlast
  have hlen := driT_len (levV (byL s)) (levV (byL s)).length
  have hz : s.size ≤ (str (levV (byL s))).size := by rw [str_size, ← byL_len s]; exact t2
  have hcut : (str (levV (byL s))).extract 0 s.size = s := by
    apply by_inj
    rw [byL_extract, by_str, ← byL_len s, t1]
    rfl
  obtain ⟨U, hU⟩ : ∃ x, str (levV (byL s)) = x := ⟨_, rfl⟩
  have hU0 : (levV (byL s)).length ≤ 80 := (sigB_true.1 hs).1
  obtain ⟨zs, hzs⟩ : ∃ x, driT (levV (byL s)) (levV (byL s)).length = x := ⟨_, rfl⟩
  rw [hU] at Himpl Hspec Hag Hdr hz hcut
  rw [hzs] at Hdr hlast hlen
  have Hl := Lib.hid (show zs.length ≠ 0 → zs[zs.length - 1]?.getD 0 = 0 from fun h => by
    have := hlast (fun e => h (by rw [hlen, e]; rfl))
    rw [hlen, this]; rfl)
  have e1 : (U.toList == U.toList) = true := beq_self_eq_true _
  have e2 : (U.toList != U.toList) = false := bne_self_eq_false _
  have e3 : ((U.extract 0 s.size).toList == s.toList) = true := by rw [hcut]; exact beq_self_eq_true _
  have s0 : (0 : Int) ≤ (s.size : Int) := by omega
  have s1 : (s.size : Int) ≤ (U.size : Int) := by omega
  have s2 : ((s.size : Int)).toNat = s.size := by omega
  have hz80 : zs.length ≤ 80 := by omega
  clear ho ha hb2 hs t1 t2 hlast hU hzs hcut hlen
  go_wp2_with fail
  refine (Himpl.out _).mono ?_
  rintro e w4 ⟨rfl, rb4⟩
  replace HT := Lib.hid (HT.out.go rb4)
  replace Bt := Lib.hid (below_step Bt.out rb4)
  clear rb4
  go_wp2_with fail
  refine (Hspec.out _).mono ?_
  rintro e w5 ⟨rfl, rb5⟩
  replace HT := Lib.hid (HT.out.go rb5)
  replace Bt := Lib.hid (below_step Bt.out rb5)
  clear rb5
  go_wp2_with fail
  refine (Hag.out _).mono ?_
  rintro e w6 ⟨rfl, rb6⟩
  replace HT := Lib.hid (HT.out.go rb6)
  replace Bt := Lib.hid (below_step Bt.out rb6)
  clear rb6
  go_wp2_with fail
  refine (Hdr.out _).mono ?_
  rintro e w9 ⟨B, d, rfl, ra, ro, rb⟩
  dsimp only
  replace Bt := Lib.hid (below_step Bt.out rb)
  by_cases h0 : zs.length = 0
  · have h0i : ((zs.length : Int) == 0) = true := by rw [h0]; rfl
    clear ra ro rb
    go_wp2
    go_ret
    exact ⟨rfl, Bt.out⟩
  obtain ⟨K, hK⟩ : ∃ K, zs.length - 1 = K := ⟨_, rfl⟩
  have hl0 := Hl.out h0
  obtain ⟨b, off, rfl, _, _, hc⟩ := ra.rd.at_ (k := zs.length - 1) (by omega)
  rw [hl0, hK] at hc
  have h0i : ((zs.length : Int) == 0) = false := by rw [beq_eq_false_iff_ne]; omega
  have v1 : IntKind.i64.wrap ((zs.length : Int) - 1) = (K : Int) := by rw [show (zs.length : Int) - 1 = (K : Int) by omega]; exact IntWalk.i64_in _ (by omega)
  have v2 : (K : Int) < (zs.length : Int) := by omega
  have v3 : (0 : Int) ≤ (K : Int) := by omega
  clear ra ro rb hK h0 hl0
  go_wp2
  go_ret
  exact ⟨rfl, Bt.out⟩

theorem fnLevelSignal_walk (A0 : Option Addr) (n0 c0 : Nat) (w : World) (hb0 : Byt0 w A0 n0 c0) (hT : Tab w) :
    Calls Tryd.prog 10 #[.slice A0 n0 c0] w (RetB (.bool true) w) := by
  by_cases hl0 : 1048576 < n0
  · have hg0 : (1048576 : Int) < (n0 : Int) := by omega
    clear hb0 hT
    go_enter Tryd.func10, Tryd.ntmps10
    go_wp2
    go_ret
    exact ⟨rfl, Below.refl _ _⟩
  have gn0 : ¬ (1048576 : Int) < (n0 : Int) := by omega
  exact fnLevelSignal_in A0 n0 c0 w (by omega) hb0.1 hb0.2.2 hT

set_option maxRecDepth 100000 in
theorem fnLevelSignal_lifted (os : Os) (started : os.Started) (H : Type) (enc : TypeId × Value → H) :
    ReturnsInHanded {} Tryd.checked os 10 .any (fun w args => (Rows.fnLevelSignalSpec.pre enc Tryd.prog Tryd.f10 [] false w args ∧ laidMetH Tryd.prog Rows.fnLevelSignalRow.laid w) ∧ sizedMet enc Tryd.prog Tryd.f10 (OpenSpec.ofChange Rows.fnLevelSignalSpec) false w args)
      (Rows.fnLevelSignalSpec.post enc Tryd.prog Tryd.f10 false true false false) := by
  refine handed_shaped started (by kernel_rfl) Tryd.func10
    (ChangeSpec.witness_shaped (enc := enc) (C := Tryd.checked) (os := os) (X := fun w _ => laidMetH Tryd.prog laidU w) false (doorW os) #[.slice none 0 0] 8 (doorW_os os) (door_shaped os _) (by kernel_rfl) (by kernel_rfl) (by kernel_rfl) (door_laid os _)) ?_
  intro W base args ds gs before hval0 hW hT
  have hval : ∀ (j : Nat) t v, Tryd.f10.params[j]? = some t → args[j]? = some v → Value.okWide Tryd.prog W .any base t v := hval0
  have hW' := hW
  obtain ⟨p, q, hA0, hV, rfl, _, _⟩ := hW
  have hA : DataW.TrodAll enc Tryd.prog W 0 (fun _ => true) true Tryd.f10.params.toList args.toList ds p := hA0
  rw [Tryd.params10] at hA hval
  obtain ⟨v0, vs0, d0, ds0, p0, q0, hargs, rfl, rfl, h0, r0⟩ := trodAll_cons hA
  obtain ⟨rfl, rfl, rfl⟩ := trodAll_nil r0
  obtain rfl : args = #[v0] := by cases args; simp_all
  obtain ⟨rfl, rfl⟩ := trodVars_none hV
  have hlt0 : ∀ x ∈ p0, x.block < W.heap.size := fun x hx => by exact hW'.lt x (by simp [hx])
  obtain ⟨A0, n0, c0, rfl, hb0⟩ := open_bytes (hval 0 22 v0 rfl rfl) h0 hlt0
  clear hA0 hval0
  refine (fnLevelSignal_walk A0 n0 c0 W hb0 hT).mono fun e W' ⟨he, hb⟩ => ?_
  subst he
  exact ⟨_, rfl, _, _, _, [], _, [], hW', (trodAll_cons_mk (shut_bool Tryd.underlying4 _) trodAll_mk0), (trodAll_cons_mk (read_again_bytes h0 hlt0 hb) trodAll_mk0), rfl, hb.frame _, fun h => by cases h⟩

set_option maxRecDepth 100000 in
theorem fnLevelSignal_closed : joinedFacts Tryd.prog 10 Tryd.f10 Rows.fnLevelSignalSpec Rows.fnLevelSignalRow = true := by
  unfold joinedFacts
  repeat' (with_reducible apply facAnd)
  all_goals first | (with_reducible exact facEnter) | (with_reducible exact facLaid) | (with_reducible exact facMaps) | (with_reducible exact facStops) | (with_reducible exact facKnobs) | (with_reducible exact facHeard) | (rw [facLifts]; as_aux_lemma => kernel_rfl) | (rw [facMake]; as_aux_lemma => kernel_rfl) | (as_aux_lemma => kernel_rfl)

/-- the bare row -/
theorem fnLevelSignal_row : Rows.FnLevelSignalSaid :=
  OpenClaim.holds_of_wide 10 Tryd.f10 rfl rfl rfl rfl rfl rfl rfl ⟨rfl, rfl, rfl, rfl, rfl⟩ rfl rfl rfl rfl rfl (by kernel_rfl) Tryd.func10 fnLevelSignal_closed
    (of_decide_eq_true (by kernel_rfl)) (by unfold Func.isWrapper; first | (rw [if_pos (by decide +kernel)]; kernel_rfl) | (rw [if_neg (by decide +kernel)]; exact ⟨rfl, rfl⟩))
    (fun os started H enc _ => fnLevelSignal_lifted os started H enc)

/-- THE STATEMENT: the card -/
theorem fnLevelSignal_holds : Rows.FnLevelSignalCardSaid :=
  Claim7.holds_tied_plain_at .later [] [.data, .pinned] true Rows.fnLevelSignalCard.stood.harness false
    fnLevelSignal_row (fun _ h => by cases h) (by kernel_rfl) (fun _ h => by cases h) fnLevelSignal_row_tie rfl ⟨rfl, rfl⟩ door_main rfl
    (fun f fn hf hfn => by
      obtain rfl : f = 10 := Option.some.inj ((show Tryd.prog.funcNamed Rows.fnLevelSignalRow.func = some 10 by kernel_rfl).symm.trans hf) |>.symm
      obtain rfl : fn = Tryd.f10 := (Option.some.inj (Tryd.func10.symm.trans hfn)).symm
      exact ⟨door_looks, fun j t ht => by
        rw [Tryd.params10] at ht
        have hm : t ∈ [22] := by simpa using Array.mem_of_getElem? ht
        have hall : ([22].all fun u => !Tryd.prog.wantsStandIn u) = true := by kernel_rfl
        exact (show Tryd.prog.wantsStandIn t = false by simpa using List.all_eq_true.1 hall t hm)⟩)
    (by kernel_rfl)
#print axioms fnLevelSignal_holds
end Go.Proofs.YtgnolhikphoagaaDoor
