/-
  The law FnSignalBack: for every code the law answers true. No condition but the tie of the card.
-/
import Derived.Test.YtgnolhikphoagaaDoorRowB
import Derived.Test.YtgnolhikphoagaaDoorRow
import Derived.ChangeMaps5
import Derived.Test.YtgnolhikphoagaaDoorDoorV
import Derived.Test.YtgnolhikphoagaaDoorTie
import Derived.Test.YtgnolhikphoagaaDoorFacD
import Derived.Test.YtgnolhikphoagaaDoorSDrawB
import Derived.Test.YtgnolhikphoagaaDoorSgP
import Derived.Test.YtgnolhikphoagaaDoorCnt8
import Derived.Test.YtgnolhikphoagaaDoorBaS
import Derived.Test.YtgnolhikphoagaaDoorBaI
import Derived.Test.YtgnolhikphoagaaDoorFaI
namespace Go.Proofs.YtgnolhikphoagaaDoor
open Go.ChangeShapes Go.WideShapes Go.ChangeAt Go.RowKit Go.ChangeMaps

theorem cntB (s : ByteArray) (b : UInt8) (v : Int) (hv : v = (b.toNat : Int)) (w : World) (h : s.size ≤ 1048576) : Calls Tryd.prog 16 #[.string s, .int .u8 v] w fun e w' => e = .returned (.int .i64 (((byL s).count b : Nat) : Int)) ∧ w = w' := by
  rw [hv]
  exact countOf_c s b w h
theorem back_of {s : ByteArray} (h : sigB (byL s) = true) (w : World) (hs : s.size ≤ 80) (hT : Tab w) : Calls Tryd.prog 15 #[.string (str ((byL s).map turnP))] w (RetB (.tuple #[.string s, .bool true]) w) := by
  have h1 := implSignalBack_b (str ((byL s).map turnP)) w (by rw [str_size, List.length_map, byL_len]; omega) hT
  rw [by_str, tu_tu h, sig_turn h, str_by] at h1
  exact h1
theorem far_of {s : ByteArray} (h : sigB (byL s) = true) (w : World) (hs : s.size ≤ 80) : Calls Tryd.prog 29 #[.string s, .string (str ((byL s).map turnP))] w (RetB (.int .i64 (((byL s).count 43 + (byL s).count 45 : Nat) : Int)) w) := by
  have h1 := implSignalFar_b s (str ((byL s).map turnP)) w (by omega) (by rw [str_size, List.length_map, byL_len]; omega)
  rw [by_str, far_turn h] at h1
  exact h1

set_option maxRecDepth 100000 in
set_option maxHeartbeats 4000000 in
theorem fnSignalBack_in (A : Option Addr) (n c : Nat) (w : World) (hl : n ≤ 1048576) (hnc : n ≤ c) (hb : Bytes w.heap.size w A n) (hT : Tab w) :
    Calls Tryd.prog 7 #[.slice A n c] w (RetB (.bool true) w) := by
  have Hb := Lib.hid hb
  have tz0 := hT.lt
  have HT := Lib.hid hT
  have gn : ¬ (1048576 : Int) < (n : Int) := by omega
  clear hb hT
  go_enter Tryd.func7, Tryd.ntmps7
  go_wp2_with fail
  refine (DrawSignalBack_c A n c _ (by omega) hnc Hb.out).mono ?_
  rintro e w1 ⟨s, rfl, zs, hB⟩
  replace HT := Lib.hid (HT.out.go hB)
  have Bt := Lib.hid hB
  clear hB Hb
  have Himpl := Lib.hid (fun W => implSignalBack_b s W (by omega))
  have Hspec := Lib.hid (fun W => specSignalBack_b s W (by omega))
  cases ho : sigB (byL s)
  · rw [ho, tuV_no ho] at Himpl Hspec
    obtain ⟨U, hU⟩ : ∃ x, str [] = x := ⟨_, rfl⟩
    rw [hU] at Himpl Hspec
    have e1 : (U.toList == U.toList) = true := beq_self_eq_true _
    have e2 : (U.toList != U.toList) = false := bne_self_eq_false _
    clear ho hU
    go_wp2_with fail
    refine (Himpl.out _ HT.out).mono ?_
    rintro e w2 ⟨rfl, rb2⟩
    replace HT := Lib.hid (HT.out.go rb2)
    replace Bt := Lib.hid (below_step Bt.out rb2)
    clear rb2
    go_wp2_with fail
    refine (Hspec.out _).mono ?_
    rintro e w3 ⟨rfl, rb3⟩
    replace HT := Lib.hid (HT.out.go rb3)
    replace Bt := Lib.hid (below_step Bt.out rb3)
    clear rb3
    go_wp2
    go_ret
    exact ⟨rfl, Bt.out⟩
  have hz : (str ((byL s).map turnP)).size = s.size := by rw [str_size, List.length_map, byL_len]
  have Hbk := Lib.hid (fun W => back_of ho W zs)
  have Hfr := Lib.hid (fun W => far_of ho W zs)
  have Hc1 := Lib.hid (fun W => cntB s 43 43 rfl W (by omega))
  have Hc2 := Lib.hid (fun W => cntB s 45 45 rfl W (by omega))
  have l1 : (byL s).count 43 ≤ s.size := by rw [← byL_len]; exact List.count_le_length
  have l2 : (byL s).count 45 ≤ s.size := by rw [← byL_len]; exact List.count_le_length
  rw [ho, tuV_yes ho] at Himpl Hspec
  obtain ⟨U, hU⟩ : ∃ x, str ((byL s).map turnP) = x := ⟨_, rfl⟩
  obtain ⟨p, hp⟩ : ∃ x, (byL s).count 43 = x := ⟨_, rfl⟩
  obtain ⟨m, hm⟩ : ∃ x, (byL s).count 45 = x := ⟨_, rfl⟩
  rw [hU] at Himpl Hspec Hbk Hfr hz
  rw [hp] at Hfr Hc1 l1
  rw [hm] at Hfr Hc2 l2
  have e1 : (U.toList == U.toList) = true := beq_self_eq_true _
  have e2 : (U.toList != U.toList) = false := bne_self_eq_false _
  have e3 : (s.toList == s.toList) = true := beq_self_eq_true _
  have q1 : IntKind.i64.wrap ((p : Int) + (m : Int)) = (p : Int) + (m : Int) := IntWalk.i64_in _ (by omega)
  have q2 : (((p + m : Nat) : Int) == (p : Int) + (m : Int)) = true := beq_iff_eq.2 (by omega)
  have q3 : (((p : Int) + (m : Int)) == (p : Int) + (m : Int)) = true := beq_self_eq_true _
  have q4 : ((s.size : Int) == (s.size : Int)) = true := beq_self_eq_true _
  have q5 : ((U.size : Int) == (s.size : Int)) = true := beq_iff_eq.2 (by omega)
  clear ho hU hp hm
  go_wp2_with fail
  refine (Himpl.out _ HT.out).mono ?_
  rintro e w4 ⟨rfl, rb4⟩
  replace HT := Lib.hid (HT.out.go rb4)
  replace Bt := Lib.hid (below_step Bt.out rb4)
  clear rb4
  go_wp2_with fail
  refine (Hspec.out _).mono ?_
  rintro e w5 ⟨rfl, rb5⟩
  replace HT := Lib.hid (HT.out.go rb5)
  replace Bt := Lib.hid (below_step Bt.out rb5)
  clear rb5
  go_wp2_with fail
  refine (Hbk.out _ HT.out).mono ?_
  rintro e w6 ⟨rfl, rb6⟩
  replace HT := Lib.hid (HT.out.go rb6)
  replace Bt := Lib.hid (below_step Bt.out rb6)
  clear rb6
  go_wp2_with fail
  refine (Hfr.out _).mono ?_
  rintro e w7 ⟨rfl, rb7⟩
  replace HT := Lib.hid (HT.out.go rb7)
  replace Bt := Lib.hid (below_step Bt.out rb7)
  clear rb7
  go_wp2_with fail
  refine (Hc1.out _).mono ?_
  rintro e w9 ⟨rfl, rfl⟩
  go_wp2_with fail
  refine (Hc2.out _).mono ?_
  rintro e w9 ⟨rfl, rfl⟩
  go_wp2
  go_ret
  exact ⟨rfl, Bt.out⟩

theorem fnSignalBack_walk (A0 : Option Addr) (n0 c0 : Nat) (w : World) (hb0 : Byt0 w A0 n0 c0) (hT : Tab w) :
    Calls Tryd.prog 7 #[.slice A0 n0 c0] w (RetB (.bool true) w) := by
  by_cases hl0 : 1048576 < n0
  · have hg0 : (1048576 : Int) < (n0 : Int) := by omega
    clear hb0 hT
    go_enter Tryd.func7, Tryd.ntmps7
    go_wp2
    go_ret
    exact ⟨rfl, Below.refl _ _⟩
  have gn0 : ¬ (1048576 : Int) < (n0 : Int) := by omega
  exact fnSignalBack_in A0 n0 c0 w (by omega) hb0.1 hb0.2.2 hT

set_option maxRecDepth 100000 in
theorem fnSignalBack_lifted (os : Os) (started : os.Started) (H : Type) (enc : TypeId × Value → H) :
    ReturnsInHanded {} Tryd.checked os 7 .any (fun w args => (Rows.fnSignalBackSpec.pre enc Tryd.prog Tryd.f7 [] false w args ∧ laidMetH Tryd.prog Rows.fnSignalBackRow.laid w) ∧ sizedMet enc Tryd.prog Tryd.f7 (OpenSpec.ofChange Rows.fnSignalBackSpec) false w args)
      (Rows.fnSignalBackSpec.post enc Tryd.prog Tryd.f7 false true false false) := by
  refine handed_shaped started (by kernel_rfl) Tryd.func7
    (ChangeSpec.witness_shaped (enc := enc) (C := Tryd.checked) (os := os) (X := fun w _ => laidMetH Tryd.prog laidU w) false (doorW os) #[.slice none 0 0] 8 (doorW_os os) (door_shaped os _) (by kernel_rfl) (by kernel_rfl) (by kernel_rfl) (door_laid os _)) ?_
  intro W base args ds gs before hval0 hW hT
  have hval : ∀ (j : Nat) t v, Tryd.f7.params[j]? = some t → args[j]? = some v → Value.okWide Tryd.prog W .any base t v := hval0
  have hW' := hW
  obtain ⟨p, q, hA0, hV, rfl, _, _⟩ := hW
  have hA : DataW.TrodAll enc Tryd.prog W 0 (fun _ => true) true Tryd.f7.params.toList args.toList ds p := hA0
  rw [Tryd.params7] at hA hval
  obtain ⟨v0, vs0, d0, ds0, p0, q0, hargs, rfl, rfl, h0, r0⟩ := trodAll_cons hA
  obtain ⟨rfl, rfl, rfl⟩ := trodAll_nil r0
  obtain rfl : args = #[v0] := by cases args; simp_all
  obtain ⟨rfl, rfl⟩ := trodVars_none hV
  have hlt0 : ∀ x ∈ p0, x.block < W.heap.size := fun x hx => by exact hW'.lt x (by simp [hx])
  obtain ⟨A0, n0, c0, rfl, hb0⟩ := open_bytes (hval 0 22 v0 rfl rfl) h0 hlt0
  clear hA0 hval0
  refine (fnSignalBack_walk A0 n0 c0 W hb0 hT).mono fun e W' ⟨he, hb⟩ => ?_
  subst he
  exact ⟨_, rfl, _, _, _, [], _, [], hW', (trodAll_cons_mk (shut_bool Tryd.underlying4 _) trodAll_mk0), (trodAll_cons_mk (read_again_bytes h0 hlt0 hb) trodAll_mk0), rfl, hb.frame _, fun h => by cases h⟩

set_option maxRecDepth 100000 in
theorem fnSignalBack_closed : joinedFacts Tryd.prog 7 Tryd.f7 Rows.fnSignalBackSpec Rows.fnSignalBackRow = true := by
  unfold joinedFacts
  repeat' (with_reducible apply facAnd)
  all_goals first | (with_reducible exact facEnter) | (with_reducible exact facLaid) | (with_reducible exact facMaps) | (with_reducible exact facStops) | (with_reducible exact facKnobs) | (with_reducible exact facHeard) | (rw [facLifts]; as_aux_lemma => kernel_rfl) | (rw [facMake]; as_aux_lemma => kernel_rfl) | (as_aux_lemma => kernel_rfl)

/-- the bare row -/
theorem fnSignalBack_row : Rows.FnSignalBackSaid :=
  OpenClaim.holds_of_wide 7 Tryd.f7 rfl rfl rfl rfl rfl rfl rfl ⟨rfl, rfl, rfl, rfl, rfl⟩ rfl rfl rfl rfl rfl (by kernel_rfl) Tryd.func7 fnSignalBack_closed
    (of_decide_eq_true (by kernel_rfl)) (by unfold Func.isWrapper; first | (rw [if_pos (by decide +kernel)]; kernel_rfl) | (rw [if_neg (by decide +kernel)]; exact ⟨rfl, rfl⟩))
    (fun os started H enc _ => fnSignalBack_lifted os started H enc)

/-- THE STATEMENT: the card -/
theorem fnSignalBack_holds : Rows.FnSignalBackCardSaid :=
  Claim7.holds_tied_plain_at .later [] [.data, .pinned] true Rows.fnSignalBackCard.stood.harness false
    fnSignalBack_row (fun _ h => by cases h) (by kernel_rfl) (fun _ h => by cases h) fnSignalBack_row_tie rfl ⟨rfl, rfl⟩ door_main rfl
    (fun f fn hf hfn => by
      obtain rfl : f = 7 := Option.some.inj ((show Tryd.prog.funcNamed Rows.fnSignalBackRow.func = some 7 by kernel_rfl).symm.trans hf) |>.symm
      obtain rfl : fn = Tryd.f7 := (Option.some.inj (Tryd.func7.symm.trans hfn)).symm
      exact ⟨door_looks, fun j t ht => by
        rw [Tryd.params7] at ht
        have hm : t ∈ [22] := by simpa using Array.mem_of_getElem? ht
        have hall : ([22].all fun u => !Tryd.prog.wantsStandIn u) = true := by kernel_rfl
        exact (show Tryd.prog.wantsStandIn t = false by simpa using List.all_eq_true.1 hall t hm)⟩)
    (by kernel_rfl)
#print axioms fnSignalBack_holds
end Go.Proofs.YtgnolhikphoagaaDoor
