/-
  The law FnSignalRead: for every code the law answers true. No condition but the tie of the card.
-/
import Derived.Test.YthhckijoilphiaaDoorRowB
import Derived.Test.YthhckijoilphiaaDoorRow
import Derived.ChangeMaps5
import Derived.Test.YthhckijoilphiaaDoorDoorV
import Derived.Test.YthhckijoilphiaaDoorTie
import Derived.Test.YthhckijoilphiaaDoorFacD
import Derived.Test.YthhckijoilphiaaDoorSDraw
import Derived.Test.YthhckijoilphiaaDoorSgK
import Derived.Test.YthhckijoilphiaaDoorSoI
import Derived.Test.YthhckijoilphiaaDoorReI
import Derived.Test.YthhckijoilphiaaDoorRsS
namespace Go.Proofs.YthhckijoilphiaaDoor
open Go.ChangeShapes Go.WideShapes Go.ChangeAt Go.RowKit Go.ChangeMaps

theorem sent_back {s : ByteArray} (h : rdB (byL s) = true) (w : World) : Calls Tryd.prog 17 #[.string (str (rdV (byL s)))] w (RetB (.tuple #[.string s, .bool true]) w) := by
  have h1 := implSignalOf_b (str (rdV (byL s))) w
  obtain ⟨h2, h3⟩ := sent_read h
  rw [by_str, ofV_yes h2, h2, h3, str_by] at h1
  exact h1
theorem gap_not {s : ByteArray} (hs : s.size ≤ 80) (w : World) (hT : Tab w) : Calls Tryd.prog 19 #[.string (s ++ ⟨#[48]⟩)] w (RetB (.tuple #[.string (str (rdV (byL (s ++ ⟨#[48]⟩)))), .bool false]) w) := by
  have h1 := implSignalRead_b (s ++ ⟨#[48]⟩) w (by rw [ByteArray.size_append]; have : (⟨#[48]⟩ : ByteArray).size = 1 := rfl; omega) hT
  have e : byL (s ++ ⟨#[48]⟩) = byL s ++ [48] := by
    apply str_inj
    rw [str_by, ← str_append, str_by]
    rfl
  have h2 : rdB (byL (s ++ ⟨#[48]⟩)) = false := by rw [e]; exact read_gap _
  rw [h2] at h1
  exact h1

set_option maxRecDepth 100000 in
set_option maxHeartbeats 2000000 in
theorem fnSignalRead_in (A : Option Addr) (n c : Nat) (w : World) (hl : n ≤ 1048576) (hnc : n ≤ c) (hb : Bytes w.heap.size w A n) (hT : Tab w) :
    Calls Tryd.prog 4 #[.slice A n c] w (RetB (.bool true) w) := by
  have Hb := Lib.hid hb
  have tz0 := hT.lt
  have HT := Lib.hid hT
  have gn : ¬ (1048576 : Int) < (n : Int) := by omega
  clear hb hT
  go_enter Tryd.func4, Tryd.ntmps4
  go_wp2_with fail
  refine (DrawSignalRead_c A n c _ (by omega) hnc Hb.out).mono ?_
  rintro e w1 ⟨s, rfl, hs, hB⟩
  replace HT := Lib.hid (HT.out.go hB)
  have Bt := Lib.hid hB
  have b1 := hB.size
  clear hB Hb
  have Himpl := Lib.hid (fun W => implSignalRead_b s W (by omega))
  have Hspec := Lib.hid (fun W => specSignalRead_b s W (by omega))
  have Hsb := Lib.hid (fun (h : rdB (byL s) = true) W => sent_back h W)
  have Hgp := Lib.hid (fun W => gap_not hs W)
  obtain ⟨U, hU⟩ : ∃ x, str (rdV (byL s)) = x := ⟨_, rfl⟩
  obtain ⟨o, ho⟩ : ∃ x, rdB (byL s) = x := ⟨_, rfl⟩
  rw [hU] at Hsb
  rw [ho] at Hsb
  rw [hU, ho] at Himpl Hspec
  obtain ⟨V, hV⟩ : ∃ x, str (rdV (byL (s ++ ⟨#[48]⟩))) = x := ⟨_, rfl⟩
  rw [hV] at Hgp
  have e1 : (U.toList == U.toList) = true := beq_self_eq_true _
  have e2 : (U.toList != U.toList) = false := bne_self_eq_false _
  have e3 : (s.toList == s.toList) = true := beq_self_eq_true _
  have c1 : (s.size : Int) ≤ 8388608 := by omega
  have c2 : ¬ 9223372036854775807 < s.size + (⟨#[48]⟩ : ByteArray).size := by
    have : (⟨#[48]⟩ : ByteArray).size = 1 := rfl
    omega
  clear hU ho hV
  go_wp2_with fail
  refine (Himpl.out _ HT.out).mono ?_
  rintro e w2 ⟨rfl, rb2⟩
  replace HT := Lib.hid (HT.out.go rb2)
  replace Bt := Lib.hid (below_step Bt.out rb2)
  have b2 := rb2.size
  clear rb2
  go_wp2_with fail
  refine (Hspec.out _).mono ?_
  rintro e w3 ⟨rfl, rb3⟩
  replace HT := Lib.hid (HT.out.go rb3)
  replace Bt := Lib.hid (below_step Bt.out rb3)
  have b3 := rb3.size
  clear rb3
  cases o
  · go_wp2
    go_ret
    exact ⟨rfl, Bt.out⟩
  · go_wp2_with fail
    refine (Hsb.out (by first | rfl | trivial) _).mono ?_
    rintro e w4 ⟨rfl, rb4⟩
    replace HT := Lib.hid (HT.out.go rb4)
    replace Bt := Lib.hid (below_step Bt.out rb4)
    have b4 := rb4.size
    clear rb4
    go_wp2_with fail
    refine (Hgp.out _ HT.out).mono ?_
    rintro e w5 ⟨rfl, rb5⟩
    replace Bt := Lib.hid (below_step Bt.out rb5)
    clear rb5
    go_wp2
    go_ret
    exact ⟨rfl, Bt.out⟩

theorem fnSignalRead_walk (A0 : Option Addr) (n0 c0 : Nat) (w : World) (hb0 : Byt0 w A0 n0 c0) (hT : Tab w) :
    Calls Tryd.prog 4 #[.slice A0 n0 c0] w (RetB (.bool true) w) := by
  by_cases hl0 : 1048576 < n0
  · have hg0 : (1048576 : Int) < (n0 : Int) := by omega
    clear hb0 hT
    go_enter Tryd.func4, Tryd.ntmps4
    go_wp2
    go_ret
    exact ⟨rfl, Below.refl _ _⟩
  have gn0 : ¬ (1048576 : Int) < (n0 : Int) := by omega
  exact fnSignalRead_in A0 n0 c0 w (by omega) hb0.1 hb0.2.2 hT

set_option maxRecDepth 100000 in
theorem fnSignalRead_lifted (os : Os) (started : os.Started) (H : Type) (enc : TypeId × Value → H) :
    ReturnsInHanded {} Tryd.checked os 4 .any (fun w args => (Rows.fnSignalReadSpec.pre enc Tryd.prog Tryd.f4 [] false w args ∧ laidMetH Tryd.prog Rows.fnSignalReadRow.laid w) ∧ sizedMet enc Tryd.prog Tryd.f4 (OpenSpec.ofChange Rows.fnSignalReadSpec) false w args)
      (Rows.fnSignalReadSpec.post enc Tryd.prog Tryd.f4 false true false false) := by
  refine handed_shaped started (by kernel_rfl) Tryd.func4
    (ChangeSpec.witness_shaped (enc := enc) (C := Tryd.checked) (os := os) (X := fun w _ => laidMetH Tryd.prog laidU w) false (doorW os) #[.slice none 0 0] 8 (doorW_os os) (door_shaped os _) (by kernel_rfl) (by kernel_rfl) (by kernel_rfl) (door_laid os _)) ?_
  intro W base args ds gs before hval0 hW hT
  have hval : ∀ (j : Nat) t v, Tryd.f4.params[j]? = some t → args[j]? = some v → Value.okWide Tryd.prog W .any base t v := hval0
  have hW' := hW
  obtain ⟨p, q, hA0, hV, rfl, _, _⟩ := hW
  have hA : DataW.TrodAll enc Tryd.prog W 0 (fun _ => true) true Tryd.f4.params.toList args.toList ds p := hA0
  rw [Tryd.params4] at hA hval
  obtain ⟨v0, vs0, d0, ds0, p0, q0, hargs, rfl, rfl, h0, r0⟩ := trodAll_cons hA
  obtain ⟨rfl, rfl, rfl⟩ := trodAll_nil r0
  obtain rfl : args = #[v0] := by cases args; simp_all
  obtain ⟨rfl, rfl⟩ := trodVars_none hV
  have hlt0 : ∀ x ∈ p0, x.block < W.heap.size := fun x hx => by exact hW'.lt x (by simp [hx])
  obtain ⟨A0, n0, c0, rfl, hb0⟩ := open_bytes (hval 0 22 v0 rfl rfl) h0 hlt0
  clear hA0 hval0
  refine (fnSignalRead_walk A0 n0 c0 W hb0 hT).mono fun e W' ⟨he, hb⟩ => ?_
  subst he
  exact ⟨_, rfl, _, _, _, [], _, [], hW', (trodAll_cons_mk (shut_bool Tryd.underlying4 _) trodAll_mk0), (trodAll_cons_mk (read_again_bytes h0 hlt0 hb) trodAll_mk0), rfl, hb.frame _, fun h => by cases h⟩

set_option maxRecDepth 100000 in
theorem fnSignalRead_closed : joinedFacts Tryd.prog 4 Tryd.f4 Rows.fnSignalReadSpec Rows.fnSignalReadRow = true := by
  unfold joinedFacts
  repeat' (with_reducible apply facAnd)
  all_goals first | (with_reducible exact facEnter) | (with_reducible exact facLaid) | (with_reducible exact facMaps) | (with_reducible exact facStops) | (with_reducible exact facKnobs) | (with_reducible exact facHeard) | (rw [facLifts]; as_aux_lemma => kernel_rfl) | (rw [facMake]; as_aux_lemma => kernel_rfl) | (as_aux_lemma => kernel_rfl)

/-- the bare row -/
theorem fnSignalRead_row : Rows.FnSignalReadSaid :=
  OpenClaim.holds_of_wide 4 Tryd.f4 rfl rfl rfl rfl rfl rfl rfl ⟨rfl, rfl, rfl, rfl, rfl⟩ rfl rfl rfl rfl rfl (by kernel_rfl) Tryd.func4 fnSignalRead_closed
    (of_decide_eq_true (by kernel_rfl)) (by unfold Func.isWrapper; first | (rw [if_pos (by decide +kernel)]; kernel_rfl) | (rw [if_neg (by decide +kernel)]; exact ⟨rfl, rfl⟩))
    (fun os started H enc _ => fnSignalRead_lifted os started H enc)

/-- THE STATEMENT: the card -/
theorem fnSignalRead_holds : Rows.FnSignalReadCardSaid :=
  Claim7.holds_tied_plain_at .later [] [.data, .pinned] true Rows.fnSignalReadCard.stood.harness false
    fnSignalRead_row (fun _ h => by cases h) (by kernel_rfl) (fun _ h => by cases h) fnSignalRead_row_tie rfl ⟨rfl, rfl⟩ door_main rfl
    (fun f fn hf hfn => by
      obtain rfl : f = 4 := Option.some.inj ((show Tryd.prog.funcNamed Rows.fnSignalReadRow.func = some 4 by kernel_rfl).symm.trans hf) |>.symm
      obtain rfl : fn = Tryd.f4 := (Option.some.inj (Tryd.func4.symm.trans hfn)).symm
      exact ⟨door_looks, fun j t ht => by
        rw [Tryd.params4] at ht
        have hm : t ∈ [22] := by simpa using Array.mem_of_getElem? ht
        have hall : ([22].all fun u => !Tryd.prog.wantsStandIn u) = true := by kernel_rfl
        exact (show Tryd.prog.wantsStandIn t = false by simpa using List.all_eq_true.1 hall t hm)⟩)
    (by kernel_rfl)
#print axioms fnSignalRead_holds
end Go.Proofs.YthhckijoilphiaaDoor
