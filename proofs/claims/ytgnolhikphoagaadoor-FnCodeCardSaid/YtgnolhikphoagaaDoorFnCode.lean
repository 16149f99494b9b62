/-
  The law FnCode: for every code the law answers true. No condition but the tie of the card.
-/
import Derived.Test.YtgnolhikphoagaaDoorRowB
import Derived.Test.YtgnolhikphoagaaDoorRow
import Derived.ChangeMaps5
import Derived.Test.YtgnolhikphoagaaDoorDoorV
import Derived.Test.YtgnolhikphoagaaDoorTie
import Derived.Test.YtgnolhikphoagaaDoorFacD
import Derived.Test.YtgnolhikphoagaaDoorSDrawC
import Derived.Test.YtgnolhikphoagaaDoorSgP
import Derived.Test.YtgnolhikphoagaaDoorCnt8
import Derived.Test.YtgnolhikphoagaaDoorCoS
import Derived.Test.YtgnolhikphoagaaDoorCoI
import Derived.Test.YtgnolhikphoagaaDoorReI
import Derived.Test.YtgnolhikphoagaaDoorBaI
namespace Go.Proofs.YtgnolhikphoagaaDoor
open Go.ChangeShapes Go.WideShapes Go.ChangeAt Go.RowKit Go.ChangeMaps

theorem cntB (s : ByteArray) (b : UInt8) (v : Int) (hv : v = (b.toNat : Int)) (w : World) (h : s.size ≤ 1048576) : Calls Tryd.prog 16 #[.string s, .int .u8 v] w fun e w' => e = .returned (.int .i64 (((byL s).count b : Nat) : Int)) ∧ w = w' := by
  rw [hv]
  exact countOf_c s b w h
theorem readI {a : ByteArray} {x : List UInt8} {b : Bool} {T : ByteArray} (ea : byL a = x) (h : rdB x = b) (h2 : str (rdV x) = T) (w : World) (ha : a.size ≤ 80) (hT : Tab w) : Calls Tryd.prog 14 #[.string a] w (RetB (.tuple #[.string T, .bool b]) w) := by
  have h1 := implSignalRead_b a w (by omega) hT
  rw [ea, h, h2] at h1
  exact h1
theorem backI {a : ByteArray} {x : List UInt8} (ea : byL a = x) (h : sigB x = true) (w : World) (ha : a.size ≤ 80) (hT : Tab w) : Calls Tryd.prog 15 #[.string a] w (RetB (.tuple #[.string (str (x.map turnP)), .bool true]) w) := by
  have h1 := implSignalBack_b a w (by omega) hT
  rw [ea, h, tuV_yes h] at h1
  exact h1
theorem codeI {a : ByteArray} {x y : List UInt8} (ea : byL a = x) (h : codeV x = y) (w : World) : Calls Tryd.prog 12 #[.string a] w (RetB (.string (str y)) w) := by
  have h1 := implSignalCode_b a w
  rw [ea, h] at h1
  exact h1

set_option maxRecDepth 100000 in
set_option maxHeartbeats 4000000 in
theorem fnCode_in (A : Option Addr) (n c : Nat) (w : World) (hl : n ≤ 1048576) (hnc : n ≤ c) (hb : Bytes w.heap.size w A n) (hT : Tab w) :
    Calls Tryd.prog 3 #[.slice A n c] w (RetB (.bool true) w) := by
  have Hb := Lib.hid hb
  have tz0 := hT.lt
  have HT := Lib.hid hT
  have gn : ¬ (1048576 : Int) < (n : Int) := by omega
  clear hb hT
  go_enter Tryd.func3, Tryd.ntmps3
  go_wp2_with fail
  refine (DrawSignalCode_c A n c _ (by omega) hnc Hb.out).mono ?_
  rintro e w1 ⟨s, rfl, zs, hB⟩
  replace HT := Lib.hid (HT.out.go hB)
  have Bt := Lib.hid hB
  clear hB Hb
  have Himpl := Lib.hid (fun W => implSignalCode_b s W)
  have Hspec := Lib.hid (fun W => specSignalCode_b s W (by omega))
  by_cases hn : codeV (byL s) = []
  · rw [hn] at Himpl Hspec
    have e0 : (str []).toList.isEmpty = true := str_empty
    have e3 : ((str []).toList == (⟨#[]⟩ : ByteArray).toList) = true := by rw [str_list, toList_by]; rfl
    obtain ⟨U, hU⟩ : ∃ x, str [] = x := ⟨_, rfl⟩
    rw [hU] at Himpl Hspec e0 e3
    have e1 : (U.toList == U.toList) = true := beq_self_eq_true _
    have e2 : (U.toList != U.toList) = false := bne_self_eq_false _
    clear hn hU
    go_wp2_with fail
    refine (Himpl.out _).mono ?_
    rintro e w2 ⟨rfl, rb2⟩
    replace HT := Lib.hid (HT.out.go rb2)
    replace Bt := Lib.hid (below_step Bt.out rb2)
    clear rb2
    go_wp2_with fail
    refine (Hspec.out _).mono ?_
    rintro e w3 ⟨rfl, rb3⟩
    replace HT := Lib.hid (HT.out.go rb3)
    replace Bt := Lib.hid (below_step Bt.out rb3)
    clear rb3
    go_wp2
    go_ret
    exact ⟨rfl, Bt.out⟩
  obtain ⟨c', hs, hlet⟩ := code_let hn
  have e0 : (str (codeV (byL s))).toList.isEmpty = false := str_full hn
  have e3 : ((str (codeV (byL s))).toList == (⟨#[]⟩ : ByteArray).toList) = false := by
    rw [str_list, beq_eq_false_iff_ne]
    intro h
    exact hn (h.trans (toList_by ⟨#[]⟩))
  obtain ⟨f1, f2, f3, f4, f5, f6⟩ := code_facts hlet
  have hbk := code_back hlet
  rw [← hs] at f1 f2 f3 f4 f5 f6 hbk
  have Hrd := Lib.hid (fun W => readI (by_str (codeV (byL s))) f1 (by rw [f2, str_by]) W (by rw [str_size]; omega))
  have Hbk := Lib.hid (fun W => backI (by_str (codeV (byL s))) f3 W (by rw [str_size]; omega))
  have Hr2 := Lib.hid (fun W => readI (by_str ((codeV (byL s)).map turnP)) rfl rfl W (by rw [str_size, List.length_map]; omega))
  have Hc := Lib.hid (fun W => cntB (str (codeV (byL s))) 48 48 rfl W (by rw [str_size]; omega))
  rw [by_str, f4] at Hc
  have hz : (str (codeV (byL s))).size = (codeV (byL s)).length := str_size _
  rw [← hz] at f5 f6
  obtain ⟨U, hU⟩ : ∃ x, str (codeV (byL s)) = x := ⟨_, rfl⟩
  obtain ⟨B, hB⟩ : ∃ x, str ((codeV (byL s)).map turnP) = x := ⟨_, rfl⟩
  obtain ⟨L, hL⟩ : ∃ x, (codeV (byL s)).map turnP = x := ⟨_, rfl⟩
  rw [hL] at hbk Hr2 hB
  simp only [hL] at Hbk
  rw [hU] at Himpl Hspec Hrd Hbk Hc e0 e3 f5 f6
  rw [hB] at Hbk Hr2
  have e1 : (U.toList == U.toList) = true := beq_self_eq_true _
  have e2 : (U.toList != U.toList) = false := bne_self_eq_false _
  have e4 : (s.toList == s.toList) = true := beq_self_eq_true _
  have g1 : (1 : Int) ≤ (U.size : Int) := by omega
  have g2 : (U.size : Int) ≤ 4 := by omega
  have g1d : decide ((U.size : Int) ≥ 1) = true := decide_eq_true g1
  have g2d : decide ((U.size : Int) ≤ 4) = true := decide_eq_true g2
  clear hU hs hlet hz
  go_wp2_with fail
  refine (Himpl.out _).mono ?_
  rintro e w4 ⟨rfl, rb4⟩
  replace HT := Lib.hid (HT.out.go rb4)
  replace Bt := Lib.hid (below_step Bt.out rb4)
  clear rb4
  go_wp2_with fail
  refine (Hspec.out _).mono ?_
  rintro e w5 ⟨rfl, rb5⟩
  replace HT := Lib.hid (HT.out.go rb5)
  replace Bt := Lib.hid (below_step Bt.out rb5)
  clear rb5
  go_wp2_with fail
  refine (Hrd.out _ HT.out).mono ?_
  rintro e w6 ⟨rfl, rb6⟩
  replace HT := Lib.hid (HT.out.go rb6)
  replace Bt := Lib.hid (below_step Bt.out rb6)
  clear rb6
  go_wp2_with fail
  refine (Hbk.out _ HT.out).mono ?_
  rintro e w7 ⟨rfl, rb7⟩
  replace HT := Lib.hid (HT.out.go rb7)
  replace Bt := Lib.hid (below_step Bt.out rb7)
  clear rb7
  go_wp2_with fail
  refine (Hr2.out _ HT.out).mono ?_
  rintro e w8 ⟨rfl, rb8⟩
  replace HT := Lib.hid (HT.out.go rb8)
  replace Bt := Lib.hid (below_step Bt.out rb8)
  clear rb8
  go_wp2_with fail
  refine (Hc.out _).mono ?_
  rintro e w9 ⟨rfl, rfl⟩
  cases ho : rdB L
  · clear hbk
    go_wp2
    go_ret
    exact ⟨rfl, Bt.out⟩
  rcases hbk with h | ⟨k1, k2⟩
  · rw [ho] at h; exact absurd h (by decide)
  have Hcd := Lib.hid (fun W => codeI (by_str (rdV L)) k2 W)
  have k3 : ((str (rdV L)).toList != s.toList) = true := by
    rw [bne_iff_ne, str_list, toList_by]
    exact k1
  have k4 : ((str (rdV L)).toList == s.toList) = false := by
    rw [beq_eq_false_iff_ne, str_list, toList_by]
    exact k1
  rw [hB] at Hcd
  have e5 : (B.toList == B.toList) = true := beq_self_eq_true _
  obtain ⟨Y, hY⟩ : ∃ x, str (rdV L) = x := ⟨_, rfl⟩
  rw [hY] at Hcd k3 k4
  clear k1 k2 ho
  go_wp2_with fail
  refine (Hcd.out _).mono ?_
  rintro e w9 ⟨rfl, rb9⟩
  replace HT := Lib.hid (HT.out.go rb9)
  replace Bt := Lib.hid (below_step Bt.out rb9)
  clear rb9
  go_wp2
  go_ret
  exact ⟨rfl, Bt.out⟩

theorem fnCode_walk (A0 : Option Addr) (n0 c0 : Nat) (w : World) (hb0 : Byt0 w A0 n0 c0) (hT : Tab w) :
    Calls Tryd.prog 3 #[.slice A0 n0 c0] w (RetB (.bool true) w) := by
  by_cases hl0 : 1048576 < n0
  · have hg0 : (1048576 : Int) < (n0 : Int) := by omega
    clear hb0 hT
    go_enter Tryd.func3, Tryd.ntmps3
    go_wp2
    go_ret
    exact ⟨rfl, Below.refl _ _⟩
  have gn0 : ¬ (1048576 : Int) < (n0 : Int) := by omega
  exact fnCode_in A0 n0 c0 w (by omega) hb0.1 hb0.2.2 hT

set_option maxRecDepth 100000 in
theorem fnCode_lifted (os : Os) (started : os.Started) (H : Type) (enc : TypeId × Value → H) :
    ReturnsInHanded {} Tryd.checked os 3 .any (fun w args => (Rows.fnCodeSpec.pre enc Tryd.prog Tryd.f3 [] false w args ∧ laidMetH Tryd.prog Rows.fnCodeRow.laid w) ∧ sizedMet enc Tryd.prog Tryd.f3 (OpenSpec.ofChange Rows.fnCodeSpec) false w args)
      (Rows.fnCodeSpec.post enc Tryd.prog Tryd.f3 false true false false) := by
  refine handed_shaped started (by kernel_rfl) Tryd.func3
    (ChangeSpec.witness_shaped (enc := enc) (C := Tryd.checked) (os := os) (X := fun w _ => laidMetH Tryd.prog laidU w) false (doorW os) #[.slice none 0 0] 8 (doorW_os os) (door_shaped os _) (by kernel_rfl) (by kernel_rfl) (by kernel_rfl) (door_laid os _)) ?_
  intro W base args ds gs before hval0 hW hT
  have hval : ∀ (j : Nat) t v, Tryd.f3.params[j]? = some t → args[j]? = some v → Value.okWide Tryd.prog W .any base t v := hval0
  have hW' := hW
  obtain ⟨p, q, hA0, hV, rfl, _, _⟩ := hW
  have hA : DataW.TrodAll enc Tryd.prog W 0 (fun _ => true) true Tryd.f3.params.toList args.toList ds p := hA0
  rw [Tryd.params3] at hA hval
  obtain ⟨v0, vs0, d0, ds0, p0, q0, hargs, rfl, rfl, h0, r0⟩ := trodAll_cons hA
  obtain ⟨rfl, rfl, rfl⟩ := trodAll_nil r0
  obtain rfl : args = #[v0] := by cases args; simp_all
  obtain ⟨rfl, rfl⟩ := trodVars_none hV
  have hlt0 : ∀ x ∈ p0, x.block < W.heap.size := fun x hx => by exact hW'.lt x (by simp [hx])
  obtain ⟨A0, n0, c0, rfl, hb0⟩ := open_bytes (hval 0 22 v0 rfl rfl) h0 hlt0
  clear hA0 hval0
  refine (fnCode_walk A0 n0 c0 W hb0 hT).mono fun e W' ⟨he, hb⟩ => ?_
  subst he
  exact ⟨_, rfl, _, _, _, [], _, [], hW', (trodAll_cons_mk (shut_bool Tryd.underlying4 _) trodAll_mk0), (trodAll_cons_mk (read_again_bytes h0 hlt0 hb) trodAll_mk0), rfl, hb.frame _, fun h => by cases h⟩

set_option maxRecDepth 100000 in
theorem fnCode_closed : joinedFacts Tryd.prog 3 Tryd.f3 Rows.fnCodeSpec Rows.fnCodeRow = true := by
  unfold joinedFacts
  repeat' (with_reducible apply facAnd)
  all_goals first | (with_reducible exact facEnter) | (with_reducible exact facLaid) | (with_reducible exact facMaps) | (with_reducible exact facStops) | (with_reducible exact facKnobs) | (with_reducible exact facHeard) | (rw [facLifts]; as_aux_lemma => kernel_rfl) | (rw [facMake]; as_aux_lemma => kernel_rfl) | (as_aux_lemma => kernel_rfl)

/-- the bare row -/
theorem fnCode_row : Rows.FnCodeSaid :=
  OpenClaim.holds_of_wide 3 Tryd.f3 rfl rfl rfl rfl rfl rfl rfl ⟨rfl, rfl, rfl, rfl, rfl⟩ rfl rfl rfl rfl rfl (by kernel_rfl) Tryd.func3 fnCode_closed
    (of_decide_eq_true (by kernel_rfl)) (by unfold Func.isWrapper; first | (rw [if_pos (by decide +kernel)]; kernel_rfl) | (rw [if_neg (by decide +kernel)]; exact ⟨rfl, rfl⟩))
    (fun os started H enc _ => fnCode_lifted os started H enc)

/-- THE STATEMENT: the card -/
theorem fnCode_holds : Rows.FnCodeCardSaid :=
  Claim7.holds_tied_plain_at .later [] [.data, .pinned] true Rows.fnCodeCard.stood.harness false
    fnCode_row (fun _ h => by cases h) (by kernel_rfl) (fun _ h => by cases h) fnCode_row_tie rfl ⟨rfl, rfl⟩ door_main rfl
    (fun f fn hf hfn => by
      obtain rfl : f = 3 := Option.some.inj ((show Tryd.prog.funcNamed Rows.fnCodeRow.func = some 3 by kernel_rfl).symm.trans hf) |>.symm
      obtain rfl : fn = Tryd.f3 := (Option.some.inj (Tryd.func3.symm.trans hfn)).symm
      exact ⟨door_looks, fun j t ht => by
        rw [Tryd.params3] at ht
        have hm : t ∈ [22] := by simpa using Array.mem_of_getElem? ht
        have hall : ([22].all fun u => !Tryd.prog.wantsStandIn u) = true := by kernel_rfl
        exact (show Tryd.prog.wantsStandIn t = false by simpa using List.all_eq_true.1 hall t hm)⟩)
    (by kernel_rfl)
#print axioms fnCode_holds
end Go.Proofs.YtgnolhikphoagaaDoor
