/-
  The law FnSignal: for every code the law answers true. No condition but the tie of the card.
-/
import Derived.Test.YtgnolhikphoagaaDoorRowB
import Derived.Test.YtgnolhikphoagaaDoorRow
import Derived.ChangeMaps5
import Derived.Test.YtgnolhikphoagaaDoorDoorV
import Derived.Test.YtgnolhikphoagaaDoorTie
import Derived.Test.YtgnolhikphoagaaDoorFacD
import Derived.Test.YtgnolhikphoagaaDoorSDrawB
import Derived.Test.YtgnolhikphoagaaDoorSgP
import Derived.Test.YtgnolhikphoagaaDoorVaS
import Derived.Test.YtgnolhikphoagaaDoorVaI
import Derived.Test.YtgnolhikphoagaaDoorBaI
namespace Go.Proofs.YtgnolhikphoagaaDoor
open Go.ChangeShapes Go.WideShapes Go.ChangeAt Go.RowKit Go.ChangeMaps

theorem valid_of {s : ByteArray} {b : Bool} (h : sigB (byL s) = b) (w : World) (hs : s.size ≤ 1048576) : Calls Tryd.prog 18 #[.string s] w (RetB (.bool b) w) := by
  have h1 := implSignalValid_b s w hs
  rw [h] at h1
  exact h1

set_option maxRecDepth 100000 in
set_option maxHeartbeats 4000000 in
theorem fnSignal_in (A : Option Addr) (n c : Nat) (A1 : Option Addr) (n1 c1 : Nat) (w : World) (hl : n ≤ 1048576) (hnc : n ≤ c) (hb : Bytes w.heap.size w A n) (hl1 : n1 ≤ 1048576) (_ : n1 ≤ c1) (_ : Bytes w.heap.size w A1 n1) (hT : Tab w) :
    Calls Tryd.prog 4 #[.slice A n c, .slice A1 n1 c1] w (RetB (.bool true) w) := by
  have Hb := Lib.hid hb
  have tz0 := hT.lt
  have HT := Lib.hid hT
  have gn : ¬ (1048576 : Int) < (n : Int) := by omega
  have gn1 : ¬ (1048576 : Int) < (n1 : Int) := by omega
  clear hb hT
  go_enter Tryd.func4, Tryd.ntmps4
  go_wp2_with fail
  refine (DrawSignalValid_c A n c _ (by omega) hnc Hb.out).mono ?_
  rintro e w1 ⟨s, rfl, zs, hB⟩
  replace HT := Lib.hid (HT.out.go hB)
  have Bt := Lib.hid hB
  clear hB Hb
  have Himpl := Lib.hid (fun W => implSignalValid_b s W (by omega))
  have Hspec := Lib.hid (fun W => specSignalValid_b s W (by omega))
  cases ho : sigB (byL s)
  · rw [ho] at Himpl Hspec
    clear ho
    go_wp2_with fail
    refine (Himpl.out _).mono ?_
    rintro e w2 ⟨rfl, rb2⟩
    replace HT := Lib.hid (HT.out.go rb2)
    replace Bt := Lib.hid (below_step Bt.out rb2)
    clear rb2
    go_wp2_with fail
    refine (Hspec.out _).mono ?_
    rintro e w3 ⟨rfl, rb3⟩
    replace HT := Lib.hid (HT.out.go rb3)
    replace Bt := Lib.hid (below_step Bt.out rb3)
    clear rb3
    go_wp2
    go_ret
    exact ⟨rfl, Bt.out⟩
  have h80 := sigB_len ho
  obtain ⟨d, hd⟩ : ∃ d, n1 % (s.size + 1) = d := ⟨_, rfl⟩
  have hds : d ≤ s.size := by have := Nat.mod_lt n1 (show 0 < s.size + 1 by omega); omega
  have hz : (str ((byL s).map turnP)).size = s.size := by rw [str_size, List.length_map, byL_len]
  have Hbk := Lib.hid (fun W => implSignalBack_b s W (by omega))
  rw [ho, tuV_yes ho] at Hbk
  have Hvt := Lib.hid (fun W => valid_of (s := s.extract 0 d) (b := true) (by rw [byL_extract]; exact sig_take ho d) W (by rw [ByteArray.size_extract]; omega))
  have Hvb := Lib.hid (fun W => valid_of (s := str ((byL s).map turnP)) (b := true) (by rw [by_str]; exact sig_turn ho) W (by rw [hz]; omega))
  have Hvx := Lib.hid (fun W => valid_of (s := s ++ ⟨#[120]⟩) (b := false) (by
    have e : byL (s ++ ⟨#[120]⟩) = byL s ++ [120] := by
      apply str_inj
      rw [str_by, ← str_append, str_by]
      rfl
    rw [e]; exact sig_x _) W (by rw [ByteArray.size_append]; have : (⟨#[120]⟩ : ByteArray).size = 1 := rfl; omega))
  rw [ho] at Himpl Hspec
  obtain ⟨U, hU⟩ : ∃ x, str ((byL s).map turnP) = x := ⟨_, rfl⟩
  rw [hU] at Hbk Hvb
  have c1 : (s.size : Int) ≤ 8388608 := by omega
  have c2 : ¬ 9223372036854775807 < s.size + (⟨#[120]⟩ : ByteArray).size := by
    have : (⟨#[120]⟩ : ByteArray).size = 1 := rfl
    omega
  have q1 : IntKind.i64.wrap ((s.size : Int) + 1) = (s.size : Int) + 1 := IntWalk.i64_in _ (by omega)
  have z0 : (((s.size : Int) + 1) == 0) = false := by rw [beq_eq_false_iff_ne]; omega
  have z1 : ((s.size : Int) + 1 = 0) = False := by simp; omega
  have q5 : (n1 : Int).tmod ((s.size : Int) + 1) = (d : Int) := by
    rw [show ((s.size : Int) + 1) = ((s.size + 1 : Nat) : Int) by omega, Int.tmod_eq_emod_of_nonneg (by omega), ← hd]
    simp
  have q7 : IntKind.i64.wrap (d : Int) = (d : Int) := IntWalk.i64_in _ (by omega)
  have s0 : (0 : Int) ≤ (d : Int) := by omega
  have s1 : (d : Int) ≤ (s.size : Int) := by omega
  clear ho hU hd hz
  go_wp2_with fail
  refine (Himpl.out _).mono ?_
  rintro e w4 ⟨rfl, rb4⟩
  replace HT := Lib.hid (HT.out.go rb4)
  replace Bt := Lib.hid (below_step Bt.out rb4)
  clear rb4
  go_wp2_with fail
  refine (Hspec.out _).mono ?_
  rintro e w5 ⟨rfl, rb5⟩
  replace HT := Lib.hid (HT.out.go rb5)
  replace Bt := Lib.hid (below_step Bt.out rb5)
  clear rb5
  go_wp2_with fail
  refine (Hbk.out _ HT.out).mono ?_
  rintro e w6 ⟨rfl, rb6⟩
  replace HT := Lib.hid (HT.out.go rb6)
  replace Bt := Lib.hid (below_step Bt.out rb6)
  clear rb6
  go_wp2_with fail
  refine (Hvt.out _).mono ?_
  rintro e w7 ⟨rfl, rb7⟩
  replace HT := Lib.hid (HT.out.go rb7)
  replace Bt := Lib.hid (below_step Bt.out rb7)
  clear rb7
  go_wp2_with fail
  refine (Hvb.out _).mono ?_
  rintro e w8 ⟨rfl, rb8⟩
  replace HT := Lib.hid (HT.out.go rb8)
  replace Bt := Lib.hid (below_step Bt.out rb8)
  clear rb8
  go_wp2_with fail
  refine (Hvx.out _).mono ?_
  rintro e w9 ⟨rfl, rb9⟩
  replace HT := Lib.hid (HT.out.go rb9)
  replace Bt := Lib.hid (below_step Bt.out rb9)
  clear rb9
  go_wp2
  go_ret
  exact ⟨rfl, Bt.out⟩

theorem fnSignal_walk (A0 : Option Addr) (n0 c0 : Nat) (A1 : Option Addr) (n1 c1 : Nat) (w : World) (hb0 : Byt0 w A0 n0 c0) (hb1 : Byt0 w A1 n1 c1) (hT : Tab w) :
    Calls Tryd.prog 4 #[.slice A0 n0 c0, .slice A1 n1 c1] w (RetB (.bool true) w) := by
  by_cases hl0 : 1048576 < n0
  · have hg0 : (1048576 : Int) < (n0 : Int) := by omega
    clear hb0 hb1 hT
    go_enter Tryd.func4, Tryd.ntmps4
    go_wp2
    go_ret
    exact ⟨rfl, Below.refl _ _⟩
  have gn0 : ¬ (1048576 : Int) < (n0 : Int) := by omega
  by_cases hl1 : 1048576 < n1
  · have hg1 : (1048576 : Int) < (n1 : Int) := by omega
    clear hb0 hb1 hT
    go_enter Tryd.func4, Tryd.ntmps4
    go_wp2
    go_ret
    exact ⟨rfl, Below.refl _ _⟩
  have gn1 : ¬ (1048576 : Int) < (n1 : Int) := by omega
  exact fnSignal_in A0 n0 c0 A1 n1 c1 w (by omega) hb0.1 hb0.2.2 (by omega) hb1.1 hb1.2.2 hT

set_option maxRecDepth 100000 in
theorem fnSignal_lifted (os : Os) (started : os.Started) (H : Type) (enc : TypeId × Value → H) :
    ReturnsInHanded {} Tryd.checked os 4 .any (fun w args => (Rows.fnSignalSpec.pre enc Tryd.prog Tryd.f4 [] false w args ∧ laidMetH Tryd.prog Rows.fnSignalRow.laid w) ∧ sizedMet enc Tryd.prog Tryd.f4 (OpenSpec.ofChange Rows.fnSignalSpec) false w args)
      (Rows.fnSignalSpec.post enc Tryd.prog Tryd.f4 false true false false) := by
  refine handed_shaped started (by kernel_rfl) Tryd.func4
    (ChangeSpec.witness_shaped (enc := enc) (C := Tryd.checked) (os := os) (X := fun w _ => laidMetH Tryd.prog laidU w) false (doorW os) #[.slice none 0 0, .slice none 0 0] 8 (doorW_os os) (door_shaped os _) (by kernel_rfl) (by kernel_rfl) (by kernel_rfl) (door_laid os _)) ?_
  intro W base args ds gs before hval0 hW hT
  have hval : ∀ (j : Nat) t v, Tryd.f4.params[j]? = some t → args[j]? = some v → Value.okWide Tryd.prog W .any base t v := hval0
  have hW' := hW
  obtain ⟨p, q, hA0, hV, rfl, _, _⟩ := hW
  have hA : DataW.TrodAll enc Tryd.prog W 0 (fun _ => true) true Tryd.f4.params.toList args.toList ds p := hA0
  rw [Tryd.params4] at hA hval
  obtain ⟨v0, vs0, d0, ds0, p0, q0, hargs, rfl, rfl, h0, r0⟩ := trodAll_cons hA
  obtain ⟨v1, vs1, d1, ds1, p1, q1, rfl, rfl, rfl, h1, r1⟩ := trodAll_cons r0
  obtain ⟨rfl, rfl, rfl⟩ := trodAll_nil r1
  obtain rfl : args = #[v0, v1] := by cases args; simp_all
  obtain ⟨rfl, rfl⟩ := trodVars_none hV
  have hlt0 : ∀ x ∈ p0, x.block < W.heap.size := fun x hx => by exact hW'.lt x (by simp [hx])
  obtain ⟨A0, n0, c0, rfl, hb0⟩ := open_bytes (hval 0 22 v0 rfl rfl) h0 hlt0
  have hlt1 : ∀ x ∈ p1, x.block < W.heap.size := fun x hx => by exact hW'.lt x (by simp [hx])
  obtain ⟨A1, n1, c1, rfl, hb1⟩ := open_bytes (hval 1 22 v1 rfl rfl) h1 hlt1
  clear hA0 hval0
  refine (fnSignal_walk A0 n0 c0 A1 n1 c1 W hb0 hb1 hT).mono fun e W' ⟨he, hb⟩ => ?_
  subst he
  exact ⟨_, rfl, _, _, _, [], _, [], hW', (trodAll_cons_mk (shut_bool Tryd.underlying4 _) trodAll_mk0), (trodAll_cons_mk (read_again_bytes h0 hlt0 hb) (trodAll_cons_mk (read_again_bytes h1 hlt1 hb) trodAll_mk0)), rfl, hb.frame _, fun h => by cases h⟩

set_option maxRecDepth 100000 in
theorem fnSignal_closed : joinedFacts Tryd.prog 4 Tryd.f4 Rows.fnSignalSpec Rows.fnSignalRow = true := by
  unfold joinedFacts
  repeat' (with_reducible apply facAnd)
  all_goals first | (with_reducible exact facEnter) | (with_reducible exact facLaid) | (with_reducible exact facMaps) | (with_reducible exact facStops) | (with_reducible exact facKnobs) | (with_reducible exact facHeard) | (rw [facLifts]; as_aux_lemma => kernel_rfl) | (rw [facMake]; as_aux_lemma => kernel_rfl) | (as_aux_lemma => kernel_rfl)

/-- the bare row -/
theorem fnSignal_row : Rows.FnSignalSaid :=
  OpenClaim.holds_of_wide 4 Tryd.f4 rfl rfl rfl rfl rfl rfl rfl ⟨rfl, rfl, rfl, rfl, rfl⟩ rfl rfl rfl rfl rfl (by kernel_rfl) Tryd.func4 fnSignal_closed
    (of_decide_eq_true (by kernel_rfl)) (by unfold Func.isWrapper; first | (rw [if_pos (by decide +kernel)]; kernel_rfl) | (rw [if_neg (by decide +kernel)]; exact ⟨rfl, rfl⟩))
    (fun os started H enc _ => fnSignal_lifted os started H enc)

/-- THE STATEMENT: the card -/
theorem fnSignal_holds : Rows.FnSignalCardSaid :=
  Claim7.holds_tied_plain_at .later [] [.data, .pinned] true Rows.fnSignalCard.stood.harness false
    fnSignal_row (fun _ h => by cases h) (by kernel_rfl) (fun _ h => by cases h) fnSignal_row_tie rfl ⟨rfl, rfl⟩ door_main rfl
    (fun f fn hf hfn => by
      obtain rfl : f = 4 := Option.some.inj ((show Tryd.prog.funcNamed Rows.fnSignalRow.func = some 4 by kernel_rfl).symm.trans hf) |>.symm
      obtain rfl : fn = Tryd.f4 := (Option.some.inj (Tryd.func4.symm.trans hfn)).symm
      exact ⟨door_looks, fun j t ht => by
        rw [Tryd.params4] at ht
        have hm : t ∈ [22, 22] := by simpa using Array.mem_of_getElem? ht
        have hall : ([22, 22].all fun u => !Tryd.prog.wantsStandIn u) = true := by kernel_rfl
        exact (show Tryd.prog.wantsStandIn t = false by simpa using List.all_eq_true.1 hall t hm)⟩)
    (by kernel_rfl)
#print axioms fnSignal_holds
end Go.Proofs.YtgnolhikphoagaaDoor
