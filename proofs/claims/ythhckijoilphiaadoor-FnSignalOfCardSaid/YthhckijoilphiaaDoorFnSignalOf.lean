/-
  The law FnSignalOf: for every code the law answers true. No condition but the tie of the card.
-/
import Derived.Test.YthhckijoilphiaaDoorRowB
import Derived.Test.YthhckijoilphiaaDoorRow
import Derived.ChangeMaps5
import Derived.Test.YthhckijoilphiaaDoorDoorV
import Derived.Test.YthhckijoilphiaaDoorTie
import Derived.Test.YthhckijoilphiaaDoorFacD
import Derived.Test.YthhckijoilphiaaDoorSDraw
import Derived.Test.YthhckijoilphiaaDoorSgK
import Derived.Test.YthhckijoilphiaaDoorCnt8
import Derived.Test.YthhckijoilphiaaDoorSoI
import Derived.Test.YthhckijoilphiaaDoorReI
namespace Go.Proofs.YthhckijoilphiaaDoor
open Go.ChangeShapes Go.WideShapes Go.ChangeAt Go.RowKit Go.ChangeMaps

theorem read_back {s : ByteArray} (h : ofOk (byL s) = true) (w : World) (hT : Tab w) : Calls Tryd.prog 19 #[.string (str (sgT (byL s)))] w (RetB (.tuple #[.string s, .bool true]) w) := by
  have hl := sgT_len (byL s)
  have h0 := (ofOk_true.1 h).1
  have h1 := implSignalRead_b (str (sgT (byL s))) w (by rw [str_size]; omega) hT
  obtain ⟨h2, h3⟩ := read_sent h
  rw [by_str, h2, h3, str_by] at h1
  exact h1
theorem part_of {s : ByteArray} {l : List UInt8} (e : byL s = l) (h : ofOk l = true) (w : World) : Calls Tryd.prog 17 #[.string s] w (RetB (.tuple #[.string (str (sgT l)), .bool true]) w) := by
  have h1 := implSignalOf_b s w
  rw [e, h, ofV_yes h] at h1
  exact h1
theorem gaps_of (l : List UInt8) (w : World) (h : (sgT l).length ≤ 1048576) : Calls Tryd.prog 20 #[.string (str (sgT l)), .int .u8 48] w fun e w' => e = .returned (.int .i64 ((l.length - 1 : Nat) : Int)) ∧ w = w' := by
  have h1 := countOf_c (str (sgT l)) 48 w (by rw [str_size]; exact h)
  have e : (str (sgT l)).data.toList = sgT l := by_str (sgT l)
  rw [e, count_sgT] at h1
  exact h1

theorem sg_parts {s : ByteArray} {k : Nat} (h0 : 0 < k) (h1 : k < s.size) : str (sgT ((byL s).take k)) ++ ⟨#[48]⟩ ++ str (sgT ((byL s).drop k)) = str (sgT (byL s)) := by
  have := congrArg str (sgT_parts (t := byL s) h0 (by rw [byL_len]; exact h1))
  rw [← str_append, ← str_append] at this
  exact this

set_option maxRecDepth 100000 in
set_option maxHeartbeats 4000000 in
theorem fnSignalOf_in (A : Option Addr) (n c : Nat) (A1 : Option Addr) (n1 c1 : Nat) (w : World) (hl : n ≤ 1048576) (hnc : n ≤ c) (hb : Bytes w.heap.size w A n) (hl1 : n1 ≤ 1048576) (_ : n1 ≤ c1) (_ : Bytes w.heap.size w A1 n1) (hT : Tab w) :
    Calls Tryd.prog 3 #[.slice A n c, .slice A1 n1 c1] w (RetB (.bool true) w) := by
  have Hb := Lib.hid hb
  have tz0 := hT.lt
  have HT := Lib.hid hT
  have gn : ¬ (1048576 : Int) < (n : Int) := by omega
  have gn1 : ¬ (1048576 : Int) < (n1 : Int) := by omega
  clear hb hT
  go_enter Tryd.func3, Tryd.ntmps3
  go_wp2_with fail
  refine (DrawSignalOf_c A n c _ (by omega) hnc Hb.out).mono ?_
  rintro e w1 ⟨s, rfl, hs, hB⟩
  replace HT := Lib.hid (HT.out.go hB)
  have Bt := Lib.hid hB
  have b1 := hB.size
  clear hB Hb
  have Himpl := Lib.hid (fun W => implSignalOf_b s W)
  have Hspec := Lib.hid (fun W => specSignalOf_c s W (by omega))
  cases ho : ofOk (byL s)
  · rw [ho, ofV_no ho] at Himpl Hspec
    obtain ⟨U, hU⟩ : ∃ x, str [] = x := ⟨_, rfl⟩
    rw [hU] at Himpl Hspec
    have e1 : (U.toList == U.toList) = true := beq_self_eq_true _
    have e2 : (U.toList != U.toList) = false := bne_self_eq_false _
    clear ho hU
    go_wp2_with fail
    refine (Himpl.out _).mono ?_
    rintro e w2 ⟨rfl, rb2⟩
    replace Bt := Lib.hid (below_step Bt.out rb2)
    clear rb2
    go_wp2_with fail
    refine (Hspec.out _).mono ?_
    rintro e w3 ⟨rfl, rfl⟩
    go_wp2
    go_ret
    exact ⟨rfl, Bt.out⟩
  have Hrd := Lib.hid (fun W => read_back ho W)
  have hsl := sgT_len (byL s)
  rw [byL_len] at hsl
  have Hgp := Lib.hid (fun W => gaps_of (byL s) W (by omega))
  rw [byL_len] at Hgp
  have hz : (str (sgT (byL s))).size ≤ 200 := by rw [str_size]; omega
  have Hsh := Lib.hid (fun (h : s.size < 2) => (show (str (sgT (byL s))).size ≤ 4 by rw [str_size]; exact sgT_short (by rw [byL_len]; exact h)))
  have Hpt := Lib.hid (fun (k : Nat) (h0 : 0 < k) (h1 : k < s.size) => sg_parts (s := s) h0 h1)
  have Hok := Lib.hid (fun k => ofOk_take ho k)
  rw [ho, ofV_yes ho] at Himpl Hspec
  obtain ⟨U, hU⟩ : ∃ x, str (sgT (byL s)) = x := ⟨_, rfl⟩
  rw [hU] at Himpl Hspec Hrd Hgp hz Hsh Hpt
  have e1 : (U.toList == U.toList) = true := beq_self_eq_true _
  have e2 : (U.toList != U.toList) = false := bne_self_eq_false _
  have e3 : (s.toList != s.toList) = false := bne_self_eq_false _
  clear ho hU hsl
  go_wp2_with fail
  refine (Himpl.out _).mono ?_
  rintro e w2 ⟨rfl, rb2⟩
  replace HT := Lib.hid (HT.out.go rb2)
  replace Bt := Lib.hid (below_step Bt.out rb2)
  have b2 := rb2.size
  clear rb2
  go_wp2_with fail
  refine (Hspec.out _).mono ?_
  rintro e w3 ⟨rfl, rfl⟩
  go_wp2_with fail
  refine (Hrd.out _ HT.out).mono ?_
  rintro e w4 ⟨rfl, rb4⟩
  replace Bt := Lib.hid (below_step Bt.out rb4)
  have b4 := rb4.size
  clear rb4 HT
  obtain ⟨T, hT⟩ : ∃ T, s.size = T := ⟨_, rfl⟩
  have q1 : IntKind.i64.wrap ((T : Int) - 1) = (T : Int) - 1 := IntWalk.i64_in _ (by omega)
  have q2 : max 0 ((T : Int) - 1) = ((T - 1 : Nat) : Int) := by omega
  have q3 : max ((T : Int) - 1) 0 = ((T - 1 : Nat) : Int) := by omega
  have q4 : (((T - 1 : Nat) : Int) != ((T - 1 : Nat) : Int)) = false := bne_self_eq_false _
  rw [hT] at Hgp hs
  have HTS := Lib.hid hT
  go_wp2_with fail
  refine (Hgp.out _).mono ?_
  rintro e w5 ⟨rfl, rfl⟩
  by_cases h2 : T < 2
  · have g2 : (T : Int) < 2 := by omega
    have g3 : (U.size : Int) ≤ 4 := by have := Hsh.out (by rw [hT]; exact h2); omega
    have g3d : decide ((U.size : Int) ≤ 4) = true := decide_eq_true g3
    go_wp2
    go_ret
    exact ⟨rfl, Bt.out⟩
  have g2 : ¬ (T : Int) < 2 := by omega
  obtain ⟨d, hd⟩ : ∃ d, n1 % (T - 1) = d := ⟨_, rfl⟩
  have hdT : d < T - 1 := by rw [← hd]; exact Nat.mod_lt _ (by omega)
  have z0 : (((T : Int) - 1) == 0) = false := by rw [beq_eq_false_iff_ne]; omega
  have z1 : ((T : Int) - 1 = 0) = False := by simp; omega
  have q5 : (n1 : Int).tmod ((T : Int) - 1) = (d : Int) := by
    rw [show ((T : Int) - 1) = ((T - 1 : Nat) : Int) by omega, Int.tmod_eq_emod_of_nonneg (by omega), ← hd]
    simp
  have q6 : IntKind.i64.wrap (1 + (d : Int)) = 1 + (d : Int) := IntWalk.i64_in _ (by omega)
  have q7 : IntKind.i64.wrap (d : Int) = (d : Int) := IntWalk.i64_in _ (by omega)
  have s0 : (0 : Int) ≤ 1 + (d : Int) := by omega
  have s1 : 1 + (d : Int) ≤ (T : Int) := by omega
  have s2 : (1 + (d : Int)).toNat = d + 1 := by omega
  have hcat := Hpt.out (d + 1) (by omega) (by rw [hT]; omega)
  have hpa := part_of (s := s.extract 0 (d + 1)) (l := (byL s).take (d + 1)) (by rw [byL_extract]; rfl) (Hok.out (d + 1)).1
  have hpb := part_of (s := s.extract (d + 1) T) (l := (byL s).drop (d + 1)) (by rw [byL_extract, List.take_of_length_le (by rw [byL_len, hT]; exact Nat.le_refl _)]) (Hok.out (d + 1)).2
  obtain ⟨SA, hSA⟩ : ∃ x, str (sgT ((byL s).take (d + 1))) = x := ⟨_, rfl⟩
  obtain ⟨SB, hSB⟩ : ∃ x, str (sgT ((byL s).drop (d + 1))) = x := ⟨_, rfl⟩
  simp only [hSA] at hpa hcat
  simp only [hSB] at hpb hcat
  have hzz := hz
  rw [← hcat, ByteArray.size_append, ByteArray.size_append] at hzz
  have hz1 : (⟨#[48]⟩ : ByteArray).size = 1 := rfl
  have ecat : ((SA ++ ⟨#[48]⟩ ++ SB).toList == U.toList) = true := by rw [hcat]; exact beq_self_eq_true _
  have c1 : (SA.size : Int) ≤ 8388608 := by omega
  have c2 : (SB.size : Int) ≤ 8388608 := by omega
  have c3 : ¬ 9223372036854775807 < SA.size + (⟨#[48]⟩ : ByteArray).size := by omega
  have c4 : ¬ 9223372036854775807 < (SA ++ ⟨#[48]⟩).size + SB.size := by rw [ByteArray.size_append]; omega
  have HA := Lib.hid hpa
  have HB := Lib.hid hpb
  clear hpa hpb hSA hSB hcat Hpt Hok Hsh hd hzz hz1
  go_wp2_with fail
  refine (HA.out _).mono ?_
  rintro e w6 ⟨rfl, rb6⟩
  replace Bt := Lib.hid (below_step Bt.out rb6)
  clear rb6
  go_wp2_with fail
  refine (HB.out _).mono ?_
  rintro e w7 ⟨rfl, rb7⟩
  replace Bt := Lib.hid (below_step Bt.out rb7)
  clear rb7
  go_wp2
  go_ret
  exact ⟨rfl, Bt.out⟩

theorem fnSignalOf_walk (A0 : Option Addr) (n0 c0 : Nat) (A1 : Option Addr) (n1 c1 : Nat) (w : World) (hb0 : Byt0 w A0 n0 c0) (hb1 : Byt0 w A1 n1 c1) (hT : Tab w) :
    Calls Tryd.prog 3 #[.slice A0 n0 c0, .slice A1 n1 c1] w (RetB (.bool true) w) := by
  by_cases hl0 : 1048576 < n0
  · have hg0 : (1048576 : Int) < (n0 : Int) := by omega
    clear hb0 hb1 hT
    go_enter Tryd.func3, Tryd.ntmps3
    go_wp2
    go_ret
    exact ⟨rfl, Below.refl _ _⟩
  have gn0 : ¬ (1048576 : Int) < (n0 : Int) := by omega
  by_cases hl1 : 1048576 < n1
  · have hg1 : (1048576 : Int) < (n1 : Int) := by omega
    clear hb0 hb1 hT
    go_enter Tryd.func3, Tryd.ntmps3
    go_wp2
    go_ret
    exact ⟨rfl, Below.refl _ _⟩
  have gn1 : ¬ (1048576 : Int) < (n1 : Int) := by omega
  exact fnSignalOf_in A0 n0 c0 A1 n1 c1 w (by omega) hb0.1 hb0.2.2 (by omega) hb1.1 hb1.2.2 hT

set_option maxRecDepth 100000 in
theorem fnSignalOf_lifted (os : Os) (started : os.Started) (H : Type) (enc : TypeId × Value → H) :
    ReturnsInHanded {} Tryd.checked os 3 .any (fun w args => (Rows.fnSignalOfSpec.pre enc Tryd.prog Tryd.f3 [] false w args ∧ laidMetH Tryd.prog Rows.fnSignalOfRow.laid w) ∧ sizedMet enc Tryd.prog Tryd.f3 (OpenSpec.ofChange Rows.fnSignalOfSpec) false w args)
      (Rows.fnSignalOfSpec.post enc Tryd.prog Tryd.f3 false true false false) := by
  refine handed_shaped started (by kernel_rfl) Tryd.func3
    (ChangeSpec.witness_shaped (enc := enc) (C := Tryd.checked) (os := os) (X := fun w _ => laidMetH Tryd.prog laidU w) false (doorW os) #[.slice none 0 0, .slice none 0 0] 8 (doorW_os os) (door_shaped os _) (by kernel_rfl) (by kernel_rfl) (by kernel_rfl) (door_laid os _)) ?_
  intro W base args ds gs before hval0 hW hT
  have hval : ∀ (j : Nat) t v, Tryd.f3.params[j]? = some t → args[j]? = some v → Value.okWide Tryd.prog W .any base t v := hval0
  have hW' := hW
  obtain ⟨p, q, hA0, hV, rfl, _, _⟩ := hW
  have hA : DataW.TrodAll enc Tryd.prog W 0 (fun _ => true) true Tryd.f3.params.toList args.toList ds p := hA0
  rw [Tryd.params3] at hA hval
  obtain ⟨v0, vs0, d0, ds0, p0, q0, hargs, rfl, rfl, h0, r0⟩ := trodAll_cons hA
  obtain ⟨v1, vs1, d1, ds1, p1, q1, rfl, rfl, rfl, h1, r1⟩ := trodAll_cons r0
  obtain ⟨rfl, rfl, rfl⟩ := trodAll_nil r1
  obtain rfl : args = #[v0, v1] := by cases args; simp_all
  obtain ⟨rfl, rfl⟩ := trodVars_none hV
  have hlt0 : ∀ x ∈ p0, x.block < W.heap.size := fun x hx => by exact hW'.lt x (by simp [hx])
  obtain ⟨A0, n0, c0, rfl, hb0⟩ := open_bytes (hval 0 22 v0 rfl rfl) h0 hlt0
  have hlt1 : ∀ x ∈ p1, x.block < W.heap.size := fun x hx => by exact hW'.lt x (by simp [hx])
  obtain ⟨A1, n1, c1, rfl, hb1⟩ := open_bytes (hval 1 22 v1 rfl rfl) h1 hlt1
  clear hA0 hval0
  refine (fnSignalOf_walk A0 n0 c0 A1 n1 c1 W hb0 hb1 hT).mono fun e W' ⟨he, hb⟩ => ?_
  subst he
  exact ⟨_, rfl, _, _, _, [], _, [], hW', (trodAll_cons_mk (shut_bool Tryd.underlying4 _) trodAll_mk0), (trodAll_cons_mk (read_again_bytes h0 hlt0 hb) (trodAll_cons_mk (read_again_bytes h1 hlt1 hb) trodAll_mk0)), rfl, hb.frame _, fun h => by cases h⟩

set_option maxRecDepth 100000 in
theorem fnSignalOf_closed : joinedFacts Tryd.prog 3 Tryd.f3 Rows.fnSignalOfSpec Rows.fnSignalOfRow = true := by
  unfold joinedFacts
  repeat' (with_reducible apply facAnd)
  all_goals first | (with_reducible exact facEnter) | (with_reducible exact facLaid) | (with_reducible exact facMaps) | (with_reducible exact facStops) | (with_reducible exact facKnobs) | (with_reducible exact facHeard) | (rw [facLifts]; as_aux_lemma => kernel_rfl) | (rw [facMake]; as_aux_lemma => kernel_rfl) | (as_aux_lemma => kernel_rfl)

/-- the bare row -/
theorem fnSignalOf_row : Rows.FnSignalOfSaid :=
  OpenClaim.holds_of_wide 3 Tryd.f3 rfl rfl rfl rfl rfl rfl rfl ⟨rfl, rfl, rfl, rfl, rfl⟩ rfl rfl rfl rfl rfl (by kernel_rfl) Tryd.func3 fnSignalOf_closed
    (of_decide_eq_true (by kernel_rfl)) (by unfold Func.isWrapper; first | (rw [if_pos (by decide +kernel)]; kernel_rfl) | (rw [if_neg (by decide +kernel)]; exact ⟨rfl, rfl⟩))
    (fun os started H enc _ => fnSignalOf_lifted os started H enc)

/-- THE STATEMENT: the card -/
theorem fnSignalOf_holds : Rows.FnSignalOfCardSaid :=
  Claim7.holds_tied_plain_at .later [] [.data, .pinned] true Rows.fnSignalOfCard.stood.harness false
    fnSignalOf_row (fun _ h => by cases h) (by kernel_rfl) (fun _ h => by cases h) fnSignalOf_row_tie rfl ⟨rfl, rfl⟩ door_main rfl
    (fun f fn hf hfn => by
      obtain rfl : f = 3 := Option.some.inj ((show Tryd.prog.funcNamed Rows.fnSignalOfRow.func = some 3 by kernel_rfl).symm.trans hf) |>.symm
      obtain rfl : fn = Tryd.f3 := (Option.some.inj (Tryd.func3.symm.trans hfn)).symm
      exact ⟨door_looks, fun j t ht => by
        rw [Tryd.params3] at ht
        have hm : t ∈ [22, 22] := by simpa using Array.mem_of_getElem? ht
        have hall : ([22, 22].all fun u => !Tryd.prog.wantsStandIn u) = true := by kernel_rfl
        exact (show Tryd.prog.wantsStandIn t = false by simpa using List.all_eq_true.1 hall t hm)⟩)
    (by kernel_rfl)
#print axioms fnSignalOf_holds
end Go.Proofs.YthhckijoilphiaaDoor
