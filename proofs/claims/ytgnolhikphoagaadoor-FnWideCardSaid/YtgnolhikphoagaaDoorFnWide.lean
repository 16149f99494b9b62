/-
  The law FnWide: for every code the law answers true. No condition but the tie of the card.
-/
import Derived.Test.YtgnolhikphoagaaDoorRowB
import Derived.Test.YtgnolhikphoagaaDoorRow
import Derived.ChangeMaps5
import Derived.Test.YtgnolhikphoagaaDoorDoorV
import Derived.Test.YtgnolhikphoagaaDoorTie
import Derived.Test.YtgnolhikphoagaaDoorFacD
import Derived.Test.YtgnolhikphoagaaDoorSDrawB
import Derived.Test.YtgnolhikphoagaaDoorSgQ
import Derived.Test.YtgnolhikphoagaaDoorCnt8
import Derived.Test.YtgnolhikphoagaaDoorWiS
import Derived.Test.YtgnolhikphoagaaDoorWiI
import Derived.Test.YtgnolhikphoagaaDoorBaI
namespace Go.Proofs.YtgnolhikphoagaaDoor
open Go.ChangeShapes Go.WideShapes Go.ChangeAt Go.RowKit Go.ChangeMaps

theorem cntB (s : ByteArray) (b : UInt8) (v : Int) (hv : v = (b.toNat : Int)) (w : World) (h : s.size ≤ 1048576) : Calls Tryd.prog 16 #[.string s, .int .u8 v] w fun e w' => e = .returned (.int .i64 (((byL s).count b : Nat) : Int)) ∧ w = w' := by
  rw [hv]
  exact countOf_c s b w h
theorem wideI {a : ByteArray} {x : List UInt8} {v : Int} (ea : byL a = x) (h : widV x = v) (w : World) (ha : a.size ≤ 100) : Calls Tryd.prog 25 #[.string a] w (RetB (.int .i64 v) w) := by
  have h1 := implSignalWide_b a w (by omega)
  rw [ea, h] at h1
  exact h1

set_option maxRecDepth 100000 in
set_option maxHeartbeats 4000000 in
theorem fnWide_in (A : Option Addr) (n c : Nat) (w : World) (hl : n ≤ 1048576) (hnc : n ≤ c) (hb : Bytes w.heap.size w A n) (hT : Tab w) :
    Calls Tryd.prog 6 #[.slice A n c] w (RetB (.bool true) w) := by
  have Hb := Lib.hid hb
  have tz0 := hT.lt
  have HT := Lib.hid hT
  have gn : ¬ (1048576 : Int) < (n : Int) := by omega
  clear hb hT
  go_enter Tryd.func6, Tryd.ntmps6
  go_wp2_with fail
  refine (DrawSignalWide_c A n c _ (by omega) hnc Hb.out).mono ?_
  rintro e w1 ⟨s, rfl, zs, hB⟩
  replace HT := Lib.hid (HT.out.go hB)
  have Bt := Lib.hid hB
  clear hB Hb
  have Himpl := Lib.hid (fun W => implSignalWide_b s W (by omega))
  have Hspec := Lib.hid (fun W => specSignalWide_b s W (by omega))
  cases ho : sigB (byL s)
  · rw [widV_no ho] at Himpl Hspec
    clear ho
    go_wp2_with fail
    refine (Himpl.out _).mono ?_
    rintro e w2 ⟨rfl, rb2⟩
    replace HT := Lib.hid (HT.out.go rb2)
    replace Bt := Lib.hid (below_step Bt.out rb2)
    clear rb2
    go_wp2_with fail
    refine (Hspec.out _).mono ?_
    rintro e w3 ⟨rfl, rb3⟩
    replace HT := Lib.hid (HT.out.go rb3)
    replace Bt := Lib.hid (below_step Bt.out rb3)
    clear rb3
    go_wp2
    go_ret
    exact ⟨rfl, Bt.out⟩
  obtain ⟨w0, w1p, w2⟩ := wid_pls ho
  have Hlg := Lib.hid (fun (h : s.size < 80) => wid_longer ho (by rw [byL_len]; exact h))
  have hz : (str ((byL s).map turnP)).size = s.size := by rw [str_size, List.length_map, byL_len]
  have Hbk := Lib.hid (fun W => implSignalBack_b s W (by omega))
  rw [ho, tuV_yes ho] at Hbk
  have Hwb := Lib.hid (fun W => wideI (a := str ((byL s).map turnP)) (by_str _) (wid_turn ho) W (by omega))
  have Hwl := Lib.hid (fun W => wideI (a := s ++ ⟨#[43]⟩) (x := byL s ++ [43]) (by
      apply str_inj
      rw [str_by, ← str_append, str_by]
      rfl) rfl W (by rw [ByteArray.size_append]; have : (⟨#[43]⟩ : ByteArray).size = 1 := rfl; omega))
  have Hc1 := Lib.hid (fun W => cntB s 43 43 rfl W (by omega))
  have Hc2 := Lib.hid (fun W => cntB s 45 45 rfl W (by omega))
  have l1 : (byL s).count 43 ≤ s.size := by rw [← byL_len]; exact List.count_le_length
  have l2 : (byL s).count 45 ≤ s.size := by rw [← byL_len]; exact List.count_le_length
  unfold pls at w1p w2
  obtain ⟨U, hU⟩ : ∃ x, str ((byL s).map turnP) = x := ⟨_, rfl⟩
  obtain ⟨p, hp⟩ : ∃ x, (byL s).count 43 = x := ⟨_, rfl⟩
  obtain ⟨m, hm⟩ : ∃ x, (byL s).count 45 = x := ⟨_, rfl⟩
  obtain ⟨v, hv⟩ : ∃ x, widV (byL s) = x := ⟨_, rfl⟩
  obtain ⟨y, hy⟩ : ∃ x, widV (byL s ++ [43]) = x := ⟨_, rfl⟩
  rw [hU] at Hbk Hwb
  rw [hp] at Hc1 l1 w1p w2
  rw [hm] at Hc2 l2 w1p w2
  rw [hv] at Himpl Hspec Hlg Hwb w0 w1p w2
  rw [hy] at Hlg Hwl
  have g1 : ¬ v < 0 := by omega
  have g1d : decide (v < 0) = false := decide_eq_false g1
  have g2 : (v != v) = false := bne_self_eq_false _
  have g3 : (v == v) = true := beq_self_eq_true _
  have q1 : IntKind.i64.wrap ((p : Int) + (m : Int)) = (p : Int) + (m : Int) := IntWalk.i64_in _ (by omega)
  have q2 : v ≤ (p : Int) + (m : Int) := by omega
  have q2d : decide (v ≤ (p : Int) + (m : Int)) = true := decide_eq_true q2
  have q3 : IntKind.i64.wrap (v + 1) = v + 1 := IntWalk.i64_in _ (by omega)
  have q4 : (v == 0) = ((p : Int) + (m : Int) == 0) := by
    by_cases e : v = 0
    · have := w2.1 e
      rw [e, show (p : Int) + (m : Int) = 0 by omega]
    · have e2 : ¬ (p : Int) + (m : Int) = 0 := fun h => e (w2.2 (by omega))
      rw [beq_eq_false_iff_ne.2 e, beq_eq_false_iff_ne.2 e2]
  obtain ⟨bb, hbb⟩ : ∃ x, ((p : Int) + (m : Int) == 0) = x := ⟨_, rfl⟩
  rw [hbb] at q4
  have q5 : (bb == bb) = true := by simp
  have c1 : (s.size : Int) ≤ 8388608 := by omega
  have zo : (⟨#[43]⟩ : ByteArray).size = 1 := rfl
  have c2 : ¬ 9223372036854775807 < s.size + (⟨#[43]⟩ : ByteArray).size := by omega
  have zl : (s ++ ⟨#[43]⟩).size = s.size + 1 := by rw [ByteArray.size_append]; rfl
  clear ho hU hp hm hv hy w2 hz zo
  go_wp2_with fail
  refine (Himpl.out _).mono ?_
  rintro e w4 ⟨rfl, rb4⟩
  replace HT := Lib.hid (HT.out.go rb4)
  replace Bt := Lib.hid (below_step Bt.out rb4)
  clear rb4
  go_wp2_with fail
  refine (Hspec.out _).mono ?_
  rintro e w5 ⟨rfl, rb5⟩
  replace HT := Lib.hid (HT.out.go rb5)
  replace Bt := Lib.hid (below_step Bt.out rb5)
  clear rb5
  go_wp2_with fail
  refine (Hbk.out _ HT.out).mono ?_
  rintro e w6 ⟨rfl, rb6⟩
  replace HT := Lib.hid (HT.out.go rb6)
  replace Bt := Lib.hid (below_step Bt.out rb6)
  clear rb6
  go_wp2_with fail
  refine (Hc1.out _).mono ?_
  rintro e w9 ⟨rfl, rfl⟩
  go_wp2_with fail
  refine (Hc2.out _).mono ?_
  rintro e w9 ⟨rfl, rfl⟩
  go_wp2_with fail
  refine (Hwl.out _).mono ?_
  rintro e w7 ⟨rfl, rb7⟩
  replace HT := Lib.hid (HT.out.go rb7)
  replace Bt := Lib.hid (below_step Bt.out rb7)
  clear rb7
  go_wp2_with fail
  refine (Hwb.out _).mono ?_
  rintro e w8 ⟨rfl, rb8⟩
  replace HT := Lib.hid (HT.out.go rb8)
  replace Bt := Lib.hid (below_step Bt.out rb8)
  clear rb8
  by_cases h8 : s.size < 80
  · have k1 : ¬ (80 : Int) < (s.size : Int) + 1 := by omega
    have k1d : decide ((s.size : Int) + 1 > 80) = false := decide_eq_false (by omega)
    rcases Hlg.out h8 with e | e
    · have k2 : (y == v) = true := beq_iff_eq.2 e
      clear e
      go_wp2
      go_ret
      exact ⟨rfl, Bt.out⟩
    · have k2 : (y == v) = false := by rw [beq_eq_false_iff_ne]; omega
      have k3 : (y == v + 1) = true := beq_iff_eq.2 e
      clear e
      go_wp2
      go_ret
      exact ⟨rfl, Bt.out⟩
  · have k1 : (80 : Int) < (s.size : Int) + 1 := by omega
    have k1d : decide ((s.size : Int) + 1 > 80) = true := decide_eq_true (by omega)
    go_wp2
    go_ret
    exact ⟨rfl, Bt.out⟩

theorem fnWide_walk (A0 : Option Addr) (n0 c0 : Nat) (w : World) (hb0 : Byt0 w A0 n0 c0) (hT : Tab w) :
    Calls Tryd.prog 6 #[.slice A0 n0 c0] w (RetB (.bool true) w) := by
  by_cases hl0 : 1048576 < n0
  · have hg0 : (1048576 : Int) < (n0 : Int) := by omega
    clear hb0 hT
    go_enter Tryd.func6, Tryd.ntmps6
    go_wp2
    go_ret
    exact ⟨rfl, Below.refl _ _⟩
  have gn0 : ¬ (1048576 : Int) < (n0 : Int) := by omega
  exact fnWide_in A0 n0 c0 w (by omega) hb0.1 hb0.2.2 hT

set_option maxRecDepth 100000 in
theorem fnWide_lifted (os : Os) (started : os.Started) (H : Type) (enc : TypeId × Value → H) :
    ReturnsInHanded {} Tryd.checked os 6 .any (fun w args => (Rows.fnWideSpec.pre enc Tryd.prog Tryd.f6 [] false w args ∧ laidMetH Tryd.prog Rows.fnWideRow.laid w) ∧ sizedMet enc Tryd.prog Tryd.f6 (OpenSpec.ofChange Rows.fnWideSpec) false w args)
      (Rows.fnWideSpec.post enc Tryd.prog Tryd.f6 false true false false) := by
  refine handed_shaped started (by kernel_rfl) Tryd.func6
    (ChangeSpec.witness_shaped (enc := enc) (C := Tryd.checked) (os := os) (X := fun w _ => laidMetH Tryd.prog laidU w) false (doorW os) #[.slice none 0 0] 8 (doorW_os os) (door_shaped os _) (by kernel_rfl) (by kernel_rfl) (by kernel_rfl) (door_laid os _)) ?_
  intro W base args ds gs before hval0 hW hT
  have hval : ∀ (j : Nat) t v, Tryd.f6.params[j]? = some t → args[j]? = some v → Value.okWide Tryd.prog W .any base t v := hval0
  have hW' := hW
  obtain ⟨p, q, hA0, hV, rfl, _, _⟩ := hW
  have hA : DataW.TrodAll enc Tryd.prog W 0 (fun _ => true) true Tryd.f6.params.toList args.toList ds p := hA0
  rw [Tryd.params6] at hA hval
  obtain ⟨v0, vs0, d0, ds0, p0, q0, hargs, rfl, rfl, h0, r0⟩ := trodAll_cons hA
  obtain ⟨rfl, rfl, rfl⟩ := trodAll_nil r0
  obtain rfl : args = #[v0] := by cases args; simp_all
  obtain ⟨rfl, rfl⟩ := trodVars_none hV
  have hlt0 : ∀ x ∈ p0, x.block < W.heap.size := fun x hx => by exact hW'.lt x (by simp [hx])
  obtain ⟨A0, n0, c0, rfl, hb0⟩ := open_bytes (hval 0 22 v0 rfl rfl) h0 hlt0
  clear hA0 hval0
  refine (fnWide_walk A0 n0 c0 W hb0 hT).mono fun e W' ⟨he, hb⟩ => ?_
  subst he
  exact ⟨_, rfl, _, _, _, [], _, [], hW', (trodAll_cons_mk (shut_bool Tryd.underlying4 _) trodAll_mk0), (trodAll_cons_mk (read_again_bytes h0 hlt0 hb) trodAll_mk0), rfl, hb.frame _, fun h => by cases h⟩

set_option maxRecDepth 100000 in
theorem fnWide_closed : joinedFacts Tryd.prog 6 Tryd.f6 Rows.fnWideSpec Rows.fnWideRow = true := by
  unfold joinedFacts
  repeat' (with_reducible apply facAnd)
  all_goals first | (with_reducible exact facEnter) | (with_reducible exact facLaid) | (with_reducible exact facMaps) | (with_reducible exact facStops) | (with_reducible exact facKnobs) | (with_reducible exact facHeard) | (rw [facLifts]; as_aux_lemma => kernel_rfl) | (rw [facMake]; as_aux_lemma => kernel_rfl) | (as_aux_lemma => kernel_rfl)

/-- the bare row -/
theorem fnWide_row : Rows.FnWideSaid :=
  OpenClaim.holds_of_wide 6 Tryd.f6 rfl rfl rfl rfl rfl rfl rfl ⟨rfl, rfl, rfl, rfl, rfl⟩ rfl rfl rfl rfl rfl (by kernel_rfl) Tryd.func6 fnWide_closed
    (of_decide_eq_true (by kernel_rfl)) (by unfold Func.isWrapper; first | (rw [if_pos (by decide +kernel)]; kernel_rfl) | (rw [if_neg (by decide +kernel)]; exact ⟨rfl, rfl⟩))
    (fun os started H enc _ => fnWide_lifted os started H enc)

/-- THE STATEMENT: the card -/
theorem fnWide_holds : Rows.FnWideCardSaid :=
  Claim7.holds_tied_plain_at .later [] [.data, .pinned] true Rows.fnWideCard.stood.harness false
    fnWide_row (fun _ h => by cases h) (by kernel_rfl) (fun _ h => by cases h) fnWide_row_tie rfl ⟨rfl, rfl⟩ door_main rfl
    (fun f fn hf hfn => by
      obtain rfl : f = 6 := Option.some.inj ((show Tryd.prog.funcNamed Rows.fnWideRow.func = some 6 by kernel_rfl).symm.trans hf) |>.symm
      obtain rfl : fn = Tryd.f6 := (Option.some.inj (Tryd.func6.symm.trans hfn)).symm
      exact ⟨door_looks, fun j t ht => by
        rw [Tryd.params6] at ht
        have hm : t ∈ [22] := by simpa using Array.mem_of_getElem? ht
        have hall : ([22].all fun u => !Tryd.prog.wantsStandIn u) = true := by kernel_rfl
        exact (show Tryd.prog.wantsStandIn t = false by simpa using List.all_eq_true.1 hall t hm)⟩)
    (by kernel_rfl)
#print axioms fnWide_holds
end Go.Proofs.YtgnolhikphoagaaDoor
