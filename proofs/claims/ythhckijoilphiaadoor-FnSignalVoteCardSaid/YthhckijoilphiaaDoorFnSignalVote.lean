/-
  The law FnSignalVote: for every code the law answers true. No condition but the tie of the card.
-/
import Derived.Test.YthhckijoilphiaaDoorRowB
import Derived.Test.YthhckijoilphiaaDoorRow
import Derived.ChangeMaps5
import Derived.Test.YthhckijoilphiaaDoorDoorV
import Derived.Test.YthhckijoilphiaaDoorTie
import Derived.Test.YthhckijoilphiaaDoorFacD
import Derived.Test.YthhckijoilphiaaDoorSDraw
import Derived.Test.YthhckijoilphiaaDoorSgO
import Derived.Test.YthhckijoilphiaaDoorVoS
import Derived.Test.YthhckijoilphiaaDoorVoI
namespace Go.Proofs.YthhckijoilphiaaDoor
open Go.ChangeShapes Go.WideShapes Go.ChangeAt Go.RowKit Go.ChangeMaps

theorem vote_of {a b c : ByteArray} {U : ByteArray} (e : voB (byL a) (byL b) (byL c) = true) (h : str (voV (byL a) (byL b) (byL c)) = U) (ha : a.size ≤ 80) (hb : b.size ≤ 80) (hc : c.size ≤ 80) (w : World) :
    Calls Tryd.prog 24 #[.string a, .string b, .string c] w (RetB (.tuple #[.string U, .bool true]) w) := by
  have h1 := implSignalVote_b a b c w (by omega) (by omega) (by omega)
  rw [e, h] at h1
  exact h1
theorem eqB (x y : UInt8) : ((x.toNat : Int) == (y.toNat : Int)) = decide (x = y) := by
  by_cases h : x = y
  · rw [h]; simp
  · rw [decide_eq_false h, beq_eq_false_iff_ne]
    intro e
    exact h (UInt8.toNat_inj.1 (by omega))

set_option maxRecDepth 100000 in
set_option maxHeartbeats 4000000 in
theorem fnSignalVote_in (A : Option Addr) (n c : Nat) (w : World) (hl : n ≤ 1048576) (hnc : n ≤ c) (hb : Bytes w.heap.size w A n) (_ : Tab w) :
    Calls Tryd.prog 5 #[.slice A n c] w (RetB (.bool true) w) := by
  have Hb := Lib.hid hb
  have gn : ¬ (1048576 : Int) < (n : Int) := by omega
  clear hb
  go_enter Tryd.func5, Tryd.ntmps5
  go_wp2_with fail
  refine (DrawSignalVote_c A n c _ (by omega) hnc Hb.out).mono ?_
  rintro e w1 ⟨a, b, d, rfl, za, zb, zd, hB⟩
  have Bt := Lib.hid hB
  clear hB Hb
  have Himpl := Lib.hid (fun W => implSignalVote_b a b d W (by omega) (by omega) (by omega))
  have Hspec := Lib.hid (fun W => specSignalVote_b a b d W (by omega) (by omega) (by omega))
  cases ho : voB (byL a) (byL b) (byL d)
  · rw [ho, voV_no ho] at Himpl Hspec
    obtain ⟨U, hU⟩ : ∃ x, str [] = x := ⟨_, rfl⟩
    rw [hU] at Himpl Hspec
    have e1 : (U.toList == U.toList) = true := beq_self_eq_true _
    have e2 : (U.toList != U.toList) = false := bne_self_eq_false _
    clear ho hU
    go_wp2_with fail
    refine (Himpl.out _).mono ?_
    rintro e w2 ⟨rfl, rb2⟩
    replace Bt := Lib.hid (below_step Bt.out rb2)
    clear rb2
    go_wp2_with fail
    refine (Hspec.out _).mono ?_
    rintro e w3 ⟨rfl, rb3⟩
    replace Bt := Lib.hid (below_step Bt.out rb3)
    clear rb3
    go_wp2
    go_ret
    exact ⟨rfl, Bt.out⟩
  obtain ⟨N, hN⟩ : ∃ N, a.size = N := ⟨_, rfl⟩
  obtain ⟨_, hl4, hl5⟩ := voB_true.1 ho
  rw [byL_len, byL_len] at hl4 hl5
  have hbN : b.size = N := by omega
  have hdN : d.size = N := by omega
  have hV : voV (byL a) (byL b) (byL d) = voT (byL a) (byL b) (byL d) N := by rw [voV_yes ho, byL_len, hN]
  have HX := Lib.hid (fun W => vote_of (U := str (voV (byL a) (byL b) (byL d))) (vote_rot ho).1 (by rw [(vote_rot ho).2]) zd za zb W)
  have HY := Lib.hid (fun W => vote_of (U := str (voV (byL a) (byL b) (byL d))) (vote_swap ho).1 (by rw [(vote_swap ho).2]) zb za zd W)
  have HZ := Lib.hid (fun W => vote_of (U := a) (vote_same ho).1 (by rw [(vote_same ho).2, str_by]) za za zb W)
  rw [ho] at Himpl Hspec
  obtain ⟨U, hU⟩ : ∃ x, str (voV (byL a) (byL b) (byL d)) = x := ⟨_, rfl⟩
  have hUN : U.size = N := by rw [← hU, str_size, hV, voT_len]
  have hUk : ∀ k (h0 : k < U.size) (h1 : k < a.size) (h2 : k < b.size) (h3 : k < d.size), U[k]'h0 = voP a[k] b[k] d[k] := fun k h0 h1 h2 h3 => by
    have e1 := voT_at h1 h2 h3 (show k < N by omega)
    have e2 : (byL U)[k]? = some (U[k]'h0) := byL_at U k h0
    have e3 : byL U = voT (byL a) (byL b) (byL d) N := by rw [← hU, by_str, hV]
    rw [e3, e1] at e2
    exact (Option.some.inj e2).symm
  rw [hU] at Himpl Hspec HX HY
  have HUk := Lib.hid hUk
  have HN := Lib.hid hN
  have Hb2 := Lib.hid hbN
  have Hd2 := Lib.hid hdN
  have Hu2 := Lib.hid hUN
  have e1 : (U.toList == U.toList) = true := beq_self_eq_true _
  have e2 : (U.toList != U.toList) = false := bne_self_eq_false _
  have e3 : (a.toList == a.toList) = true := beq_self_eq_true _
  clear ho hU hV hUk hl4 hl5
  go_wp2_with fail
  refine (Himpl.out _).mono ?_
  rintro e w2 ⟨rfl, rb2⟩
  replace Bt := Lib.hid (below_step Bt.out rb2)
  clear rb2
  go_wp2_with fail
  refine (Hspec.out _).mono ?_
  rintro e w3 ⟨rfl, rb3⟩
  replace Bt := Lib.hid (below_step Bt.out rb3)
  clear rb3
  go_wp2_with fail
  refine (HX.out _).mono ?_
  rintro e w4 ⟨rfl, rb4⟩
  replace Bt := Lib.hid (below_step Bt.out rb4)
  clear rb4
  go_wp2_with fail
  refine (HY.out _).mono ?_
  rintro e w5 ⟨rfl, rb5⟩
  replace Bt := Lib.hid (below_step Bt.out rb5)
  clear rb5
  go_wp2_with fail
  refine (HZ.out _).mono ?_
  rintro e w6 ⟨rfl, rb6⟩
  replace Bt := Lib.hid (below_step Bt.out rb6)
  clear rb6 Himpl Hspec HX HY HZ
  go_wp2
  go_loopw [16] (fun i wr => ∃ k q : Nat, k ≤ N ∧ i = .int .i64 k ∧ wr = w6.drewN q) (fun i _ => N - (intOf i).toNat)
  case atStart => exact ⟨0, 0, Nat.zero_le _, rfl, rfl⟩
  case round =>
    obtain ⟨k, q, hk, rfl, rfl⟩ := hrel
    obtain hlt | hge := Nat.lt_or_ge k N
    · have l1 : k < a.size := by rw [HN.out]; exact hlt
      have l2 : k < b.size := by rw [Hb2.out]; exact hlt
      have l3 : k < d.size := by rw [Hd2.out]; exact hlt
      have l4 : k < U.size := by rw [Hu2.out]; exact hlt
      have g1 : (k : Int) < (N : Int) := by omega
      have q1 : IntKind.i64.wrap ((k : Int) + 1) = (k : Int) + 1 := IntWalk.i64_in _ (by omega)
      have hu := HUk.out k l4 l1 l2 l3
      have two := voP_two a[k] b[k] d[k]
      rw [← hu] at two
      clear hu
      obtain ⟨x, hx⟩ : ∃ x : UInt8, a[k]'l1 = x := ⟨_, rfl⟩
      obtain ⟨y, hy⟩ : ∃ y : UInt8, b[k]'l2 = y := ⟨_, rfl⟩
      obtain ⟨z, hz⟩ : ∃ z : UInt8, d[k]'l3 = z := ⟨_, rfl⟩
      obtain ⟨o, ho⟩ : ∃ o : UInt8, U[k]'l4 = o := ⟨_, rfl⟩
      rw [hx, hy, hz, ho] at two
      have ex := eqB x o
      have ey := eqB y o
      have ez := eqB z o
      have eo := eqB o 48
      have g4 : (0 : Int) ≤ (k : Int) := by omega
      have hf : (decide (x = o) && decide (y = o)) || (decide (x = o) && decide (z = o)) || (decide (y = o) && decide (z = o)) || decide (o = 48) = true := by
        simp only [Bool.or_eq_true, Bool.and_eq_true, decide_eq_true_eq]
        rcases two with h | h | h | h
        · exact .inl (.inl (.inl h))
        · exact .inl (.inl (.inr h))
        · exact .inl (.inr h)
        · exact .inr h
      clear two
      obtain ⟨bx, hbx⟩ : ∃ t, decide (x = o) = t := ⟨_, rfl⟩
      obtain ⟨bY, hbY⟩ : ∃ t, decide (y = o) = t := ⟨_, rfl⟩
      obtain ⟨bz, hbz⟩ : ∃ t, decide (z = o) = t := ⟨_, rfl⟩
      obtain ⟨bo, hbo⟩ : ∃ t, decide (o = 48) = t := ⟨_, rfl⟩
      rw [hbx, hbY, hbz, hbo] at hf
      rw [hbx] at ex
      rw [hbY] at ey
      rw [hbz] at ez
      rw [hbo] at eo
      clear hbx hbY hbz hbo
      have eo2 : ((o.toNat : Int) != 48) = !bo := by
        show (!((o.toNat : Int) == 48)) = !bo
        rw [← eo]; rfl
      clear eo
      cases bx <;> cases bY <;> cases bz <;> cases bo <;> first
        | exact absurd hf (by decide)
        | (clear hf
           go_wp2
           repeat (go_quiet (fail); go_wp2)
           go_roundw
           case rel => exact ⟨k + 1, _, by omega, by go_num, by first | exact World.drewN_drewN _ _ _ | rfl⟩
           case measure => simp [intOf]; omega)
    · obtain rfl : k = N := by omega
      go_wp2
      go_ret
      exact ⟨rfl, below_drewN Bt.out _⟩

theorem fnSignalVote_walk (A0 : Option Addr) (n0 c0 : Nat) (w : World) (hb0 : Byt0 w A0 n0 c0) (hT : Tab w) :
    Calls Tryd.prog 5 #[.slice A0 n0 c0] w (RetB (.bool true) w) := by
  by_cases hl0 : 1048576 < n0
  · have hg0 : (1048576 : Int) < (n0 : Int) := by omega
    clear hb0 hT
    go_enter Tryd.func5, Tryd.ntmps5
    go_wp2
    go_ret
    exact ⟨rfl, Below.refl _ _⟩
  have gn0 : ¬ (1048576 : Int) < (n0 : Int) := by omega
  exact fnSignalVote_in A0 n0 c0 w (by omega) hb0.1 hb0.2.2 hT

set_option maxRecDepth 100000 in
theorem fnSignalVote_lifted (os : Os) (started : os.Started) (H : Type) (enc : TypeId × Value → H) :
    ReturnsInHanded {} Tryd.checked os 5 .any (fun w args => (Rows.fnSignalVoteSpec.pre enc Tryd.prog Tryd.f5 [] false w args ∧ laidMetH Tryd.prog Rows.fnSignalVoteRow.laid w) ∧ sizedMet enc Tryd.prog Tryd.f5 (OpenSpec.ofChange Rows.fnSignalVoteSpec) false w args)
      (Rows.fnSignalVoteSpec.post enc Tryd.prog Tryd.f5 false true false false) := by
  refine handed_shaped started (by kernel_rfl) Tryd.func5
    (ChangeSpec.witness_shaped (enc := enc) (C := Tryd.checked) (os := os) (X := fun w _ => laidMetH Tryd.prog laidU w) false (doorW os) #[.slice none 0 0] 8 (doorW_os os) (door_shaped os _) (by kernel_rfl) (by kernel_rfl) (by kernel_rfl) (door_laid os _)) ?_
  intro W base args ds gs before hval0 hW hT
  have hval : ∀ (j : Nat) t v, Tryd.f5.params[j]? = some t → args[j]? = some v → Value.okWide Tryd.prog W .any base t v := hval0
  have hW' := hW
  obtain ⟨p, q, hA0, hV, rfl, _, _⟩ := hW
  have hA : DataW.TrodAll enc Tryd.prog W 0 (fun _ => true) true Tryd.f5.params.toList args.toList ds p := hA0
  rw [Tryd.params5] at hA hval
  obtain ⟨v0, vs0, d0, ds0, p0, q0, hargs, rfl, rfl, h0, r0⟩ := trodAll_cons hA
  obtain ⟨rfl, rfl, rfl⟩ := trodAll_nil r0
  obtain rfl : args = #[v0] := by cases args; simp_all
  obtain ⟨rfl, rfl⟩ := trodVars_none hV
  have hlt0 : ∀ x ∈ p0, x.block < W.heap.size := fun x hx => by exact hW'.lt x (by simp [hx])
  obtain ⟨A0, n0, c0, rfl, hb0⟩ := open_bytes (hval 0 22 v0 rfl rfl) h0 hlt0
  clear hA0 hval0
  refine (fnSignalVote_walk A0 n0 c0 W hb0 hT).mono fun e W' ⟨he, hb⟩ => ?_
  subst he
  exact ⟨_, rfl, _, _, _, [], _, [], hW', (trodAll_cons_mk (shut_bool Tryd.underlying4 _) trodAll_mk0), (trodAll_cons_mk (read_again_bytes h0 hlt0 hb) trodAll_mk0), rfl, hb.frame _, fun h => by cases h⟩

set_option maxRecDepth 100000 in
theorem fnSignalVote_closed : joinedFacts Tryd.prog 5 Tryd.f5 Rows.fnSignalVoteSpec Rows.fnSignalVoteRow = true := by
  unfold joinedFacts
  repeat' (with_reducible apply facAnd)
  all_goals first | (with_reducible exact facEnter) | (with_reducible exact facLaid) | (with_reducible exact facMaps) | (with_reducible exact facStops) | (with_reducible exact facKnobs) | (with_reducible exact facHeard) | (rw [facLifts]; as_aux_lemma => kernel_rfl) | (rw [facMake]; as_aux_lemma => kernel_rfl) | (as_aux_lemma => kernel_rfl)

/-- the bare row -/
theorem fnSignalVote_row : Rows.FnSignalVoteSaid :=
  OpenClaim.holds_of_wide 5 Tryd.f5 rfl rfl rfl rfl rfl rfl rfl ⟨rfl, rfl, rfl, rfl, rfl⟩ rfl rfl rfl rfl rfl (by kernel_rfl) Tryd.func5 fnSignalVote_closed
    (of_decide_eq_true (by kernel_rfl)) (by unfold Func.isWrapper; first | (rw [if_pos (by decide +kernel)]; kernel_rfl) | (rw [if_neg (by decide +kernel)]; exact ⟨rfl, rfl⟩))
    (fun os started H enc _ => fnSignalVote_lifted os started H enc)

/-- THE STATEMENT: the card -/
theorem fnSignalVote_holds : Rows.FnSignalVoteCardSaid :=
  Claim7.holds_tied_plain_at .later [] [.data, .pinned] true Rows.fnSignalVoteCard.stood.harness false
    fnSignalVote_row (fun _ h => by cases h) (by kernel_rfl) (fun _ h => by cases h) fnSignalVote_row_tie rfl ⟨rfl, rfl⟩ door_main rfl
    (fun f fn hf hfn => by
      obtain rfl : f = 5 := Option.some.inj ((show Tryd.prog.funcNamed Rows.fnSignalVoteRow.func = some 5 by kernel_rfl).symm.trans hf) |>.symm
      obtain rfl : fn = Tryd.f5 := (Option.some.inj (Tryd.func5.symm.trans hfn)).symm
      exact ⟨door_looks, fun j t ht => by
        rw [Tryd.params5] at ht
        have hm : t ∈ [22] := by simpa using Array.mem_of_getElem? ht
        have hall : ([22].all fun u => !Tryd.prog.wantsStandIn u) = true := by kernel_rfl
        exact (show Tryd.prog.wantsStandIn t = false by simpa using List.all_eq_true.1 hall t hm)⟩)
    (by kernel_rfl)
#print axioms fnSignalVote_holds
end Go.Proofs.YthhckijoilphiaaDoor
