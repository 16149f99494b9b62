/-
  The law FnPlanBest: for every code the law answers true. No condition but the tie of the card.
-/
import Derived.Test.YtbcgglkgdjafiaaDoorRowB
import Derived.Test.YtbcgglkgdjafiaaDoorRow
import Derived.ChangeMaps5
import Derived.Test.YtbcgglkgdjafiaaDoorDoorM
import Derived.Test.YtbcgglkgdjafiaaDoorTie
import Derived.Test.YtbcgglkgdjafiaaDoorCards
import Derived.LaidMore
import Derived.SevenTiedAt
import Derived.Stop.Joined
import Derived.Test.YtbcgglkgdjafiaaDoorFacD
import Derived.Test.YtbcgglkgdjafiaaDoorJWork
import Derived.Test.YtbcgglkgdjafiaaDoorPbM
import Derived.Test.YtbcgglkgdjafiaaDoorPlB
import Derived.Test.YtbcgglkgdjafiaaDoorPlT
import Derived.Test.YtbcgglkgdjafiaaDoorPlL
import Derived.Test.YtbcgglkgdjafiaaDoorRtJ
import Derived.Test.YtbcgglkgdjafiaaDoorSame
namespace Go.Proofs.YtbcgglkgdjafiaaDoor
open Go.ChangeShapes Go.WideShapes Go.ChangeAt Go.RowKit Go.ChangeMaps

theorem own_ptrI {W : World} {base n k : Nat} {e : TypeId} {v : Value} {xs : List Value} (h : W.ownsRow base e 1 v n xs) (hn : k < n) : ∃ g cap, v = .slice (some ⟨g, 0, none⟩) n cap ∧ base ≤ g ∧ n ≤ cap := by
  rcases h.2 with ⟨_, h0⟩ | ⟨g, cap, cur, h1, h2, _, h3, _⟩
  · omega
  · exact ⟨g, cap, h1, h2, h3⟩

set_option maxRecDepth 100000 in
set_option maxHeartbeats 4000000 in
theorem fnPlanBest_in (A : Option Addr) (n c : Nat) (w : World) (hl : n ≤ 1048576) (hnc : n ≤ c) (hb : Bytes w.heap.size w A n) (hT : Tab w) :
    Calls Tryd.prog 8 #[.slice A n c] w (RetB (.bool true) w) := by
  obtain ⟨i0, hi, hz0, hz1, hz2⟩ := info_parts intInf
  have Hb := Lib.hid hb
  have tz0 := hT.lt
  have HT := Lib.hid hT
  clear hb hT
  go_enter Tryd.func8, Tryd.ntmps8
  go_wp2_with fail
  refine (DrawPlanBest_c A n c _ (by omega) hnc Hb.out).mono ?_
  rintro e w1 ⟨s, B, d, J, rfl, hs, hJ4, hA, hB⟩
  replace HT := Lib.hid (HT.out.go hB)
  have Bt := Lib.hid hB
  have HA := Lib.hid hA
  have hs2 : s.size ≤ 2097152 := by omega
  clear hB Hb hA
  go_wp2_with fail
  refine (implPlanBest_b s B d J _ hs2 HA.out HT.out).mono ?_
  rintro e w2 ⟨A1, c1, rfl, ha1, _, hb2⟩
  replace HT := Lib.hid (HT.out.go hb2)
  replace Bt := Lib.hid (below_step Bt.out hb2)
  replace HA := Lib.hid (HA.out.go hb2)
  have Ha1 := Lib.hid ha1
  clear hb2 ha1
  dsimp only
  go_wp2_with fail
  refine (specPlanBest_b s B d J _ hs2 HA.out).mono ?_
  rintro e w3 ⟨A2, c2, rfl, ha2, _, hb3⟩
  replace HT := Lib.hid (HT.out.go hb3)
  replace Bt := Lib.hid (below_step Bt.out hb3)
  replace HA := Lib.hid (HA.out.go hb3)
  replace Ha1 := Lib.hid (Ha1.out.go hb3)
  have Ha2 := Lib.hid ha2
  clear hb3 ha2
  dsimp only
  obtain ⟨p, hp⟩ : ∃ p, bsP (byL s) J = p := ⟨_, rfl⟩
  have Hp := Lib.hid hp
  rw [hp] at Ha1 Ha2 ⊢
  have Hsame := Lib.hid (fun (W : World) (h1 : Arg W A1 c1 p) (h2 : Arg W A2 c2 p) => (show Calls Tryd.prog 35 #[.slice A1 p.length c1, .slice A2 p.length c2] W (RetQ (.bool true) W) from by have := sameInts_c A1 A2 c1 c2 p p W h1 h2; rwa [decide_eq_true rfl] at this))
  clear hp
  cases ht : timeB (byL s) J
  · clear ht
    go_wp2_with fail
    refine (Hsame.out _ Ha1.out Ha2.out).mono ?_
    rintro e w4 hq4
    obtain ⟨rfl, hb4⟩ := hq4.toB
    replace Bt := Lib.hid (below_step Bt.out hb4)
    replace Ha1 := Lib.hid (Ha1.out.go hb4)
    replace Ha2 := Lib.hid (Ha2.out.go hb4)
    clear hb4 hq4
    go_wp2_with fail
    refine (Hsame.out _ Ha1.out Ha2.out).mono ?_
    rintro e w5 hq5
    obtain ⟨rfl, hb5⟩ := hq5.toB
    replace Bt := Lib.hid (below_step Bt.out hb5)
    clear hb5 hq5
    go_wp2
    go_ret
    exact ⟨rfl, Bt.out⟩
  have hpl := best_plan ht
  have hnn := loss_nn hpl
  have hsw := fun (k : Nat) h => best_swap ht (k := k) h
  have hbl := bp_len (byL s) J (by omega)
  have hrb := best_under ht (rate_ord J (by omega)) (rateT_len J J.length)
  have hr1 := rateL_yes ht
  have hrl := rateT_len J J.length
  rw [Hp.out] at hnn hsw hbl hrb
  obtain ⟨v, hv⟩ : ∃ v, lossV (byL s) J p = v := ⟨_, rfl⟩
  rw [hv] at hnn hsw hrb
  obtain ⟨z, hz⟩ : ∃ z, lossV (byL s) J (rateT J J.length) = z := ⟨_, rfl⟩
  rw [hz] at hrb
  have hvz := hrb.1
  have Hlo := Lib.hid (fun (W : World) (A9 : Option Addr) (c9 : Nat) (q : List Int) h1 h2 h3 => implPlanLoss_b s B d J A9 c9 q W hs2 h1 h2 h3)
  have Hrt := Lib.hid (fun (W : World) h => implPlanRate_b s B d J W hs2 h)
  have Hsw := Lib.hid hsw
  have Hv := Lib.hid hv
  have Hz := Lib.hid hz
  have Ht := Lib.hid ht
  have Hr1 := Lib.hid hr1
  clear ht hpl hsw hrb hr1 hv hz hrl
  go_wp2_with fail
  refine (Hsame.out _ Ha1.out Ha2.out).mono ?_
  rintro e w4 hq4
  obtain ⟨rfl, hb4⟩ := hq4.toB
  replace HT := Lib.hid (HT.out.go hb4)
  replace Bt := Lib.hid (below_step Bt.out hb4)
  replace HA := Lib.hid (HA.out.go hb4)
  replace Ha1 := Lib.hid (Ha1.out.go hb4)
  clear hb4 hq4 Ha2 Hsame
  go_wp2_with fail
  refine (Hlo.out _ A1 c1 p HA.out Ha1.out HT.out).mono ?_
  rintro e w5 ⟨rfl, hb5⟩
  replace HT := Lib.hid (HT.out.go hb5)
  replace Bt := Lib.hid (below_step Bt.out hb5)
  replace HA := Lib.hid (HA.out.go hb5)
  replace Ha1 := Lib.hid (Ha1.out.go hb5)
  clear hb5
  rw [Hv.out]
  go_wp2
  go_loopw [10] (fun iv wr => Below w5.heap.size w5 wr ∧ ∃ i : Nat, 1 ≤ i ∧ i ≤ p.length + 1 ∧ iv = .int .i64 i) (fun iv _ => p.length + 1 - (intOf iv).toNat)
  case atStart => exact ⟨Below.refl _ _, 1, by omega, by omega, rfl⟩
  case round =>
    obtain ⟨hbw, i, hi1, hil, rfl⟩ := hrel
    have Hbw := Lib.hid hbw
    have hrd := Ha1.out.go hbw
    clear hbw
    by_cases hlt : i < p.length
    case neg =>
      have g1 : ¬ (i : Int) < (p.length : Int) := by omega
      clear hrd
      go_wp2_with fail
      refine (Hrt.out _ (HA.out.go Hbw.out)).mono ?_
      rintro e w6 ⟨A6, c6, rfl, ha6, _, hb6⟩
      dsimp only
      rw [Ht.out]
      rw [Hr1.out] at ha6 ⊢
      have HT6 := Lib.hid ((HT.out.go Hbw.out).go hb6)
      have HA6 := Lib.hid ((HA.out.go Hbw.out).go hb6)
      have Bt6 := Lib.hid (below_step (below_step Bt.out Hbw.out) hb6)
      have Ha6 := Lib.hid ha6
      have hlz := Hlo.out w6 A6 c6 _ HA6.out ha6 HT6.out
      rw [Hz.out] at hlz
      have Hlz := Lib.hid hlz
      clear hb6 ha6 hlz
      go_wp2_with fail
      refine Hlz.out.mono ?_
      rintro e w7 ⟨rfl, hb7⟩
      replace Bt := Lib.hid (below_step Bt6.out hb7)
      clear hb7
      go_wp2
      go_ret
      exact ⟨rfl, Bt.out⟩
    case pos =>
      obtain ⟨k, rfl⟩ : ∃ k, i = k + 1 := ⟨i - 1, by omega⟩
      have g1 : (k : Int) + 1 < (p.length : Int) := by omega
      have g2 : (k : Int) < (p.length : Int) := by omega
      obtain ⟨b, off, rfl, _, hbw0, hc0⟩ := hrd.rd.at_ (k := k) (by omega)
      obtain ⟨b', off', e, _, _, hc1⟩ := hrd.rd.at_ hlt
      injection e with e
      injection e with e1 e2 _
      subst e1; subst e2
      obtain ⟨hs1, hs3⟩ := Hsw.out k hlt
      have hlx := fun (W : World) (A9 : Option Addr) (c9 : Nat) h1 h2 h3 => Hlo.out W A9 c9 (swP p k) h1 h2 h3
      have hswf : swP p k = (p.set (k + 1) (p[k]?.getD 0)).set k (p[k + 1]?.getD 0) := rfl
      have hsat := sw_at hlt
      have hswl := swP_len p k
      obtain ⟨x, hx⟩ : ∃ x, p[k]?.getD 0 = x := ⟨_, rfl⟩
      obtain ⟨y, hy⟩ : ∃ y, p[k + 1]?.getD 0 = y := ⟨_, rfl⟩
      rw [hx] at hc0 hs3 hswf
      rw [hy] at hc1 hs3 hswf hsat
      obtain ⟨u, hu⟩ : ∃ u, lossV (byL s) J (swP p k) = u := ⟨_, rfl⟩
      rw [hu] at hs1 hs3 hlx
      rw [hswl] at hlx
      have Hlx := Lib.hid hlx
      have Hsf := Lib.hid hswf
      have Hsat := Lib.hid hsat
      have Hswl := Lib.hid hswl
      have Hrd := Lib.hid hrd
      have Hcs := Lib.hid (And.intro hc0 hc1)
      have q1 : IntKind.i64.wrap (k : Int) = (k : Int) := IntWalk.i64_in _ (by omega)
      have q0 : IntKind.i64.wrap ((k : Int) + 1) = (k : Int) + 1 := IntWalk.i64_in _ (by omega)
      have p0 : (0 : Int) ≤ (k : Int) + 1 := by omega
      have e0 : ((k : Int) + 1).toNat = k + 1 := by omega
      have g4 : (0 : Int) ≤ (k : Int) := by omega
      clear hlx hswf hsat hswl hx hy hu hc0 hc1
      go_wp2_with (at_builtin; refine wpList_append_ints rfl (.tmp 66) (.tmp 67) 31 rfl wr.heap.size 3 i0 (.int .i64 0) Tryd.underlying31 hi hz0 hz1 hz2 rfl (.slice (some ⟨wr.heap.size, 0, none⟩) 0 0) [] rfl (own_none wr _) (some ⟨b, off, none⟩) c1 p rfl (hrd.go (below_none wr _)) (by simp; omega) (by simp) ?_; intro v1 w6 hown6 hg6; have H6 := Lib.hid (next1 hown6 hg6); clear hown6 hg6; obtain ⟨g, cap, rfl, hgr, hcap⟩ := own_ptrI H6.out.1 (k := k) (by omega); have hc0 := below_cell (x := ⟨b, off + k, none⟩) H6.out.2 hbw0 Hcs.out.1; have hc1 := below_cell (x := ⟨b, off + (k + 1), none⟩) H6.out.2 hbw0 Hcs.out.2; obtain ⟨ua, hxa⟩ : ∃ u, w6.cell? ⟨g, k + 1, none⟩ = some u := ⟨_, (H6.out.1.cellAt (k + 1) (by omega)).trans (List.getElem?_eq_getElem (by simp; omega))⟩; have hfa := H6.out.1.frozenAt (k + 1); have hst := H6.out.1.stored (k + 1) (.int .i64 x); obtain ⟨ub, hxb⟩ : ∃ u, (w6.setCell ⟨g, k + 1, none⟩ (.int .i64 x)).cell? ⟨g, k, none⟩ = some u := ⟨_, (hst.1.cellAt k (by omega)).trans (List.getElem?_eq_getElem (by simp; omega))⟩; have hfb := hst.1.frozenAt k; have hst2 := hst.1.stored k (.int .i64 y); have Hst := Lib.hid hst; have Hst2 := Lib.hid hst2; clear hst hst2)
      have hbA := H6.out.2.grown Hst.out.2 H6.out.2.size (fun r e => by injection e with e; omega)
      have hbB := hbA.grown Hst2.out.2 hbA.size (fun r e => by injection e with e; omega)
      have hown := Hst2.out.1
      rw [← List.map_set, ← List.map_set, ← Hsf.out] at hown
      obtain ⟨W2, hW2⟩ : ∃ W2, ((w6.setCell ⟨g, k + 1, none⟩ (.int .i64 x)).setCell ⟨g, k, none⟩ (.int .i64 y)) = W2 := ⟨_, rfl⟩
      rw [hW2] at hbB hown
      rw [hW2]
      have HbB := Lib.hid hbB
      have hsl := Hswl.out
      have hargx : Arg W2 (some ⟨g, 0, none⟩) cap (swP p k) := by
        rw [← hsl] at hown
        have h := Ow.of_own hown
        exact h.arg (by omega) (Nat.le_refl _)
      have hW := below_step Hbw.out hbB
      have Hl := Lib.hid (Hlx.out W2 (some ⟨g, 0, none⟩) cap (HA.out.go hW) hargx (HT.out.go hW))
      have Hargx := Lib.hid hargx
      have HW := Lib.hid hW
      clear hbA hbB hown hW2 hargx hW hc0 hc1 hxa hxb hfa hfb
      refine Hl.out.mono ?_
      rintro e w7 ⟨rfl, hb7⟩
      have hd0 := below_cell (x := ⟨b, off + k, none⟩) (below_step HbB.out hb7) hbw0 Hcs.out.1
      obtain ⟨b9, off9, e9, _, _, hd1⟩ := (Hargx.out.go hb7).rd.at_ (k := k) (by omega)
      injection e9 with e9
      injection e9 with e91 e92 _
      subst e91; subst e92
      rw [Hsat.out, Nat.zero_add] at hd1
      have Hfin := Lib.hid (fun nq => below_drewN (below_step HW.out hb7) nq)
      have k1 : decide (u < v) = false := decide_eq_false (by omega)
      clear hb7 hsl
      by_cases huv : u = v
      · have k2 : (u == v) = true := by simp [huv]
        have k3 : decide (y < x) = false := decide_eq_false (Int.not_lt.2 (hs3 huv))
        clear hs3
        go_wp2
        go_quiet (fail)
        go_wp2
        go_roundw
        case rel => exact ⟨Hfin.out nq, k + 1 + 1, by omega, by omega, by go_num⟩
        case measure => simp [intOf]; omega
      · have k2 : (u == v) = false := by simp [huv]
        clear hs3
        go_wp2
        go_quiet (fail)
        go_wp2
        go_roundw
        case rel => exact ⟨Hfin.out nq, k + 1 + 1, by omega, by omega, by go_num⟩
        case measure => simp [intOf]; omega

theorem fnPlanBest_walk (A0 : Option Addr) (n0 c0 : Nat) (w : World) (hb0 : Byt0 w A0 n0 c0) (hT : Tab w) :
    Calls Tryd.prog 8 #[.slice A0 n0 c0] w (RetB (.bool true) w) := by
  by_cases hl0 : 1048576 < n0
  · clear hb0 hT
    go_enter Tryd.func8, Tryd.ntmps8
    go_wp2
    go_ret
    exact ⟨rfl, Below.refl _ _⟩
  exact fnPlanBest_in A0 n0 c0 w (by omega) hb0.1 hb0.2.2 hT

set_option maxRecDepth 100000 in
theorem fnPlanBest_lifted (os : Os) (started : os.Started) (H : Type) (enc : TypeId × Value → H) :
    ReturnsInHanded {} Tryd.checked os 8 .any (fun w args => (Rows.fnPlanBestSpec.pre enc Tryd.prog Tryd.f8 [] false w args ∧ laidMetH Tryd.prog Rows.fnPlanBestRow.laid w) ∧ sizedMet enc Tryd.prog Tryd.f8 (OpenSpec.ofChange Rows.fnPlanBestSpec) false w args)
      (Rows.fnPlanBestSpec.post enc Tryd.prog Tryd.f8 false true false false) := by
  refine returnsInHanded_of_change_and (C := Tryd.checked) (X := fun w _ => laidMetH Tryd.prog Rows.fnPlanBestRow.laid w) (fun _ _ _ hh h => h.of_heap hh) row_own started (by kernel_rfl) Tryd.func8
    (ChangeSpec.witness_shaped (enc := enc) (C := Tryd.checked) (os := os) (X := fun w _ => laidMetH Tryd.prog Rows.fnPlanBestRow.laid w) false (World.doorLaid Tryd.prog 4000 os) #[.slice none 0 0] 8 rfl (door_shaped os _) (by kernel_rfl) (by kernel_rfl) (by kernel_rfl) (door_laid os _)) ?_
  intro W base args ds gs before hval0 hW hcnd _ hlaid _
  have hval : ∀ (j : Nat) t v, Tryd.f8.params[j]? = some t → args[j]? = some v → Value.okWide Tryd.prog W .any base t v := hval0
  have hW' := hW
  obtain ⟨p, q, hA0, hV, rfl, _, _⟩ := hW
  have hA : DataW.TrodAll enc Tryd.prog W 0 (fun _ => true) true Tryd.f8.params.toList args.toList ds p := hA0
  rw [Tryd.params8] at hA hval
  obtain ⟨v0, vs0, d0, ds0, p0, q0, hargs, rfl, rfl, h0, r0⟩ := trodAll_cons hA
  obtain ⟨rfl, rfl, rfl⟩ := trodAll_nil r0
  obtain rfl : args = #[v0] := by cases args; simp_all
  obtain ⟨rfl, rfl⟩ := trodVars_none hV
  have hlt0 : ∀ x ∈ p0, x.block < W.heap.size := fun x hx => by exact hW'.lt x (by simp [hx])
  obtain ⟨A0, n0, c0, rfl, hb0⟩ := open_bytes (hval 0 22 v0 rfl rfl) h0 hlt0
  clear hA0 hval0
  refine (fnPlanBest_walk A0 n0 c0 W hb0 (tab_of hlaid)).mono fun e W' ⟨he, hb⟩ => ?_
  subst he
  exact ⟨_, rfl, _, _, _, [], _, [], hW', (trodAll_cons_mk (shut_bool Tryd.underlying4 _) trodAll_mk0), (trodAll_cons_mk (read_again_bytes h0 hlt0 hb) trodAll_mk0), rfl, hb.frame _, fun h => by cases h⟩

set_option maxRecDepth 100000 in
theorem fnPlanBest_closed : joinedFacts Tryd.prog 8 Tryd.f8 Rows.fnPlanBestSpec Rows.fnPlanBestRow = true := by
  unfold joinedFacts
  repeat' (with_reducible apply facAnd)
  all_goals first | (with_reducible exact facEnter) | (with_reducible exact facLaid) | (with_reducible exact facMaps) | (with_reducible exact facStops) | (with_reducible exact facKnobs) | (with_reducible exact facHeard) | (rw [facLifts]; as_aux_lemma => kernel_rfl) | (rw [facMake]; as_aux_lemma => kernel_rfl) | (as_aux_lemma => kernel_rfl)

/-- the bare row -/
theorem fnPlanBest_row : Rows.FnPlanBestSaid :=
  OpenClaim.holds_of_wide 8 Tryd.f8 rfl rfl rfl rfl rfl rfl rfl ⟨rfl, rfl, rfl, rfl, rfl⟩ rfl rfl rfl rfl rfl (by kernel_rfl) Tryd.func8 fnPlanBest_closed
    (of_decide_eq_true (by kernel_rfl)) (by unfold Func.isWrapper; first | (rw [if_pos (by decide +kernel)]; kernel_rfl) | (rw [if_neg (by decide +kernel)]; exact ⟨rfl, rfl⟩))
    (fun os started H enc _ => fnPlanBest_lifted os started H enc)

/-- THE STATEMENT: the card -/
theorem fnPlanBest_holds : Rows.FnPlanBestCardSaid :=
  Claim7.holds_tied_plain_at .later [] [.data] true Rows.fnPlanBestCard.stood.harness false
    fnPlanBest_row (fun _ h => by cases h) (by kernel_rfl) (fun _ h => by cases h) fnPlanBest_row_tie rfl ⟨rfl, rfl⟩ door_main rfl
    (fun f fn hf hfn => by
      obtain rfl : f = 8 := Option.some.inj ((show Tryd.prog.funcNamed Rows.fnPlanBestRow.func = some 8 by kernel_rfl).symm.trans hf) |>.symm
      obtain rfl : fn = Tryd.f8 := (Option.some.inj (Tryd.func8.symm.trans hfn)).symm
      exact ⟨door_looks, fun j t ht => by
        rw [Tryd.params8] at ht
        have hm : t ∈ [22] := by simpa using Array.mem_of_getElem? ht
        have hall : ([22].all fun u => !Tryd.prog.wantsStandIn u) = true := by kernel_rfl
        exact (show Tryd.prog.wantsStandIn t = false by simpa using List.all_eq_true.1 hall t hm)⟩)
    (by kernel_rfl)
#print axioms fnPlanBest_holds
end Go.Proofs.YtbcgglkgdjafiaaDoor
