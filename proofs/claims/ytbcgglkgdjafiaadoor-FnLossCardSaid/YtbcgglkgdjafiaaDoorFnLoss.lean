/-
  The law FnLoss: for every code the law answers true. No condition but the tie of the card.
-/
import Derived.Test.YtbcgglkgdjafiaaDoorRowB
import Derived.Test.YtbcgglkgdjafiaaDoorRow
import Derived.ChangeMaps5
import Derived.Test.YtbcgglkgdjafiaaDoorDoorM
import Derived.Test.YtbcgglkgdjafiaaDoorTie
import Derived.Test.YtbcgglkgdjafiaaDoorCards
import Derived.LaidMore
import Derived.SevenTiedAt
import Derived.Stop.Joined
import Derived.Test.YtbcgglkgdjafiaaDoorFacD
import Derived.Test.YtbcgglkgdjafiaaDoorJPlan
import Derived.Test.YtbcgglkgdjafiaaDoorFlM
import Derived.Test.YtbcgglkgdjafiaaDoorPlL
namespace Go.Proofs.YtbcgglkgdjafiaaDoor
open Go.ChangeShapes Go.WideShapes Go.ChangeAt Go.RowKit Go.ChangeMaps

theorem byL_x (s : ByteArray) : byL (⟨#[120]⟩ ++ s) = 120 :: byL s := by
  unfold byL
  rw [ByteArray.data_append, Array.toList_append]
  rfl

set_option maxRecDepth 100000 in
set_option maxHeartbeats 1000000 in
theorem fnLoss_in (A : Option Addr) (n c : Nat) (w : World) (hl : n ≤ 1048576) (hnc : n ≤ c) (hb : Bytes w.heap.size w A n) (hT : Tab w) :
    Calls Tryd.prog 7 #[.slice A n c] w (RetB (.bool true) w) := by
  have Hb := Lib.hid hb
  have tz0 := hT.lt
  have HT := Lib.hid hT
  clear hb hT
  go_enter Tryd.func7, Tryd.ntmps7
  go_wp2_with fail
  refine (DrawPlanLoss_c A n c _ (by omega) hnc Hb.out).mono ?_
  rintro e w1 ⟨s, B, d, J, B2, d2, p, rfl, hs, hJ4, hp4, hA, hA2, hB⟩
  replace HT := Lib.hid (HT.out.go hB)
  have Bt := Lib.hid hB
  have HA := Lib.hid hA
  have HA2 := Lib.hid hA2
  have hs2 : s.size ≤ 2097152 := by omega
  have Hlo := Lib.hid (fun (s' : ByteArray) (h : s'.size ≤ 64) (W : World) h1 h2 h3 => implPlanLoss_b s' B d J B2 d2 p W (by omega) h1 h2 h3)
  have Hen := Lib.hid (fun (W : World) h1 h2 h3 => implPlanEnds_b s B d J B2 d2 p W hs2 h1 h2 h3)
  have Hspec := Lib.hid (fun (W : World) h1 h2 => specPlanLoss_b s B d J B2 d2 p W hs2 h1 h2)
  have Hi1 := Lib.hid (fun (W : World) h1 h2 h3 => Hlo.out s (by omega) W h1 h2 h3)
  have Hno := Lib.hid (@lossV_no (byL s) J p)
  obtain ⟨v, hv⟩ : ∃ v, lossV (byL s) J p = v := ⟨_, rfl⟩
  have Hv := Lib.hid hv
  rw [hv] at Hi1 Hspec Hno
  have nv : (v != v) = false := by simp
  have ne : (v == v) = true := by simp
  clear hB Hb hA hA2 hv
  go_wp2_with fail
  refine (Hi1.out _ HA.out HA2.out HT.out).mono ?_
  rintro e w2 ⟨rfl, hb2⟩
  replace HT := Lib.hid (HT.out.go hb2)
  replace Bt := Lib.hid (below_step Bt.out hb2)
  replace HA := Lib.hid (HA.out.go hb2)
  replace HA2 := Lib.hid (HA2.out.go hb2)
  clear hb2
  go_wp2_with fail
  refine (Hspec.out _ HA.out HA2.out).mono ?_
  rintro e w3 ⟨rfl, hb3⟩
  replace HT := Lib.hid (HT.out.go hb3)
  replace Bt := Lib.hid (below_step Bt.out hb3)
  replace HA := Lib.hid (HA.out.go hb3)
  replace HA2 := Lib.hid (HA2.out.go hb3)
  clear hb3
  cases hpl : planB (byL s) J p
  · have hv1 := Hno.out hpl
    subst hv1
    clear hpl
    go_wp2
    go_ret
    exact ⟨rfl, Bt.out⟩
  have hnn := loss_nn hpl
  rw [Hv.out] at hnn
  have hvn : ¬ v < 0 := by omega
  have hvd : decide (v < 0) = false := decide_eq_false hvn
  have ht0 := (planB_true.1 hpl).1
  obtain ⟨hfc, hjb, _⟩ := timeB_true.1 ht0
  have hfl := fc_l30 hfc
  rw [byL_len] at hfl
  have hye := lossV_yes hpl
  rw [Hv.out] at hye
  have Hat := Lib.hid (loss_at hpl)
  have Hwb := Lib.hid (fun k => wgT_bd hjb k)
  have Hjb := Lib.hid (fun (k : Nat) (h : k < J.length) => (jbB_at hjb h).2)
  have hbd := lossV_bd (byL s) J p
  rw [Hv.out] at hbd
  have hel : (endsL (byL s) J p).length = J.length := by rw [ends_yes hpl, endT_len]
  have Hx := Lib.hid (fun (h : s.size ≠ 30) => loss_x hpl (by rw [byL_len]; omega))
  have Hlx := Lib.hid (fun (W : World) h1 h2 h3 => Hlo.out (⟨#[120]⟩ ++ s) (by rw [ByteArray.size_append]; show 1 + s.size ≤ 64; omega) W h1 h2 h3)
  have Hpl := Lib.hid hpl
  obtain ⟨E, hE⟩ : ∃ E, endsL (byL s) J p = E := ⟨_, rfl⟩
  rw [hE] at hye Hat hel Hen
  have Hye := Lib.hid hye
  have Hel := Lib.hid hel
  have he1 : E.length ≤ J.length := by omega
  clear hpl ht0 hfc hjb hye hE hel Hi1 Hspec Hno
  go_wp2_with fail
  refine (Hen.out _ HA.out HA2.out HT.out).mono ?_
  rintro e w4 ⟨B4, d4, rfl, hE4, _, hb4⟩
  dsimp only
  rw [Hpl.out]
  replace HT := Lib.hid (HT.out.go hb4)
  replace Bt := Lib.hid (below_step Bt.out hb4)
  replace HA := Lib.hid (HA.out.go hb4)
  replace HA2 := Lib.hid (HA2.out.go hb4)
  have HR := Lib.hid hE4
  clear hb4 hE4
  go_wp2
  go_loopw [10, 11, 12] (fun q g i wr => ∃ k : Nat, k ≤ E.length ∧ i = .int .i64 k ∧ q = .int .i64 (lossT J E k) ∧ g = .int .i64 (wgT J k) ∧ Below w4.heap.size w4 wr) (fun _ _ i _ => E.length - (intOf i).toNat)
  case atStart => exact ⟨0, Nat.zero_le _, rfl, rfl, rfl, Below.refl _ _⟩
  case round =>
    obtain ⟨k, hk, rfl, rfl, rfl, hb⟩ := hrel
    by_cases hlt : k < E.length
    · obtain ⟨hn, b1, b2, b3, b4⟩ := Hat.out k (by omega)
      obtain ⟨w0, w9⟩ := Hwb.out k
      obtain ⟨j1, j2⟩ := Hjb.out k (by omega)
      have hgn : wgT J (k + 1) = wgT J k + (jbsAt J k).g := rfl
      obtain ⟨b', off', rfl, _, hbw', hd0, hd1⟩ := (HA.out.go hb).rd.at_ (show k < J.length by omega)
      obtain ⟨b, off, rfl, _, hbw, hc0⟩ := (HR.out.go hb).rd.at_ hlt
      obtain ⟨x, hx⟩ : ∃ x, lossT J E k = x := ⟨_, rfl⟩
      obtain ⟨u, hu⟩ : ∃ u, wgT J k = u := ⟨_, rfl⟩
      obtain ⟨y, hy⟩ : ∃ y, jbsAt J k = y := ⟨_, rfl⟩
      obtain ⟨t, ht⟩ : ∃ t, E[k]?.getD 0 = t := ⟨_, rfl⟩
      rw [hx] at hn b1 b2 ⊢
      rw [hu] at hgn w0 w9 ⊢
      rw [hy] at hn b3 b4 hd0 hd1 hgn j1 j2
      rw [ht] at hn b3 b4 hc0
      rw [Int.mul_comm] at hn b3 b4
      have q1 : IntKind.i64.wrap (t * y.g) = t * y.g := IntWalk.i64_in _ (by omega)
      obtain ⟨m, hm⟩ : ∃ m, t * y.g = m := ⟨_, rfl⟩
      rw [hm] at hn b3 b4
      have q2 : IntKind.i64.wrap (x + m) = x + m := IntWalk.i64_in _ (by omega)
      have q0 : IntKind.i64.wrap (t * y.g) = m := by rw [q1, hm]
      have q3 : IntKind.i64.wrap (u + y.g) = u + y.g := IntWalk.i64_in _ (by omega)
      have Hn := Lib.hid (And.intro hn hgn)
      have Hb := Lib.hid hb
      have g1 : (k : Int) < (J.length : Int) := by omega
      have g2 : (k : Int) < (E.length : Int) := by omega
      have g3 : (0 : Int) ≤ (k : Int) := by omega
      clear hn hgn hx hu hy ht hb q1 hm
      go_wp2
      go_quiet (fail)
      go_wp2
      go_roundw
      case rel => exact ⟨k + 1, by omega, by go_num, by rw [Hn.out.1], by rw [Hn.out.2], below_drewN Hb.out nq⟩
      case measure => simp [intOf]; omega
    · obtain rfl : k = E.length := by omega
      have hls : lossT J E E.length = v := by rw [Hel.out]; exact Hye.out.symm
      rw [hls]
      have hwb := Hwb.out E.length
      have hwe : wgT J E.length = wgT J J.length := by rw [Hel.out]
      obtain ⟨u, hu⟩ : ∃ u, wgT J E.length = u := ⟨_, rfl⟩
      rw [hu] at hwb hwe ⊢
      have hlx := Hlx.out wr (HA.out.go hb) (HA2.out.go hb) (HT.out.go hb)
      rw [byL_x] at hlx
      have c1 : (s.size : Int) ≤ 8388608 := by omega
      have c2 : ((⟨#[120]⟩ : ByteArray).size : Int) ≤ 8388608 := by decide
      have q1 : IntKind.i64.wrap (v + u) = v + u := IntWalk.i64_in _ (by omega)
      obtain ⟨z, hz⟩ : ∃ z, lossV (120 :: byL s) J p = z := ⟨_, rfl⟩
      rw [hz] at hlx
      have Hlz := Lib.hid hlx
      have hzx := fun h => (hz.symm.trans (Hx.out h)).trans (show _ = v + u by rw [Hv.out, hwe])
      have Hb := Lib.hid hb
      clear hb hlx hz hu hwe hls
      go_wp2_with fail
      refine Hlz.out.mono ?_
      rintro e w6 ⟨rfl, hb6⟩
      have Hfin := Lib.hid (below_step (below_step Bt.out Hb.out) hb6)
      clear hb6
      by_cases h30 : s.size = 30
      · have g4 : ((s.size : Int) == 30) = true := by simp [h30]
        clear hzx
        go_wp2
        go_ret
        exact ⟨rfl, Hfin.out⟩
      · have g4 : ((s.size : Int) == 30) = false := by rw [beq_eq_false_iff_ne]; omega
        have hz1 := hzx h30
        subst hz1
        clear hzx
        go_wp2
        go_ret
        exact ⟨rfl, Hfin.out⟩

theorem fnLoss_walk (A0 : Option Addr) (n0 c0 : Nat) (w : World) (hb0 : Byt0 w A0 n0 c0) (hT : Tab w) :
    Calls Tryd.prog 7 #[.slice A0 n0 c0] w (RetB (.bool true) w) := by
  by_cases hl0 : 1048576 < n0
  · clear hb0 hT
    go_enter Tryd.func7, Tryd.ntmps7
    go_wp2
    go_ret
    exact ⟨rfl, Below.refl _ _⟩
  exact fnLoss_in A0 n0 c0 w (by omega) hb0.1 hb0.2.2 hT

set_option maxRecDepth 100000 in
theorem fnLoss_lifted (os : Os) (started : os.Started) (H : Type) (enc : TypeId × Value → H) :
    ReturnsInHanded {} Tryd.checked os 7 .any (fun w args => (Rows.fnLossSpec.pre enc Tryd.prog Tryd.f7 [] false w args ∧ laidMetH Tryd.prog Rows.fnLossRow.laid w) ∧ sizedMet enc Tryd.prog Tryd.f7 (OpenSpec.ofChange Rows.fnLossSpec) false w args)
      (Rows.fnLossSpec.post enc Tryd.prog Tryd.f7 false true false false) := by
  refine returnsInHanded_of_change_and (C := Tryd.checked) (X := fun w _ => laidMetH Tryd.prog Rows.fnLossRow.laid w) (fun _ _ _ hh h => h.of_heap hh) row_own started (by kernel_rfl) Tryd.func7
    (ChangeSpec.witness_shaped (enc := enc) (C := Tryd.checked) (os := os) (X := fun w _ => laidMetH Tryd.prog Rows.fnLossRow.laid w) false (World.doorLaid Tryd.prog 4000 os) #[.slice none 0 0] 8 rfl (door_shaped os _) (by kernel_rfl) (by kernel_rfl) (by kernel_rfl) (door_laid os _)) ?_
  intro W base args ds gs before hval0 hW hcnd _ hlaid _
  have hval : ∀ (j : Nat) t v, Tryd.f7.params[j]? = some t → args[j]? = some v → Value.okWide Tryd.prog W .any base t v := hval0
  have hW' := hW
  obtain ⟨p, q, hA0, hV, rfl, _, _⟩ := hW
  have hA : DataW.TrodAll enc Tryd.prog W 0 (fun _ => true) true Tryd.f7.params.toList args.toList ds p := hA0
  rw [Tryd.params7] at hA hval
  obtain ⟨v0, vs0, d0, ds0, p0, q0, hargs, rfl, rfl, h0, r0⟩ := trodAll_cons hA
  obtain ⟨rfl, rfl, rfl⟩ := trodAll_nil r0
  obtain rfl : args = #[v0] := by cases args; simp_all
  obtain ⟨rfl, rfl⟩ := trodVars_none hV
  have hlt0 : ∀ x ∈ p0, x.block < W.heap.size := fun x hx => by exact hW'.lt x (by simp [hx])
  obtain ⟨A0, n0, c0, rfl, hb0⟩ := open_bytes (hval 0 22 v0 rfl rfl) h0 hlt0
  clear hA0 hval0
  refine (fnLoss_walk A0 n0 c0 W hb0 (tab_of hlaid)).mono fun e W' ⟨he, hb⟩ => ?_
  subst he
  exact ⟨_, rfl, _, _, _, [], _, [], hW', (trodAll_cons_mk (shut_bool Tryd.underlying4 _) trodAll_mk0), (trodAll_cons_mk (read_again_bytes h0 hlt0 hb) trodAll_mk0), rfl, hb.frame _, fun h => by cases h⟩

set_option maxRecDepth 100000 in
theorem fnLoss_closed : joinedFacts Tryd.prog 7 Tryd.f7 Rows.fnLossSpec Rows.fnLossRow = true := by
  unfold joinedFacts
  repeat' (with_reducible apply facAnd)
  all_goals first | (with_reducible exact facEnter) | (with_reducible exact facLaid) | (with_reducible exact facMaps) | (with_reducible exact facStops) | (with_reducible exact facKnobs) | (with_reducible exact facHeard) | (rw [facLifts]; as_aux_lemma => kernel_rfl) | (rw [facMake]; as_aux_lemma => kernel_rfl) | (as_aux_lemma => kernel_rfl)

/-- the bare row -/
theorem fnLoss_row : Rows.FnLossSaid :=
  OpenClaim.holds_of_wide 7 Tryd.f7 rfl rfl rfl rfl rfl rfl rfl ⟨rfl, rfl, rfl, rfl, rfl⟩ rfl rfl rfl rfl rfl (by kernel_rfl) Tryd.func7 fnLoss_closed
    (of_decide_eq_true (by kernel_rfl)) (by unfold Func.isWrapper; first | (rw [if_pos (by decide +kernel)]; kernel_rfl) | (rw [if_neg (by decide +kernel)]; exact ⟨rfl, rfl⟩))
    (fun os started H enc _ => fnLoss_lifted os started H enc)

/-- THE STATEMENT: the card -/
theorem fnLoss_holds : Rows.FnLossCardSaid :=
  Claim7.holds_tied_plain_at .later [] [.data] true Rows.fnLossCard.stood.harness false
    fnLoss_row (fun _ h => by cases h) (by kernel_rfl) (fun _ h => by cases h) fnLoss_row_tie rfl ⟨rfl, rfl⟩ door_main rfl
    (fun f fn hf hfn => by
      obtain rfl : f = 7 := Option.some.inj ((show Tryd.prog.funcNamed Rows.fnLossRow.func = some 7 by kernel_rfl).symm.trans hf) |>.symm
      obtain rfl : fn = Tryd.f7 := (Option.some.inj (Tryd.func7.symm.trans hfn)).symm
      exact ⟨door_looks, fun j t ht => by
        rw [Tryd.params7] at ht
        have hm : t ∈ [22] := by simpa using Array.mem_of_getElem? ht
        have hall : ([22].all fun u => !Tryd.prog.wantsStandIn u) = true := by kernel_rfl
        exact (show Tryd.prog.wantsStandIn t = false by simpa using List.all_eq_true.1 hall t hm)⟩)
    (by kernel_rfl)
#print axioms fnLoss_holds
end Go.Proofs.YtbcgglkgdjafiaaDoor
