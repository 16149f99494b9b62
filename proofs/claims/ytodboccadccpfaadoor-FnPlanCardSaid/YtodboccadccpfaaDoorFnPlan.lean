/-
  The law FnPlan: any order is a plan. For all codes it answers true. No condition but the tie of the card.
-/
import Derived.Test.YtodboccadccpfaaDoorRowB
import Derived.Test.YtodboccadccpfaaDoorRow
import Derived.ChangeMaps5
import Derived.Test.YtodboccadccpfaaDoorDoorM
import Derived.Test.YtodboccadccpfaaDoorTie
import Derived.Test.YtodboccadccpfaaDoorCards
import Derived.LaidMore
import Derived.SevenTiedAt
import Derived.Stop.Joined
import Derived.Test.YtodboccadccpfaaDoorFacD
import Derived.Test.YtodboccadccpfaaDoorLw
import Derived.Test.YtodboccadccpfaaDoorJPlan
import Derived.Test.YtodboccadccpfaaDoorPlE
import Derived.Test.YtodboccadccpfaaDoorPbM
import Derived.Test.YtodboccadccpfaaDoorFcA
import Derived.Test.YtodboccadccpfaaDoorPlB
import Derived.Test.YtodboccadccpfaaDoorPlV
import Derived.Test.YtodboccadccpfaaDoorPlL
import Derived.Test.YtodboccadccpfaaDoorFcB
import Derived.Test.YtodboccadccpfaaDoorJbV
import Derived.Test.YtodboccadccpfaaDoorStkA
namespace Go.Proofs.YtodboccadccpfaaDoor
open Go.ChangeShapes Go.WideShapes Go.ChangeAt Go.RowKit Go.ChangeMaps

set_option maxRecDepth 100000 in
theorem DrawPlanValid_c (A : Option Addr) (n c : Nat) (w : World) (hn : n ≤ 9223372036854775807) (hnc : n ≤ c) (hb : Bytes w.heap.size w A n) :
    Calls Tryd.prog 7 #[.slice A n c] w (fun e w' => ∃ (s : ByteArray) (B : Option Addr) (d : Nat) (J : List Jbs) (B2 : Option Addr) (d2 : Nat) (zs : List Int), e = .returned (.tuple #[.string s, .slice B J.length d, .slice B2 zs.length d2]) ∧ s.size ≤ 63 ∧ J.length ≤ 4 ∧ zs.length ≤ 4 ∧ ArgJ w' B d J ∧ Arg w' B2 d2 zs ∧ Below w.heap.size w w') := by
  have Hb := Lib.hid hb
  clear hb
  go_enter Tryd.func7, Tryd.ntmps7
  go_wp2_with fail
  refine (l6Open_c A n c _ hn hnc Hb.out).mono ?_
  rintro e w1 ⟨n', c', rfl, hr1, hb1, hlt1⟩
  have Hr1 := Lib.hid hr1
  have Hb1 := Lib.hid hb1
  clear hr1 hb1
  go_wp2_with fail
  refine (l92Plan_c _ A n' c' 0 _ Hr1.out hlt1 (by omega)).mono ?_
  rintro e w2 ⟨s, B, d, J, B2, d2, zs, rfl, hs, hJ, hz, hA, hA2, hg2⟩
  have Hb2 := Lib.hid (Hb1.out.grown hg2 Hb1.out.size (fun r e => by injection e with e; omega))
  have HA := Lib.hid (And.intro hA hA2)
  clear hg2 hA hA2
  go_wp2
  go_ret3
  exact ⟨s, B, d, J, B2, d2, zs, rfl, hs, hJ, hz, HA.out.1, HA.out.2, Hb2.out⟩

theorem ord_reverse {p : List Int} (h : ordB p = true) : ordB p.reverse = true := by
  obtain ⟨h1, h2, h3⟩ := ordB_true.1 h
  refine ordB_true.2 ⟨by rw [List.length_reverse]; exact h1, by unfold List.Nodup at h2 ⊢; rw [List.pairwise_reverse]; exact h2.imp (fun h => h.symm), fun x hx => ?_⟩
  rw [List.length_reverse]
  exact h3 x (List.mem_reverse.1 hx)
theorem plan_reverse {L : List UInt8} {J : List Jbs} {p : List Int} (h : planB L J p = true) : planB L J p.reverse = true := by
  obtain ⟨h1, h2, h3⟩ := planB_true.1 h
  exact planB_true.2 ⟨h1, ord_reverse h2, by rw [List.length_reverse]; exact h3⟩
theorem plan_open {L : List UInt8} {J : List Jbs} {p : List Int} (h : planB L J p = true) : daysV J ≤ opV L (L.length : Int) ∧ lossV L J (bsP L J) ≤ lossV L J p ∧ timeB L J = true := by
  obtain ⟨h1, h2, h3⟩ := planB_true.1 h
  obtain ⟨f1, f2, f3⟩ := timeB_true.1 h1
  refine ⟨?_, (best_under h1 h2 h3).1, h1⟩
  rw [daysV_is f2, opV_yes f1 (inB_true.2 (by omega)), Int.toNat_natCast]
  exact f3



/-- the last k, the last one first -/
def lastTo (zs : List Int) (k : Nat) : List Int := (List.range k).map fun j => zs[zs.length - 1 - j]?.getD 0
theorem lastTo_zero (zs : List Int) : lastTo zs 0 = [] := by simp [lastTo]
theorem lastTo_succ (zs : List Int) (k : Nat) : lastTo zs (k + 1) = lastTo zs k ++ [zs[zs.length - 1 - k]?.getD 0] := by simp [lastTo, List.range_succ]
theorem lastTo_all (zs : List Int) : lastTo zs zs.length = zs.reverse := by
  apply List.ext_getElem
  · simp [lastTo]
  · intro i h1 h2
    have h3 : i < zs.length := by simpa [lastTo] using h1
    have h4 : zs.length - 1 - i < zs.length := by omega
    simp [lastTo, h4]

set_option maxRecDepth 100000 in
set_option maxHeartbeats 1000000 in
theorem backOf_c (A : Option Addr) (c : Nat) (zs : List Int) (w : World) (ha : Arg w A c zs) :
    Calls Tryd.prog 11 #[.slice A zs.length c] w (RetS 3 id zs.reverse w) := by
  obtain ⟨i0, hi, hz0, hz1, hz2⟩ := info_parts int_info
  have hl := ha.len
  have HA := Lib.hid ha
  have q0 : IntKind.i64.wrap ((zs.length : Int) - 1) = (zs.length : Int) - 1 := IntWalk.i64_in _ (by omega)
  clear ha
  go_enter Tryd.func11, Tryd.ntmps11
  go_wp2
  go_loopw [3, 4] (fun o i wr => ∃ (k : Nat) (v : Value), k ≤ zs.length ∧ i = .int .i64 ((zs.length : Int) - 1 - (k : Int)) ∧ v = o ∧ wr.ownsRow w.heap.size 3 1 v k ((lastTo zs k).map (Value.int .i64)) ∧ Below w.heap.size w wr) (fun _ i _ => (intOf i + 1).toNat)
  case atStart => exact ⟨0, _, Nat.zero_le _, by simp, rfl, World.ownsRow_made w #[] 0 (Nat.le_refl _) (by simp) rfl, (Below.refl _ _).alloc (Nat.le_refl _) _⟩
  case round =>
    obtain ⟨k, v, hk, rfl, rfl, hok, hbk⟩ := hrel
    have Ha := Lib.hid (HA.out.go hbk)
    have Hbk := Lib.hid hbk
    by_cases hlt : k < zs.length
    · have hix : zs.length - 1 - k < zs.length := by omega
      obtain ⟨b, off, rfl, _, _, hc⟩ := Ha.out.rd.at_ hix
      have Hs := Lib.hid (lastTo_succ zs k)
      obtain ⟨y, hy⟩ : ∃ y, zs[zs.length - 1 - k]?.getD 0 = y := ⟨_, rfl⟩
      rw [hy] at hc
      have Hy := Lib.hid hy
      clear hy
      obtain ⟨p, hp⟩ : ∃ p, zs.length - 1 - k = p := ⟨_, rfl⟩
      rw [hp] at hc
      have hpi : (zs.length : Int) - 1 - (k : Int) = (p : Int) := by omega
      have hpl : p < zs.length := by omega
      have Hp := Lib.hid hp
      have Hpi := Lib.hid hpi
      have Hok := Lib.hid hok
      clear hp hok hbk
      rw [hpi]
      clear hpi
      have g1 : (0 : Int) ≤ (p : Int) := by omega
      have g2 : (p : Int) < (zs.length : Int) := by omega
      go_wp2_with (at_builtin; refine wpList_append_own _ rfl _ _ 24 rfl w.heap.size 3 i0 (.int .i64 0) 1 8 Tryd.underlying24 hi hz0 hz1 hz2 rfl (by decide) v k _ rfl (Hok.out.alloc _) ⟨wr.heap.size, 0, none⟩ 1 1 [.int .i64 y] rfl rfl (one_new _ _ _) (by simp [Value.oneCell']) (by unfold maxLen; omega) (by omega) (by have := Hbk.out.size; simp; omega) ?_; intro v' w3 hown3 hg3 _; have Hown3 := Lib.hid hown3; have Hb3 := Lib.hid ((Hbk.out.alloc Hbk.out.size _).grown hg3 (by have := Hbk.out.size; simp; omega) (fun r e => (Hok.out.lt r e).1)); clear hown3 hg3)
      go_roundw
      case rel => exact ⟨k + 1, v', by omega, by have := Hpi.out; simp; omega, rfl, by rw [Hs.out, Hy.out, List.map_append]; exact Hown3.out, Hb3.out⟩
      case measure => simp [intOf]
    · obtain rfl : k = zs.length := by omega
      rw [lastTo_all] at hok
      have Hok := Lib.hid hok
      clear hok hbk
      have g1 : ¬ ((0 : Int) ≤ (zs.length : Int) - 1 - (zs.length : Int)) := by omega
      go_wp2
      go_ret
      exact RetS.mk (f := id) (by simpa using hl) (by rw [List.length_reverse]; exact Hok.out) Hbk.out


set_option maxRecDepth 100000 in
set_option maxHeartbeats 1600000 in
theorem fnPlan_in (A0 : Option Addr) (n0 c0 : Nat) (w : World) (hl0 : n0 ≤ 1048576) (hc0 : n0 ≤ c0) (hb0 : Bytes w.heap.size w A0 n0) (hT : Tab w) :
    Calls Tryd.prog 3 #[.slice A0 n0 c0] w (RetB (.bool true) w) := by
  have Hb := Lib.hid hb0
  clear hb0
  have tz0 := hT.lt
  have HT := Lib.hid hT
  clear hT
  go_enter Tryd.func3, Tryd.ntmps3
  go_wp2_with fail
  refine (DrawPlanValid_c A0 n0 c0 _ (by omega) hc0 Hb.out).mono ?_
  rintro e w1 ⟨s, B, d, J, Bp, dp, p, rfl, hs, hJ4, hp4, hA, hA2, hB⟩
  have Ha := Lib.hid hA
  have Hp := Lib.hid hA2
  have Bt := Lib.hid hB
  replace HT := Lib.hid (HT.out.go hB)
  clear hB Hb hA hA2
  dsimp only
  have hs2 : s.size ≤ 2097152 := by omega
  go_wp2_with fail
  refine (implPlanValid_b s B d J Bp dp p _ hs2 Ha.out Hp.out).mono ?_
  rintro e w2 ⟨rfl, hb2⟩
  replace HT := Lib.hid (HT.out.go hb2)
  replace Ha := Lib.hid (Ha.out.go hb2)
  replace Hp := Lib.hid (Hp.out.go hb2)
  replace Bt := Lib.hid (below_step Bt.out hb2)
  clear hb2
  dsimp only
  go_wp2_with fail
  refine (specPlanValid_b s B d J Bp dp p _ hs2 Ha.out Hp.out).mono ?_
  rintro e w3 ⟨rfl, hb3⟩
  replace HT := Lib.hid (HT.out.go hb3)
  replace Ha := Lib.hid (Ha.out.go hb3)
  replace Hp := Lib.hid (Hp.out.go hb3)
  replace Bt := Lib.hid (below_step Bt.out hb3)
  clear hb3
  dsimp only
  cases hv : planB (byL s) J p
  · clear hv
    go_wp2
    go_ret
    exact ⟨rfl, Bt.out⟩
  obtain ⟨o1, o2, ht⟩ := plan_open hv
  have hr := plan_reverse hv
  rw [byL_len] at o1
  have HB0 := fun W h h2 => implPlanBest_b s B d J W hs2 h h2
  rw [ht] at HB0
  have HR0 := fun W h => backOf_c Bp dp p W h
  have HV0 := fun A c W h h2 => implPlanValid_b s B d J A c p.reverse W hs2 h h2
  rw [hr] at HV0
  have HO0 := fun W => implForecastOpen_b s (s.size : Int) W hs2
  have HD0 := fun W h => implJobsDays_b B d J W h
  have HL0 := fun W h h2 h3 => implPlanLoss_b s B d J Bp dp p W hs2 h h2 h3
  have HM0 := fun A c W h h2 h3 => implPlanLoss_b s B d J A c (bsP (byL s) J) W hs2 h h2 h3
  obtain ⟨K, hK⟩ : ∃ K, bsP (byL s) J = K := ⟨_, rfl⟩
  rw [hK] at HB0 HM0 o2
  obtain ⟨R, hR⟩ : ∃ R, p.reverse = R := ⟨_, rfl⟩
  rw [hR] at HR0 HV0
  obtain ⟨x, hx⟩ : ∃ x, daysV J = x := ⟨_, rfl⟩
  obtain ⟨y, hy⟩ : ∃ y, opV (byL s) (s.size : Int) = y := ⟨_, rfl⟩
  obtain ⟨u, hu⟩ : ∃ u, lossV (byL s) J K = u := ⟨_, rfl⟩
  obtain ⟨v, hv2⟩ : ∃ v, lossV (byL s) J p = v := ⟨_, rfl⟩
  rw [hx] at HD0 o1
  rw [hy] at HO0 o1
  rw [hu] at HM0 o2
  rw [hv2] at HL0 o2
  have HB := Lib.hid HB0
  have HR := Lib.hid HR0
  have HV := Lib.hid HV0
  have HO := Lib.hid HO0
  have HD := Lib.hid HD0
  have HL := Lib.hid HL0
  have HM := Lib.hid HM0
  have v1 : decide (x ≤ y) = true := decide_eq_true o1
  have v2 : decide (u ≤ v) = true := decide_eq_true o2
  clear HB0 HR0 HV0 HO0 HD0 HL0 HM0 hr ht hK hR hx hy hu hv2 hv
  go_wp2_with fail
  refine (HB.out _ Ha.out HT.out).mono ?_
  rintro e w4 ⟨B3, d3, rfl, ra, _, hb4⟩
  replace HT := Lib.hid (HT.out.go hb4)
  replace Ha := Lib.hid (Ha.out.go hb4)
  replace Hp := Lib.hid (Hp.out.go hb4)
  replace Bt := Lib.hid (below_step Bt.out hb4)
  have H3 := Lib.hid ra
  clear ra hb4
  dsimp only [id]
  go_wp2_with fail
  refine (HR.out _ Hp.out).mono ?_
  rintro e w5 ⟨B4, d4, rfl, ra, _, hb5⟩
  replace HT := Lib.hid (HT.out.go hb5)
  replace Ha := Lib.hid (Ha.out.go hb5)
  replace Hp := Lib.hid (Hp.out.go hb5)
  replace H3 := Lib.hid (H3.out.go hb5)
  replace Bt := Lib.hid (below_step Bt.out hb5)
  have H4 := Lib.hid ra
  clear ra hb5
  dsimp only [id]
  go_wp2_with fail
  refine (HV.out _ _ _ Ha.out H4.out).mono ?_
  rintro e w6 ⟨rfl, hb6⟩
  replace HT := Lib.hid (HT.out.go hb6)
  replace Ha := Lib.hid (Ha.out.go hb6)
  replace Hp := Lib.hid (Hp.out.go hb6)
  replace H3 := Lib.hid (H3.out.go hb6)
  replace H4 := Lib.hid (H4.out.go hb6)
  replace Bt := Lib.hid (below_step Bt.out hb6)
  clear hb6
  dsimp only
  go_wp2_with fail
  refine (HO.out _).mono ?_
  rintro e w7 ⟨rfl, hb7⟩
  replace HT := Lib.hid (HT.out.go hb7)
  replace Ha := Lib.hid (Ha.out.go hb7)
  replace Hp := Lib.hid (Hp.out.go hb7)
  replace H3 := Lib.hid (H3.out.go hb7)
  replace H4 := Lib.hid (H4.out.go hb7)
  replace Bt := Lib.hid (below_step Bt.out hb7)
  clear hb7
  dsimp only
  go_wp2_with fail
  refine (HD.out _ Ha.out).mono ?_
  rintro e w8 ⟨rfl, hb8⟩
  replace HT := Lib.hid (HT.out.go hb8)
  replace Ha := Lib.hid (Ha.out.go hb8)
  replace Hp := Lib.hid (Hp.out.go hb8)
  replace H3 := Lib.hid (H3.out.go hb8)
  replace H4 := Lib.hid (H4.out.go hb8)
  replace Bt := Lib.hid (below_step Bt.out hb8)
  clear hb8
  dsimp only
  go_wp2_with fail
  refine (HL.out _ Ha.out Hp.out HT.out).mono ?_
  rintro e w9 ⟨rfl, hb9⟩
  replace HT := Lib.hid (HT.out.go hb9)
  replace Ha := Lib.hid (Ha.out.go hb9)
  replace Hp := Lib.hid (Hp.out.go hb9)
  replace H3 := Lib.hid (H3.out.go hb9)
  replace H4 := Lib.hid (H4.out.go hb9)
  replace Bt := Lib.hid (below_step Bt.out hb9)
  clear hb9
  dsimp only
  go_wp2_with fail
  refine (HM.out _ _ _ Ha.out H3.out HT.out).mono ?_
  rintro e w10 ⟨rfl, hb10⟩
  replace HT := Lib.hid (HT.out.go hb10)
  replace Ha := Lib.hid (Ha.out.go hb10)
  replace Hp := Lib.hid (Hp.out.go hb10)
  replace H3 := Lib.hid (H3.out.go hb10)
  replace H4 := Lib.hid (H4.out.go hb10)
  replace Bt := Lib.hid (below_step Bt.out hb10)
  clear hb10
  dsimp only
  go_wp2
  go_ret
  exact ⟨rfl, Bt.out⟩

set_option maxRecDepth 100000 in
theorem fnPlan_walk (A0 : Option Addr) (n0 c0 : Nat) (w : World) (hb0 : Byt0 w A0 n0 c0) (hT : Tab w) :
    Calls Tryd.prog 3 #[.slice A0 n0 c0] w (RetB (.bool true) w) := by
  by_cases hl0 : 1048576 < n0
  · clear hb0 hT
    go_enter Tryd.func3, Tryd.ntmps3
    go_wp2
    go_ret
    exact ⟨rfl, Below.refl _ _⟩
  exact fnPlan_in A0 n0 c0 w (by omega) hb0.1 hb0.2.2 hT

set_option maxRecDepth 100000 in
theorem fnPlan_lifted (os : Os) (started : os.Started) (H : Type) (enc : TypeId × Value → H) :
    ReturnsInHanded {} Tryd.checked os 3 .any (fun w args => (Rows.fnPlanSpec.pre enc Tryd.prog Tryd.f3 [] false w args ∧ laidMetH Tryd.prog Rows.fnPlanRow.laid w) ∧ sizedMet enc Tryd.prog Tryd.f3 (OpenSpec.ofChange Rows.fnPlanSpec) false w args)
      (Rows.fnPlanSpec.post enc Tryd.prog Tryd.f3 false true false false) := by
  refine returnsInHanded_of_change_and (C := Tryd.checked) (X := fun w _ => laidMetH Tryd.prog Rows.fnPlanRow.laid w) (fun _ _ _ hh h => h.of_heap hh) row_own started (by kernel_rfl) Tryd.func3
    (ChangeSpec.witness_shaped (enc := enc) (C := Tryd.checked) (os := os) (X := fun w _ => laidMetH Tryd.prog Rows.fnPlanRow.laid w) false (World.doorLaid Tryd.prog 4000 os) #[.slice none 0 0] 8 rfl (door_shaped os _) (by kernel_rfl) (by kernel_rfl) (by kernel_rfl) (door_laid os _)) ?_
  intro W base args ds gs before hval0 hW hcnd _ hlaid _
  have hval : ∀ (j : Nat) t v, Tryd.f3.params[j]? = some t → args[j]? = some v → Value.okWide Tryd.prog W .any base t v := hval0
  have hW' := hW
  obtain ⟨p, q, hA0, hV, rfl, _, _⟩ := hW
  have hA : DataW.TrodAll enc Tryd.prog W 0 (fun _ => true) true Tryd.f3.params.toList args.toList ds p := hA0
  rw [Tryd.params3] at hA hval
  obtain ⟨v0, vs0, d0, ds0, p0, q0, hargs, rfl, rfl, h0, r0⟩ := trodAll_cons hA
  obtain ⟨rfl, rfl, rfl⟩ := trodAll_nil r0
  obtain rfl : args = #[v0] := by cases args; simp_all
  obtain ⟨rfl, rfl⟩ := trodVars_none hV
  have hlt0 : ∀ x ∈ p0, x.block < W.heap.size := fun x hx => by exact hW'.lt x (by simp [hx])
  obtain ⟨A0, n0, c0, rfl, hb0⟩ := open_bytes (hval 0 22 v0 rfl rfl) h0 hlt0
  clear hA0 hval0
  refine (fnPlan_walk A0 n0 c0 W hb0 (tab_of hlaid)).mono fun e W' ⟨he, hb⟩ => ?_
  subst he
  exact ⟨_, rfl, _, _, _, [], _, [], hW', (trodAll_cons_mk (shut_bool Tryd.underlying4 _) trodAll_mk0), (trodAll_cons_mk (read_again_bytes h0 hlt0 hb) trodAll_mk0), rfl, hb.frame _, fun h => by cases h⟩

set_option maxRecDepth 100000 in
theorem fnPlan_closed : joinedFacts Tryd.prog 3 Tryd.f3 Rows.fnPlanSpec Rows.fnPlanRow = true := by
  unfold joinedFacts
  repeat' (with_reducible apply facAnd)
  all_goals first | (with_reducible exact facEnter) | (with_reducible exact facLaid) | (with_reducible exact facMaps) | (with_reducible exact facStops) | (with_reducible exact facKnobs) | (with_reducible exact facHeard) | (rw [facLifts]; as_aux_lemma => kernel_rfl) | (rw [facMake]; as_aux_lemma => kernel_rfl) | (as_aux_lemma => kernel_rfl)

/-- the bare row -/
theorem fnPlan_row : Rows.FnPlanSaid :=
  OpenClaim.holds_of_wide 3 Tryd.f3 rfl rfl rfl rfl rfl rfl rfl ⟨rfl, rfl, rfl, rfl, rfl⟩ rfl rfl rfl rfl rfl (by kernel_rfl) Tryd.func3 fnPlan_closed
    (of_decide_eq_true (by kernel_rfl)) (by unfold Func.isWrapper; first | (rw [if_pos (by decide +kernel)]; kernel_rfl) | (rw [if_neg (by decide +kernel)]; exact ⟨rfl, rfl⟩))
    (fun os started H enc _ => fnPlan_lifted os started H enc)

/-- THE STATEMENT: the card -/
theorem fnPlan_holds : Rows.FnPlanCardSaid :=
  Claim7.holds_tied_plain_at .later [] [.data] true Rows.fnPlanCard.stood.harness false
    fnPlan_row (fun _ h => by cases h) (by kernel_rfl) (fun _ h => by cases h) fnPlan_row_tie rfl ⟨rfl, rfl⟩ door_main rfl
    (fun f fn hf hfn => by
      obtain rfl : f = 3 := Option.some.inj ((show Tryd.prog.funcNamed Rows.fnPlanRow.func = some 3 by kernel_rfl).symm.trans hf) |>.symm
      obtain rfl : fn = Tryd.f3 := (Option.some.inj (Tryd.func3.symm.trans hfn)).symm
      exact ⟨door_looks, fun j t ht => by
        rw [Tryd.params3] at ht
        have hm : t ∈ [22] := by simpa using Array.mem_of_getElem? ht
        have hall : ([22].all fun u => !Tryd.prog.wantsStandIn u) = true := by kernel_rfl
        exact (show Tryd.prog.wantsStandIn t = false by simpa using List.all_eq_true.1 hall t hm)⟩)
    (by kernel_rfl)
#print axioms fnPlan_holds
end Go.Proofs.YtodboccadccpfaaDoor
