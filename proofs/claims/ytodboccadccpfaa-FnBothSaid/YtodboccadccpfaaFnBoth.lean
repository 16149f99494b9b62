/-
  The law FnBoth: open and earthed, one end finds few faults. For all codes it answers true. No condition.
-/
import Derived.Test.YtodboccadccpfaaFac
import Derived.Test.YtodboccadccpfaaRowB
import Derived.Test.YtodboccadccpfaaLw
import Derived.Test.YtodboccadccpfaaFDrawP
import Derived.Test.YtodboccadccpfaaFltW
import Derived.Test.YtodboccadccpfaaFltO
import Derived.Test.YtodboccadccpfaaFltB
import Derived.Test.YtodboccadccpfaaFltBS
import Derived.Test.YtodboccadccpfaaFltF
import Derived.Test.YtodboccadccpfaaStrR
import Derived.Test.YtodboccadccpfaaSameF
import Derived.Test.YtodboccadccpfaaHasF
import Derived.Deep.RegionHeld3
namespace Go.Proofs.Ytodboccadccpfaa
open Go.ChangeShapes Go.WideShapes Go.ChangeAt Go.RowKit

theorem argF_to {w : World} {A : Option Addr} {c : Nat} {zs : List Flt} (ha : ArgF w A c zs) {k : Nat} (hk : k < zs.length) : ∃ b off, A = some ⟨b, off, none⟩ ∧ ∀ W, Below w.heap.size w W → W.cell? ⟨b, off + k * 2, none⟩ = some (.int .i64 (fltAt zs k).m) ∧ W.cell? ⟨b, off + k * 2 + 1, none⟩ = some (.int .i64 (fltAt zs k).o) := by
  obtain ⟨b, off, e, _, hb, hc⟩ := ha.rd.at_ hk
  exact ⟨b, off, e, fun W h => ⟨(h.cell (p := ⟨b, off + k * 2, none⟩) hb).trans hc.1, (h.cell (p := ⟨b, off + k * 2 + 1, none⟩) hb).trans hc.2⟩⟩

set_option maxRecDepth 100000 in
set_option maxHeartbeats 1600000 in
theorem fnBoth_in (A0 : Option Addr) (n0 c0 : Nat) (w : World) (hl0 : n0 ≤ 1048576) (hc0 : n0 ≤ c0) (hb0 : Bytes w.heap.size w A0 n0) :
    Calls Try.prog 6 #[.slice A0 n0 c0] w (RetB (.bool true) w) := by
  have Hb := Lib.hid hb0
  clear hb0
  go_enter Try.func6, Try.ntmps6
  go_wp2_with fail
  refine (DrawFaultBoth_c A0 n0 c0 _ (by omega) hc0 Hb.out).mono ?_
  rintro e w1 ⟨B, d, zs, a, x, y, rfl, hzl, ha0, ha1, hA, hB⟩
  have Ha := Lib.hid hA
  have Bt := Lib.hid hB
  clear hB Hb hA
  dsimp only
  have rx : Below w1.heap.size w1 (w1.alloc (.cells #[.int .i64 x, .int .i64 y] 30)) := (Below.refl _ _).alloc (Nat.le_refl _) _
  have hx := TwoAt.new 30 w1 x y
  replace Ha := Lib.hid (Ha.out.go rx)
  replace Bt := Lib.hid (below_step Bt.out rx)
  have HE := Lib.hid hx
  clear rx hx
  have ce := HE.out.c0
  have de := HE.out.c1
  go_wp2_with fail
  refine (implFaultBoth_b B d zs a ⟨x, y⟩ _ Ha.out (by omega)).mono ?_
  rintro e w2 ⟨B1, d1, rfl, ra, _, hb2⟩
  replace Ha := Lib.hid (Ha.out.go hb2)
  replace HE := Lib.hid (HE.out.go hb2)
  replace Bt := Lib.hid (below_step Bt.out hb2)
  have H1 := Lib.hid ra
  clear ra hb2
  dsimp only [id]
  clear ce de
  have ce := HE.out.c0
  have de := HE.out.c1
  go_wp2_with fail
  refine (specFaultBoth_b B d zs a ⟨x, y⟩ _ Ha.out (by omega)).mono ?_
  rintro e w3 ⟨B2, d2, rfl, ra, _, hb3⟩
  replace Ha := Lib.hid (Ha.out.go hb3)
  replace HE := Lib.hid (HE.out.go hb3)
  replace H1 := Lib.hid (H1.out.go hb3)
  replace Bt := Lib.hid (below_step Bt.out hb3)
  have H2 := Lib.hid ra
  clear ra hb3
  dsimp only [id]
  clear ce de
  cases hv : cab0 zs a
  · clear hv
    go_wp2_with fail
    refine (sameFaults_c _ _ _ _ _ _ _ H1.out H2.out).mono ?_
    rintro e w4 ⟨rfl, hb4⟩
    rw [decide_eq_true rfl]
    replace Ha := Lib.hid (Ha.out.go hb4)
    replace HE := Lib.hid (HE.out.go hb4)
    replace H1 := Lib.hid (H1.out.go hb4)
    replace H2 := Lib.hid (H2.out.go hb4)
    replace Bt := Lib.hid (below_step Bt.out hb4)
    clear hb4
    go_wp2_with fail
    refine (sameFaults_c _ _ _ _ _ _ _ H1.out H2.out).mono ?_
    rintro e w5 ⟨rfl, hb5⟩
    rw [decide_eq_true rfl]
    replace Ha := Lib.hid (Ha.out.go hb5)
    replace HE := Lib.hid (HE.out.go hb5)
    replace H1 := Lib.hid (H1.out.go hb5)
    replace H2 := Lib.hid (H2.out.go hb5)
    replace Bt := Lib.hid (below_step Bt.out hb5)
    clear hb5
    go_wp2
    go_ret
    exact ⟨rfl, Bt.out⟩
  go_wp2_with fail
  refine (sameFaults_c _ _ _ _ _ _ _ H1.out H2.out).mono ?_
  rintro e w6 ⟨rfl, hb6⟩
  rw [decide_eq_true rfl]
  replace Ha := Lib.hid (Ha.out.go hb6)
  replace HE := Lib.hid (HE.out.go hb6)
  replace H1 := Lib.hid (H1.out.go hb6)
  replace H2 := Lib.hid (H2.out.go hb6)
  replace Bt := Lib.hid (below_step Bt.out hb6)
  clear hb6
  clear H2
  obtain ⟨o1, o2, o3⟩ := both_facts ⟨x, y⟩ hv
  obtain ⟨K, hK⟩ : ∃ K, findsL zs a (bothP zs a ⟨x, y⟩) = K := ⟨_, rfl⟩
  rw [hK] at H1 o1 o2 o3 ⊢
  have HL0 := fun W h => implFaultOne_b B d zs a W h (by omega)
  rw [hv] at HL0
  obtain ⟨M, hM⟩ : ∃ M, findsL zs a yesP = M := ⟨_, rfl⟩
  have hM2 : M.length ≤ 401 := by rw [← hM]; exact finds_length _
  rw [hM] at HL0 o2 o3
  have HO0 := fun (f : Flt) W h => implFaultEarthed_b B d zs f W h
  have HL := Lib.hid HL0
  have HO := Lib.hid HO0
  have Ho3 := Lib.hid o3
  have v1 : decide ((K.length : Int) ≤ 2) = true := decide_eq_true (by omega)
  have v2 : decide ((K.length : Int) ≤ (M.length : Int)) = true := decide_eq_true (by omega)
  have v3 : decide (K.length ≤ 2) = true := decide_eq_true o1
  have v4 : decide (K.length ≤ M.length) = true := decide_eq_true o2
  clear HL0 HO0 o3 hK hM hv
  go_wp2_with fail
  refine (HL.out _ Ha.out).mono ?_
  rintro e w7 ⟨B3, d3, rfl, ra, _, hb7⟩
  replace Ha := Lib.hid (Ha.out.go hb7)
  replace HE := Lib.hid (HE.out.go hb7)
  replace H1 := Lib.hid (H1.out.go hb7)
  replace Bt := Lib.hid (below_step Bt.out hb7)
  have H3 := Lib.hid ra
  clear ra hb7
  dsimp only [id]
  go_wp2
  go_loopw [12] (fun i wr => ∃ j : Nat, j ≤ M.length ∧ i = .int .i64 j ∧ Below w7.heap.size w7 wr) (fun i _ => M.length - (intOf i).toNat)
  case atStart => exact ⟨0, Nat.zero_le _, rfl, Below.refl _ _⟩
  case round =>
    obtain ⟨j, hj, rfl, hb⟩ := hrel
    have Hb := Lib.hid hb
    clear hb
    by_cases hlt : j < M.length
    · have g2 : (j : Int) < (M.length : Int) := by omega
      have e1 : ((j + 1 : Nat) : Int) = (j : Int) + 1 := by omega
      have q2 : IntKind.i64.wrap ((j : Int) + 1) = (j : Int) + 1 := IntWalk.i64_in _ (by omega)
      obtain ⟨z, h3, h4⟩ := Ho3.out j hlt
      obtain ⟨b, off, rfl, hc⟩ := argF_to H3.out hlt
      obtain ⟨f, hf⟩ : ∃ f, fltAt M j = f := ⟨_, rfl⟩
      rw [hf] at h3 h4 hc
      have HO1 := fun W h => HO.out f W h
      rw [h3] at HO1
      have hha := fun W h => hasFault_c B1 d1 K f W h
      rw [h4] at hha
      have he : ∀ w, (Op.equalIn 10000 30 (.agg #[.int .i64 z.t, .int .i64 z.l]) (.agg #[.int .i64 x, .int .i64 y])).run Try.prog w = .ok (decide (z = ⟨x, y⟩)) w := fun w => eqRats z ⟨x, y⟩ w
      obtain ⟨eb, heb⟩ : ∃ eb, decide (z = (⟨x, y⟩ : Rat2)) = eb := ⟨_, rfl⟩
      rw [heb] at hha
      simp only [heb] at he
      have Hc := Lib.hid hc
      have Ho1 := Lib.hid HO1
      have Hha := Lib.hid hha
      have He := Lib.hid he
      have bb : (eb != eb) = false := by simp
      obtain ⟨t0, t1⟩ := hc wr Hb.out
      clear h3 h4 hc HO1 hha he heb hf
      go_wp2_with fail
      refine (Ho1.out _ (Ha.out.go Hb.out)).mono ?_
      rintro e wl ⟨rfl, hbk⟩
      have Hb3 := Lib.hid (below_step Hb.out hbk)
      clear hbk t0 t1
      have Hb4 := Lib.hid (Hb3.out.alloc Hb3.out.size (.cells #[.int .i64 z.t, .int .i64 z.l] 30))
      have HXb := Lib.hid (TwoAt.new 30 wl z.t z.l)
      have HEb := Lib.hid (HE.out.go Hb4.out)
      have he := He.out
      have hgd := guardRat
      go_wp2
      refine wp_region_held_drew (S := (fun W => Below (wl.alloc (.cells #[.int .i64 z.t, .int .i64 z.l] 30)).heap.size (wl.alloc (.cells #[.int .i64 z.t, .int .i64 z.l] 30)) W)) (by kernel_rfl) (below_drewN (Below.refl _ _) 1) (fun hHeld => ?_)
      refine wpAnyH_take (i := 0) (oi := { dst := some 80, op := _, type := _, pos := _, after := _, guard := _ }) (v := ?va0) rfl (by kernel_rfl) (by kernel_rfl) (by kernel_rfl) (fun _ _ _ h => h) (Or.inl ⟨by kernel_rfl, ?ya0⟩) (by assumption) ?ra0
      case ya0 => intro w hSw; (try dsimp only at hSw); go_simp; try with_reducible rfl
      try simp only [Act.put, List.setIfInBounds_toArray, List.set_cons_zero, List.set_cons_succ]
      refine wpAnyH_take (i := 1) (oi := { dst := some 81, op := _, type := _, pos := _, after := _, guard := _ }) (v := ?va1) rfl (by kernel_rfl) (by kernel_rfl) (by kernel_rfl) (fun _ _ _ h => h) (Or.inl ⟨by kernel_rfl, ?ya1⟩) (by assumption) ?ra1
      case ya1 => intro w hSw; (try dsimp only at hSw); go_simp; try with_reducible rfl
      try simp only [Act.put, List.setIfInBounds_toArray, List.set_cons_zero, List.set_cons_succ]
      refine wpAnyH_take (i := 2) (oi := { dst := some 82, op := _, type := _, pos := _, after := _, guard := _ }) (v := ?va2) rfl (by kernel_rfl) (by kernel_rfl) (by kernel_rfl) (fun _ _ _ h => h) (Or.inl ⟨by kernel_rfl, ?ya2⟩) (by assumption) ?ra2
      case ya2 => intro w hSw; (try dsimp only at hSw); go_simp; try with_reducible rfl
      try simp only [Act.put, List.setIfInBounds_toArray, List.set_cons_zero, List.set_cons_succ]
      refine wpAnyH_take (i := 3) (oi := { dst := some 83, op := _, type := _, pos := _, after := _, guard := _ }) (v := ?va3) rfl (by kernel_rfl) (by kernel_rfl) (by kernel_rfl) (fun _ _ _ h => h) (Or.inl ⟨by kernel_rfl, ?ya3⟩) (by assumption) ?ra3
      case ya3 => intro w hSw; (try dsimp only at hSw); go_simp; try with_reducible rfl
      try simp only [Act.put, List.setIfInBounds_toArray, List.set_cons_zero, List.set_cons_succ]
      refine wpAnyH_take (i := 4) (oi := { dst := some 84, op := _, type := _, pos := _, after := _, guard := _ }) (v := ?va4) rfl (by kernel_rfl) (by kernel_rfl) (by kernel_rfl) (fun _ _ _ h => h) (Or.inl ⟨by kernel_rfl, ?ya4⟩) (by assumption) ?ra4
      case ya4 => intro w hSw; (try dsimp only at hSw); go_simp; try with_reducible rfl
      try simp only [Act.put, List.setIfInBounds_toArray, List.set_cons_zero, List.set_cons_succ]
      refine wpAnyH_take (i := 5) (oi := { dst := some 85, op := _, type := _, pos := _, after := _, guard := _ }) (v := ?va5) rfl (by kernel_rfl) (by kernel_rfl) (by kernel_rfl) (fun _ _ _ h => h) (Or.inl ⟨by kernel_rfl, ?ya5⟩) (by assumption) ?ra5
      case ya5 => intro w hSw; (try dsimp only at hSw); go_simp; try with_reducible rfl
      try simp only [Act.put, List.setIfInBounds_toArray, List.set_cons_zero, List.set_cons_succ]
      refine wpAnyH_take (i := 6) (oi := { dst := some 86, op := _, type := _, pos := _, after := _, guard := _ }) (v := ?va6) rfl (by kernel_rfl) (by kernel_rfl) (by kernel_rfl) (fun _ _ _ h => h) (Or.inl ⟨by kernel_rfl, ?ya6⟩) (by assumption) ?ra6
      case ya6 => intro w hSw; (try dsimp only at hSw); go_simp; try with_reducible rfl
      try simp only [Act.put, List.setIfInBounds_toArray, List.set_cons_zero, List.set_cons_succ]
      refine wpAnyH_take (i := 7) (oi := { dst := some 87, op := _, type := _, pos := _, after := _, guard := _ }) (v := ?va7) rfl (by kernel_rfl) (by kernel_rfl) (by kernel_rfl) (fun _ _ _ h => h) (Or.inl ⟨by kernel_rfl, ?ya7⟩) (by assumption) ?ra7
      case ya7 => intro w hSw; have t0 := Hc.out _ (below_step Hb4.out hSw); (try dsimp only at hSw); go_simp; try with_reducible rfl
      try simp only [Act.put, List.setIfInBounds_toArray, List.set_cons_zero, List.set_cons_succ]
      refine wpAnyH_take (i := 9) (oi := { dst := some 89, op := _, type := _, pos := _, after := _, guard := _ }) (v := ?va9) rfl (by kernel_rfl) (by kernel_rfl) (by kernel_rfl) (fun _ _ _ h => h) (Or.inl ⟨by kernel_rfl, ?ya9⟩) (by assumption) ?ra9
      case ya9 => intro w hSw; have t1 := (HXb.out.go hSw).c0; have t2 := (HXb.out.go hSw).c1; (try dsimp only at hSw); go_simp; try with_reducible rfl
      try simp only [Act.put, List.setIfInBounds_toArray, List.set_cons_zero, List.set_cons_succ]
      refine wpAnyH_take (i := 10) (oi := { dst := some 90, op := _, type := _, pos := _, after := _, guard := _ }) (v := ?va10) rfl (by kernel_rfl) (by kernel_rfl) (by kernel_rfl) (fun _ _ _ h => h) (Or.inl ⟨by kernel_rfl, ?ya10⟩) (by assumption) ?ra10
      case ya10 => intro w hSw; have t3 := (HEb.out.go hSw).c0; have t4 := (HEb.out.go hSw).c1; (try dsimp only at hSw); go_simp; try with_reducible rfl
      try simp only [Act.put, List.setIfInBounds_toArray, List.set_cons_zero, List.set_cons_succ]
      refine wpAnyH_take (i := 11) (oi := { dst := some 91, op := _, type := _, pos := _, after := _, guard := _ }) (v := ?va11) rfl (by kernel_rfl) (by kernel_rfl) (by kernel_rfl) (fun _ _ _ h => h) (Or.inl ⟨by kernel_rfl, ?ya11⟩) (by assumption) ?ra11
      case ya11 => intro w hSw; (try dsimp only at hSw); go_simp; try with_reducible rfl
      try simp only [Act.put, List.setIfInBounds_toArray, List.set_cons_zero, List.set_cons_succ]
      refine wpAnyH_ready (rs := [8]) (by kernel_rfl) (by simp) ?_
      refine AllReadyH.cons (o := { dst := some 88, op := _, type := _, pos := _, after := _, guard := _ }) rfl (fun K hK => ?_) AllReadyH.nil
      go_simp
      refine (Hha.out _ ((H1.out.go Hb4.out).go (by assumption))).mono ?_
      rintro e wA ⟨rfl, hbA⟩
      go_wp2_with fail
      refine hK.out _ _ (below_step hHeld hbA) (fun hHeld3 => ?_)
      clear hK K
      try simp only [Act.put, List.setIfInBounds_toArray, List.set_cons_zero, List.set_cons_succ]
      refine wpAnyH_take (i := 12) (oi := { dst := some 92, op := _, type := _, pos := _, after := _, guard := _ }) (v := ?vb12) rfl (by kernel_rfl) (by kernel_rfl) (by kernel_rfl) (fun _ _ _ h => h) (Or.inl ⟨by kernel_rfl, ?yb12⟩) (by assumption) ?rb12
      case yb12 => intro w hSw; (try dsimp only at hSw); go_simp; try with_reducible rfl
      try simp only [Act.put, List.setIfInBounds_toArray, List.set_cons_zero, List.set_cons_succ]
      refine wpAnyH_take (i := 13) (oi := { dst := some 93, op := _, type := _, pos := _, after := _, guard := _ }) (v := ?vb13) rfl (by kernel_rfl) (by kernel_rfl) (by kernel_rfl) (fun _ _ _ h => h) (Or.inl ⟨by kernel_rfl, ?yb13⟩) (by assumption) ?rb13
      case yb13 => intro w hSw; (try dsimp only at hSw); go_simp; try with_reducible rfl
      try simp only [Act.put, List.setIfInBounds_toArray, List.set_cons_zero, List.set_cons_succ]
      refine wpAnyH_done (by kernel_rfl) ?_ _
      go_wp2
      exact ⟨⟨j + 1, by omega, by rw [e1], below_step Hb4.out hHeld3⟩, by simp only [intOf]; omega⟩
    · obtain rfl : j = M.length := by omega
      replace Bt := Lib.hid (below_step Bt.out Hb.out)
      clear Hb
      go_wp2
      go_ret
      exact ⟨rfl, Bt.out⟩

set_option maxRecDepth 100000 in
theorem fnBoth_walk (A0 : Option Addr) (n0 c0 : Nat) (w : World) (hb0 : Byt0 w A0 n0 c0) :
    Calls Try.prog 6 #[.slice A0 n0 c0] w (RetB (.bool true) w) := by
  by_cases hl0 : 1048576 < n0
  · clear hb0
    go_enter Try.func6, Try.ntmps6
    go_wp2
    go_ret
    exact ⟨rfl, Below.refl _ _⟩
  exact fnBoth_in A0 n0 c0 w (by omega) hb0.1 hb0.2.2

set_option maxRecDepth 100000 in
theorem fnBoth_lifted (os : Os) (started : os.Started) (H : Type) (enc : TypeId × Value → H) :
    ReturnsInHanded {} Try.checked os 6 .any (Rows.fnBothSpec.pre6 enc Try.prog Try.f6 Rows.fnBothRow.domain false) (Rows.fnBothSpec.post enc Try.prog Try.f6 false true false false) := by
  refine returnsInHanded_of_change (C := Try.checked) row_own started (by kernel_rfl) Try.func6
    (ChangeSpec.witness6 (enc := enc) (C := Try.checked) false ⟨#[], #[.slice none 0 0], []⟩ 8 (by kernel_rfl) (by kernel_rfl) (by kernel_rfl) (by kernel_rfl)) ?_
  intro W base args ds gs before hval0 hW hcnd _
  have hval : ∀ (j : Nat) t v, Try.f6.params[j]? = some t → args[j]? = some v → Value.okWide Try.prog W .any base t v := hval0
  have hW' := hW
  obtain ⟨p, q, hA0, hV, rfl, _, _⟩ := hW
  have hA : DataW.TrodAll enc Try.prog W 0 (fun _ => true) true Try.f6.params.toList args.toList ds p := hA0
  rw [Try.params6] at hA hval
  obtain ⟨v0, vs0, d0, ds0, p0, q0, hargs, rfl, rfl, h0, r0⟩ := trodAll_cons hA
  obtain ⟨rfl, rfl, rfl⟩ := trodAll_nil r0
  obtain rfl : args = #[v0] := by cases args; simp_all
  obtain ⟨rfl, rfl⟩ := trodVars_none hV
  have hlt0 : ∀ x ∈ p0, x.block < W.heap.size := fun x hx => by exact hW'.lt x (by simp [hx])
  obtain ⟨A0, n0, c0, rfl, hb0⟩ := open_bytes (hval 0 22 v0 rfl rfl) h0 hlt0
  clear hA0 hval0
  refine (fnBoth_walk A0 n0 c0 W hb0).mono fun e W' ⟨he, hb⟩ => ?_
  subst he
  exact ⟨_, rfl, _, _, _, [], _, [], hW', (trodAll_cons_mk (shut_bool Try.underlying4 _) trodAll_mk0), (trodAll_cons_mk (read_again_bytes h0 hlt0 hb) trodAll_mk0), rfl, hb.frame _, fun h => by cases h⟩

set_option maxRecDepth 100000 in
theorem fnBoth_closed : joinedFacts Try.prog 6 Try.f6 Rows.fnBothSpec Rows.fnBothRow = true := by
  unfold joinedFacts
  repeat' (with_reducible apply facAnd)
  all_goals first | (with_reducible exact facEnter) | (with_reducible exact facLaid) | (with_reducible exact facMaps) | (with_reducible exact facStops) | (with_reducible exact facKnobs) | (with_reducible exact facHeard) | (rw [facLifts]; as_aux_lemma => kernel_rfl) | (rw [facMake]; as_aux_lemma => kernel_rfl) | (as_aux_lemma => kernel_rfl)

/-- THE STATEMENT -/
theorem fnBoth_holds : Rows.FnBothSaid :=
  OpenClaim.holds_of_wide 6 Try.f6 rfl rfl rfl rfl rfl rfl rfl ⟨rfl, rfl, rfl, rfl, rfl⟩ rfl rfl rfl rfl rfl (by kernel_rfl) Try.func6 fnBoth_closed
    (of_decide_eq_true (by kernel_rfl)) (by unfold Func.isWrapper; first | (rw [if_pos (by decide +kernel)]; kernel_rfl) | (rw [if_neg (by decide +kernel)]; exact ⟨rfl, rfl⟩))
    (fun os started H enc _ => fnBoth_lifted os started H enc)
#print axioms fnBoth_holds
end Go.Proofs.Ytodboccadccpfaa
