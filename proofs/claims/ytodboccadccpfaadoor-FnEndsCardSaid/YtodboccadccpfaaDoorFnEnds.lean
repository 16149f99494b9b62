/-
  The law FnEnds: repairs end one after the other. For all codes it answers true. No condition but the tie of the card.
-/
import Derived.Test.YtodboccadccpfaaDoorRowB
import Derived.Test.YtodboccadccpfaaDoorRow
import Derived.ChangeMaps5
import Derived.Test.YtodboccadccpfaaDoorDoorM
import Derived.Test.YtodboccadccpfaaDoorTie
import Derived.Test.YtodboccadccpfaaDoorCards
import Derived.LaidMore
import Derived.SevenTiedAt
import Derived.Stop.Joined
import Derived.Test.YtodboccadccpfaaDoorFacD
import Derived.Test.YtodboccadccpfaaDoorLw
import Derived.Test.YtodboccadccpfaaDoorDrwW
import Derived.Test.YtodboccadccpfaaDoorPlG
import Derived.Test.YtodboccadccpfaaDoorPlE
import Derived.Test.YtodboccadccpfaaDoorFcB
import Derived.Test.YtodboccadccpfaaDoorFcC
import Derived.Test.YtodboccadccpfaaDoorJbV
import Derived.Test.YtodboccadccpfaaDoorSame
import Derived.Deep.RegionHeld3
namespace Go.Proofs.YtodboccadccpfaaDoor
open Go.ChangeShapes Go.WideShapes Go.ChangeAt Go.RowKit Go.ChangeMaps

theorem argI_to {w : World} {A : Option Addr} {c : Nat} {zs : List Int} (ha : Arg w A c zs) {k : Nat} (hk : k < zs.length) : ∃ b off, A = some ⟨b, off, none⟩ ∧ ∀ W, Below w.heap.size w W → W.cell? ⟨b, off + k, none⟩ = some (.int .i64 (zs[k]?.getD 0)) := by
  obtain ⟨b, off, e, _, hb, hc⟩ := ha.rd.at_ hk
  exact ⟨b, off, e, fun W h => (h.cell (p := ⟨b, off + k, none⟩) hb).trans hc⟩
theorem argJ_to {w : World} {A : Option Addr} {c : Nat} {zs : List Jbs} (ha : ArgJ w A c zs) {k : Nat} (hk : k < zs.length) : ∃ b off, A = some ⟨b, off, none⟩ ∧ ∀ W, Below w.heap.size w W → W.cell? ⟨b, off + k * 2, none⟩ = some (.int .i64 (jbsAt zs k).d) := by
  obtain ⟨b, off, e, _, hb, hc⟩ := ha.rd.at_ hk
  exact ⟨b, off, e, fun W h => (h.cell (p := ⟨b, off + k * 2, none⟩) hb).trans hc.1⟩

set_option maxRecDepth 100000 in
set_option maxHeartbeats 1600000 in
theorem fnEnds_in (A0 : Option Addr) (n0 c0 : Nat) (w : World) (hl0 : n0 ≤ 1048576) (hc0 : n0 ≤ c0) (hb0 : Bytes w.heap.size w A0 n0) (hT : Tab w) :
    Calls Tryd.prog 4 #[.slice A0 n0 c0] w (RetB (.bool true) w) := by
  have Hb := Lib.hid hb0
  clear hb0
  have tz0 := hT.lt
  have HT := Lib.hid hT
  clear hT
  go_enter Tryd.func4, Tryd.ntmps4
  go_wp2_with fail
  refine (DrawPlanEnds_c A0 n0 c0 _ (by omega) hc0 Hb.out).mono ?_
  rintro e w1 ⟨s, B, d, J, Bp, dp, p, rfl, hs, hJ4, hp4, hA, hA2, hB⟩
  have Ha := Lib.hid hA
  have Hp := Lib.hid hA2
  have Bt := Lib.hid hB
  replace HT := Lib.hid (HT.out.go hB)
  clear hB Hb hA hA2
  dsimp only
  have hs2 : s.size ≤ 2097152 := by omega
  go_wp2_with fail
  refine (implPlanEnds_b s B d J Bp dp p _ hs2 Ha.out Hp.out HT.out).mono ?_
  rintro e w2 ⟨B1, d1, rfl, ra, _, hb2⟩
  replace HT := Lib.hid (HT.out.go hb2)
  replace Ha := Lib.hid (Ha.out.go hb2)
  replace Hp := Lib.hid (Hp.out.go hb2)
  replace Bt := Lib.hid (below_step Bt.out hb2)
  have H1 := Lib.hid ra
  clear ra hb2
  dsimp only [id]
  go_wp2_with fail
  refine (specPlanEnds_b s B d J Bp dp p _ hs2 Ha.out Hp.out).mono ?_
  rintro e w3 ⟨B2, d2, rfl, ra, _, hb3⟩
  replace HT := Lib.hid (HT.out.go hb3)
  replace Ha := Lib.hid (Ha.out.go hb3)
  replace Hp := Lib.hid (Hp.out.go hb3)
  replace H1 := Lib.hid (H1.out.go hb3)
  replace Bt := Lib.hid (below_step Bt.out hb3)
  have H2 := Lib.hid ra
  clear ra hb3
  dsimp only [id]
  cases hv : planB (byL s) J p
  · clear hv
    go_wp2_with fail
    refine (sameInts_c _ _ _ _ _ _ _ H1.out H2.out).mono ?_
    rintro e w4 ⟨rfl, q4, hq4⟩
    rw [decide_eq_true rfl]
    have hb4 := below_of_drew hq4
    clear hq4
    replace HT := Lib.hid (HT.out.go hb4)
    replace Ha := Lib.hid (Ha.out.go hb4)
    replace Hp := Lib.hid (Hp.out.go hb4)
    replace H1 := Lib.hid (H1.out.go hb4)
    replace H2 := Lib.hid (H2.out.go hb4)
    replace Bt := Lib.hid (below_step Bt.out hb4)
    clear hb4
    go_wp2_with fail
    refine (sameInts_c _ _ _ _ _ _ _ H1.out H2.out).mono ?_
    rintro e w5 ⟨rfl, q5, hq5⟩
    rw [decide_eq_true rfl]
    have hb5 := below_of_drew hq5
    clear hq5
    replace HT := Lib.hid (HT.out.go hb5)
    replace Ha := Lib.hid (Ha.out.go hb5)
    replace Hp := Lib.hid (Hp.out.go hb5)
    replace H1 := Lib.hid (H1.out.go hb5)
    replace H2 := Lib.hid (H2.out.go hb5)
    replace Bt := Lib.hid (below_step Bt.out hb5)
    clear hb5
    go_wp2
    go_ret
    exact ⟨rfl, Bt.out⟩
  go_wp2_with fail
  refine (sameInts_c _ _ _ _ _ _ _ H1.out H2.out).mono ?_
  rintro e w6 ⟨rfl, q6, hq6⟩
  rw [decide_eq_true rfl]
  have hb6 := below_of_drew hq6
  clear hq6
  replace HT := Lib.hid (HT.out.go hb6)
  replace Ha := Lib.hid (Ha.out.go hb6)
  replace Hp := Lib.hid (Hp.out.go hb6)
  replace H1 := Lib.hid (H1.out.go hb6)
  replace H2 := Lib.hid (H2.out.go hb6)
  replace Bt := Lib.hid (below_step Bt.out hb6)
  clear hb6
  clear H2
  have hpl := (plan_len hv).1
  obtain ⟨e1, e2⟩ := ed_last hv
  have he := fun (k : Nat) (hk : k < p.length) => ends_at hv hk
  have hf := fun (k : Nat) (hk : k ≤ p.length) => ed_facts hv hk
  have hlt := fun (k : Nat) (hk : k < p.length) => ed_less hv hk
  have h0 := ed_zero (byL s) J p
  have hdb := (days_bd' hv)
  obtain ⟨K, hK⟩ : ∃ K, endsL (byL s) J p = K := ⟨_, rfl⟩
  rw [hK] at H1 e2 he ⊢
  obtain ⟨D, hD⟩ : ∃ D, edT (byL s) J p = D := ⟨_, rfl⟩
  obtain ⟨V, hV⟩ : ∃ V, wkT J p = V := ⟨_, rfl⟩
  rw [hD] at e1 he hf hlt h0
  rw [hV] at he hf
  have HO0 := fun (x : Int) W => implForecastOpen_b s x W hs2
  have HD0 := fun W h => implJobsDays_b B d J W h
  have HY0 := fun W h => implForecastDay_b s (daysV J) W hs2 h
  rw [e1] at HY0
  obtain ⟨x, hx⟩ : ∃ x, daysV J = x := ⟨_, rfl⟩
  rw [hx] at HD0 HY0
  have HO := Lib.hid HO0
  have HD := Lib.hid HD0
  have HY := Lib.hid HY0
  have He := Lib.hid he
  have Hf := Lib.hid hf
  have Hlt := Lib.hid hlt
  have H0 := Lib.hid h0
  have v1 : ((K.length : Int) == (J.length : Int)) = true := beq_iff_eq.2 (by omega)
  have v2 : ((K.length : Int) = (J.length : Int)) = True := eq_true (by omega)
  have v3 : (K.length = J.length) = True := eq_true (by omega)
  have w1' : K.length ≤ J.length := by omega
  have w2' : J.length ≤ K.length := by omega
  have w3' : p.length ≤ J.length := by omega
  clear HO0 HD0 HY0 he hf hlt h0 e1 e2 hK hD hV hx hv hpl hdb
  go_wp2
  go_loopw [10, 11] (fun la i wr => ∃ j : Nat, j ≤ p.length ∧ i = .int .i64 j ∧ la = .int .i64 (D j) ∧ Below w6.heap.size w6 wr) (fun _ i _ => p.length - (intOf i).toNat)
  case atStart => exact ⟨0, Nat.zero_le _, rfl, by rw [H0.out], Below.refl _ _⟩
  case round =>
    obtain ⟨j, hj, rfl, rfl, hb⟩ := hrel
    have Hb := Lib.hid hb
    clear hb
    by_cases hlt : j < p.length
    · have g1 : (j : Int) < (p.length : Int) := by omega
      have n1' : ((j + 1 : Nat) : Int) = (j : Int) + 1 := by omega
      have q1 : IntKind.i64.wrap ((j : Int) + 1) = (j : Int) + 1 := IntWalk.i64_in _ (by omega)
      obtain ⟨q, c1, c2, c3, c4⟩ := He.out j hlt
      obtain ⟨d1', d2', d3', d4', d5'⟩ := Hf.out j (by omega)
      obtain ⟨f1, f2, f3, f4, f5⟩ := Hf.out (j + 1) (by omega)
      have hls := Hlt.out j hlt
      obtain ⟨bp, op, rfl, hp0⟩ := argI_to Hp.out hlt
      obtain ⟨bk, ok, rfl, hk0⟩ := argI_to H1.out (k := q) (by omega)
      obtain ⟨bj, oj, rfl, hj0⟩ := argJ_to Ha.out (k := q) c2
      rw [c1] at hp0
      rw [c3] at hk0
      rw [c4] at hj0
      have ho1 := HO.out (D (j + 1))
      have ho2 := HO.out (D j)
      rw [f1] at ho1
      rw [d1'] at ho2
      obtain ⟨u, hu⟩ : ∃ u, D (j + 1) = u := ⟨_, rfl⟩
      obtain ⟨v, hv⟩ : ∃ v, D j = v := ⟨_, rfl⟩
      obtain ⟨y, hy⟩ : ∃ y, V (j + 1) = y := ⟨_, rfl⟩
      obtain ⟨z, hz⟩ : ∃ z, V j = z := ⟨_, rfl⟩
      rw [hu] at hk0 hls ho1
      rw [hv] at hls ho2 ⊢
      rw [hy] at hj0 ho1 f4 f5
      rw [hz] at hj0 ho2 d4' d5'
      have q2 : IntKind.i64.wrap (y - z) = y - z := IntWalk.i64_in _ (by omega)
      have b1 : (y - z != y - z) = false := by simp
      have b2 : decide (u ≤ v) = false := decide_eq_false (by omega)
      have b3 : ¬ u ≤ v := by omega
      have g2 : (q : Int) < (K.length : Int) := by omega
      have g3 : (q : Int) < (J.length : Int) := by omega
      have t0 := hp0 wr Hb.out
      have t1 := hk0 wr Hb.out
      have Hc0 := Lib.hid hp0
      have Hc1 := Lib.hid hj0
      have HO1 := Lib.hid ho1
      have HO2 := Lib.hid ho2
      have Hu := Lib.hid hu
      clear hp0 hk0 hj0 ho1 ho2 hu hv hy hz c1 c2 c3 c4 d1' d2' d3' d4' d5' f1 f2 f3 f4 f5 hls
      go_wp2
      clear t0 t1
      refine wp_region_held_drew (S := (fun W => Below w6.heap.size w6 W)) (by kernel_rfl) (below_drewN Hb.out 1) (fun hHeld => ?_)
      refine wpAnyH_take (i := 0) (oi := { dst := some 70, op := _, type := _, pos := _, after := _, guard := _ }) (v := ?va0) rfl (by kernel_rfl) (by kernel_rfl) (by kernel_rfl) (fun _ _ _ h => h) (Or.inl ⟨by kernel_rfl, ?ya0⟩) (by assumption) ?ra0
      case ya0 => intro w hSw; (try dsimp only at hSw); go_simp; try with_reducible rfl
      try simp only [Act.put, List.setIfInBounds_toArray, List.set_cons_zero, List.set_cons_succ]
      refine wpAnyH_take (i := 1) (oi := { dst := some 71, op := _, type := _, pos := _, after := _, guard := _ }) (v := ?va1) rfl (by kernel_rfl) (by kernel_rfl) (by kernel_rfl) (fun _ _ _ h => h) (Or.inl ⟨by kernel_rfl, ?ya1⟩) (by assumption) ?ra1
      case ya1 => intro w hSw; (try dsimp only at hSw); go_simp; try with_reducible rfl
      try simp only [Act.put, List.setIfInBounds_toArray, List.set_cons_zero, List.set_cons_succ]
      refine wpAnyH_take (i := 2) (oi := { dst := some 72, op := _, type := _, pos := _, after := _, guard := _ }) (v := ?va2) rfl (by kernel_rfl) (by kernel_rfl) (by kernel_rfl) (fun _ _ _ h => h) (Or.inl ⟨by kernel_rfl, ?ya2⟩) (by assumption) ?ra2
      case ya2 => intro w hSw; (try dsimp only at hSw); go_simp; try with_reducible rfl
      try simp only [Act.put, List.setIfInBounds_toArray, List.set_cons_zero, List.set_cons_succ]
      refine wpAnyH_take (i := 3) (oi := { dst := some 73, op := _, type := _, pos := _, after := _, guard := _ }) (v := ?va3) rfl (by kernel_rfl) (by kernel_rfl) (by kernel_rfl) (fun _ _ _ h => h) (Or.inl ⟨by kernel_rfl, ?ya3⟩) (by assumption) ?ra3
      case ya3 => intro w hSw; (try dsimp only at hSw); go_simp; try with_reducible rfl
      try simp only [Act.put, List.setIfInBounds_toArray, List.set_cons_zero, List.set_cons_succ]
      refine wpAnyH_take (i := 4) (oi := { dst := some 74, op := _, type := _, pos := _, after := _, guard := _ }) (v := undef) rfl (by kernel_rfl) (by kernel_rfl) (by kernel_rfl) (fun _ _ _ h => h) (Or.inr ⟨by kernel_rfl, rfl⟩) (by assumption) ?_
      try simp only [Act.put, List.setIfInBounds_toArray, List.set_cons_zero, List.set_cons_succ]
      refine wpAnyH_take (i := 5) (oi := { dst := some 75, op := _, type := _, pos := _, after := _, guard := _ }) (v := undef) rfl (by kernel_rfl) (by kernel_rfl) (by kernel_rfl) (fun _ _ _ h => h) (Or.inr ⟨by kernel_rfl, rfl⟩) (by assumption) ?_
      try simp only [Act.put, List.setIfInBounds_toArray, List.set_cons_zero, List.set_cons_succ]
      refine wpAnyH_take (i := 6) (oi := { dst := some 76, op := _, type := _, pos := _, after := _, guard := _ }) (v := ?va6) rfl (by kernel_rfl) (by kernel_rfl) (by kernel_rfl) (fun _ _ _ h => h) (Or.inl ⟨by kernel_rfl, ?ya6⟩) (by assumption) ?ra6
      case ya6 => intro w hSw; (try dsimp only at hSw); go_simp; try with_reducible rfl
      try simp only [Act.put, List.setIfInBounds_toArray, List.set_cons_zero, List.set_cons_succ]
      refine wpAnyH_take (i := 7) (oi := { dst := some 77, op := _, type := _, pos := _, after := _, guard := _ }) (v := ?va7) rfl (by kernel_rfl) (by kernel_rfl) (by kernel_rfl) (fun _ _ _ h => h) (Or.inl ⟨by kernel_rfl, ?ya7⟩) (by assumption) ?ra7
      case ya7 => intro w hSw; (try dsimp only at hSw); go_simp; try with_reducible rfl
      try simp only [Act.put, List.setIfInBounds_toArray, List.set_cons_zero, List.set_cons_succ]
      refine wpAnyH_take (i := 8) (oi := { dst := some 78, op := _, type := _, pos := _, after := _, guard := _ }) (v := ?va8) rfl (by kernel_rfl) (by kernel_rfl) (by kernel_rfl) (fun _ _ _ h => h) (Or.inl ⟨by kernel_rfl, ?ya8⟩) (by assumption) ?ra8
      case ya8 => intro w hSw; (try dsimp only at hSw); go_simp; try with_reducible rfl
      try simp only [Act.put, List.setIfInBounds_toArray, List.set_cons_zero, List.set_cons_succ]
      refine wpAnyH_take (i := 9) (oi := { dst := some 79, op := _, type := _, pos := _, after := _, guard := _ }) (v := ?va9) rfl (by kernel_rfl) (by kernel_rfl) (by kernel_rfl) (fun _ _ _ h => h) (Or.inl ⟨by kernel_rfl, ?ya9⟩) (by assumption) ?ra9
      case ya9 => intro w hSw; (try dsimp only at hSw); go_simp; try with_reducible rfl
      try simp only [Act.put, List.setIfInBounds_toArray, List.set_cons_zero, List.set_cons_succ]
      refine wpAnyH_take (i := 11) (oi := { dst := some 81, op := _, type := _, pos := _, after := _, guard := _ }) (v := ?va11) rfl (by kernel_rfl) (by kernel_rfl) (by kernel_rfl) (fun _ _ _ h => h) (Or.inl ⟨by kernel_rfl, ?ya11⟩) (by assumption) ?ra11
      case ya11 => intro w hSw; (try dsimp only at hSw); go_simp; try with_reducible rfl
      try simp only [Act.put, List.setIfInBounds_toArray, List.set_cons_zero, List.set_cons_succ]
      refine wpAnyH_take (i := 12) (oi := { dst := some 82, op := _, type := _, pos := _, after := _, guard := _ }) (v := ?va12) rfl (by kernel_rfl) (by kernel_rfl) (by kernel_rfl) (fun _ _ _ h => h) (Or.inl ⟨by kernel_rfl, ?ya12⟩) (by assumption) ?ra12
      case ya12 => intro w hSw; (try dsimp only at hSw); go_simp; try with_reducible rfl
      try simp only [Act.put, List.setIfInBounds_toArray, List.set_cons_zero, List.set_cons_succ]
      refine wpAnyH_take (i := 15) (oi := { dst := some 85, op := _, type := _, pos := _, after := _, guard := _ }) (v := ?va15) rfl (by kernel_rfl) (by kernel_rfl) (by kernel_rfl) (fun _ _ _ h => h) (Or.inl ⟨by kernel_rfl, ?ya15⟩) (by assumption) ?ra15
      case ya15 => intro w hSw; (try dsimp only at hSw); go_simp; try with_reducible rfl
      try simp only [Act.put, List.setIfInBounds_toArray, List.set_cons_zero, List.set_cons_succ]
      refine wpAnyH_take (i := 16) (oi := { dst := some 86, op := _, type := _, pos := _, after := _, guard := _ }) (v := ?va16) rfl (by kernel_rfl) (by kernel_rfl) (by kernel_rfl) (fun _ _ _ h => h) (Or.inl ⟨by kernel_rfl, ?ya16⟩) (by assumption) ?ra16
      case ya16 => intro w hSw; (try dsimp only at hSw); go_simp; try with_reducible rfl
      try simp only [Act.put, List.setIfInBounds_toArray, List.set_cons_zero, List.set_cons_succ]
      refine wpAnyH_take (i := 17) (oi := { dst := some 87, op := _, type := _, pos := _, after := _, guard := _ }) (v := ?va17) rfl (by kernel_rfl) (by kernel_rfl) (by kernel_rfl) (fun _ _ _ h => h) (Or.inl ⟨by kernel_rfl, ?ya17⟩) (by assumption) ?ra17
      case ya17 => intro w hSw; (try dsimp only at hSw); go_simp; try with_reducible rfl
      try simp only [Act.put, List.setIfInBounds_toArray, List.set_cons_zero, List.set_cons_succ]
      refine wpAnyH_take (i := 18) (oi := { dst := some 88, op := _, type := _, pos := _, after := _, guard := _ }) (v := ?va18) rfl (by kernel_rfl) (by kernel_rfl) (by kernel_rfl) (fun _ _ _ h => h) (Or.inl ⟨by kernel_rfl, ?ya18⟩) (by assumption) ?ra18
      case ya18 => intro w hSw; (try dsimp only at hSw); go_simp; try with_reducible rfl
      try simp only [Act.put, List.setIfInBounds_toArray, List.set_cons_zero, List.set_cons_succ]
      refine wpAnyH_take (i := 19) (oi := { dst := some 89, op := _, type := _, pos := _, after := _, guard := _ }) (v := ?va19) rfl (by kernel_rfl) (by kernel_rfl) (by kernel_rfl) (fun _ _ _ h => h) (Or.inl ⟨by kernel_rfl, ?ya19⟩) (by assumption) ?ra19
      case ya19 => intro w hSw; have t0 := Hc0.out _ hSw; (try dsimp only at hSw); go_simp; try with_reducible rfl
      try simp only [Act.put, List.setIfInBounds_toArray, List.set_cons_zero, List.set_cons_succ]
      refine wpAnyH_take (i := 20) (oi := { dst := some 90, op := _, type := _, pos := _, after := _, guard := _ }) (v := ?va20) rfl (by kernel_rfl) (by kernel_rfl) (by kernel_rfl) (fun _ _ _ h => h) (Or.inl ⟨by kernel_rfl, ?ya20⟩) (by assumption) ?ra20
      case ya20 => intro w hSw; (try dsimp only at hSw); go_simp; try with_reducible rfl
      try simp only [Act.put, List.setIfInBounds_toArray, List.set_cons_zero, List.set_cons_succ]
      refine wpAnyH_take (i := 21) (oi := { dst := some 91, op := _, type := _, pos := _, after := _, guard := _ }) (v := ?va21) rfl (by kernel_rfl) (by kernel_rfl) (by kernel_rfl) (fun _ _ _ h => h) (Or.inl ⟨by kernel_rfl, ?ya21⟩) (by assumption) ?ra21
      case ya21 => intro w hSw; (try dsimp only at hSw); go_simp; try with_reducible rfl
      try simp only [Act.put, List.setIfInBounds_toArray, List.set_cons_zero, List.set_cons_succ]
      refine wpAnyH_take (i := 22) (oi := { dst := some 92, op := _, type := _, pos := _, after := _, guard := _ }) (v := ?va22) rfl (by kernel_rfl) (by kernel_rfl) (by kernel_rfl) (fun _ _ _ h => h) (Or.inl ⟨by kernel_rfl, ?ya22⟩) (by assumption) ?ra22
      case ya22 => intro w hSw; have t1 := Hc1.out _ hSw; (try dsimp only at hSw); go_simp; try with_reducible rfl
      try simp only [Act.put, List.setIfInBounds_toArray, List.set_cons_zero, List.set_cons_succ]
      refine wpAnyH_ready (rs := [10]) (by kernel_rfl) (by simp) ?_
      refine AllReadyH.cons (o := { dst := some 80, op := _, type := _, pos := _, after := _, guard := _ }) rfl (fun K hK => ?_) AllReadyH.nil
      go_simp
      refine (HO1.out _).mono ?_
      rintro e wA ⟨rfl, hbA⟩
      go_wp2_with fail
      refine hK.out _ _ (below_step hHeld hbA) (fun hHeld2 => ?_)
      clear hK K
      try simp only [Act.put, List.setIfInBounds_toArray, List.set_cons_zero, List.set_cons_succ]
      refine wpAnyH_ready (rs := [13]) (by kernel_rfl) (by simp) ?_
      refine AllReadyH.cons (o := { dst := some 83, op := _, type := _, pos := _, after := _, guard := _ }) rfl (fun K hK => ?_) AllReadyH.nil
      go_simp
      refine (HO2.out _).mono ?_
      rintro e wB ⟨rfl, hbB⟩
      go_wp2_with fail
      refine hK.out _ _ (below_step hHeld2 hbB) (fun hHeld3 => ?_)
      clear hK K
      try simp only [Act.put, List.setIfInBounds_toArray, List.set_cons_zero, List.set_cons_succ]
      refine wpAnyH_take (i := 14) (oi := { dst := some 84, op := _, type := _, pos := _, after := _, guard := _ }) (v := ?vb14) rfl (by kernel_rfl) (by kernel_rfl) (by kernel_rfl) (fun _ _ _ h => h) (Or.inl ⟨by kernel_rfl, ?yb14⟩) (by assumption) ?rb14
      case yb14 => intro w hSw; (try dsimp only at hSw); go_simp; try with_reducible rfl
      try simp only [Act.put, List.setIfInBounds_toArray, List.set_cons_zero, List.set_cons_succ]
      refine wpAnyH_take (i := 23) (oi := { dst := some 93, op := _, type := _, pos := _, after := _, guard := _ }) (v := ?vb23) rfl (by kernel_rfl) (by kernel_rfl) (by kernel_rfl) (fun _ _ _ h => h) (Or.inl ⟨by kernel_rfl, ?yb23⟩) (by assumption) ?rb23
      case yb23 => intro w hSw; (try dsimp only at hSw); go_simp; try with_reducible rfl
      try simp only [Act.put, List.setIfInBounds_toArray, List.set_cons_zero, List.set_cons_succ]
      refine wpAnyH_take (i := 24) (oi := { dst := some 94, op := _, type := _, pos := _, after := _, guard := _ }) (v := ?vb24) rfl (by kernel_rfl) (by kernel_rfl) (by kernel_rfl) (fun _ _ _ h => h) (Or.inl ⟨by kernel_rfl, ?yb24⟩) (by assumption) ?rb24
      case yb24 => intro w hSw; (try dsimp only at hSw); go_simp; try with_reducible rfl
      try simp only [Act.put, List.setIfInBounds_toArray, List.set_cons_zero, List.set_cons_succ]
      refine wpAnyH_done (by kernel_rfl) ?_ _
      go_wp2
      exact ⟨⟨j + 1, by omega, by rw [n1'], by rw [Hu.out], hHeld3⟩, by simp only [intOf]; omega⟩
    · obtain rfl : j = p.length := by omega
      replace HT := Lib.hid (HT.out.go Hb.out)
      replace Ha := Lib.hid (Ha.out.go Hb.out)
      replace Bt := Lib.hid (below_step Bt.out Hb.out)
      obtain ⟨v, hv⟩ : ∃ v, D p.length = v := ⟨_, rfl⟩
      have hy := HY.out
      rw [hv] at hy ⊢
      have HY2 := Lib.hid hy
      have b1 : (v == v) = true := by simp
      clear Hb hv hy
      go_wp2_with fail
      refine (HD.out _ Ha.out).mono ?_
      rintro e w7 ⟨rfl, hb7⟩
      replace HT := Lib.hid (HT.out.go hb7)
      replace Ha := Lib.hid (Ha.out.go hb7)
      replace Bt := Lib.hid (below_step Bt.out hb7)
      clear hb7
      dsimp only
      go_wp2_with fail
      refine (HY2.out _ HT.out).mono ?_
      rintro e w8 ⟨rfl, hb8⟩
      replace HT := Lib.hid (HT.out.go hb8)
      replace Ha := Lib.hid (Ha.out.go hb8)
      replace Bt := Lib.hid (below_step Bt.out hb8)
      clear hb8
      dsimp only
      go_wp2
      go_ret
      exact ⟨rfl, Bt.out⟩

set_option maxRecDepth 100000 in
theorem fnEnds_walk (A0 : Option Addr) (n0 c0 : Nat) (w : World) (hb0 : Byt0 w A0 n0 c0) (hT : Tab w) :
    Calls Tryd.prog 4 #[.slice A0 n0 c0] w (RetB (.bool true) w) := by
  by_cases hl0 : 1048576 < n0
  · clear hb0 hT
    go_enter Tryd.func4, Tryd.ntmps4
    go_wp2
    go_ret
    exact ⟨rfl, Below.refl _ _⟩
  exact fnEnds_in A0 n0 c0 w (by omega) hb0.1 hb0.2.2 hT

set_option maxRecDepth 100000 in
theorem fnEnds_lifted (os : Os) (started : os.Started) (H : Type) (enc : TypeId × Value → H) :
    ReturnsInHanded {} Tryd.checked os 4 .any (fun w args => (Rows.fnEndsSpec.pre enc Tryd.prog Tryd.f4 [] false w args ∧ laidMetH Tryd.prog Rows.fnEndsRow.laid w) ∧ sizedMet enc Tryd.prog Tryd.f4 (OpenSpec.ofChange Rows.fnEndsSpec) false w args)
      (Rows.fnEndsSpec.post enc Tryd.prog Tryd.f4 false true false false) := by
  refine returnsInHanded_of_change_and (C := Tryd.checked) (X := fun w _ => laidMetH Tryd.prog Rows.fnEndsRow.laid w) (fun _ _ _ hh h => h.of_heap hh) row_own started (by kernel_rfl) Tryd.func4
    (ChangeSpec.witness_shaped (enc := enc) (C := Tryd.checked) (os := os) (X := fun w _ => laidMetH Tryd.prog Rows.fnEndsRow.laid w) false (World.doorLaid Tryd.prog 4000 os) #[.slice none 0 0] 8 rfl (door_shaped os _) (by kernel_rfl) (by kernel_rfl) (by kernel_rfl) (door_laid os _)) ?_
  intro W base args ds gs before hval0 hW hcnd _ hlaid _
  have hval : ∀ (j : Nat) t v, Tryd.f4.params[j]? = some t → args[j]? = some v → Value.okWide Tryd.prog W .any base t v := hval0
  have hW' := hW
  obtain ⟨p, q, hA0, hV, rfl, _, _⟩ := hW
  have hA : DataW.TrodAll enc Tryd.prog W 0 (fun _ => true) true Tryd.f4.params.toList args.toList ds p := hA0
  rw [Tryd.params4] at hA hval
  obtain ⟨v0, vs0, d0, ds0, p0, q0, hargs, rfl, rfl, h0, r0⟩ := trodAll_cons hA
  obtain ⟨rfl, rfl, rfl⟩ := trodAll_nil r0
  obtain rfl : args = #[v0] := by cases args; simp_all
  obtain ⟨rfl, rfl⟩ := trodVars_none hV
  have hlt0 : ∀ x ∈ p0, x.block < W.heap.size := fun x hx => by exact hW'.lt x (by simp [hx])
  obtain ⟨A0, n0, c0, rfl, hb0⟩ := open_bytes (hval 0 22 v0 rfl rfl) h0 hlt0
  clear hA0 hval0
  refine (fnEnds_walk A0 n0 c0 W hb0 (tab_of hlaid)).mono fun e W' ⟨he, hb⟩ => ?_
  subst he
  exact ⟨_, rfl, _, _, _, [], _, [], hW', (trodAll_cons_mk (shut_bool Tryd.underlying4 _) trodAll_mk0), (trodAll_cons_mk (read_again_bytes h0 hlt0 hb) trodAll_mk0), rfl, hb.frame _, fun h => by cases h⟩

set_option maxRecDepth 100000 in
theorem fnEnds_closed : joinedFacts Tryd.prog 4 Tryd.f4 Rows.fnEndsSpec Rows.fnEndsRow = true := by
  unfold joinedFacts
  repeat' (with_reducible apply facAnd)
  all_goals first | (with_reducible exact facEnter) | (with_reducible exact facLaid) | (with_reducible exact facMaps) | (with_reducible exact facStops) | (with_reducible exact facKnobs) | (with_reducible exact facHeard) | (rw [facLifts]; as_aux_lemma => kernel_rfl) | (rw [facMake]; as_aux_lemma => kernel_rfl) | (as_aux_lemma => kernel_rfl)

/-- the bare row -/
theorem fnEnds_row : Rows.FnEndsSaid :=
  OpenClaim.holds_of_wide 4 Tryd.f4 rfl rfl rfl rfl rfl rfl rfl ⟨rfl, rfl, rfl, rfl, rfl⟩ rfl rfl rfl rfl rfl (by kernel_rfl) Tryd.func4 fnEnds_closed
    (of_decide_eq_true (by kernel_rfl)) (by unfold Func.isWrapper; first | (rw [if_pos (by decide +kernel)]; kernel_rfl) | (rw [if_neg (by decide +kernel)]; exact ⟨rfl, rfl⟩))
    (fun os started H enc _ => fnEnds_lifted os started H enc)

/-- THE STATEMENT: the card -/
theorem fnEnds_holds : Rows.FnEndsCardSaid :=
  Claim7.holds_tied_plain_at .later [] [.data] true Rows.fnEndsCard.stood.harness false
    fnEnds_row (fun _ h => by cases h) (by kernel_rfl) (fun _ h => by cases h) fnEnds_row_tie rfl ⟨rfl, rfl⟩ door_main rfl
    (fun f fn hf hfn => by
      obtain rfl : f = 4 := Option.some.inj ((show Tryd.prog.funcNamed Rows.fnEndsRow.func = some 4 by kernel_rfl).symm.trans hf) |>.symm
      obtain rfl : fn = Tryd.f4 := (Option.some.inj (Tryd.func4.symm.trans hfn)).symm
      exact ⟨door_looks, fun j t ht => by
        rw [Tryd.params4] at ht
        have hm : t ∈ [22] := by simpa using Array.mem_of_getElem? ht
        have hall : ([22].all fun u => !Tryd.prog.wantsStandIn u) = true := by kernel_rfl
        exact (show Tryd.prog.wantsStandIn t = false by simpa using List.all_eq_true.1 hall t hm)⟩)
    (by kernel_rfl)
#print axioms fnEnds_holds
end Go.Proofs.YtodboccadccpfaaDoor
