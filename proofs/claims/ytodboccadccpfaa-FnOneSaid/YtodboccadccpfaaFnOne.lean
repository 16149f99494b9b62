/-
  The law FnOne: one end finds many faults. For all codes it answers true. No condition.
-/
import Derived.Test.YtodboccadccpfaaFac
import Derived.Test.YtodboccadccpfaaRowB
import Derived.Test.YtodboccadccpfaaLw
import Derived.Test.YtodboccadccpfaaDrwO
import Derived.Test.YtodboccadccpfaaFltQ
import Derived.Test.YtodboccadccpfaaFltO
import Derived.Test.YtodboccadccpfaaFltF
import Derived.Test.YtodboccadccpfaaFltFS
import Derived.Test.YtodboccadccpfaaCMiles
import Derived.Test.YtodboccadccpfaaSameF
import Derived.Deep.RegionHeld3
namespace Go.Proofs.Ytodboccadccpfaa
open Go.ChangeShapes Go.WideShapes Go.ChangeAt Go.RowKit

theorem argF_to {w : World} {A : Option Addr} {c : Nat} {zs : List Flt} (ha : ArgF w A c zs) {k : Nat} (hk : k < zs.length) : ∃ b off, A = some ⟨b, off, none⟩ ∧ ∀ W, Below w.heap.size w W → W.cell? ⟨b, off + k * 2, none⟩ = some (.int .i64 (fltAt zs k).m) ∧ W.cell? ⟨b, off + k * 2 + 1, none⟩ = some (.int .i64 (fltAt zs k).o) := by
  obtain ⟨b, off, e, _, hb, hc⟩ := ha.rd.at_ hk
  exact ⟨b, off, e, fun W h => ⟨(h.cell (p := ⟨b, off + k * 2, none⟩) hb).trans hc.1, (h.cell (p := ⟨b, off + k * 2 + 1, none⟩) hb).trans hc.2⟩⟩

set_option maxRecDepth 100000 in
set_option maxHeartbeats 1600000 in
theorem fnOne_in (A0 : Option Addr) (n0 c0 : Nat) (w : World) (hl0 : n0 ≤ 1048576) (hc0 : n0 ≤ c0) (hb0 : Bytes w.heap.size w A0 n0) :
    Calls Try.prog 5 #[.slice A0 n0 c0] w (RetB (.bool true) w) := by
  have Hb := Lib.hid hb0
  clear hb0
  go_enter Try.func5, Try.ntmps5
  go_wp2_with fail
  refine (DrawFaultOne_c A0 n0 c0 _ (by omega) hc0 Hb.out).mono ?_
  rintro e w1 ⟨B, d, zs, a, rfl, hzl, ha0, ha1, hA, hB⟩
  have Ha := Lib.hid hA
  have Bt := Lib.hid hB
  clear hB Hb hA
  dsimp only
  go_wp2_with fail
  refine (implFaultOne_b B d zs a _ Ha.out (by omega)).mono ?_
  rintro e w2 ⟨B1, d1, rfl, ra, _, hb2⟩
  replace Ha := Lib.hid (Ha.out.go hb2)
  replace Bt := Lib.hid (below_step Bt.out hb2)
  have H1 := Lib.hid ra
  clear ra hb2
  dsimp only [id]
  go_wp2_with fail
  refine (specFaultOne_b B d zs a _ Ha.out (by omega)).mono ?_
  rintro e w3 ⟨B2, d2, rfl, ra, _, hb3⟩
  replace Ha := Lib.hid (Ha.out.go hb3)
  replace H1 := Lib.hid (H1.out.go hb3)
  replace Bt := Lib.hid (below_step Bt.out hb3)
  have H2 := Lib.hid ra
  clear ra hb3
  dsimp only [id]
  cases hv : cab0 zs a
  · clear hv
    go_wp2_with fail
    refine (sameFaults_c _ _ _ _ _ _ _ H1.out H2.out).mono ?_
    rintro e w4 ⟨rfl, hb4⟩
    rw [decide_eq_true rfl]
    replace Ha := Lib.hid (Ha.out.go hb4)
    replace H1 := Lib.hid (H1.out.go hb4)
    replace H2 := Lib.hid (H2.out.go hb4)
    replace Bt := Lib.hid (below_step Bt.out hb4)
    clear hb4
    go_wp2_with fail
    refine (sameFaults_c _ _ _ _ _ _ _ H1.out H2.out).mono ?_
    rintro e w5 ⟨rfl, hb5⟩
    rw [decide_eq_true rfl]
    replace Ha := Lib.hid (Ha.out.go hb5)
    replace H1 := Lib.hid (H1.out.go hb5)
    replace H2 := Lib.hid (H2.out.go hb5)
    replace Bt := Lib.hid (below_step Bt.out hb5)
    clear hb5
    go_wp2
    go_ret
    exact ⟨rfl, Bt.out⟩
  go_wp2_with fail
  refine (sameFaults_c _ _ _ _ _ _ _ H1.out H2.out).mono ?_
  rintro e w6 ⟨rfl, hb6⟩
  rw [decide_eq_true rfl]
  replace Ha := Lib.hid (Ha.out.go hb6)
  replace H1 := Lib.hid (H1.out.go hb6)
  replace H2 := Lib.hid (H2.out.go hb6)
  replace Bt := Lib.hid (below_step Bt.out hb6)
  clear hb6
  clear H2
  obtain ⟨o1, o2, o3⟩ := one_facts hv
  have hcab := (cab0_true hv).1
  have hmb : -1 ≤ milesI zs ∧ milesI zs ≤ 400 := by rw [milesI_yes hcab]; have := cab_miles hcab; omega
  obtain ⟨K, hK⟩ : ∃ K, findsL zs a yesP = K := ⟨_, rfl⟩
  rw [hK] at H1 o1 o2 o3 ⊢
  have HM0 := fun W h => implCableMiles_b B d zs W h
  obtain ⟨M, hM⟩ : ∃ M, milesI zs = M := ⟨_, rfl⟩
  rw [hM] at HM0 o1 hmb
  have hop := fun (f : Flt) (h : faultB zs f = true) (e : upL zs f + f.o = a) => one_find h e
  have HOp := fun (f : Flt) W h => implFaultOpen_b B d zs f W h
  have HFi := fun (y : Int) W h => implFaultFind_b B d zs a y W h (by omega)
  have HM := Lib.hid HM0
  have Ho2 := Lib.hid o2
  have Ho3 := Lib.hid o3
  have Hop := Lib.hid hop
  have HO := Lib.hid HOp
  have HF := Lib.hid HFi
  have q1 : IntKind.i64.wrap (M + 1) = M + 1 := IntWalk.i64_in _ (by omega)
  have v1 : decide ((K.length : Int) ≤ M + 1) = true := decide_eq_true o1
  have kl : K.length ≤ 402 := by omega
  clear HM0 o2 o3 hop HOp HFi hK hM hv hcab o1 hmb
  go_wp2
  go_loopw [9] (fun i wr => ∃ j : Nat, j ≤ K.length ∧ i = .int .i64 j ∧ Below w6.heap.size w6 wr) (fun i _ => K.length - (intOf i).toNat)
  case atStart => exact ⟨0, Nat.zero_le _, rfl, Below.refl _ _⟩
  case round =>
    obtain ⟨j, hj, rfl, hb⟩ := hrel
    have Hb := Lib.hid hb
    clear hb
    by_cases hlt : j < K.length
    · have g2 : (j : Int) < (K.length : Int) := by omega
      have e1 : ((j + 1 : Nat) : Int) = (j : Int) + 1 := by omega
      have q2 : IntKind.i64.wrap ((j : Int) + 1) = (j : Int) + 1 := IntWalk.i64_in _ (by omega)
      obtain ⟨h1, h2⟩ := Ho2.out j hlt
      obtain ⟨h3, h4⟩ := Hop.out _ h1 h2
      obtain ⟨b, off, rfl, hc⟩ := argF_to H1.out hlt
      have hprev := fun (k : Nat) (h : k + 1 = j) => Ho3.out k (by omega)
      obtain ⟨f, hf⟩ : ∃ f, fltAt K j = f := ⟨_, rfl⟩
      rw [hf] at h3 h4 hc
      have HO1 := fun W h => HO.out f W h
      rw [h3] at HO1
      have HF1 := fun W h => HF.out (restL zs f + f.o) W h
      rw [h4] at HF1
      obtain ⟨y, hy⟩ : ∃ y, restL zs f + f.o = y := ⟨_, rfl⟩
      rw [hy] at HO1 HF1
      have Hc := Lib.hid hc
      have Ho1 := Lib.hid HO1
      have Hf1 := Lib.hid HF1
      have he : ∀ w, (Op.equalIn 10000 44 (.agg #[.int .i64 f.m, .int .i64 f.o]) (.agg #[.int .i64 f.m, .int .i64 f.o])).run Try.prog w = .ok true w := fun w => by rw [eqFlts, decide_eq_true rfl]
      have He := Lib.hid he
      have Hfe := Lib.hid hf
      have Hprev := Lib.hid hprev
      obtain ⟨t0, t1⟩ := hc wr Hb.out
      have ba : (a != a) = false := by simp
      clear h1 h2 h3 h4 hc HO1 HF1 hy he hf hprev
      go_wp2_with fail
      refine (Ho1.out _ (Ha.out.go Hb.out)).mono ?_
      rintro e wk ⟨rfl, hbk⟩
      have Hb2 := Lib.hid (below_step Hb.out hbk)
      clear hbk t0 t1
      go_wp2_with fail
      refine (Hf1.out _ (Ha.out.go Hb2.out)).mono ?_
      rintro e wl ⟨rfl, hbk⟩
      have Hb3 := Lib.hid (below_step Hb2.out hbk)
      clear hbk
      have Hb4 := Lib.hid (Hb3.out.alloc Hb3.out.size (.cells #[.int .i64 f.m, .int .i64 f.o] 44))
      have hx := TwoAt.new 44 wl f.m f.o
      have cx0 := hx.c0
      have cx1 := hx.c1
      obtain ⟨t0, t1⟩ := Hc.out _ Hb4.out
      have he := He.out
      have hgd := guardFlt
      clear hx
      rcases Nat.eq_zero_or_pos j with h0 | h0
      · subst h0
        rw [Nat.zero_mul, Nat.add_zero] at t0 t1
        have d1 : decide ((0 : Int) < (0 : Int)) = false := rfl
        go_wp2
        go_quiet (fail)
        go_wp2
        exact ⟨⟨1, by omega, by first | rfl | simp, below_drewN Hb4.out _⟩, by simp only [intOf]; omega⟩
      · obtain ⟨k, hk⟩ : ∃ k, j = k + 1 := ⟨j - 1, by omega⟩
        obtain ⟨h5, h6⟩ := Hprev.out k hk.symm
        rw [← hk, Hfe.out] at h5 h6
        obtain ⟨b', off', eb, hck⟩ := argF_to H1.out (k := k) (by omega)
        injection eb with eb
        injection eb with eb eo _
        subst eb
        subst eo
        obtain ⟨t2, t3⟩ := hck _ Hb4.out
        obtain ⟨p, hp⟩ : ∃ p, fltAt K k = p := ⟨_, rfl⟩
        rw [hp] at t2 t3 h5 h6
        have q3 : IntKind.i64.wrap ((j : Int) - 1) = (k : Int) := by rw [show (j : Int) - 1 = (k : Int) by omega]; exact IntWalk.i64_in _ (by omega)
        have g3 : (k : Int) < (K.length : Int) := by omega
        have d1 : decide ((0 : Int) < (j : Int)) = true := decide_eq_true (by omega)
        have d2 : decide (0 < j) = true := decide_eq_true h0
        have d3 : decide (f.m ≤ p.m) = false := decide_eq_false (by omega)
        have d4 : decide (p.o ≤ f.o) = false := decide_eq_false (by omega)
        clear hk hck hp h5 h6
        go_wp2
        go_quiet (fail)
        go_wp2
        exact ⟨⟨j + 1, by omega, by rw [e1], below_drewN Hb4.out _⟩, by simp only [intOf]; omega⟩
    · obtain rfl : j = K.length := by omega
      replace Ha := Lib.hid (Ha.out.go Hb.out)
      replace Bt := Lib.hid (below_step Bt.out Hb.out)
      clear Hb
      go_wp2_with fail
      refine (HM.out _ Ha.out).mono ?_
      rintro e w7 ⟨rfl, hb7⟩
      replace Ha := Lib.hid (Ha.out.go hb7)
      replace Bt := Lib.hid (below_step Bt.out hb7)
      clear hb7
      dsimp only
      go_wp2
      go_ret
      exact ⟨rfl, Bt.out⟩

set_option maxRecDepth 100000 in
theorem fnOne_walk (A0 : Option Addr) (n0 c0 : Nat) (w : World) (hb0 : Byt0 w A0 n0 c0) :
    Calls Try.prog 5 #[.slice A0 n0 c0] w (RetB (.bool true) w) := by
  by_cases hl0 : 1048576 < n0
  · clear hb0
    go_enter Try.func5, Try.ntmps5
    go_wp2
    go_ret
    exact ⟨rfl, Below.refl _ _⟩
  exact fnOne_in A0 n0 c0 w (by omega) hb0.1 hb0.2.2

set_option maxRecDepth 100000 in
theorem fnOne_lifted (os : Os) (started : os.Started) (H : Type) (enc : TypeId × Value → H) :
    ReturnsInHanded {} Try.checked os 5 .any (Rows.fnOneSpec.pre6 enc Try.prog Try.f5 Rows.fnOneRow.domain false) (Rows.fnOneSpec.post enc Try.prog Try.f5 false true false false) := by
  refine returnsInHanded_of_change (C := Try.checked) row_own started (by kernel_rfl) Try.func5
    (ChangeSpec.witness6 (enc := enc) (C := Try.checked) false ⟨#[], #[.slice none 0 0], []⟩ 8 (by kernel_rfl) (by kernel_rfl) (by kernel_rfl) (by kernel_rfl)) ?_
  intro W base args ds gs before hval0 hW hcnd _
  have hval : ∀ (j : Nat) t v, Try.f5.params[j]? = some t → args[j]? = some v → Value.okWide Try.prog W .any base t v := hval0
  have hW' := hW
  obtain ⟨p, q, hA0, hV, rfl, _, _⟩ := hW
  have hA : DataW.TrodAll enc Try.prog W 0 (fun _ => true) true Try.f5.params.toList args.toList ds p := hA0
  rw [Try.params5] at hA hval
  obtain ⟨v0, vs0, d0, ds0, p0, q0, hargs, rfl, rfl, h0, r0⟩ := trodAll_cons hA
  obtain ⟨rfl, rfl, rfl⟩ := trodAll_nil r0
  obtain rfl : args = #[v0] := by cases args; simp_all
  obtain ⟨rfl, rfl⟩ := trodVars_none hV
  have hlt0 : ∀ x ∈ p0, x.block < W.heap.size := fun x hx => by exact hW'.lt x (by simp [hx])
  obtain ⟨A0, n0, c0, rfl, hb0⟩ := open_bytes (hval 0 22 v0 rfl rfl) h0 hlt0
  clear hA0 hval0
  refine (fnOne_walk A0 n0 c0 W hb0).mono fun e W' ⟨he, hb⟩ => ?_
  subst he
  exact ⟨_, rfl, _, _, _, [], _, [], hW', (trodAll_cons_mk (shut_bool Try.underlying4 _) trodAll_mk0), (trodAll_cons_mk (read_again_bytes h0 hlt0 hb) trodAll_mk0), rfl, hb.frame _, fun h => by cases h⟩

set_option maxRecDepth 100000 in
theorem fnOne_closed : joinedFacts Try.prog 5 Try.f5 Rows.fnOneSpec Rows.fnOneRow = true := by
  unfold joinedFacts
  repeat' (with_reducible apply facAnd)
  all_goals first | (with_reducible exact facEnter) | (with_reducible exact facLaid) | (with_reducible exact facMaps) | (with_reducible exact facStops) | (with_reducible exact facKnobs) | (with_reducible exact facHeard) | (rw [facLifts]; as_aux_lemma => kernel_rfl) | (rw [facMake]; as_aux_lemma => kernel_rfl) | (as_aux_lemma => kernel_rfl)

/-- THE STATEMENT -/
theorem fnOne_holds : Rows.FnOneSaid :=
  OpenClaim.holds_of_wide 5 Try.f5 rfl rfl rfl rfl rfl rfl rfl ⟨rfl, rfl, rfl, rfl, rfl⟩ rfl rfl rfl rfl rfl (by kernel_rfl) Try.func5 fnOne_closed
    (of_decide_eq_true (by kernel_rfl)) (by unfold Func.isWrapper; first | (rw [if_pos (by decide +kernel)]; kernel_rfl) | (rw [if_neg (by decide +kernel)]; exact ⟨rfl, rfl⟩))
    (fun os started H enc _ => fnOne_lifted os started H enc)
#print axioms fnOne_holds
end Go.Proofs.Ytodboccadccpfaa
