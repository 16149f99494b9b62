/-
  The law FnPlain: a plain cable is the same cable. For all codes it answers true. No condition.
-/
import Derived.Test.YtndpdoiomoefpaaFac
import Derived.Test.YtndpdoiomoefpaaRowB
import Derived.Test.YtndpdoiomoefpaaLw
import Derived.Test.YtndpdoiomoefpaaCabM
import Derived.Test.YtndpdoiomoefpaaDrw2
import Derived.Test.YtndpdoiomoefpaaDrwP
import Derived.Test.YtndpdoiomoefpaaCPlain
import Derived.Test.YtndpdoiomoefpaaCPlainS
import Derived.Test.YtndpdoiomoefpaaSameC
namespace Go.Proofs.Ytndpdoiomoefpaa
open Go.ChangeShapes Go.WideShapes Go.ChangeAt Go.RowKit

set_option maxRecDepth 100000 in
set_option maxHeartbeats 1600000 in
theorem fnPlain_in (A0 : Option Addr) (n0 c0 : Nat) (w : World) (hl0 : n0 ≤ 1048576) (hc0 : n0 ≤ c0) (hb0 : Bytes w.heap.size w A0 n0) :
    Calls Try.prog 14 #[.slice A0 n0 c0] w (RetB (.bool true) w) := by
  have Hb := Lib.hid hb0
  clear hb0
  go_enter Try.func14, Try.ntmps14
  go_wp2_with fail
  refine (DrawCablePlain_c A0 n0 c0 _ (by omega) hc0 Hb.out).mono ?_
  rintro e w1 ⟨B, d, zs, rfl, hzl, hA, hB⟩
  have Ha := Lib.hid hA
  have Bt := Lib.hid hB
  clear hB Hb hA
  dsimp only
  go_wp2_with fail
  refine (implCablePlain_b B d zs _ Ha.out).mono ?_
  rintro e w2 ⟨B1, d1, rfl, ra, _, hb2⟩
  replace Ha := Lib.hid (Ha.out.go hb2)
  replace Bt := Lib.hid (below_step Bt.out hb2)
  have H1 := Lib.hid ra
  clear ra hb2
  dsimp only [id]
  go_wp2_with fail
  refine (specCablePlain_b B d zs _ Ha.out).mono ?_
  rintro e w3 ⟨B2, d2, rfl, ra, _, hb3⟩
  replace Ha := Lib.hid (Ha.out.go hb3)
  replace H1 := Lib.hid (H1.out.go hb3)
  replace Bt := Lib.hid (below_step Bt.out hb3)
  have H2 := Lib.hid ra
  clear ra hb3
  dsimp only [id]
  cases hv : cabB (plainX zs)
  · clear hv
    go_wp2_with fail
    refine (sameSections_c _ _ _ _ _ _ _ H1.out H2.out).mono ?_
    rintro e w4 ⟨rfl, hb4⟩
    rw [decide_eq_true rfl]
    replace Ha := Lib.hid (Ha.out.go hb4)
    replace H1 := Lib.hid (H1.out.go hb4)
    replace H2 := Lib.hid (H2.out.go hb4)
    replace Bt := Lib.hid (below_step Bt.out hb4)
    clear hb4
    go_wp2_with fail
    refine (sameSections_c _ _ _ _ _ _ _ H1.out H2.out).mono ?_
    rintro e w5 ⟨rfl, hb5⟩
    rw [decide_eq_true rfl]
    replace Ha := Lib.hid (Ha.out.go hb5)
    replace H1 := Lib.hid (H1.out.go hb5)
    replace H2 := Lib.hid (H2.out.go hb5)
    replace Bt := Lib.hid (below_step Bt.out hb5)
    clear hb5
    go_wp2
    go_ret
    exact ⟨rfl, Bt.out⟩
  go_wp2_with fail
  refine (sameSections_c _ _ _ _ _ _ _ H1.out H2.out).mono ?_
  rintro e w6 ⟨rfl, hb6⟩
  rw [decide_eq_true rfl]
  replace Ha := Lib.hid (Ha.out.go hb6)
  replace H1 := Lib.hid (H1.out.go hb6)
  replace H2 := Lib.hid (H2.out.go hb6)
  replace Bt := Lib.hid (below_step Bt.out hb6)
  clear hb6
  clear H2
  obtain ⟨hc, _⟩ := plain_ok_cab hv
  obtain ⟨p1, p2, p3, p4, p5, p6, p7, p8⟩ := plain_laws hv
  obtain ⟨m1, m2, m3, m4, m5⟩ := cab_milesM hc
  rw [milesI_yes hc] at p5
  rw [p2] at H1 ⊢
  have HX0 := fun W h => implCablePlain_b B1 d1 (plainL zs) W h
  rw [p3, p1, cabL_yes p1] at HX0
  have HM0 := fun W h => implCableMiles_b B d zs W h
  rw [milesI_yes hc] at HM0
  have HN0 := fun W h => implCableMiles_b B1 d1 (plainL zs) W h
  rw [p5] at HN0
  obtain ⟨K, hK⟩ : ∃ K, plainL zs = K := ⟨_, rfl⟩
  obtain ⟨M, hM⟩ : ∃ M, milesL zs = M := ⟨_, rfl⟩
  rw [hK] at HX0 HN0 H1 p4 p7 ⊢
  rw [hM] at HM0 HN0 m1 m2 m3
  have HX := Lib.hid HX0
  have HM := Lib.hid HM0
  have HN := Lib.hid HN0
  have Hp7 := Lib.hid p7
  have v1 : decide ((K.length : Int) ≤ (zs.length : Int)) = true := decide_eq_true (by omega)
  have v2 : decide (K.length ≤ zs.length) = true := decide_eq_true p4
  have b1 : (M == M) = true := by simp
  clear HX0 HM0 HN0 p1 p2 p3 p5 p6 p7 p8 hK hM hv hc
  obtain ⟨N, rfl⟩ : ∃ N : Nat, M = (N : Int) := ⟨M.toNat, by omega⟩
  go_wp2_with fail
  refine (HX.out _ H1.out).mono ?_
  rintro e w7 ⟨B3, d3, rfl, ra, _, hb7⟩
  replace Ha := Lib.hid (Ha.out.go hb7)
  replace H1 := Lib.hid (H1.out.go hb7)
  replace Bt := Lib.hid (below_step Bt.out hb7)
  have H3 := Lib.hid ra
  clear ra hb7
  dsimp only [id]
  go_wp2_with fail
  refine (HM.out _ Ha.out).mono ?_
  rintro e w8 ⟨rfl, hb8⟩
  replace Ha := Lib.hid (Ha.out.go hb8)
  replace H1 := Lib.hid (H1.out.go hb8)
  replace H3 := Lib.hid (H3.out.go hb8)
  replace Bt := Lib.hid (below_step Bt.out hb8)
  clear hb8
  dsimp only
  go_wp2
  go_loopw [11] (fun i wr => ∃ j : Nat, j ≤ N + 1 ∧ i = .int .i64 j ∧ Below w8.heap.size w8 wr) (fun i _ => N + 1 - (intOf i).toNat)
  case atStart => exact ⟨0, Nat.zero_le _, rfl, Below.refl _ _⟩
  case round =>
    obtain ⟨j, hj, rfl, hb⟩ := hrel
    have Hb := Lib.hid hb
    clear hb
    by_cases hlt : j ≤ N
    · have g2 : (j : Int) ≤ (N : Int) := by omega
      have e1 : ((j + 1 : Nat) : Int) = (j : Int) + 1 := by omega
      have q6 : IntKind.i64.wrap ((j : Int) + 1) = (j : Int) + 1 := IntWalk.i64_in _ (by omega)
      have HU0 := fun W h => implCableOhms_b B1 d1 K (j : Int) W h
      have HV0 := fun W h => implCableOhms_b B d zs (j : Int) W h
      rw [Hp7.out] at HU0
      obtain ⟨z, hz⟩ : ∃ z, ohmsI zs (j : Int) = z := ⟨_, rfl⟩
      rw [hz] at HU0 HV0
      have HU := Lib.hid HU0
      have HV := Lib.hid HV0
      have b5 : (z != z) = false := by simp
      clear HU0 HV0 hz
      go_wp2_with fail
      refine (HU.out _ (H1.out.go Hb.out)).mono ?_
      rintro e wk ⟨rfl, hbk⟩
      have Hb2 := Lib.hid (below_step Hb.out hbk)
      clear hbk
      go_wp2_with fail
      refine (HV.out _ (Ha.out.go Hb2.out)).mono ?_
      rintro e wl ⟨rfl, hbk⟩
      have Hb3 := Lib.hid (below_step Hb2.out hbk)
      clear hbk
      go_wp2
      exact ⟨⟨j + 1, by omega, by rw [e1], Hb3.out⟩, by simp only [intOf]; omega⟩
    · have g2 : ¬ (j : Int) ≤ (N : Int) := by omega
      replace H1 := Lib.hid (H1.out.go Hb.out)
      replace H3 := Lib.hid (H3.out.go Hb.out)
      replace Bt := Lib.hid (below_step Bt.out Hb.out)
      clear Hb
      go_wp2_with fail
      refine (sameSections_c _ _ _ _ _ _ _ H3.out H1.out).mono ?_
      rintro e w9 ⟨rfl, hb9⟩
      rw [decide_eq_true rfl]
      replace H1 := Lib.hid (H1.out.go hb9)
      replace H3 := Lib.hid (H3.out.go hb9)
      replace Bt := Lib.hid (below_step Bt.out hb9)
      clear hb9
      go_wp2_with fail
      refine (HN.out _ H1.out).mono ?_
      rintro e w10 ⟨rfl, hb10⟩
      replace H1 := Lib.hid (H1.out.go hb10)
      replace H3 := Lib.hid (H3.out.go hb10)
      replace Bt := Lib.hid (below_step Bt.out hb10)
      clear hb10
      dsimp only
      go_wp2
      go_ret
      exact ⟨rfl, Bt.out⟩

set_option maxRecDepth 100000 in
theorem fnPlain_walk (A0 : Option Addr) (n0 c0 : Nat) (w : World) (hb0 : Byt0 w A0 n0 c0) :
    Calls Try.prog 14 #[.slice A0 n0 c0] w (RetB (.bool true) w) := by
  by_cases hl0 : 1048576 < n0
  · clear hb0
    go_enter Try.func14, Try.ntmps14
    go_wp2
    go_ret
    exact ⟨rfl, Below.refl _ _⟩
  exact fnPlain_in A0 n0 c0 w (by omega) hb0.1 hb0.2.2

set_option maxRecDepth 100000 in
theorem fnPlain_lifted (os : Os) (started : os.Started) (H : Type) (enc : TypeId × Value → H) :
    ReturnsInHanded {} Try.checked os 14 .any (Rows.fnPlainSpec.pre6 enc Try.prog Try.f14 Rows.fnPlainRow.domain false) (Rows.fnPlainSpec.post enc Try.prog Try.f14 false true false false) := by
  refine returnsInHanded_of_change (C := Try.checked) row_own started (by kernel_rfl) Try.func14
    (ChangeSpec.witness6 (enc := enc) (C := Try.checked) false ⟨#[], #[.slice none 0 0], []⟩ 8 (by kernel_rfl) (by kernel_rfl) (by kernel_rfl) (by kernel_rfl)) ?_
  intro W base args ds gs before hval0 hW hcnd _
  have hval : ∀ (j : Nat) t v, Try.f14.params[j]? = some t → args[j]? = some v → Value.okWide Try.prog W .any base t v := hval0
  have hW' := hW
  obtain ⟨p, q, hA0, hV, rfl, _, _⟩ := hW
  have hA : DataW.TrodAll enc Try.prog W 0 (fun _ => true) true Try.f14.params.toList args.toList ds p := hA0
  rw [Try.params14] at hA hval
  obtain ⟨v0, vs0, d0, ds0, p0, q0, hargs, rfl, rfl, h0, r0⟩ := trodAll_cons hA
  obtain ⟨rfl, rfl, rfl⟩ := trodAll_nil r0
  obtain rfl : args = #[v0] := by cases args; simp_all
  obtain ⟨rfl, rfl⟩ := trodVars_none hV
  have hlt0 : ∀ x ∈ p0, x.block < W.heap.size := fun x hx => by exact hW'.lt x (by simp [hx])
  obtain ⟨A0, n0, c0, rfl, hb0⟩ := open_bytes (hval 0 22 v0 rfl rfl) h0 hlt0
  clear hA0 hval0
  refine (fnPlain_walk A0 n0 c0 W hb0).mono fun e W' ⟨he, hb⟩ => ?_
  subst he
  exact ⟨_, rfl, _, _, _, [], _, [], hW', (trodAll_cons_mk (shut_bool Try.underlying4 _) trodAll_mk0), (trodAll_cons_mk (read_again_bytes h0 hlt0 hb) trodAll_mk0), rfl, hb.frame _, fun h => by cases h⟩

set_option maxRecDepth 100000 in
theorem fnPlain_closed : joinedFacts Try.prog 14 Try.f14 Rows.fnPlainSpec Rows.fnPlainRow = true := by
  unfold joinedFacts
  repeat' (with_reducible apply facAnd)
  all_goals first | (with_reducible exact facEnter) | (with_reducible exact facLaid) | (with_reducible exact facMaps) | (with_reducible exact facStops) | (with_reducible exact facKnobs) | (with_reducible exact facHeard) | (rw [facLifts]; as_aux_lemma => kernel_rfl) | (rw [facMake]; as_aux_lemma => kernel_rfl) | (as_aux_lemma => kernel_rfl)

/-- THE STATEMENT -/
theorem fnPlain_holds : Rows.FnPlainSaid :=
  OpenClaim.holds_of_wide 14 Try.f14 rfl rfl rfl rfl rfl rfl rfl ⟨rfl, rfl, rfl, rfl, rfl⟩ rfl rfl rfl rfl rfl (by kernel_rfl) Try.func14 fnPlain_closed
    (of_decide_eq_true (by kernel_rfl)) (by unfold Func.isWrapper; first | (rw [if_pos (by decide +kernel)]; kernel_rfl) | (rw [if_neg (by decide +kernel)]; exact ⟨rfl, rfl⟩))
    (fun os started H enc _ => fnPlain_lifted os started H enc)
#print axioms fnPlain_holds
end Go.Proofs.Ytndpdoiomoefpaa
