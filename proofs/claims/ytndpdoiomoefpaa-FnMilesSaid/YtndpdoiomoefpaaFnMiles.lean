/-
  The law FnMiles: miles are counted one by one. For all codes it answers true. No condition.
-/
import Derived.Test.YtndpdoiomoefpaaFac
import Derived.Test.YtndpdoiomoefpaaRowB
import Derived.Test.YtndpdoiomoefpaaLw
import Derived.Test.YtndpdoiomoefpaaCabM
import Derived.Test.YtndpdoiomoefpaaDrw2
namespace Go.Proofs.Ytndpdoiomoefpaa
open Go.ChangeShapes Go.WideShapes Go.ChangeAt Go.RowKit

set_option maxRecDepth 100000 in
set_option maxHeartbeats 4000000 in
theorem fnMiles_in (A0 : Option Addr) (n0 c0 : Nat) (w : World) (hl0 : n0 ≤ 1048576) (hc0 : n0 ≤ c0) (hb0 : Bytes w.heap.size w A0 n0) :
    Calls Try.prog 10 #[.slice A0 n0 c0] w (RetB (.bool true) w) := by
  have Hb := Lib.hid hb0
  clear hb0
  go_enter Try.func10, Try.ntmps10
  go_wp2_with fail
  refine (DrawCableMiles_c A0 n0 c0 _ (by omega) hc0 Hb.out).mono ?_
  rintro e w1 ⟨B, d, zs, rfl, hzl, hA, hB⟩
  have Ha := Lib.hid hA
  have Bt := Lib.hid hB
  clear hB Hb hA
  dsimp only
  go_wp2_with fail
  refine (implCableMiles_b B d zs _ Ha.out).mono ?_
  rintro e w2 ⟨rfl, hb2⟩
  replace Ha := Lib.hid (Ha.out.go hb2)
  replace Bt := Lib.hid (below_step Bt.out hb2)
  clear hb2
  dsimp only
  go_wp2_with fail
  refine (specCableMiles_b B d zs _ Ha.out).mono ?_
  rintro e w3 ⟨rfl, hb3⟩
  replace Ha := Lib.hid (Ha.out.go hb3)
  replace Bt := Lib.hid (below_step Bt.out hb3)
  clear hb3
  dsimp only
  cases hv : cabB zs
  · rw [milesI_no hv]
    clear hv
    go_wp2
    go_ret
    exact ⟨rfl, Bt.out⟩
  obtain ⟨m1, m2, m3, m4, m5⟩ := cab_milesM hv
  have hkd := fun (x : Int) (h0 : 0 ≤ x) (h1 : x < milesL zs) => kind_get hv h0 h1
  have HR0 := fun W h => implCableBack_b B d zs W h
  rw [(back_back hv).1, hv] at HR0
  have HM0 := fun A c W h => implCableMiles_b A c zs.reverse W h
  rw [milesI_back, milesI_yes hv] at HM0
  have HO0 := fun W h => implCableKind_b B d zs (milesL zs) W h (by omega)
  rw [kindI_outM hv (Int.le_refl _)] at HO0
  have HK0 := fun (x : Int) (hx : x ≤ 400) W h => implCableKind_b B d zs x W h (by omega)
  rw [milesI_yes hv]
  obtain ⟨R, hR⟩ : ∃ R, zs.reverse = R := ⟨_, rfl⟩
  obtain ⟨M, hM⟩ : ∃ M, milesL zs = M := ⟨_, rfl⟩
  rw [hR] at HR0 HM0
  rw [hM] at HM0 HO0 hkd m1 m2 m3 ⊢
  have HR := Lib.hid HR0
  have HM := Lib.hid HM0
  have HO := Lib.hid HO0
  have HK := Lib.hid HK0
  have Hkd := Lib.hid hkd
  have g1 : ¬ M < 0 := by omega
  have b1 : (M == M) = true := by simp
  have v1 : decide ((zs.length : Int) ≤ M) = true := decide_eq_true m1
  clear HR0 HM0 HO0 HK0 hkd hR hM hv
  obtain ⟨Mn, rfl⟩ : ∃ Mn : Nat, M = (Mn : Int) := ⟨M.toNat, by omega⟩
  go_wp2_with fail
  refine (HR.out _ Ha.out).mono ?_
  rintro e w4 ⟨B3, d3, rfl, ra, _, hb4⟩
  replace Ha := Lib.hid (Ha.out.go hb4)
  replace Bt := Lib.hid (below_step Bt.out hb4)
  have H3 := Lib.hid ra
  clear ra hb4
  dsimp only [id]
  go_wp2
  go_loopw [8] (fun i wr => ∃ j : Nat, j ≤ Mn ∧ i = .int .i64 j ∧ Below w4.heap.size w4 wr) (fun i _ => Mn - (intOf i).toNat)
  case atStart => exact ⟨0, by omega, rfl, Below.refl _ _⟩
  case round =>
    obtain ⟨j, hj, rfl, hb⟩ := hrel
    have Hb := Lib.hid hb
    clear hb
    by_cases hlt : (j : Int) < (Mn : Int)
    · have e1 : ((j + 1 : Nat) : Int) = (j : Int) + 1 := by omega
      have q3 : IntKind.i64.wrap ((j : Int) + 1) = (j : Int) + 1 := IntWalk.i64_in _ (by omega)
      obtain ⟨p, _, hk, p0, p1⟩ := Hkd.out (j : Int) (by omega) hlt
      have hK := HK.out (j : Int) (by omega)
      rw [hk] at hK
      obtain ⟨y, hy⟩ : ∃ y, p.1 = y := ⟨_, rfl⟩
      rw [hy] at hK p0
      have HK2 := Lib.hid hK
      clear hK hk hy p1
      have g3 : ¬ y < 0 := by omega
      go_wp2_with fail
      refine (HK2.out _ (Ha.out.go Hb.out)).mono ?_
      rintro e wk ⟨rfl, hbk⟩
      have Hb2 := Lib.hid (below_step Hb.out hbk)
      clear hbk
      go_wp2
      exact ⟨⟨j + 1, by omega, by rw [e1], Hb2.out⟩, by simp only [intOf]; omega⟩
    · obtain rfl : j = Mn := by omega
      replace Ha := Lib.hid (Ha.out.go Hb.out)
      replace H3 := Lib.hid (H3.out.go Hb.out)
      replace Bt := Lib.hid (below_step Bt.out Hb.out)
      clear Hb
      go_wp2_with fail
      refine (HO.out _ Ha.out).mono ?_
      rintro e w5 ⟨rfl, hb5⟩
      replace Ha := Lib.hid (Ha.out.go hb5)
      replace H3 := Lib.hid (H3.out.go hb5)
      replace Bt := Lib.hid (below_step Bt.out hb5)
      clear hb5
      dsimp only
      go_wp2_with fail
      refine (HM.out _ _ _ H3.out).mono ?_
      rintro e w6 ⟨rfl, hb6⟩
      replace Ha := Lib.hid (Ha.out.go hb6)
      replace H3 := Lib.hid (H3.out.go hb6)
      replace Bt := Lib.hid (below_step Bt.out hb6)
      clear hb6
      dsimp only
      go_wp2
      go_ret
      exact ⟨rfl, Bt.out⟩

set_option maxRecDepth 100000 in
theorem fnMiles_walk (A0 : Option Addr) (n0 c0 : Nat) (w : World) (hb0 : Byt0 w A0 n0 c0) :
    Calls Try.prog 10 #[.slice A0 n0 c0] w (RetB (.bool true) w) := by
  by_cases hl0 : 1048576 < n0
  · clear hb0
    go_enter Try.func10, Try.ntmps10
    go_wp2
    go_ret
    exact ⟨rfl, Below.refl _ _⟩
  exact fnMiles_in A0 n0 c0 w (by omega) hb0.1 hb0.2.2

set_option maxRecDepth 100000 in
theorem fnMiles_lifted (os : Os) (started : os.Started) (H : Type) (enc : TypeId × Value → H) :
    ReturnsInHanded {} Try.checked os 10 .any (Rows.fnMilesSpec.pre6 enc Try.prog Try.f10 Rows.fnMilesRow.domain false) (Rows.fnMilesSpec.post enc Try.prog Try.f10 false true false false) := by
  refine returnsInHanded_of_change (C := Try.checked) row_own started (by kernel_rfl) Try.func10
    (ChangeSpec.witness6 (enc := enc) (C := Try.checked) false ⟨#[], #[.slice none 0 0], []⟩ 8 (by kernel_rfl) (by kernel_rfl) (by kernel_rfl) (by kernel_rfl)) ?_
  intro W base args ds gs before hval0 hW hcnd _
  have hval : ∀ (j : Nat) t v, Try.f10.params[j]? = some t → args[j]? = some v → Value.okWide Try.prog W .any base t v := hval0
  have hW' := hW
  obtain ⟨p, q, hA0, hV, rfl, _, _⟩ := hW
  have hA : DataW.TrodAll enc Try.prog W 0 (fun _ => true) true Try.f10.params.toList args.toList ds p := hA0
  rw [Try.params10] at hA hval
  obtain ⟨v0, vs0, d0, ds0, p0, q0, hargs, rfl, rfl, h0, r0⟩ := trodAll_cons hA
  obtain ⟨rfl, rfl, rfl⟩ := trodAll_nil r0
  obtain rfl : args = #[v0] := by cases args; simp_all
  obtain ⟨rfl, rfl⟩ := trodVars_none hV
  have hlt0 : ∀ x ∈ p0, x.block < W.heap.size := fun x hx => by exact hW'.lt x (by simp [hx])
  obtain ⟨A0, n0, c0, rfl, hb0⟩ := open_bytes (hval 0 22 v0 rfl rfl) h0 hlt0
  clear hA0 hval0
  refine (fnMiles_walk A0 n0 c0 W hb0).mono fun e W' ⟨he, hb⟩ => ?_
  subst he
  exact ⟨_, rfl, _, _, _, [], _, [], hW', (trodAll_cons_mk (shut_bool Try.underlying4 _) trodAll_mk0), (trodAll_cons_mk (read_again_bytes h0 hlt0 hb) trodAll_mk0), rfl, hb.frame _, fun h => by cases h⟩

set_option maxRecDepth 100000 in
theorem fnMiles_closed : joinedFacts Try.prog 10 Try.f10 Rows.fnMilesSpec Rows.fnMilesRow = true := by
  unfold joinedFacts
  repeat' (with_reducible apply facAnd)
  all_goals first | (with_reducible exact facEnter) | (with_reducible exact facLaid) | (with_reducible exact facMaps) | (with_reducible exact facStops) | (with_reducible exact facKnobs) | (with_reducible exact facHeard) | (rw [facLifts]; as_aux_lemma => kernel_rfl) | (rw [facMake]; as_aux_lemma => kernel_rfl) | (as_aux_lemma => kernel_rfl)

/-- THE STATEMENT -/
theorem fnMiles_holds : Rows.FnMilesSaid :=
  OpenClaim.holds_of_wide 10 Try.f10 rfl rfl rfl rfl rfl rfl rfl ⟨rfl, rfl, rfl, rfl, rfl⟩ rfl rfl rfl rfl rfl (by kernel_rfl) Try.func10 fnMiles_closed
    (of_decide_eq_true (by kernel_rfl)) (by unfold Func.isWrapper; first | (rw [if_pos (by decide +kernel)]; kernel_rfl) | (rw [if_neg (by decide +kernel)]; exact ⟨rfl, rfl⟩))
    (fun os started H enc _ => fnMiles_lifted os started H enc)
#print axioms fnMiles_holds
end Go.Proofs.Ytndpdoiomoefpaa
