/-
  The law FnAll: all sections resist. For all codes it answers true. No condition.
-/
import Derived.Test.YtndpdoiomoefpaaFac
import Derived.Test.YtndpdoiomoefpaaRowB
import Derived.Test.YtndpdoiomoefpaaLw
import Derived.Test.YtndpdoiomoefpaaCabM
import Derived.Test.YtndpdoiomoefpaaDrw2
import Derived.Test.YtndpdoiomoefpaaCAll
import Derived.Test.YtndpdoiomoefpaaCPlain
namespace Go.Proofs.Ytndpdoiomoefpaa
open Go.ChangeShapes Go.WideShapes Go.ChangeAt Go.RowKit

set_option maxRecDepth 100000 in
set_option maxHeartbeats 4000000 in
theorem fnAll_in (A0 : Option Addr) (n0 c0 : Nat) (w : World) (hl0 : n0 ≤ 1048576) (hc0 : n0 ≤ c0) (hb0 : Bytes w.heap.size w A0 n0) :
    Calls Try.prog 12 #[.slice A0 n0 c0] w (RetB (.bool true) w) := by
  have Hb := Lib.hid hb0
  clear hb0
  go_enter Try.func12, Try.ntmps12
  go_wp2_with fail
  refine (DrawCableAll_c A0 n0 c0 _ (by omega) hc0 Hb.out).mono ?_
  rintro e w1 ⟨B, d, zs, rfl, hzl, hA, hB⟩
  have Ha := Lib.hid hA
  have Bt := Lib.hid hB
  clear hB Hb hA
  dsimp only
  go_wp2_with fail
  refine (implCableAll_b B d zs _ Ha.out).mono ?_
  rintro e w2 ⟨rfl, hb2⟩
  replace Ha := Lib.hid (Ha.out.go hb2)
  replace Bt := Lib.hid (below_step Bt.out hb2)
  clear hb2
  dsimp only
  go_wp2_with fail
  refine (specCableAll_b B d zs _ Ha.out).mono ?_
  rintro e w3 ⟨rfl, hb3⟩
  replace Ha := Lib.hid (Ha.out.go hb3)
  replace Bt := Lib.hid (below_step Bt.out hb3)
  clear hb3
  dsimp only
  cases hv : cabB zs
  · rw [show allI zs = -1 by unfold allI; rw [hv]; rfl]
    clear hv
    go_wp2
    go_ret
    exact ⟨rfl, Bt.out⟩
  obtain ⟨m1, m2, m3, m4, m5⟩ := cab_milesM hv
  have hab := all_bd hv
  have HR0 := fun W h => implCableBack_b B d zs W h
  rw [(back_back hv).1, hv] at HR0
  have HB0 := fun A c W h => implCableAll_b A c zs.reverse W h
  rw [allI_back, allI_yes hv] at HB0
  have HM0 := fun W h => implCableMiles_b B d zs W h
  rw [milesI_yes hv] at HM0
  have HP0 := fun W h => implCablePlain_b B d zs W h
  have hpl := fun h => (plain_laws (ss := zs) h).2.2.2.2.2.1
  have hpe := fun h => (plain_laws (ss := zs) h).2.1
  rw [allI_yes hv] at hpl ⊢
  have HQ0 := fun A c W h => implCableAll_b A c (cabL (plainX zs)) W h
  obtain ⟨q, hq⟩ : ∃ q, cabB (plainX zs) = q := ⟨_, rfl⟩
  obtain ⟨P, hP⟩ : ∃ P, cabL (plainX zs) = P := ⟨_, rfl⟩
  rw [hq] at HP0 hpl hpe
  rw [hP] at HP0 HQ0 hpe
  have hqa : q = true → allI P = ohmsL zs := fun h => by rw [hpe h, hpl h]
  obtain ⟨R, hR⟩ : ∃ R, zs.reverse = R := ⟨_, rfl⟩
  obtain ⟨M, hM⟩ : ∃ M, milesL zs = M := ⟨_, rfl⟩
  obtain ⟨pa, hpa⟩ : ∃ pa, allI P = pa := ⟨_, rfl⟩
  rw [hpa] at HQ0 hqa
  have Hsec := Lib.hid (cab_ok hv)
  have Hsum := Lib.hid (rfl : ohmsL zs = ohmsL zs)
  have Hend := Lib.hid (show ohmsL (zs.take zs.length) = ohmsL zs by rw [List.take_length])
  obtain ⟨a, ha⟩ : ∃ a, ohmsL zs = a := ⟨_, rfl⟩
  rw [hR] at HR0 HB0
  rw [hM] at HM0 hab m1 m2 m3
  rw [ha] at HB0 hqa hab Hend ⊢
  have HR := Lib.hid HR0
  have HB := Lib.hid HB0
  have HM := Lib.hid HM0
  have HP := Lib.hid HP0
  have HQ := Lib.hid HQ0
  have Hqa := Lib.hid hqa
  have g1 : ¬ a < 0 := by omega
  have b1 : (a == a) = true := by simp
  have v1 : decide (M ≤ a) = true := decide_eq_true hab.1
  clear HR0 HB0 HM0 HP0 HQ0 hpl hpe hq hP hR hM hpa hqa ha hv hab Hsum
  go_wp2
  go_loopw [6, 7] (fun s i wr => ∃ j : Nat, j ≤ zs.length ∧ i = .int .i64 j ∧ s = .int .i64 (ohmsL (zs.take j)) ∧ Below w3.heap.size w3 wr) (fun _ i _ => zs.length - (intOf i).toNat)
  case atStart => exact ⟨0, Nat.zero_le _, rfl, rfl, Below.refl _ _⟩
  case round =>
    obtain ⟨j, hj, rfl, rfl, hb⟩ := hrel
    have Hb := Lib.hid hb
    clear hb
    by_cases hlt : j < zs.length
    · have e1 : ((j + 1 : Nat) : Int) = (j : Int) + 1 := by omega
      have g2 : (j : Int) < (zs.length : Int) := by omega
      have q3 : IntKind.i64.wrap ((j : Int) + 1) = (j : Int) + 1 := IntWalk.i64_in _ (by omega)
      obtain ⟨b, off, rfl, _, _, hc0, _, hc2⟩ := (Ha.out.go Hb.out).rd.at_ hlt
      have hs := secOk_true.1 (Hsec.out _ (List.getElem_mem hlt))
      have hsm : small 50 (zs.take j) := small_of_ok (fun y hy => Hsec.out y (List.mem_of_mem_take hy))
      have hsb := ohmsL_bd hsm
      have hnx : ohmsL (zs.take (j + 1)) = ohmsL (zs.take j) + (secAt zs j).m * (secAt zs j).o := by rw [take_snoc zs hlt, ohmsL_snoc, secAt_lt hlt]
      rw [← secAt_lt hlt] at hs
      rw [List.length_take] at hsb
      obtain ⟨y, hy⟩ : ∃ y, ohmsL (zs.take j) = y := ⟨_, rfl⟩
      obtain ⟨u, hu⟩ : ∃ u, (secAt zs j).m = u := ⟨_, rfl⟩
      obtain ⟨v, hv⟩ : ∃ v, (secAt zs j).o = v := ⟨_, rfl⟩
      rw [hu] at hc0 hs hnx
      rw [hv] at hc2 hs hnx
      rw [hy] at hnx hsb ⊢
      have hpr := prod_bd (a := u) (b := v) (A := 50) (B := 20) (by omega) (by omega) (by omega) (by omega)
      have q4 : IntKind.i64.wrap (u * v) = u * v := IntWalk.i64_in _ (by omega)
      have q5 : IntKind.i64.wrap (y + u * v) = y + u * v := IntWalk.i64_in _ (by omega)
      have Hnx := Lib.hid hnx
      clear hnx hsb hs hsm hy hu hv hpr
      go_wp2
      go_quiet (fail)
      go_wp2
      exact ⟨⟨j + 1, by omega, by rw [e1], by rw [Hnx.out], below_drewN Hb.out _⟩, by simp only [intOf]; omega⟩
    · obtain rfl : j = zs.length := by omega
      rw [Hend.out]
      replace Ha := Lib.hid (Ha.out.go Hb.out)
      replace Bt := Lib.hid (below_step Bt.out Hb.out)
      clear Hb Hsec Hend
      go_wp2_with fail
      refine (HR.out _ Ha.out).mono ?_
      rintro e w4 ⟨B3, d3, rfl, ra, _, hb4⟩
      replace Ha := Lib.hid (Ha.out.go hb4)
      replace Bt := Lib.hid (below_step Bt.out hb4)
      have H3 := Lib.hid ra
      clear ra hb4
      dsimp only [id]
      go_wp2_with fail
      refine (HP.out _ Ha.out).mono ?_
      rintro e w5 ⟨B4, d4, rfl, ra, _, hb5⟩
      replace Ha := Lib.hid (Ha.out.go hb5)
      replace H3 := Lib.hid (H3.out.go hb5)
      replace Bt := Lib.hid (below_step Bt.out hb5)
      have H4 := Lib.hid ra
      clear ra hb5
      dsimp only [id]
      go_wp2_with fail
      refine (HB.out _ _ _ H3.out).mono ?_
      rintro e w6 ⟨rfl, hb6⟩
      replace Ha := Lib.hid (Ha.out.go hb6)
      replace H3 := Lib.hid (H3.out.go hb6)
      replace H4 := Lib.hid (H4.out.go hb6)
      replace Bt := Lib.hid (below_step Bt.out hb6)
      clear hb6
      dsimp only
      cases q
      · clear Hqa
        go_wp2_with fail
        refine (HM.out _ Ha.out).mono ?_
        rintro e w7 ⟨rfl, hb7⟩
        replace Ha := Lib.hid (Ha.out.go hb7)
        replace H3 := Lib.hid (H3.out.go hb7)
        replace H4 := Lib.hid (H4.out.go hb7)
        replace Bt := Lib.hid (below_step Bt.out hb7)
        clear hb7
        dsimp only
        go_wp2
        go_ret
        exact ⟨rfl, Bt.out⟩
      · have b5 : (pa == a) = true := beq_iff_eq.2 (Hqa.out rfl)
        have b6 : (pa = a) = True := eq_true (Hqa.out rfl)
        clear Hqa
        go_wp2_with fail
        refine (HQ.out _ _ _ H4.out).mono ?_
        rintro e w7 ⟨rfl, hb7⟩
        replace Ha := Lib.hid (Ha.out.go hb7)
        replace H3 := Lib.hid (H3.out.go hb7)
        replace H4 := Lib.hid (H4.out.go hb7)
        replace Bt := Lib.hid (below_step Bt.out hb7)
        clear hb7
        dsimp only
        go_wp2_with fail
        refine (HM.out _ Ha.out).mono ?_
        rintro e w8 ⟨rfl, hb8⟩
        replace Ha := Lib.hid (Ha.out.go hb8)
        replace H3 := Lib.hid (H3.out.go hb8)
        replace H4 := Lib.hid (H4.out.go hb8)
        replace Bt := Lib.hid (below_step Bt.out hb8)
        clear hb8
        dsimp only
        go_wp2
        go_ret
        exact ⟨rfl, Bt.out⟩

set_option maxRecDepth 100000 in
theorem fnAll_walk (A0 : Option Addr) (n0 c0 : Nat) (w : World) (hb0 : Byt0 w A0 n0 c0) :
    Calls Try.prog 12 #[.slice A0 n0 c0] w (RetB (.bool true) w) := by
  by_cases hl0 : 1048576 < n0
  · clear hb0
    go_enter Try.func12, Try.ntmps12
    go_wp2
    go_ret
    exact ⟨rfl, Below.refl _ _⟩
  exact fnAll_in A0 n0 c0 w (by omega) hb0.1 hb0.2.2

set_option maxRecDepth 100000 in
theorem fnAll_lifted (os : Os) (started : os.Started) (H : Type) (enc : TypeId × Value → H) :
    ReturnsInHanded {} Try.checked os 12 .any (Rows.fnAllSpec.pre6 enc Try.prog Try.f12 Rows.fnAllRow.domain false) (Rows.fnAllSpec.post enc Try.prog Try.f12 false true false false) := by
  refine returnsInHanded_of_change (C := Try.checked) row_own started (by kernel_rfl) Try.func12
    (ChangeSpec.witness6 (enc := enc) (C := Try.checked) false ⟨#[], #[.slice none 0 0], []⟩ 8 (by kernel_rfl) (by kernel_rfl) (by kernel_rfl) (by kernel_rfl)) ?_
  intro W base args ds gs before hval0 hW hcnd _
  have hval : ∀ (j : Nat) t v, Try.f12.params[j]? = some t → args[j]? = some v → Value.okWide Try.prog W .any base t v := hval0
  have hW' := hW
  obtain ⟨p, q, hA0, hV, rfl, _, _⟩ := hW
  have hA : DataW.TrodAll enc Try.prog W 0 (fun _ => true) true Try.f12.params.toList args.toList ds p := hA0
  rw [Try.params12] at hA hval
  obtain ⟨v0, vs0, d0, ds0, p0, q0, hargs, rfl, rfl, h0, r0⟩ := trodAll_cons hA
  obtain ⟨rfl, rfl, rfl⟩ := trodAll_nil r0
  obtain rfl : args = #[v0] := by cases args; simp_all
  obtain ⟨rfl, rfl⟩ := trodVars_none hV
  have hlt0 : ∀ x ∈ p0, x.block < W.heap.size := fun x hx => by exact hW'.lt x (by simp [hx])
  obtain ⟨A0, n0, c0, rfl, hb0⟩ := open_bytes (hval 0 22 v0 rfl rfl) h0 hlt0
  clear hA0 hval0
  refine (fnAll_walk A0 n0 c0 W hb0).mono fun e W' ⟨he, hb⟩ => ?_
  subst he
  exact ⟨_, rfl, _, _, _, [], _, [], hW', (trodAll_cons_mk (shut_bool Try.underlying4 _) trodAll_mk0), (trodAll_cons_mk (read_again_bytes h0 hlt0 hb) trodAll_mk0), rfl, hb.frame _, fun h => by cases h⟩

set_option maxRecDepth 100000 in
theorem fnAll_closed : joinedFacts Try.prog 12 Try.f12 Rows.fnAllSpec Rows.fnAllRow = true := by
  unfold joinedFacts
  repeat' (with_reducible apply facAnd)
  all_goals first | (with_reducible exact facEnter) | (with_reducible exact facLaid) | (with_reducible exact facMaps) | (with_reducible exact facStops) | (with_reducible exact facKnobs) | (with_reducible exact facHeard) | (rw [facLifts]; as_aux_lemma => kernel_rfl) | (rw [facMake]; as_aux_lemma => kernel_rfl) | (as_aux_lemma => kernel_rfl)

/-- THE STATEMENT -/
theorem fnAll_holds : Rows.FnAllSaid :=
  OpenClaim.holds_of_wide 12 Try.f12 rfl rfl rfl rfl rfl rfl rfl ⟨rfl, rfl, rfl, rfl, rfl⟩ rfl rfl rfl rfl rfl (by kernel_rfl) Try.func12 fnAll_closed
    (of_decide_eq_true (by kernel_rfl)) (by unfold Func.isWrapper; first | (rw [if_pos (by decide +kernel)]; kernel_rfl) | (rw [if_neg (by decide +kernel)]; exact ⟨rfl, rfl⟩))
    (fun os started H enc _ => fnAll_lifted os started H enc)
#print axioms fnAll_holds
end Go.Proofs.Ytndpdoiomoefpaa
