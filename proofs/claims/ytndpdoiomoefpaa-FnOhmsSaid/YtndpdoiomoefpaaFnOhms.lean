/-
  The law FnOhms: resistance grows mile by mile. For all codes it answers true. No condition.
-/
import Derived.Test.YtndpdoiomoefpaaFac
import Derived.Test.YtndpdoiomoefpaaRowB
import Derived.Test.YtndpdoiomoefpaaLw
import Derived.Test.YtndpdoiomoefpaaCabM
import Derived.Test.YtndpdoiomoefpaaDrw2
namespace Go.Proofs.Ytndpdoiomoefpaa
open Go.ChangeShapes Go.WideShapes Go.ChangeAt Go.RowKit

set_option maxRecDepth 100000 in
set_option maxHeartbeats 4000000 in
theorem fnOhms_in (A0 : Option Addr) (n0 c0 : Nat) (w : World) (hl0 : n0 ≤ 1048576) (hc0 : n0 ≤ c0) (hb0 : Bytes w.heap.size w A0 n0) :
    Calls Try.prog 11 #[.slice A0 n0 c0] w (RetB (.bool true) w) := by
  have Hb := Lib.hid hb0
  clear hb0
  go_enter Try.func11, Try.ntmps11
  go_wp2_with fail
  refine (DrawCableOhms_c A0 n0 c0 _ (by omega) hc0 Hb.out).mono ?_
  rintro e w1 ⟨B, d, zs, x, rfl, hzl, hx0, hx1, hA, hB⟩
  have Ha := Lib.hid hA
  have Bt := Lib.hid hB
  clear hB Hb hA
  dsimp only
  go_wp2_with fail
  refine (implCableOhms_b B d zs x _ Ha.out).mono ?_
  rintro e w2 ⟨rfl, hb2⟩
  replace Ha := Lib.hid (Ha.out.go hb2)
  replace Bt := Lib.hid (below_step Bt.out hb2)
  clear hb2
  dsimp only
  go_wp2_with fail
  refine (specCableOhms_b B d zs x _ Ha.out).mono ?_
  rintro e w3 ⟨rfl, hb3⟩
  replace Ha := Lib.hid (Ha.out.go hb3)
  replace Bt := Lib.hid (below_step Bt.out hb3)
  clear hb3
  dsimp only
  cases hv : (cabB zs && inB x 0 (milesL zs))
  · rw [show ohmsI zs x = -1 by unfold ohmsI; rw [hv]; rfl]
    clear hv
    go_wp2
    go_ret
    exact ⟨rfl, Bt.out⟩
  obtain ⟨hc, hx2⟩ := (Bool.and_eq_true _ _).mp hv
  obtain ⟨x0, x1⟩ := inB_true.1 hx2
  obtain ⟨m1, m2, m3, m4, m5⟩ := cab_milesM hc
  have hb := ohmsTo_bds hc x0 x1
  have hab := all_bd hc
  have he := ohmsTo_ends hc x0 x1
  have hnx := fun h => ohmsTo_next hc x0 h
  have HR0 := fun W h => implCableBack_b B d zs W h
  rw [(back_back hc).1, hc] at HR0
  have HM0 := fun W h => implCableMiles_b B d zs W h
  rw [milesI_yes hc] at HM0
  have HN0 := fun W h => implCableOhms_b B d zs (x + 1) W h
  have HE0 := fun A c W h => implCableOhms_b A c zs.reverse (milesL zs - x) W h
  rw [ohmsI_inM (cab_back hc) (by omega) (by rw [miles_back]; omega)] at HE0
  have HA0 := fun W h => implCableAll_b B d zs W h
  rw [allI_yes hc] at HA0
  have hnext : (x = milesL zs ∧ ohmsI zs (x + 1) = -1) ∨ (x < milesL zs ∧ ohmsTo zs x < ohmsI zs (x + 1) ∧ ohmsI zs (x + 1) ≤ ohmsTo zs x + 20) := by
    rcases Int.lt_or_le x (milesL zs) with h | h
    · rw [ohmsI_inM hc (by omega) (by omega)]
      exact .inr ⟨h, hnx h⟩
    · exact .inl ⟨by omega, ohmsI_outM (by omega)⟩
  rw [ohmsI_inM hc x0 x1]
  obtain ⟨nx, hnx2⟩ : ∃ nx, ohmsI zs (x + 1) = nx := ⟨_, rfl⟩
  obtain ⟨o, ho⟩ : ∃ o, ohmsTo zs x = o := ⟨_, rfl⟩
  obtain ⟨r, hr⟩ : ∃ r, ohmsTo zs.reverse (milesL zs - x) = r := ⟨_, rfl⟩
  obtain ⟨R, hR⟩ : ∃ R, zs.reverse = R := ⟨_, rfl⟩
  obtain ⟨M, hM⟩ : ∃ M, milesL zs = M := ⟨_, rfl⟩
  obtain ⟨a, ha⟩ : ∃ a, ohmsL zs = a := ⟨_, rfl⟩
  rw [hr, hR] at HE0
  rw [hr] at he
  rw [hR] at HR0
  rw [hM] at HM0 HE0 x1 m1 m2 m3 hnext hab
  rw [hnx2] at HN0 hnext
  rw [ho] at hnext he hb ⊢
  rw [ha] at HA0 he hab
  have HR := Lib.hid HR0
  have HM := Lib.hid HM0
  have HN := Lib.hid HN0
  have HE := Lib.hid HE0
  have HA := Lib.hid HA0
  have g1 : ¬ o < 0 := by omega
  have q1 : IntKind.i64.wrap (x + 1) = x + 1 := IntWalk.i64_in _ (by omega)
  have q2 : IntKind.i64.wrap (M - x) = M - x := IntWalk.i64_in _ (by omega)
  have q3 : IntKind.i64.wrap (o + 20) = o + 20 := IntWalk.i64_in _ (by omega)
  have q4 : IntKind.i64.wrap (o + r) = o + r := IntWalk.i64_in _ (by omega)
  have b1 : (o + r == a) = true := beq_iff_eq.2 he
  have b1' : (o + r = a) = True := eq_true he
  obtain ⟨eb, b2, b3⟩ : ∃ eb, (o == 0) = eb ∧ (x == 0) = eb := by
    by_cases h : x = 0
    · exact ⟨true, beq_iff_eq.2 (by omega), beq_iff_eq.2 h⟩
    · exact ⟨false, beq_eq_false_iff_ne.2 (by omega), beq_eq_false_iff_ne.2 h⟩
  have b4 : (eb == eb) = true := by simp
  clear HR0 HM0 HN0 HE0 HA0 hnx2 ho hr hR hM ha hb hab he hnx hv hc hx2
  go_wp2_with fail
  refine (HN.out _ Ha.out).mono ?_
  rintro e w4 ⟨rfl, hb4⟩
  replace Ha := Lib.hid (Ha.out.go hb4)
  replace Bt := Lib.hid (below_step Bt.out hb4)
  clear hb4
  dsimp only
  go_wp2_with fail
  refine (HR.out _ Ha.out).mono ?_
  rintro e w5 ⟨B3, d3, rfl, ra, _, hb5⟩
  replace Ha := Lib.hid (Ha.out.go hb5)
  replace Bt := Lib.hid (below_step Bt.out hb5)
  have H3 := Lib.hid ra
  clear ra hb5
  dsimp only [id]
  go_wp2_with fail
  refine (HM.out _ Ha.out).mono ?_
  rintro e w6 ⟨rfl, hb6⟩
  replace Ha := Lib.hid (Ha.out.go hb6)
  replace H3 := Lib.hid (H3.out.go hb6)
  replace Bt := Lib.hid (below_step Bt.out hb6)
  clear hb6
  dsimp only
  rcases hnext with ⟨h1, h2⟩ | ⟨h1, h2, h3⟩
  · have f1 : (x == M) = true := beq_iff_eq.2 h1
    have f2 : (nx == -1) = true := beq_iff_eq.2 h2
    have f3 : (x = M) = True := eq_true h1
    have f4 : (nx = -1) = True := eq_true h2
    clear h1 h2
    go_wp2_with fail
    refine (HE.out _ _ _ H3.out).mono ?_
    rintro e w7 ⟨rfl, hb7⟩
    replace Ha := Lib.hid (Ha.out.go hb7)
    replace H3 := Lib.hid (H3.out.go hb7)
    replace Bt := Lib.hid (below_step Bt.out hb7)
    clear hb7
    dsimp only
    go_wp2_with fail
    refine (HA.out _ Ha.out).mono ?_
    rintro e w8 ⟨rfl, hb8⟩
    replace Ha := Lib.hid (Ha.out.go hb8)
    replace H3 := Lib.hid (H3.out.go hb8)
    replace Bt := Lib.hid (below_step Bt.out hb8)
    clear hb8
    dsimp only
    go_wp2
    go_ret
    exact ⟨rfl, Bt.out⟩
  · have f1 : (x == M) = false := beq_eq_false_iff_ne.2 (by omega)
    have f2 : decide (o < nx) = true := decide_eq_true h2
    have f3 : decide (nx ≤ o + 20) = true := decide_eq_true h3
    have f4 : (x = M) = False := eq_false (by omega)
    go_wp2_with fail
    refine (HE.out _ _ _ H3.out).mono ?_
    rintro e w7 ⟨rfl, hb7⟩
    replace Ha := Lib.hid (Ha.out.go hb7)
    replace H3 := Lib.hid (H3.out.go hb7)
    replace Bt := Lib.hid (below_step Bt.out hb7)
    clear hb7
    dsimp only
    go_wp2_with fail
    refine (HA.out _ Ha.out).mono ?_
    rintro e w8 ⟨rfl, hb8⟩
    replace Ha := Lib.hid (Ha.out.go hb8)
    replace H3 := Lib.hid (H3.out.go hb8)
    replace Bt := Lib.hid (below_step Bt.out hb8)
    clear hb8
    dsimp only
    go_wp2
    go_ret
    exact ⟨rfl, Bt.out⟩

set_option maxRecDepth 100000 in
theorem fnOhms_walk (A0 : Option Addr) (n0 c0 : Nat) (w : World) (hb0 : Byt0 w A0 n0 c0) :
    Calls Try.prog 11 #[.slice A0 n0 c0] w (RetB (.bool true) w) := by
  by_cases hl0 : 1048576 < n0
  · clear hb0
    go_enter Try.func11, Try.ntmps11
    go_wp2
    go_ret
    exact ⟨rfl, Below.refl _ _⟩
  exact fnOhms_in A0 n0 c0 w (by omega) hb0.1 hb0.2.2

set_option maxRecDepth 100000 in
theorem fnOhms_lifted (os : Os) (started : os.Started) (H : Type) (enc : TypeId × Value → H) :
    ReturnsInHanded {} Try.checked os 11 .any (Rows.fnOhmsSpec.pre6 enc Try.prog Try.f11 Rows.fnOhmsRow.domain false) (Rows.fnOhmsSpec.post enc Try.prog Try.f11 false true false false) := by
  refine returnsInHanded_of_change (C := Try.checked) row_own started (by kernel_rfl) Try.func11
    (ChangeSpec.witness6 (enc := enc) (C := Try.checked) false ⟨#[], #[.slice none 0 0], []⟩ 8 (by kernel_rfl) (by kernel_rfl) (by kernel_rfl) (by kernel_rfl)) ?_
  intro W base args ds gs before hval0 hW hcnd _
  have hval : ∀ (j : Nat) t v, Try.f11.params[j]? = some t → args[j]? = some v → Value.okWide Try.prog W .any base t v := hval0
  have hW' := hW
  obtain ⟨p, q, hA0, hV, rfl, _, _⟩ := hW
  have hA : DataW.TrodAll enc Try.prog W 0 (fun _ => true) true Try.f11.params.toList args.toList ds p := hA0
  rw [Try.params11] at hA hval
  obtain ⟨v0, vs0, d0, ds0, p0, q0, hargs, rfl, rfl, h0, r0⟩ := trodAll_cons hA
  obtain ⟨rfl, rfl, rfl⟩ := trodAll_nil r0
  obtain rfl : args = #[v0] := by cases args; simp_all
  obtain ⟨rfl, rfl⟩ := trodVars_none hV
  have hlt0 : ∀ x ∈ p0, x.block < W.heap.size := fun x hx => by exact hW'.lt x (by simp [hx])
  obtain ⟨A0, n0, c0, rfl, hb0⟩ := open_bytes (hval 0 22 v0 rfl rfl) h0 hlt0
  clear hA0 hval0
  refine (fnOhms_walk A0 n0 c0 W hb0).mono fun e W' ⟨he, hb⟩ => ?_
  subst he
  exact ⟨_, rfl, _, _, _, [], _, [], hW', (trodAll_cons_mk (shut_bool Try.underlying4 _) trodAll_mk0), (trodAll_cons_mk (read_again_bytes h0 hlt0 hb) trodAll_mk0), rfl, hb.frame _, fun h => by cases h⟩

set_option maxRecDepth 100000 in
theorem fnOhms_closed : joinedFacts Try.prog 11 Try.f11 Rows.fnOhmsSpec Rows.fnOhmsRow = true := by
  unfold joinedFacts
  repeat' (with_reducible apply facAnd)
  all_goals first | (with_reducible exact facEnter) | (with_reducible exact facLaid) | (with_reducible exact facMaps) | (with_reducible exact facStops) | (with_reducible exact facKnobs) | (with_reducible exact facHeard) | (rw [facLifts]; as_aux_lemma => kernel_rfl) | (rw [facMake]; as_aux_lemma => kernel_rfl) | (as_aux_lemma => kernel_rfl)

/-- THE STATEMENT -/
theorem fnOhms_holds : Rows.FnOhmsSaid :=
  OpenClaim.holds_of_wide 11 Try.f11 rfl rfl rfl rfl rfl rfl rfl ⟨rfl, rfl, rfl, rfl, rfl⟩ rfl rfl rfl rfl rfl (by kernel_rfl) Try.func11 fnOhms_closed
    (of_decide_eq_true (by kernel_rfl)) (by unfold Func.isWrapper; first | (rw [if_pos (by decide +kernel)]; kernel_rfl) | (rw [if_neg (by decide +kernel)]; exact ⟨rfl, rfl⟩))
    (fun os started H enc _ => fnOhms_lifted os started H enc)
#print axioms fnOhms_holds
end Go.Proofs.Ytndpdoiomoefpaa
