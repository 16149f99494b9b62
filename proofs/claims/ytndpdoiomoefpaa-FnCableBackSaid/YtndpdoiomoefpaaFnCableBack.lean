/-
  The law FnCableBack: a cable has two ends. For all codes it answers true. No condition.
-/
import Derived.Test.YtndpdoiomoefpaaFac
import Derived.Test.YtndpdoiomoefpaaRowB
import Derived.Test.YtndpdoiomoefpaaLw
import Derived.Test.YtndpdoiomoefpaaCabM
import Derived.Test.YtndpdoiomoefpaaDrw2
import Derived.Test.YtndpdoiomoefpaaCBack
import Derived.Test.YtndpdoiomoefpaaCBackI
import Derived.Test.YtndpdoiomoefpaaCPlain
import Derived.Test.YtndpdoiomoefpaaSameC
namespace Go.Proofs.Ytndpdoiomoefpaa
open Go.ChangeShapes Go.WideShapes Go.ChangeAt Go.RowKit

set_option maxRecDepth 100000 in
set_option maxHeartbeats 4000000 in
theorem fnCableBack_in (A0 : Option Addr) (n0 c0 : Nat) (w : World) (hl0 : n0 ≤ 1048576) (hc0 : n0 ≤ c0) (hb0 : Bytes w.heap.size w A0 n0) :
    Calls Try.prog 18 #[.slice A0 n0 c0] w (RetB (.bool true) w) := by
  have Hb := Lib.hid hb0
  clear hb0
  go_enter Try.func18, Try.ntmps18
  go_wp2_with fail
  refine (DrawCableBack_c A0 n0 c0 _ (by omega) hc0 Hb.out).mono ?_
  rintro e w1 ⟨B, d, zs, rfl, hzl, hA, hB⟩
  have Ha := Lib.hid hA
  have Bt := Lib.hid hB
  clear hB Hb hA
  dsimp only
  go_wp2_with fail
  refine (implCableBack_b B d zs _ Ha.out).mono ?_
  rintro e w2 ⟨B1, d1, rfl, ra, _, hb2⟩
  replace Ha := Lib.hid (Ha.out.go hb2)
  replace Bt := Lib.hid (below_step Bt.out hb2)
  have H1 := Lib.hid ra
  clear ra hb2
  dsimp only [id]
  go_wp2_with fail
  refine (specCableBack_b B d zs _ Ha.out).mono ?_
  rintro e w3 ⟨B2, d2, rfl, ra, _, hb3⟩
  replace Ha := Lib.hid (Ha.out.go hb3)
  replace H1 := Lib.hid (H1.out.go hb3)
  replace Bt := Lib.hid (below_step Bt.out hb3)
  have H2 := Lib.hid ra
  clear ra hb3
  dsimp only [id]
  cases hv : cabB zs
  · clear hv
    go_wp2_with fail
    refine (sameSections_c _ _ _ _ _ _ _ H1.out H2.out).mono ?_
    rintro e w4 ⟨rfl, hb4⟩
    rw [decide_eq_true rfl]
    replace Ha := Lib.hid (Ha.out.go hb4)
    replace H1 := Lib.hid (H1.out.go hb4)
    replace H2 := Lib.hid (H2.out.go hb4)
    replace Bt := Lib.hid (below_step Bt.out hb4)
    clear hb4
    go_wp2_with fail
    refine (sameSections_c _ _ _ _ _ _ _ H1.out H2.out).mono ?_
    rintro e w5 ⟨rfl, hb5⟩
    rw [decide_eq_true rfl]
    replace Ha := Lib.hid (Ha.out.go hb5)
    replace H1 := Lib.hid (H1.out.go hb5)
    replace H2 := Lib.hid (H2.out.go hb5)
    replace Bt := Lib.hid (below_step Bt.out hb5)
    clear hb5
    go_wp2
    go_ret
    exact ⟨rfl, Bt.out⟩
  go_wp2_with fail
  refine (sameSections_c _ _ _ _ _ _ _ H1.out H2.out).mono ?_
  rintro e w6 ⟨rfl, hb6⟩
  rw [decide_eq_true rfl]
  replace Ha := Lib.hid (Ha.out.go hb6)
  replace H1 := Lib.hid (H1.out.go hb6)
  replace H2 := Lib.hid (H2.out.go hb6)
  replace Bt := Lib.hid (below_step Bt.out hb6)
  clear hb6
  clear H2
  obtain ⟨e1, e2⟩ := back_back hv
  have hcb := cab_back hv
  have hpb := back_plain hv
  have hqq : cabB (plainX zs.reverse) = cabB (plainX zs) := by rw [hpb, cabB_reverse]
  have hb := fun h => back_back (ss := plainX zs) h
  have hcl := fun (h : cabB (plainX zs) = true) => cabL_yes h
  have hcr := fun (h : cabB (plainX zs) = true) => cabL_yes (hqq.trans h)
  rw [hpb] at hcr
  rw [e1] at H1 ⊢
  have HX0 := fun W h => implCableBack_b B1 d1 zs.reverse W h
  rw [e2, hcb] at HX0
  have HP0 := fun W h => implCablePlain_b B d zs W h
  have HQ0 := fun W h => implCablePlain_b B1 d1 zs.reverse W h
  rw [hqq, hpb] at HQ0
  have HT0 := fun A c W h => implCableBack_b A c (cabL (plainX zs)) W h
  have hbl : cabB (plainX zs) = true → backL (cabL (plainX zs)) = cabL (plainX zs).reverse ∧ cabB (cabL (plainX zs)) = true := fun h => by
    rw [hcl h, hcr h, (hb h).1]
    exact ⟨rfl, h⟩
  have hbn : cabB (plainX zs) = false → cabL (plainX zs) = [] := fun h => cabL_no h
  obtain ⟨q, hq⟩ : ∃ q, cabB (plainX zs) = q := ⟨_, rfl⟩
  rw [hq] at HP0 HQ0 hbl hbn
  obtain ⟨P, hP⟩ : ∃ P, cabL (plainX zs) = P := ⟨_, rfl⟩
  obtain ⟨Q, hQ⟩ : ∃ Q, cabL (plainX zs).reverse = Q := ⟨_, rfl⟩
  rw [hP] at HP0 HT0 hbl hbn
  rw [hQ] at HQ0 hbl
  obtain ⟨K, hK⟩ : ∃ K, zs.reverse = K := ⟨_, rfl⟩
  rw [hK] at HX0 HQ0 H1 ⊢
  obtain ⟨tb, htb⟩ : ∃ tb, cabB P = tb := ⟨_, rfl⟩
  obtain ⟨C, hC⟩ : ∃ C, backL P = C := ⟨_, rfl⟩
  rw [htb, hC] at HT0 hbl
  have b1 : (q == q) = true := by simp
  have HX := Lib.hid HX0
  have HP := Lib.hid HP0
  have HQ := Lib.hid HQ0
  have HT := Lib.hid HT0
  have Hbl := Lib.hid hbl
  clear HX0 HP0 HQ0 HT0 hbl hbn hq hP hQ hK htb hC e1 e2 hcb hpb hqq hb hcl hcr hv
  go_wp2_with fail
  refine (HX.out _ H1.out).mono ?_
  rintro e w7 ⟨B3, d3, rfl, ra, _, hb7⟩
  replace Ha := Lib.hid (Ha.out.go hb7)
  replace H1 := Lib.hid (H1.out.go hb7)
  replace Bt := Lib.hid (below_step Bt.out hb7)
  have H3 := Lib.hid ra
  clear ra hb7
  dsimp only [id]
  go_wp2_with fail
  refine (HP.out _ Ha.out).mono ?_
  rintro e w8 ⟨B4, d4, rfl, ra, _, hb8⟩
  replace Ha := Lib.hid (Ha.out.go hb8)
  replace H1 := Lib.hid (H1.out.go hb8)
  replace H3 := Lib.hid (H3.out.go hb8)
  replace Bt := Lib.hid (below_step Bt.out hb8)
  have H4 := Lib.hid ra
  clear ra hb8
  dsimp only [id]
  go_wp2_with fail
  refine (HQ.out _ H1.out).mono ?_
  rintro e w9 ⟨B5, d5, rfl, ra, _, hb9⟩
  replace Ha := Lib.hid (Ha.out.go hb9)
  replace H1 := Lib.hid (H1.out.go hb9)
  replace H3 := Lib.hid (H3.out.go hb9)
  replace H4 := Lib.hid (H4.out.go hb9)
  replace Bt := Lib.hid (below_step Bt.out hb9)
  have H5 := Lib.hid ra
  clear ra hb9
  dsimp only [id]
  go_wp2_with fail
  refine (HT.out _ _ _ H4.out).mono ?_
  rintro e w10 ⟨B6, d6, rfl, ra, _, hb10⟩
  replace Ha := Lib.hid (Ha.out.go hb10)
  replace H1 := Lib.hid (H1.out.go hb10)
  replace H3 := Lib.hid (H3.out.go hb10)
  replace H4 := Lib.hid (H4.out.go hb10)
  replace H5 := Lib.hid (H5.out.go hb10)
  replace Bt := Lib.hid (below_step Bt.out hb10)
  have H6 := Lib.hid ra
  clear ra hb10
  dsimp only [id]
  go_wp2_with fail
  refine (sameSections_c _ _ _ _ _ _ _ H3.out Ha.out).mono ?_
  rintro e w11 ⟨rfl, hb11⟩
  rw [decide_eq_true rfl]
  replace Ha := Lib.hid (Ha.out.go hb11)
  replace H1 := Lib.hid (H1.out.go hb11)
  replace H3 := Lib.hid (H3.out.go hb11)
  replace H4 := Lib.hid (H4.out.go hb11)
  replace H5 := Lib.hid (H5.out.go hb11)
  replace H6 := Lib.hid (H6.out.go hb11)
  replace Bt := Lib.hid (below_step Bt.out hb11)
  clear hb11
  cases q
  · clear Hbl
    go_wp2
    go_ret
    exact ⟨rfl, Bt.out⟩
  · obtain ⟨hb1, hb2⟩ := Hbl.out rfl
    have Hb1 := Lib.hid hb1
    clear hb1
    subst hb2
    clear Hbl
    go_wp2_with fail
    refine (sameSections_c _ _ _ _ _ _ _ H6.out H5.out).mono ?_
    rintro e w12 ⟨rfl, hb12⟩
    rw [decide_eq_true Hb1.out]
    replace Ha := Lib.hid (Ha.out.go hb12)
    replace H1 := Lib.hid (H1.out.go hb12)
    replace H3 := Lib.hid (H3.out.go hb12)
    replace H4 := Lib.hid (H4.out.go hb12)
    replace H5 := Lib.hid (H5.out.go hb12)
    replace H6 := Lib.hid (H6.out.go hb12)
    replace Bt := Lib.hid (below_step Bt.out hb12)
    clear hb12
    go_wp2
    go_ret
    exact ⟨rfl, Bt.out⟩

set_option maxRecDepth 100000 in
theorem fnCableBack_walk (A0 : Option Addr) (n0 c0 : Nat) (w : World) (hb0 : Byt0 w A0 n0 c0) :
    Calls Try.prog 18 #[.slice A0 n0 c0] w (RetB (.bool true) w) := by
  by_cases hl0 : 1048576 < n0
  · clear hb0
    go_enter Try.func18, Try.ntmps18
    go_wp2
    go_ret
    exact ⟨rfl, Below.refl _ _⟩
  exact fnCableBack_in A0 n0 c0 w (by omega) hb0.1 hb0.2.2

set_option maxRecDepth 100000 in
theorem fnCableBack_lifted (os : Os) (started : os.Started) (H : Type) (enc : TypeId × Value → H) :
    ReturnsInHanded {} Try.checked os 18 .any (Rows.fnCableBackSpec.pre6 enc Try.prog Try.f18 Rows.fnCableBackRow.domain false) (Rows.fnCableBackSpec.post enc Try.prog Try.f18 false true false false) := by
  refine returnsInHanded_of_change (C := Try.checked) row_own started (by kernel_rfl) Try.func18
    (ChangeSpec.witness6 (enc := enc) (C := Try.checked) false ⟨#[], #[.slice none 0 0], []⟩ 8 (by kernel_rfl) (by kernel_rfl) (by kernel_rfl) (by kernel_rfl)) ?_
  intro W base args ds gs before hval0 hW hcnd _
  have hval : ∀ (j : Nat) t v, Try.f18.params[j]? = some t → args[j]? = some v → Value.okWide Try.prog W .any base t v := hval0
  have hW' := hW
  obtain ⟨p, q, hA0, hV, rfl, _, _⟩ := hW
  have hA : DataW.TrodAll enc Try.prog W 0 (fun _ => true) true Try.f18.params.toList args.toList ds p := hA0
  rw [Try.params18] at hA hval
  obtain ⟨v0, vs0, d0, ds0, p0, q0, hargs, rfl, rfl, h0, r0⟩ := trodAll_cons hA
  obtain ⟨rfl, rfl, rfl⟩ := trodAll_nil r0
  obtain rfl : args = #[v0] := by cases args; simp_all
  obtain ⟨rfl, rfl⟩ := trodVars_none hV
  have hlt0 : ∀ x ∈ p0, x.block < W.heap.size := fun x hx => by exact hW'.lt x (by simp [hx])
  obtain ⟨A0, n0, c0, rfl, hb0⟩ := open_bytes (hval 0 22 v0 rfl rfl) h0 hlt0
  clear hA0 hval0
  refine (fnCableBack_walk A0 n0 c0 W hb0).mono fun e W' ⟨he, hb⟩ => ?_
  subst he
  exact ⟨_, rfl, _, _, _, [], _, [], hW', (trodAll_cons_mk (shut_bool Try.underlying4 _) trodAll_mk0), (trodAll_cons_mk (read_again_bytes h0 hlt0 hb) trodAll_mk0), rfl, hb.frame _, fun h => by cases h⟩

set_option maxRecDepth 100000 in
theorem fnCableBack_closed : joinedFacts Try.prog 18 Try.f18 Rows.fnCableBackSpec Rows.fnCableBackRow = true := by
  unfold joinedFacts
  repeat' (with_reducible apply facAnd)
  all_goals first | (with_reducible exact facEnter) | (with_reducible exact facLaid) | (with_reducible exact facMaps) | (with_reducible exact facStops) | (with_reducible exact facKnobs) | (with_reducible exact facHeard) | (rw [facLifts]; as_aux_lemma => kernel_rfl) | (rw [facMake]; as_aux_lemma => kernel_rfl) | (as_aux_lemma => kernel_rfl)

/-- THE STATEMENT -/
theorem fnCableBack_holds : Rows.FnCableBackSaid :=
  OpenClaim.holds_of_wide 18 Try.f18 rfl rfl rfl rfl rfl rfl rfl ⟨rfl, rfl, rfl, rfl, rfl⟩ rfl rfl rfl rfl rfl (by kernel_rfl) Try.func18 fnCableBack_closed
    (of_decide_eq_true (by kernel_rfl)) (by unfold Func.isWrapper; first | (rw [if_pos (by decide +kernel)]; kernel_rfl) | (rw [if_neg (by decide +kernel)]; exact ⟨rfl, rfl⟩))
    (fun os started H enc _ => fnCableBack_lifted os started H enc)
#print axioms fnCableBack_holds
end Go.Proofs.Ytndpdoiomoefpaa
