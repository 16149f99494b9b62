/-
  The law FnSlack: slack is what is more. For all codes it answers true. No condition.
-/
import Derived.Test.YtndpdoiomoefpaaFac
import Derived.Test.YtndpdoiomoefpaaRowB
import Derived.Test.YtndpdoiomoefpaaLw
import Derived.Test.YtndpdoiomoefpaaSame
import Derived.Test.YtndpdoiomoefpaaDrw1
import Derived.Test.YtndpdoiomoefpaaFPaySlack
import Derived.Test.YtndpdoiomoefpaaFPayHangs
import Derived.Test.YtndpdoiomoefpaaFlK
import Derived.Test.YtndpdoiomoefpaaBackO
import Derived.Test.YtndpdoiomoefpaaSumO
namespace Go.Proofs.Ytndpdoiomoefpaa
open Go.ChangeShapes Go.WideShapes Go.ChangeAt Go.RowKit

set_option maxRecDepth 100000 in
set_option maxHeartbeats 4000000 in
theorem fnSlack_in (A0 : Option Addr) (n0 c0 : Nat) (w : World) (hl0 : n0 ≤ 1048576) (hc0 : n0 ≤ c0) (hb0 : Bytes w.heap.size w A0 n0) :
    Calls Try.prog 7 #[.slice A0 n0 c0] w (RetB (.bool true) w) := by
  have Hb := Lib.hid hb0
  clear hb0
  go_enter Try.func7, Try.ntmps7
  go_wp2_with fail
  refine (DrawPaySlack_c A0 n0 c0 _ (by omega) hc0 Hb.out).mono ?_
  rintro e w1 ⟨B, d, zs, Bp, dp, ps, rfl, hzl, hpl, hA, hP, hB⟩
  have Ha := Lib.hid hA
  have Hp := Lib.hid hP
  have Bt := Lib.hid hB
  clear hB Hb hA hP
  dsimp only
  go_wp2_with fail
  refine (implPaySlack_b B d zs Bp dp ps _ Ha.out Hp.out).mono ?_
  rintro e w2 ⟨rfl, hb2⟩
  replace Ha := Lib.hid (Ha.out.go hb2)
  replace Hp := Lib.hid (Hp.out.go hb2)
  replace Bt := Lib.hid (below_step Bt.out hb2)
  clear hb2
  dsimp only
  go_wp2_with fail
  refine (specPaySlack_b B d zs Bp dp ps _ Ha.out Hp.out).mono ?_
  rintro e w3 ⟨rfl, hb3⟩
  replace Ha := Lib.hid (Ha.out.go hb3)
  replace Hp := Lib.hid (Hp.out.go hb3)
  replace Bt := Lib.hid (below_step Bt.out hb3)
  clear hb3
  dsimp only
  cases hv : payB zs ps
  · rw [show paySlackI zs ps = -1 by unfold paySlackI; rw [hv]; rfl]
    clear hv
    go_wp2
    go_ret
    exact ⟨rfl, Bt.out⟩
  have hvv := (payB_true hv).1
  have vz := validB_true hvv
  have hz2 := vz.1
  have hz16 := vz.2.1
  have hsb := slack_bd hv
  have hsk := slack_back hv
  have hno := slack_all hv
  have hsm := pay_small hv
  have hsmb := hsm.sum
  have hlb := lenI_bd hvv (x := 0) (y := (zs.length : Int) - 1) (by omega) (by omega) (by omega)
  have HR0 := fun W h => implFloorBack_b B d zs W h
  rw [hvv, back_yes hvv] at HR0
  have HB0 := fun W h => backOf_c Bp dp ps W h
  have HK0 := fun A c A2 c2 W h h2 => implPaySlack_b A c zs.reverse A2 c2 ps.reverse W h h2
  rw [hsk] at HK0
  have HH0 := fun W h h2 => implPayHangs_b B d zs Bp dp ps W h h2
  have HS0 := fun W h => sumOf_c Bp dp ps W hsm h
  have HL0 := fun W h => implFloorLength_b B d zs 0 ((zs.length : Int) - 1) W h
  obtain ⟨R, hR⟩ : ∃ R, zs.reverse = R := ⟨_, rfl⟩
  obtain ⟨P, hP⟩ : ∃ P, ps.reverse = P := ⟨_, rfl⟩
  obtain ⟨G, hG⟩ : ∃ G, payHangsL zs ps = G := ⟨_, rfl⟩
  obtain ⟨s, hs⟩ : ∃ s, paySlackI zs ps = s := ⟨_, rfl⟩
  obtain ⟨t, ht⟩ : ∃ t, ps.sum = t := ⟨_, rfl⟩
  obtain ⟨v, hv2⟩ : ∃ v, floorLengthI zs 0 ((zs.length : Int) - 1) = v := ⟨_, rfl⟩
  rw [hR] at HR0 HK0
  rw [hP] at HB0 HK0
  rw [hG] at HH0 hno
  rw [hs] at HK0 hsb hno ⊢
  rw [ht] at HS0 hno hsmb
  rw [hv2] at HL0 hno hlb
  have HR := Lib.hid HR0
  have HB := Lib.hid HB0
  have HK := Lib.hid HK0
  have HH := Lib.hid HH0
  have HS := Lib.hid HS0
  have HL := Lib.hid HL0
  have g1 : ¬ s < 0 := by omega
  have q1 : IntKind.i64.wrap ((zs.length : Int) - 1) = (zs.length : Int) - 1 := IntWalk.i64_in _ (by omega)
  have q2 : IntKind.i64.wrap (t - v) = t - v := IntWalk.i64_in _ (by omega)
  have b1 : (s == s) = true := by simp
  have hg : (0 < G.length) ∨ (G.length = 0 ∧ s = t - v) := by
    rcases Nat.eq_zero_or_pos G.length with h | h
    · exact .inr ⟨h, hno (List.eq_nil_of_length_eq_zero h)⟩
    · exact .inl h
  clear HR0 HB0 HK0 HH0 HS0 HL0 hR hP hG hs ht hv2 hv hvv hsk hno hsm hsmb hlb hsb vz
  go_wp2_with fail
  refine (HR.out _ Ha.out).mono ?_
  rintro e w4 ⟨B3, d3, rfl, ra, _, hb4⟩
  replace Ha := Lib.hid (Ha.out.go hb4)
  replace Hp := Lib.hid (Hp.out.go hb4)
  replace Bt := Lib.hid (below_step Bt.out hb4)
  have H3 := Lib.hid ra
  clear ra hb4
  dsimp only [id]
  go_wp2_with fail
  refine (HB.out _ Hp.out).mono ?_
  rintro e w5 ⟨B4, d4, rfl, ra, _, hb5⟩
  replace Ha := Lib.hid (Ha.out.go hb5)
  replace Hp := Lib.hid (Hp.out.go hb5)
  replace H3 := Lib.hid (H3.out.go hb5)
  replace Bt := Lib.hid (below_step Bt.out hb5)
  have H4 := Lib.hid ra
  clear ra hb5
  dsimp only [id]
  go_wp2_with fail
  refine (HK.out _ _ _ _ _ H3.out H4.out).mono ?_
  rintro e w6 ⟨rfl, hb6⟩
  replace Ha := Lib.hid (Ha.out.go hb6)
  replace Hp := Lib.hid (Hp.out.go hb6)
  replace H3 := Lib.hid (H3.out.go hb6)
  replace H4 := Lib.hid (H4.out.go hb6)
  replace Bt := Lib.hid (below_step Bt.out hb6)
  clear hb6
  dsimp only
  go_wp2_with fail
  refine (HH.out _ Ha.out Hp.out).mono ?_
  rintro e w7 ⟨B5, d5, rfl, ra, _, hb7⟩
  replace Ha := Lib.hid (Ha.out.go hb7)
  replace Hp := Lib.hid (Hp.out.go hb7)
  replace H3 := Lib.hid (H3.out.go hb7)
  replace H4 := Lib.hid (H4.out.go hb7)
  replace Bt := Lib.hid (below_step Bt.out hb7)
  have H5 := Lib.hid ra
  clear ra hb7
  dsimp only [id]
  rcases hg with h | ⟨h, h2⟩
  · have d1 : decide ((0 : Int) < (G.length : Int)) = true := decide_eq_true (by omega)
    have d2 : (0 : Int) < (G.length : Int) := by omega
    have d3 : (G = []) = False := eq_false (fun e => by rw [e] at h; exact absurd h (by simp))
    go_wp2
    go_ret
    exact ⟨rfl, Bt.out⟩
  have d1 : decide ((0 : Int) < (G.length : Int)) = false := decide_eq_false (by omega)
  have d2 : ¬ (0 : Int) < (G.length : Int) := by omega
  have d3 : (G = []) = True := eq_true (List.eq_nil_of_length_eq_zero h)
  have b2 : (s == t - v) = true := beq_iff_eq.2 h2
  clear h h2
  go_wp2_with fail
  refine (HS.out _ Hp.out).mono ?_
  rintro e w9 ⟨rfl, rfl⟩
  go_wp2_with fail
  refine (HL.out _ Ha.out).mono ?_
  rintro e w8 ⟨rfl, hb8⟩
  replace Ha := Lib.hid (Ha.out.go hb8)
  replace Hp := Lib.hid (Hp.out.go hb8)
  replace H3 := Lib.hid (H3.out.go hb8)
  replace H4 := Lib.hid (H4.out.go hb8)
  replace H5 := Lib.hid (H5.out.go hb8)
  replace Bt := Lib.hid (below_step Bt.out hb8)
  clear hb8
  dsimp only
  go_wp2
  go_ret
  exact ⟨rfl, Bt.out⟩

set_option maxRecDepth 100000 in
theorem fnSlack_walk (A0 : Option Addr) (n0 c0 : Nat) (w : World) (hb0 : Byt0 w A0 n0 c0) :
    Calls Try.prog 7 #[.slice A0 n0 c0] w (RetB (.bool true) w) := by
  by_cases hl0 : 1048576 < n0
  · clear hb0
    go_enter Try.func7, Try.ntmps7
    go_wp2
    go_ret
    exact ⟨rfl, Below.refl _ _⟩
  exact fnSlack_in A0 n0 c0 w (by omega) hb0.1 hb0.2.2

set_option maxRecDepth 100000 in
theorem fnSlack_lifted (os : Os) (started : os.Started) (H : Type) (enc : TypeId × Value → H) :
    ReturnsInHanded {} Try.checked os 7 .any (Rows.fnSlackSpec.pre6 enc Try.prog Try.f7 Rows.fnSlackRow.domain false) (Rows.fnSlackSpec.post enc Try.prog Try.f7 false true false false) := by
  refine returnsInHanded_of_change (C := Try.checked) row_own started (by kernel_rfl) Try.func7
    (ChangeSpec.witness6 (enc := enc) (C := Try.checked) false ⟨#[], #[.slice none 0 0], []⟩ 8 (by kernel_rfl) (by kernel_rfl) (by kernel_rfl) (by kernel_rfl)) ?_
  intro W base args ds gs before hval0 hW hcnd _
  have hval : ∀ (j : Nat) t v, Try.f7.params[j]? = some t → args[j]? = some v → Value.okWide Try.prog W .any base t v := hval0
  have hW' := hW
  obtain ⟨p, q, hA0, hV, rfl, _, _⟩ := hW
  have hA : DataW.TrodAll enc Try.prog W 0 (fun _ => true) true Try.f7.params.toList args.toList ds p := hA0
  rw [Try.params7] at hA hval
  obtain ⟨v0, vs0, d0, ds0, p0, q0, hargs, rfl, rfl, h0, r0⟩ := trodAll_cons hA
  obtain ⟨rfl, rfl, rfl⟩ := trodAll_nil r0
  obtain rfl : args = #[v0] := by cases args; simp_all
  obtain ⟨rfl, rfl⟩ := trodVars_none hV
  have hlt0 : ∀ x ∈ p0, x.block < W.heap.size := fun x hx => by exact hW'.lt x (by simp [hx])
  obtain ⟨A0, n0, c0, rfl, hb0⟩ := open_bytes (hval 0 22 v0 rfl rfl) h0 hlt0
  clear hA0 hval0
  refine (fnSlack_walk A0 n0 c0 W hb0).mono fun e W' ⟨he, hb⟩ => ?_
  subst he
  exact ⟨_, rfl, _, _, _, [], _, [], hW', (trodAll_cons_mk (shut_bool Try.underlying4 _) trodAll_mk0), (trodAll_cons_mk (read_again_bytes h0 hlt0 hb) trodAll_mk0), rfl, hb.frame _, fun h => by cases h⟩

set_option maxRecDepth 100000 in
theorem fnSlack_closed : joinedFacts Try.prog 7 Try.f7 Rows.fnSlackSpec Rows.fnSlackRow = true := by
  unfold joinedFacts
  repeat' (with_reducible apply facAnd)
  all_goals first | (with_reducible exact facEnter) | (with_reducible exact facLaid) | (with_reducible exact facMaps) | (with_reducible exact facStops) | (with_reducible exact facKnobs) | (with_reducible exact facHeard) | (rw [facLifts]; as_aux_lemma => kernel_rfl) | (rw [facMake]; as_aux_lemma => kernel_rfl) | (as_aux_lemma => kernel_rfl)

/-- THE STATEMENT -/
theorem fnSlack_holds : Rows.FnSlackSaid :=
  OpenClaim.holds_of_wide 7 Try.f7 rfl rfl rfl rfl rfl rfl rfl ⟨rfl, rfl, rfl, rfl, rfl⟩ rfl rfl rfl rfl rfl (by kernel_rfl) Try.func7 fnSlack_closed
    (of_decide_eq_true (by kernel_rfl)) (by unfold Func.isWrapper; first | (rw [if_pos (by decide +kernel)]; kernel_rfl) | (rw [if_neg (by decide +kernel)]; exact ⟨rfl, rfl⟩))
    (fun os started H enc _ => fnSlack_lifted os started H enc)
#print axioms fnSlack_holds
end Go.Proofs.Ytndpdoiomoefpaa
