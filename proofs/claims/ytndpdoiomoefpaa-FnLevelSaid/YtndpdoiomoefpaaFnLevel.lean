/-
  The law FnLevel: the level is just enough. For all codes it answers true. No condition.
-/
import Derived.Test.YtndpdoiomoefpaaFac
import Derived.Test.YtndpdoiomoefpaaRowB
import Derived.Test.YtndpdoiomoefpaaLw
import Derived.Test.YtndpdoiomoefpaaSame
import Derived.Test.YtndpdoiomoefpaaDrw1
import Derived.Test.YtndpdoiomoefpaaSteep
import Derived.Test.YtndpdoiomoefpaaFPayLevel
import Derived.Test.YtndpdoiomoefpaaFPayHangs
import Derived.Test.YtndpdoiomoefpaaFlK
import Derived.Test.YtndpdoiomoefpaaStkA0
namespace Go.Proofs.Ytndpdoiomoefpaa
open Go.ChangeShapes Go.WideShapes Go.ChangeAt Go.RowKit

set_option maxRecDepth 100000 in
set_option maxHeartbeats 4000000 in
theorem fnLevel_in (A0 : Option Addr) (n0 c0 : Nat) (w : World) (hl0 : n0 ≤ 1048576) (hc0 : n0 ≤ c0) (hb0 : Bytes w.heap.size w A0 n0) :
    Calls Try.prog 8 #[.slice A0 n0 c0] w (RetB (.bool true) w) := by
  have Hb := Lib.hid hb0
  clear hb0
  go_enter Try.func8, Try.ntmps8
  go_wp2_with fail
  refine (DrawPayLevel_c A0 n0 c0 _ (by omega) hc0 Hb.out).mono ?_
  rintro e w1 ⟨B, d, zs, rfl, hzl, hA, _, hB⟩
  have Ha := Lib.hid hA
  have Bt := Lib.hid hB
  clear hB Hb hA
  dsimp only
  go_wp2_with fail
  refine (implPayLevel_b B d zs _ Ha.out).mono ?_
  rintro e w2 ⟨rfl, hb2⟩
  replace Ha := Lib.hid (Ha.out.go hb2)
  replace Bt := Lib.hid (below_step Bt.out hb2)
  clear hb2
  dsimp only
  go_wp2_with fail
  refine (specPayLevel_b B d zs _ Ha.out).mono ?_
  rintro e w3 ⟨rfl, hb3⟩
  replace Ha := Lib.hid (Ha.out.go hb3)
  replace Bt := Lib.hid (below_step Bt.out hb3)
  clear hb3
  dsimp only
  obtain ⟨i0, hi, hz0, hz1, hz2⟩ := info_parts int_info
  cases hv : validB zs
  · rw [show levelI zs = -1 by unfold levelI; rw [hv]; rfl]
    clear hv
    go_wp2
    go_ret
    exact ⟨rfl, Bt.out⟩
  have vz := validB_true hv
  have hz2' := vz.1
  have hz16 := vz.2.1
  obtain ⟨v0, v1, _, _⟩ := level_facts hv
  obtain ⟨e1, e2, e3⟩ := level_enough hv
  obtain ⟨N, hN⟩ : ∃ N, zs.length - 1 = N := ⟨_, rfl⟩
  rw [hN] at e1 e2 e3
  have hN1 : N + 1 = zs.length := by omega
  obtain ⟨x, hx⟩ : ∃ x, levelI zs = x := ⟨_, rfl⟩
  rw [hx] at e1 e2 e3 v0 v1 ⊢
  obtain ⟨U, hU⟩ : ∃ U, List.replicate N x = U := ⟨_, rfl⟩
  obtain ⟨U2, hU2⟩ : ∃ U2, List.replicate N (x - 1) = U2 := ⟨_, rfl⟩
  rw [hU] at e1 e2
  rw [hU2] at e3
  have HV0 := fun A c W h h2 => implPayValid_b B d zs A c U W h h2
  rw [e1] at HV0
  have HH0 := fun A c W h h2 => implPayHangs_b B d zs A c U W h h2
  rw [e2] at HH0
  have HG0 := fun A c W h h2 => implPayHangs_b B d zs A c U2 W h h2
  obtain ⟨G, hG⟩ : ∃ G, payHangsL zs U2 = G := ⟨_, rfl⟩
  rw [hG] at HG0 e3
  have HV := Lib.hid HV0
  have HH := Lib.hid HH0
  have HG := Lib.hid HG0
  have g1 : ¬ x < 0 := by omega
  have q1 : IntKind.i64.wrap (x - 1) = x - 1 := IntWalk.i64_in _ (by omega)
  have HR := Lib.hid (fun (k : Nat) (y : Int) => (List.replicate_succ' (n := k) (a := y)))
  have HU := Lib.hid hU
  have HU2 := Lib.hid hU2
  have HUl := Lib.hid (show U.length = N by rw [← hU, List.length_replicate])
  have HUl2 := Lib.hid (show U2.length = N by rw [← hU2, List.length_replicate])
  clear HV0 HH0 HG0 e1 e2 hx hG hN vz hU hU2 hv
  go_wp2
  go_loopw [6, 7, 8] (fun o o2 i wr => ∃ (k : Nat) (v v2 : Value), k ≤ N ∧ i = .int .i64 ((k : Int) + 1) ∧ v = o ∧ v2 = o2 ∧ w3.heap.size ≤ wr.heap.size ∧ wr.ownsRow w3.heap.size 3 1 v k ((List.replicate k x).map (Value.int .i64)) ∧ wr.ownsRow w3.heap.size 3 1 v2 k ((List.replicate k (x - 1)).map (Value.int .i64)) ∧ Apart v v2 ∧ Below w3.heap.size w3 wr) (fun _ _ i _ => N + 1 - (intOf i).toNat)
  case atStart => exact ⟨0, _, _, Nat.zero_le _, rfl, rfl, rfl, by simp; omega, (World.ownsRow_made w3 #[] 0 (Nat.le_refl _) (Nat.zero_le _) rfl).alloc _, own_fresh2 w3 3, fun g e e2 => by simp [Value.ownBlock] at e e2; omega, ((Below.refl _ _).alloc (Nat.le_refl _) _).alloc (by simp) _⟩
  case round =>
    obtain ⟨k, v, v2, hk, rfl, rfl, rfl, hsz, hok, hok2, hap, hbk⟩ := hrel
    have Hok := Lib.hid hok
    have Hok2 := Lib.hid hok2
    have Hap := Lib.hid hap
    have Hbk := Lib.hid hbk
    clear hok hok2 hap hbk
    by_cases hlt : k < N
    · have g2 : (k : Int) + 1 < (zs.length : Int) := by omega
      have e1 : ((k + 1 : Nat) : Int) = (k : Int) + 1 := by omega
      have q2 : IntKind.i64.wrap ((k : Int) + 1 + 1) = (k : Int) + 1 + 1 := IntWalk.i64_in _ (by omega)
      have R1 := Lib.hid (HR.out k x)
      have R2 := Lib.hid (HR.out k (x - 1))
      go_wp2_with (first | (at_builtin; refine wpList_append_new _ rfl _ _ 23 rfl w3.heap.size 3 i0 (.int .i64 0) 1 8 Try.underlying23 hi hz0 hz1 hz2 rfl (by decide) v k _ rfl (Hok.out.alloc _) ⟨wr.heap.size, 0, none⟩ 1 1 [.int .i64 (x)] rfl rfl (one_new _ _ _) (by simp [Value.oneCell']) (by unfold maxLen; omega) (by omega) (by have := Hbk.out.size; simp; omega) ?_; intro v' wa hown3 hg3 hn3; have hga := grown_then (grown_alloc (World.grownBy.refl wr _) _) hg3; have Hown3 := Lib.hid hown3; have Hsv2 := Lib.hid (Hok2.out.kept hga Hap.out.row); have Hap3 := Lib.hid (Hap.out.step (fun g e => by have := (Hok2.out.lt g e).2; simp; omega) hn3); have Hb3 := Lib.hid (Hbk.out.grown hga Hbk.out.size (fun r e => (Hok.out.lt r e).1)); clear hown3 hg3 hn3 hga) | (at_builtin; refine wpList_append_new _ rfl _ _ 23 rfl w3.heap.size 3 i0 (.int .i64 0) 1 8 Try.underlying23 hi hz0 hz1 hz2 rfl (by decide) v2 k _ rfl (Hsv2.out.alloc _) ⟨wa.heap.size, 0, none⟩ 1 1 [.int .i64 (x - 1)] rfl rfl (one_new _ _ _) (by simp [Value.oneCell']) (by unfold maxLen; omega) (by omega) (by have := Hb3.out.size; simp; omega) ?_; intro v4 wb hown4 hg4 hn4; have hga := grown_then (grown_alloc (World.grownBy.refl wa _) _) hg4; have Hown4 := Lib.hid hown4; have Hown5 := Lib.hid (Hown3.out.kept hga Hap3.out.swap.row); have Hap4 := Lib.hid ((Hap3.out.swap.step (fun g e => by have := (Hown3.out.lt g e).2; simp; omega) hn4).swap); have Hb4 := Lib.hid (Hb3.out.grown hga Hb3.out.size (fun r e => (Hsv2.out.lt r e).1)); clear hown4 hg4 hn4 hga))
      exact ⟨⟨k + 1, v', v4, by omega, by rw [e1], rfl, rfl, by have := Hb4.out.size; omega, by rw [R1.out, List.map_append]; exact Hown5.out, by rw [R2.out, List.map_append]; exact Hown4.out, Hap4.out, Hb4.out⟩, by simp only [intOf]; omega⟩
    · obtain rfl : k = N := by omega
      have g2 : ¬ (k : Int) + 1 < (zs.length : Int) := by omega
      rw [HU.out] at Hok
      rw [HU2.out] at Hok2
      have HO := Ow.of_own (zs := U) (by rw [HUl.out]; exact Hok.out)
      have HO2 := Ow.of_own (zs := U2) (by rw [HUl2.out]; exact Hok2.out)
      obtain ⟨A3, c3, rfl, _, _, _⟩ := HO.form
      obtain ⟨A4, c4, rfl, _, _, _⟩ := HO2.form
      have K3 := Lib.hid (HO.arg (by rw [HUl.out]; omega) (Nat.le_refl _))
      have K4 := Lib.hid (HO2.arg (by rw [HUl2.out]; omega) (Nat.le_refl _))
      replace Ha := Lib.hid (Ha.out.go Hbk.out)
      replace Bt := Lib.hid (below_step Bt.out Hbk.out)
      have d2 : decide ((0 : Int) < (G.length : Int)) = true := decide_eq_true e3
      have d4 : decide (0 < G.length) = true := decide_eq_true (by omega)
      have d3 : (G = []) = False := eq_false (fun e => by rw [e] at e3; exact absurd e3 (by simp))
      clear HO HO2 Hok Hok2 Hap Hbk hsz
      go_wp2_with fail
      refine (HV.out _ _ _ Ha.out K3.out).mono ?_
      rintro e w4 ⟨rfl, hb4⟩
      replace Ha := Lib.hid (Ha.out.go hb4)
      replace K3 := Lib.hid (K3.out.go hb4)
      replace K4 := Lib.hid (K4.out.go hb4)
      replace Bt := Lib.hid (below_step Bt.out hb4)
      clear hb4
      dsimp only
      go_wp2_with fail
      refine (HH.out _ _ _ Ha.out K3.out).mono ?_
      rintro e w5 ⟨B5, d5, rfl, ra, _, hb5⟩
      replace Ha := Lib.hid (Ha.out.go hb5)
      replace K3 := Lib.hid (K3.out.go hb5)
      replace K4 := Lib.hid (K4.out.go hb5)
      replace Bt := Lib.hid (below_step Bt.out hb5)
      have H5 := Lib.hid ra
      clear ra hb5
      dsimp only [id]
      go_wp2_with fail
      refine (HG.out _ _ _ Ha.out K4.out).mono ?_
      rintro e w6 ⟨B6, d6, rfl, ra, _, hb6⟩
      replace Ha := Lib.hid (Ha.out.go hb6)
      replace K3 := Lib.hid (K3.out.go hb6)
      replace K4 := Lib.hid (K4.out.go hb6)
      replace H5 := Lib.hid (H5.out.go hb6)
      replace Bt := Lib.hid (below_step Bt.out hb6)
      have H6 := Lib.hid ra
      clear ra hb6
      dsimp only [id]
      go_wp2
      go_ret
      exact ⟨rfl, Bt.out⟩

set_option maxRecDepth 100000 in
theorem fnLevel_walk (A0 : Option Addr) (n0 c0 : Nat) (w : World) (hb0 : Byt0 w A0 n0 c0) :
    Calls Try.prog 8 #[.slice A0 n0 c0] w (RetB (.bool true) w) := by
  by_cases hl0 : 1048576 < n0
  · clear hb0
    go_enter Try.func8, Try.ntmps8
    go_wp2
    go_ret
    exact ⟨rfl, Below.refl _ _⟩
  exact fnLevel_in A0 n0 c0 w (by omega) hb0.1 hb0.2.2

set_option maxRecDepth 100000 in
theorem fnLevel_lifted (os : Os) (started : os.Started) (H : Type) (enc : TypeId × Value → H) :
    ReturnsInHanded {} Try.checked os 8 .any (Rows.fnLevelSpec.pre6 enc Try.prog Try.f8 Rows.fnLevelRow.domain false) (Rows.fnLevelSpec.post enc Try.prog Try.f8 false true false false) := by
  refine returnsInHanded_of_change (C := Try.checked) row_own started (by kernel_rfl) Try.func8
    (ChangeSpec.witness6 (enc := enc) (C := Try.checked) false ⟨#[], #[.slice none 0 0], []⟩ 8 (by kernel_rfl) (by kernel_rfl) (by kernel_rfl) (by kernel_rfl)) ?_
  intro W base args ds gs before hval0 hW hcnd _
  have hval : ∀ (j : Nat) t v, Try.f8.params[j]? = some t → args[j]? = some v → Value.okWide Try.prog W .any base t v := hval0
  have hW' := hW
  obtain ⟨p, q, hA0, hV, rfl, _, _⟩ := hW
  have hA : DataW.TrodAll enc Try.prog W 0 (fun _ => true) true Try.f8.params.toList args.toList ds p := hA0
  rw [Try.params8] at hA hval
  obtain ⟨v0, vs0, d0, ds0, p0, q0, hargs, rfl, rfl, h0, r0⟩ := trodAll_cons hA
  obtain ⟨rfl, rfl, rfl⟩ := trodAll_nil r0
  obtain rfl : args = #[v0] := by cases args; simp_all
  obtain ⟨rfl, rfl⟩ := trodVars_none hV
  have hlt0 : ∀ x ∈ p0, x.block < W.heap.size := fun x hx => by exact hW'.lt x (by simp [hx])
  obtain ⟨A0, n0, c0, rfl, hb0⟩ := open_bytes (hval 0 22 v0 rfl rfl) h0 hlt0
  clear hA0 hval0
  refine (fnLevel_walk A0 n0 c0 W hb0).mono fun e W' ⟨he, hb⟩ => ?_
  subst he
  exact ⟨_, rfl, _, _, _, [], _, [], hW', (trodAll_cons_mk (shut_bool Try.underlying4 _) trodAll_mk0), (trodAll_cons_mk (read_again_bytes h0 hlt0 hb) trodAll_mk0), rfl, hb.frame _, fun h => by cases h⟩

set_option maxRecDepth 100000 in
theorem fnLevel_closed : joinedFacts Try.prog 8 Try.f8 Rows.fnLevelSpec Rows.fnLevelRow = true := by
  unfold joinedFacts
  repeat' (with_reducible apply facAnd)
  all_goals first | (with_reducible exact facEnter) | (with_reducible exact facLaid) | (with_reducible exact facMaps) | (with_reducible exact facStops) | (with_reducible exact facKnobs) | (with_reducible exact facHeard) | (rw [facLifts]; as_aux_lemma => kernel_rfl) | (rw [facMake]; as_aux_lemma => kernel_rfl) | (as_aux_lemma => kernel_rfl)

/-- THE STATEMENT -/
theorem fnLevel_holds : Rows.FnLevelSaid :=
  OpenClaim.holds_of_wide 8 Try.f8 rfl rfl rfl rfl rfl rfl rfl ⟨rfl, rfl, rfl, rfl, rfl⟩ rfl rfl rfl rfl rfl (by kernel_rfl) Try.func8 fnLevel_closed
    (of_decide_eq_true (by kernel_rfl)) (by unfold Func.isWrapper; first | (rw [if_pos (by decide +kernel)]; kernel_rfl) | (rw [if_neg (by decide +kernel)]; exact ⟨rfl, rfl⟩))
    (fun os started H enc _ => fnLevel_lifted os started H enc)
#print axioms fnLevel_holds
end Go.Proofs.Ytndpdoiomoefpaa
