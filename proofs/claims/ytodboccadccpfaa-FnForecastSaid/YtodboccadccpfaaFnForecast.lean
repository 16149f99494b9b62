/-
  The law FnForecast: parts of a forecast are forecasts. For all codes it answers true. No condition.
-/
import Derived.Test.YtodboccadccpfaaFac
import Derived.Test.YtodboccadccpfaaRowB
import Derived.Test.YtodboccadccpfaaLw
import Derived.Test.YtodboccadccpfaaFcP
import Derived.Test.YtodboccadccpfaaFcB
namespace Go.Proofs.Ytodboccadccpfaa
open Go.ChangeShapes Go.WideShapes Go.ChangeAt Go.RowKit

set_option maxRecDepth 100000 in
set_option maxHeartbeats 1600000 in
theorem fnForecast_in (A0 : Option Addr) (n0 c0 : Nat) (A1 : Option Addr) (n1 c1 : Nat) (w : World) (hl0 : n0 ≤ 1048576) (hc0 : n0 ≤ c0) (hb0 : Bytes w.heap.size w A0 n0) (hl1 : n1 ≤ 1048576) (_ : n1 ≤ c1) (_ : Bytes w.heap.size w A1 n1) :
    Calls Try.prog 3 #[.slice A0 n0 c0, .slice A1 n1 c1] w (RetB (.bool true) w) := by
  have Hb := Lib.hid hb0
  clear hb0
  have u0 : decide ((1048576 : Int) < (n0 : Int)) = false := by simp; omega
  have u1 : decide ((1048576 : Int) < (n1 : Int)) = false := by simp; omega
  go_enter Try.func3, Try.ntmps3
  go_wp2_with fail
  refine (DrawForecastValid_c A0 n0 c0 _ (by omega) hc0 Hb.out).mono ?_
  rintro e w1 ⟨s, rfl, hs, hB⟩
  have Bt := Lib.hid hB
  clear hB Hb 
  dsimp only
  go_wp2_with fail
  refine (implForecastValid_b s _ (by omega)).mono ?_
  rintro e w2 ⟨rfl, hb2⟩
  replace Bt := Lib.hid (below_step Bt.out hb2)
  clear hb2
  dsimp only
  go_wp2_with fail
  refine (specForecastValid_b s _ (by omega)).mono ?_
  rintro e w3 ⟨rfl, hb3⟩
  replace Bt := Lib.hid (below_step Bt.out hb3)
  clear hb3
  dsimp only
  cases hv : fcB (byL s)
  · clear hv
    go_wp2
    go_ret
    exact ⟨rfl, Bt.out⟩
  have z2 : ((s.size : Int) + 1 = 0) = False := eq_false (by omega)
  have z3 : ((s.size : Int) + 1 == 0) = false := beq_eq_false_iff_ne.2 (by omega)
  have q3 : IntKind.i64.wrap ((s.size : Int) + 1) = (s.size : Int) + 1 := IntWalk.i64_in _ (by omega)
  obtain ⟨k, hk⟩ : ∃ k, n1 % (s.size + 1) = k := ⟨_, rfl⟩
  have hkl : k ≤ s.size := by have := Nat.mod_lt n1 (show 0 < s.size + 1 by omega); omega
  have q5 : (n1 : Int).tmod ((s.size : Int) + 1) = (k : Int) := by
    rw [show (s.size : Int) + 1 = ((s.size + 1 : Nat) : Int) by omega, Int.tmod_eq_emod_of_nonneg (by omega), ← hk]; simp
  have q7 : IntKind.i64.wrap (k : Int) = (k : Int) := IntWalk.i64_in _ (by omega)
  have q8 : IntKind.i64.wrap ((s.size : Int) - (k : Int)) = (s.size : Int) - (k : Int) := IntWalk.i64_in _ (by omega)
  obtain ⟨p1, p2, p3, p4, p5, p6⟩ := fc_parts hv hkl
  have z4 := ext_size s 0 k
  have z5 := ext_size s k s.size
  have HA0 := fun W => implForecastOpen_b (s.extract 0 k) (k : Int) W (by omega)
  have HB0 := fun W => implForecastOpen_b (s.extract k s.size) ((s.size : Int) - (k : Int)) W (by omega)
  have HC0 := fun W => implForecastOpen_b s (s.size : Int) W (by omega)
  have HU0 := fun W => implForecastValid_b (s.extract 0 k) W (by omega)
  have HV0 := fun W => implForecastValid_b (s.extract k s.size) W (by omega)
  rw [p1] at HU0
  rw [p2] at HV0
  obtain ⟨a, ha⟩ : ∃ a, opV (byL (s.extract 0 k)) (k : Int) = a := ⟨_, rfl⟩
  obtain ⟨b, hb⟩ : ∃ b, opV (byL (s.extract k s.size)) ((s.size : Int) - (k : Int)) = b := ⟨_, rfl⟩
  rw [ha] at HA0 p3 p4
  rw [hb] at HB0 p3 p5
  rw [← p3] at HC0 p6
  have HA := Lib.hid HA0
  have HB := Lib.hid HB0
  have HC := Lib.hid HC0
  have HU := Lib.hid HU0
  have HV := Lib.hid HV0
  have q9 : IntKind.i64.wrap (a + b) = a + b := IntWalk.i64_in _ (by omega)
  have b1 : (a + b == a + b) = true := by simp
  have g0 : (0 : Int) ≤ (k : Int) := by omega
  have g1 : (k : Int) ≤ (s.size : Int) := by omega
  clear HA0 HB0 HC0 HU0 HV0 p1 p2 p3 ha hb hk hv z4 z5
  go_wp2_with fail
  refine (HA.out _).mono ?_
  rintro e w4 ⟨rfl, hb4⟩
  replace Bt := Lib.hid (below_step Bt.out hb4)
  clear hb4
  dsimp only
  go_wp2_with fail
  refine (HB.out _).mono ?_
  rintro e w5 ⟨rfl, hb5⟩
  replace Bt := Lib.hid (below_step Bt.out hb5)
  clear hb5
  dsimp only
  go_wp2_with fail
  refine (HU.out _).mono ?_
  rintro e w6 ⟨rfl, hb6⟩
  replace Bt := Lib.hid (below_step Bt.out hb6)
  clear hb6
  dsimp only
  go_wp2_with fail
  refine (HV.out _).mono ?_
  rintro e w7 ⟨rfl, hb7⟩
  replace Bt := Lib.hid (below_step Bt.out hb7)
  clear hb7
  dsimp only
  go_wp2_with fail
  refine (HC.out _).mono ?_
  rintro e w8 ⟨rfl, hb8⟩
  replace Bt := Lib.hid (below_step Bt.out hb8)
  clear hb8
  dsimp only
  go_wp2
  go_ret
  exact ⟨rfl, Bt.out⟩

set_option maxRecDepth 100000 in
theorem fnForecast_walk (A0 : Option Addr) (n0 c0 : Nat) (A1 : Option Addr) (n1 c1 : Nat) (w : World) (hb0 : Byt0 w A0 n0 c0) (hb1 : Byt0 w A1 n1 c1) :
    Calls Try.prog 3 #[.slice A0 n0 c0, .slice A1 n1 c1] w (RetB (.bool true) w) := by
  by_cases hl0 : 1048576 < n0
  · clear hb0; clear hb1
    have u0 : decide ((1048576 : Int) < (n0 : Int)) = true := by simp; omega
    go_enter Try.func3, Try.ntmps3
    go_wp2
    go_ret
    exact ⟨rfl, Below.refl _ _⟩
  by_cases hl1 : 1048576 < n1
  · clear hb0; clear hb1
    have u0 : decide ((1048576 : Int) < (n0 : Int)) = false := by simp; omega
    have u1 : decide ((1048576 : Int) < (n1 : Int)) = true := by simp; omega
    go_enter Try.func3, Try.ntmps3
    go_wp2
    go_ret
    exact ⟨rfl, Below.refl _ _⟩
  exact fnForecast_in A0 n0 c0 A1 n1 c1 w (by omega) hb0.1 hb0.2.2 (by omega) hb1.1 hb1.2.2

set_option maxRecDepth 100000 in
theorem fnForecast_lifted (os : Os) (started : os.Started) (H : Type) (enc : TypeId × Value → H) :
    ReturnsInHanded {} Try.checked os 3 .any (Rows.fnForecastSpec.pre6 enc Try.prog Try.f3 Rows.fnForecastRow.domain false) (Rows.fnForecastSpec.post enc Try.prog Try.f3 false true false false) := by
  refine returnsInHanded_of_change (C := Try.checked) row_own started (by kernel_rfl) Try.func3
    (ChangeSpec.witness6 (enc := enc) (C := Try.checked) false ⟨#[], #[.slice none 0 0, .slice none 0 0], []⟩ 8 (by kernel_rfl) (by kernel_rfl) (by kernel_rfl) (by kernel_rfl)) ?_
  intro W base args ds gs before hval0 hW hcnd _
  have hval : ∀ (j : Nat) t v, Try.f3.params[j]? = some t → args[j]? = some v → Value.okWide Try.prog W .any base t v := hval0
  have hW' := hW
  obtain ⟨p, q, hA0, hV, rfl, _, _⟩ := hW
  have hA : DataW.TrodAll enc Try.prog W 0 (fun _ => true) true Try.f3.params.toList args.toList ds p := hA0
  rw [Try.params3] at hA hval
  obtain ⟨v0, vs0, d0, ds0, p0, q0, hargs, rfl, rfl, h0, r0⟩ := trodAll_cons hA
  obtain ⟨v1, vs1, d1, ds1, p1, q1, rfl, rfl, rfl, h1, r1⟩ := trodAll_cons r0
  obtain ⟨rfl, rfl, rfl⟩ := trodAll_nil r1
  obtain rfl : args = #[v0, v1] := by cases args; simp_all
  obtain ⟨rfl, rfl⟩ := trodVars_none hV
  have hlt0 : ∀ x ∈ p0, x.block < W.heap.size := fun x hx => by exact hW'.lt x (by simp [hx])
  obtain ⟨A0, n0, c0, rfl, hb0⟩ := open_bytes (hval 0 22 v0 rfl rfl) h0 hlt0
  have hlt1 : ∀ x ∈ p1, x.block < W.heap.size := fun x hx => by exact hW'.lt x (by simp [hx])
  obtain ⟨A1, n1, c1, rfl, hb1⟩ := open_bytes (hval 1 22 v1 rfl rfl) h1 hlt1
  clear hA0 hval0
  refine (fnForecast_walk A0 n0 c0 A1 n1 c1 W hb0 hb1).mono fun e W' ⟨he, hb⟩ => ?_
  subst he
  exact ⟨_, rfl, _, _, _, [], _, [], hW', (trodAll_cons_mk (shut_bool Try.underlying4 _) trodAll_mk0), (trodAll_cons_mk (read_again_bytes h0 hlt0 hb) (trodAll_cons_mk (read_again_bytes h1 hlt1 hb) trodAll_mk0)), rfl, hb.frame _, fun h => by cases h⟩

set_option maxRecDepth 100000 in
theorem fnForecast_closed : joinedFacts Try.prog 3 Try.f3 Rows.fnForecastSpec Rows.fnForecastRow = true := by
  unfold joinedFacts
  repeat' (with_reducible apply facAnd)
  all_goals first | (with_reducible exact facEnter) | (with_reducible exact facLaid) | (with_reducible exact facMaps) | (with_reducible exact facStops) | (with_reducible exact facKnobs) | (with_reducible exact facHeard) | (rw [facLifts]; as_aux_lemma => kernel_rfl) | (rw [facMake]; as_aux_lemma => kernel_rfl) | (as_aux_lemma => kernel_rfl)

/-- THE STATEMENT -/
theorem fnForecast_holds : Rows.FnForecastSaid :=
  OpenClaim.holds_of_wide 3 Try.f3 rfl rfl rfl rfl rfl rfl rfl ⟨rfl, rfl, rfl, rfl, rfl⟩ rfl rfl rfl rfl rfl (by kernel_rfl) Try.func3 fnForecast_closed
    (of_decide_eq_true (by kernel_rfl)) (by unfold Func.isWrapper; first | (rw [if_pos (by decide +kernel)]; kernel_rfl) | (rw [if_neg (by decide +kernel)]; exact ⟨rfl, rfl⟩))
    (fun os started H enc _ => fnForecast_lifted os started H enc)
#print axioms fnForecast_holds
end Go.Proofs.Ytodboccadccpfaa
