/-
  The law FnTanks: the tanks that a stowage uses are at least the least, and hold all coils. For all codes it answers true. No condition.
-/
import Derived.Test.YthdbbppahloapaaODrawM
import Derived.Test.YthdbbppahloapaaTkN
import Derived.Test.YthdbbppahloapaaCntI
import Derived.Test.YthdbbppahloapaaCntS
import Derived.Test.YthdbbppahloapaaSame
import Derived.Test.YthdbbppahloapaaRowB
import Derived.Test.YthdbbppahloapaaFac
namespace Go.Proofs.Ythdbbppahloapaa
open Go.ChangeShapes Go.WideShapes Go.ChangeAt Go.RowKit

set_option maxHeartbeats 4000000 in
theorem fnTanks_in (A : Option Addr) (n c : Nat) (w : World) (hl : n ≤ 1048576) (hnc : n ≤ c) (hb : Bytes w.heap.size w A n) :
    Calls Try.prog 5 #[.slice A n c] w (RetB (.bool true) w) := by
  have Hb := Lib.hid hb
  clear hb
  go_enter Try.func5, Try.ntmps5
  go_wp2_with fail
  refine (DrawStowageTanks_c A n c _ (by omega) hnc Hb.out).mono ?_
  rintro e w1 ⟨B, d, L, C, d2, T, rfl, hzl, hzt, hA, hA2, hB⟩
  have Ha := Lib.hid hA
  have Hc := Lib.hid hA2
  have Bt := Lib.hid hB
  clear hA hA2 hB Hb
  go_wp2_with fail
  refine (implStowageTanks_b B d L C d2 T _ Ha.out Hc.out).mono ?_
  rintro e w2 ⟨rfl, rb2⟩
  replace Ha := Lib.hid (Ha.out.go rb2)
  replace Hc := Lib.hid (Hc.out.go rb2)
  replace Bt := Lib.hid (below_step Bt.out rb2)
  clear rb2
  go_wp2_with fail
  refine (specStowageTanks_b B d L C d2 T _ Ha.out Hc.out).mono ?_
  rintro e w3 ⟨rfl, rb3⟩
  replace Ha := Lib.hid (Ha.out.go rb3)
  replace Hc := Lib.hid (Hc.out.go rb3)
  replace Bt := Lib.hid (below_step Bt.out rb3)
  clear rb3
  cases hv : stowB L T
  · rw [show tnkI L T = -1 by unfold tnkI; rw [hv]; rfl]
    go_wp2
    go_ret
    exact ⟨rfl, Bt.out⟩
  rw [show tnkI L T = usedK T T.length 5 by unfold tnkI; rw [hv]; rfl]
  have h10 := ord_len (stow_ord hv)
  have hul := used_least hv
  have hum := used_most hv
  have hnl : usedK T T.length 5 ≤ L.length := by
    rw [used_new (fun j hj => stow_at hv (by have := stow_len hv; omega)) _ (Nat.le_refl _), ← stow_len hv]
    exact newK_le T _
  have hu5 := usedK_le T T.length 5
  have hm5 : mostK T 5 ≤ 10 := by have := mostK_le T 5; have := stow_len hv; omega
  have Hlc := Lib.hid (lst_yes (stow_ord hv))
  have Hmc := Lib.hid (show mstI L T = mostK T 5 by unfold mstI; rw [hv]; rfl)
  obtain ⟨U, hU⟩ : ∃ U, usedK T T.length 5 = U := ⟨_, rfl⟩
  obtain ⟨M, hM⟩ : ∃ M, mostK T 5 = M := ⟨_, rfl⟩
  obtain ⟨N, hN⟩ : ∃ N, cntN L = N := ⟨_, rfl⟩
  rw [hU] at hul hum hnl hu5 ⊢
  rw [hM] at hum hm5 Hmc
  rw [hN] at hul Hlc
  have hUM : U * M ≤ 50 := Nat.mul_le_mul hu5 hm5
  have hum2 : (L.length : Int) ≤ (U : Int) * (M : Int) := by rw [← Int.natCast_mul]; omega
  have hw : IntKind.i64.wrap ((U : Int) * (M : Int)) = (U : Int) * (M : Int) := IntWalk.i64_in _ (by rw [← Int.natCast_mul]; omega)
  clear hv hU hM hN hum hUM
  have g0 : ((U : Int) < 0) = False := eq_false (by omega)
  have g1 : (N : Int) ≤ (U : Int) := by omega
  have g2 : (U : Int) ≤ (L.length : Int) := by omega
  go_wp2_with fail
  refine (implTanksLeast_b B d L _ Ha.out).mono ?_
  rintro e w4 ⟨rfl, rb4⟩
  rw [Hlc.out]
  have A4 := Lib.hid (Ha.out.go rb4)
  have C4 := Lib.hid (Hc.out.go rb4)
  have B4 := Lib.hid (below_step Bt.out rb4)
  clear rb4
  go_wp2_with fail
  refine (implStowageMost_b B d L C d2 T _ A4.out C4.out).mono ?_
  rintro e w5 ⟨rfl, rb5⟩
  rw [Hmc.out]
  have B5 := Lib.hid (below_step B4.out rb5)
  clear rb5
  go_wp2
  go_ret
  exact ⟨rfl, B5.out⟩

theorem fnTanks_walk (A0 : Option Addr) (n0 c0 : Nat) (w : World) (hb0 : Byt0 w A0 n0 c0) :
    Calls Try.prog 5 #[.slice A0 n0 c0] w (RetB (.bool true) w) := by
  by_cases hl0 : 1048576 < n0
  · clear hb0
    go_enter Try.func5, Try.ntmps5
    go_wp2
    go_ret
    exact ⟨rfl, Below.refl _ _⟩
  exact fnTanks_in A0 n0 c0 w (by omega) hb0.1 hb0.2.2

set_option maxRecDepth 100000 in
theorem fnTanks_lifted (os : Os) (started : os.Started) (H : Type) (enc : TypeId × Value → H) :
    ReturnsInHanded {} Try.checked os 5 .any (Rows.fnTanksSpec.pre6 enc Try.prog Try.f5 Rows.fnTanksRow.domain false) (Rows.fnTanksSpec.post enc Try.prog Try.f5 false true false false) := by
  refine returnsInHanded_of_change (C := Try.checked) row_own started (by kernel_rfl) Try.func5
    (ChangeSpec.witness6 (enc := enc) (C := Try.checked) false ⟨#[], #[.slice none 0 0], []⟩ 8 (by kernel_rfl) (by kernel_rfl) (by kernel_rfl) (by kernel_rfl)) ?_
  intro W base args ds gs before hval0 hW hcnd _
  have hval : ∀ (j : Nat) t v, Try.f5.params[j]? = some t → args[j]? = some v → Value.okWide Try.prog W .any base t v := hval0
  have hW' := hW
  obtain ⟨p, q, hA0, hV, rfl, _, _⟩ := hW
  have hA : DataW.TrodAll enc Try.prog W 0 (fun _ => true) true Try.f5.params.toList args.toList ds p := hA0
  rw [Try.params5] at hA hval
  obtain ⟨v0, vs0, d0, ds0, p0, q0, hargs, rfl, rfl, h0, r0⟩ := trodAll_cons hA
  obtain ⟨rfl, rfl, rfl⟩ := trodAll_nil r0
  obtain rfl : args = #[v0] := by cases args; simp_all
  obtain ⟨rfl, rfl⟩ := trodVars_none hV
  have hlt0 : ∀ x ∈ p0, x.block < W.heap.size := fun x hx => by exact hW'.lt x (by simp [hx])
  obtain ⟨A0, n0, c0, rfl, hb0⟩ := open_bytes (hval 0 22 v0 rfl rfl) h0 hlt0
  clear hA0 hval0
  refine (fnTanks_walk A0 n0 c0 W hb0).mono fun e W' ⟨he, hb⟩ => ?_
  subst he
  exact ⟨_, rfl, _, _, _, [], _, [], hW', (trodAll_cons_mk (shut_bool Try.underlying4 _) trodAll_mk0), (trodAll_cons_mk (read_again_bytes h0 hlt0 hb) trodAll_mk0), rfl, hb.frame _, fun h => by cases h⟩

set_option maxRecDepth 100000 in
theorem fnTanks_closed : joinedFacts Try.prog 5 Try.f5 Rows.fnTanksSpec Rows.fnTanksRow = true := by
  unfold joinedFacts
  repeat' (with_reducible apply facAnd)
  all_goals first | (with_reducible exact facEnter) | (with_reducible exact facLaid) | (with_reducible exact facMaps) | (with_reducible exact facStops) | (with_reducible exact facKnobs) | (with_reducible exact facHeard) | (rw [facLifts]; as_aux_lemma => kernel_rfl) | (rw [facMake]; as_aux_lemma => kernel_rfl) | (as_aux_lemma => kernel_rfl)

/-- THE STATEMENT -/
theorem fnTanks_holds : Rows.FnTanksSaid :=
  OpenClaim.holds_of_wide 5 Try.f5 rfl rfl rfl rfl rfl rfl rfl ⟨rfl, rfl, rfl, rfl, rfl⟩ rfl rfl rfl rfl rfl (by kernel_rfl) Try.func5 fnTanks_closed
    (of_decide_eq_true (by kernel_rfl)) (by unfold Func.isWrapper; first | (rw [if_pos (by decide +kernel)]; kernel_rfl) | (rw [if_neg (by decide +kernel)]; exact ⟨rfl, rfl⟩))
    (fun os started H enc _ => fnTanks_lifted os started H enc)
#print axioms fnTanks_holds
end Go.Proofs.Ythdbbppahloapaa
