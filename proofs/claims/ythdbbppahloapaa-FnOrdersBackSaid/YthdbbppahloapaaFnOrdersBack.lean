/-
  The law FnOrdersBack: back and back is as it was, and as many tanks. For all codes it answers true. No condition.
-/
import Derived.Test.YthdbbppahloapaaODrawB
import Derived.Test.YthdbbppahloapaaTkN
import Derived.Test.YthdbbppahloapaaBkB
import Derived.Test.YthdbbppahloapaaStwM
import Derived.Test.YthdbbppahloapaaSame
import Derived.Test.YthdbbppahloapaaRowB
import Derived.Test.YthdbbppahloapaaFac
namespace Go.Proofs.Ythdbbppahloapaa
open Go.ChangeShapes Go.WideShapes Go.ChangeAt Go.RowKit

set_option maxHeartbeats 4000000 in
theorem fnOrdersBack_in (A : Option Addr) (n c : Nat) (w : World) (hl : n ≤ 1048576) (hnc : n ≤ c) (hb : Bytes w.heap.size w A n) :
    Calls Try.prog 7 #[.slice A n c] w (RetB (.bool true) w) := by
  have Hb := Lib.hid hb
  clear hb
  go_enter Try.func7, Try.ntmps7
  go_wp2_with fail
  refine (DrawOrdersBack_c A n c _ (by omega) hnc Hb.out).mono ?_
  rintro e w1 ⟨B, d, L, rfl, hzl, hA, hB⟩
  have Ha := Lib.hid hA
  have Bt := Lib.hid hB
  clear hA hB Hb
  obtain ⟨K, hK⟩ : ∃ K, bkR L = K := ⟨_, rfl⟩
  have HK := Lib.hid hK
  go_wp2_with fail
  refine (implOrdersBack_b B d L _ Ha.out).mono ?_
  rintro e w2 ⟨B5, d5, rfl, ra5, ro5, rb2⟩
  dsimp only
  rw [hK] at ra5 ⊢
  replace Ha := Lib.hid (Ha.out.go rb2)
  replace Bt := Lib.hid (below_step Bt.out rb2)
  have K2 := Lib.hid ra5
  clear ra5 ro5 rb2
  go_wp2_with fail
  refine (specOrdersBack_b B d L _ Ha.out).mono ?_
  rintro e w3 ⟨B6, d6, rfl, ra6, ro6, rb3⟩
  dsimp only
  rw [hK] at ra6 ⊢
  replace Ha := Lib.hid (Ha.out.go rb3)
  replace Bt := Lib.hid (below_step Bt.out rb3)
  replace K2 := Lib.hid (K2.out.go rb3)
  have K3 := Lib.hid ra6
  clear ra6 ro6 rb3 hK
  cases hv : ordB L
  · clear hv
    go_wp2_with fail
    refine (sameInts_c B5 B6 d5 d6 K K _ K2.out K3.out).mono ?_
    rintro e w4 ⟨rfl, m, rfl⟩
    rw [decide_eq_true (rfl : K = K)]
    have B4 := Lib.hid (below_drewN Bt.out m)
    have K4 := Lib.hid (K2.out.go (below_drewN (Below.refl w3.heap.size w3) m))
    have K5 := Lib.hid (K3.out.go (below_drewN (Below.refl w3.heap.size w3) m))
    go_wp2_with fail
    refine (sameInts_c B5 B6 d5 d6 K K _ K4.out K5.out).mono ?_
    rintro e w5 ⟨rfl, m2, rfl⟩
    rw [decide_eq_true (rfl : K = K)]
    have B5 := Lib.hid (below_drewN B4.out m2)
    rw [World.drewN_drewN] at B5
    go_wp2
    go_ret
    exact ⟨rfl, B5.out⟩
  have Hord := Lib.hid hv
  have hKo : K = backL L := by rw [← HK.out, bk_yes hv]
  have Hko := Lib.hid (show ordB K = true by rw [hKo]; exact back_ord hv)
  have Hkb := Lib.hid (show bkR K = L by rw [hKo, bk_yes (back_ord hv), back_back hv])
  have Hkc := Lib.hid (show lstI K = cntN L by rw [hKo, lst_yes (back_ord hv), back_cnt hv])
  have Hlc := Lib.hid (lst_yes hv)
  clear hv hKo HK
  go_wp2_with fail
  refine (sameInts_c B5 B6 d5 d6 K K _ K2.out K3.out).mono ?_
  rintro e w4 ⟨rfl, m, rfl⟩
  rw [decide_eq_true (rfl : K = K)]
  replace Ha := Lib.hid (Ha.out.go (below_drewN (Below.refl w3.heap.size w3) m))
  replace K2 := Lib.hid (K2.out.go (below_drewN (Below.refl w3.heap.size w3) m))
  replace Bt := Lib.hid (below_drewN Bt.out m)
  obtain ⟨W, hW⟩ : ∃ W, w3.drewN m = W := ⟨_, rfl⟩
  rw [hW] at Ha K2 Bt ⊢
  clear hW K3
  go_wp2_with fail
  refine (implOrdersBack_b B5 d5 K _ K2.out).mono ?_
  rintro e w5 ⟨B7, d7, rfl, ra7, ro7, rb5⟩
  dsimp only
  rw [Hko.out]
  rw [Hkb.out] at ra7 ⊢
  have X5 := Lib.hid ra7
  have K5 := Lib.hid (K2.out.go rb5)
  have A5 := Lib.hid (Ha.out.go rb5)
  have B5' := Lib.hid (below_step Bt.out rb5)
  clear ra7 ro7 rb5
  go_wp2_with fail
  refine (sameInts_c B7 B d7 d L L _ X5.out A5.out).mono ?_
  rintro e w6 ⟨rfl, m6, rfl⟩
  rw [decide_eq_true (rfl : L = L)]
  have K6 := Lib.hid (K5.out.go (below_drewN (Below.refl w5.heap.size w5) m6))
  have A6 := Lib.hid (A5.out.go (below_drewN (Below.refl w5.heap.size w5) m6))
  have B6' := Lib.hid (below_drewN B5'.out m6)
  obtain ⟨N, hN⟩ : ∃ N, cntN L = N := ⟨_, rfl⟩
  rw [hN] at Hkc Hlc
  clear hN
  go_wp2_with fail
  refine (implTanksLeast_b B5 d5 K _ K6.out).mono ?_
  rintro e w7 ⟨rfl, rb7⟩
  rw [Hkc.out]
  have K7 := Lib.hid (K6.out.go rb7)
  have A7 := Lib.hid (A6.out.go rb7)
  have B7' := Lib.hid (below_step B6'.out rb7)
  clear rb7
  go_wp2_with fail
  refine (implTanksLeast_b B d L _ A7.out).mono ?_
  rintro e w8 ⟨rfl, rb8⟩
  rw [Hlc.out]
  have K8 := Lib.hid (K7.out.go rb8)
  have B8' := Lib.hid (below_step B7'.out rb8)
  clear rb8
  go_wp2_with fail
  refine (implOrdersValid_b B5 d5 K _ K8.out).mono ?_
  rintro e w9 ⟨rfl, rb9⟩
  rw [Hko.out]
  have B9' := Lib.hid (below_step B8'.out rb9)
  clear rb9
  go_wp2
  go_ret
  exact ⟨rfl, B9'.out⟩

theorem fnOrdersBack_walk (A0 : Option Addr) (n0 c0 : Nat) (w : World) (hb0 : Byt0 w A0 n0 c0) :
    Calls Try.prog 7 #[.slice A0 n0 c0] w (RetB (.bool true) w) := by
  by_cases hl0 : 1048576 < n0
  · clear hb0
    go_enter Try.func7, Try.ntmps7
    go_wp2
    go_ret
    exact ⟨rfl, Below.refl _ _⟩
  exact fnOrdersBack_in A0 n0 c0 w (by omega) hb0.1 hb0.2.2

set_option maxRecDepth 100000 in
theorem fnOrdersBack_lifted (os : Os) (started : os.Started) (H : Type) (enc : TypeId × Value → H) :
    ReturnsInHanded {} Try.checked os 7 .any (Rows.fnOrdersBackSpec.pre6 enc Try.prog Try.f7 Rows.fnOrdersBackRow.domain false) (Rows.fnOrdersBackSpec.post enc Try.prog Try.f7 false true false false) := by
  refine returnsInHanded_of_change (C := Try.checked) row_own started (by kernel_rfl) Try.func7
    (ChangeSpec.witness6 (enc := enc) (C := Try.checked) false ⟨#[], #[.slice none 0 0], []⟩ 8 (by kernel_rfl) (by kernel_rfl) (by kernel_rfl) (by kernel_rfl)) ?_
  intro W base args ds gs before hval0 hW hcnd _
  have hval : ∀ (j : Nat) t v, Try.f7.params[j]? = some t → args[j]? = some v → Value.okWide Try.prog W .any base t v := hval0
  have hW' := hW
  obtain ⟨p, q, hA0, hV, rfl, _, _⟩ := hW
  have hA : DataW.TrodAll enc Try.prog W 0 (fun _ => true) true Try.f7.params.toList args.toList ds p := hA0
  rw [Try.params7] at hA hval
  obtain ⟨v0, vs0, d0, ds0, p0, q0, hargs, rfl, rfl, h0, r0⟩ := trodAll_cons hA
  obtain ⟨rfl, rfl, rfl⟩ := trodAll_nil r0
  obtain rfl : args = #[v0] := by cases args; simp_all
  obtain ⟨rfl, rfl⟩ := trodVars_none hV
  have hlt0 : ∀ x ∈ p0, x.block < W.heap.size := fun x hx => by exact hW'.lt x (by simp [hx])
  obtain ⟨A0, n0, c0, rfl, hb0⟩ := open_bytes (hval 0 22 v0 rfl rfl) h0 hlt0
  clear hA0 hval0
  refine (fnOrdersBack_walk A0 n0 c0 W hb0).mono fun e W' ⟨he, hb⟩ => ?_
  subst he
  exact ⟨_, rfl, _, _, _, [], _, [], hW', (trodAll_cons_mk (shut_bool Try.underlying4 _) trodAll_mk0), (trodAll_cons_mk (read_again_bytes h0 hlt0 hb) trodAll_mk0), rfl, hb.frame _, fun h => by cases h⟩

set_option maxRecDepth 100000 in
theorem fnOrdersBack_closed : joinedFacts Try.prog 7 Try.f7 Rows.fnOrdersBackSpec Rows.fnOrdersBackRow = true := by
  unfold joinedFacts
  repeat' (with_reducible apply facAnd)
  all_goals first | (with_reducible exact facEnter) | (with_reducible exact facLaid) | (with_reducible exact facMaps) | (with_reducible exact facStops) | (with_reducible exact facKnobs) | (with_reducible exact facHeard) | (rw [facLifts]; as_aux_lemma => kernel_rfl) | (rw [facMake]; as_aux_lemma => kernel_rfl) | (as_aux_lemma => kernel_rfl)

/-- THE STATEMENT -/
theorem fnOrdersBack_holds : Rows.FnOrdersBackSaid :=
  OpenClaim.holds_of_wide 7 Try.f7 rfl rfl rfl rfl rfl rfl rfl ⟨rfl, rfl, rfl, rfl, rfl⟩ rfl rfl rfl rfl rfl (by kernel_rfl) Try.func7 fnOrdersBack_closed
    (of_decide_eq_true (by kernel_rfl)) (by unfold Func.isWrapper; first | (rw [if_pos (by decide +kernel)]; kernel_rfl) | (rw [if_neg (by decide +kernel)]; exact ⟨rfl, rfl⟩))
    (fun os started H enc _ => fnOrdersBack_lifted os started H enc)
#print axioms fnOrdersBack_holds
end Go.Proofs.Ythdbbppahloapaa
