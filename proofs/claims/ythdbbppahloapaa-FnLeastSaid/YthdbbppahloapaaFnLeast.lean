/-
  The law FnLeast: the least tanks are as many as the longest row; one coil less, at most one tank less. For all codes it answers true. No condition.
-/
import Derived.Test.YthdbbppahloapaaODrawB
import Derived.Test.YthdbbppahloapaaTkD
import Derived.Test.YthdbbppahloapaaTkQ
import Derived.Test.YthdbbppahloapaaStwM
import Derived.Test.YthdbbppahloapaaLonI
import Derived.Test.YthdbbppahloapaaDrp
import Derived.Test.YthdbbppahloapaaSame
import Derived.Test.YthdbbppahloapaaRowB
import Derived.Test.YthdbbppahloapaaFac
namespace Go.Proofs.Ythdbbppahloapaa
open Go.ChangeShapes Go.WideShapes Go.ChangeAt Go.RowKit

set_option maxHeartbeats 4000000 in
theorem fnLeast_in (A : Option Addr) (n c : Nat) (A1 : Option Addr) (n1 c1 : Nat) (w : World) (hl : n ≤ 1048576) (hnc : n ≤ c) (hb : Bytes w.heap.size w A n) (hl1 : n1 ≤ 1048576) (_ : n1 ≤ c1) (_ : Bytes w.heap.size w A1 n1) :
    Calls Try.prog 6 #[.slice A n c, .slice A1 n1 c1] w (RetB (.bool true) w) := by
  have Hb := Lib.hid hb
  clear hb
  have u0 : decide ((1048576 : Int) < (n : Int)) = false := by simp; omega
  have u1 : decide ((1048576 : Int) < (n1 : Int)) = false := by simp; omega
  go_enter Try.func6, Try.ntmps6
  go_wp2_with fail
  refine (DrawTanksLeast_c A n c _ (by omega) hnc Hb.out).mono ?_
  rintro e w1 ⟨B, d, L, rfl, hzl, hA, hB⟩
  have Ha := Lib.hid hA
  have Bt := Lib.hid hB
  clear hA hB Hb u0 u1
  go_wp2_with fail
  refine (implTanksLeast_b B d L _ Ha.out).mono ?_
  rintro e w2 ⟨rfl, rb2⟩
  replace Ha := Lib.hid (Ha.out.go rb2)
  replace Bt := Lib.hid (below_step Bt.out rb2)
  clear rb2
  go_wp2_with fail
  refine (specTanksLeast_b B d L _ Ha.out).mono ?_
  rintro e w3 ⟨rfl, rb3⟩
  replace Ha := Lib.hid (Ha.out.go rb3)
  replace Bt := Lib.hid (below_step Bt.out rb3)
  clear rb3
  cases hv : ordB L
  · rw [lst_no hv]
    go_wp2
    go_ret
    exact ⟨rfl, Bt.out⟩
  rw [lst_yes hv]
  have h10 := ord_len hv
  have hcl := cnt_le L
  have Hord := Lib.hid hv
  have HKl := Lib.hid (show (lonR L).length = cntN L by rw [lon_yes hv, lgI_len, lgO_full hv])
  have HMk := Lib.hid (show mkB L = decide (cntN L ≤ 5) by unfold mkB; rw [hv]; rfl)
  have HEm := Lib.hid (lgO_empty hv)
  have HEf := Lib.hid (lgO_full hv)
  have HDr := Lib.hid (fun (r : Nat) (hr : r < L.length) => (show dropB L (r : Int) = true ∧ drpR L (r : Int) = dropL L r ∧ lstI (dropL L r) = cntN (dropL L r) ∧ cntN (dropL L r) ≤ cntN L ∧ cntN L ≤ cntN (dropL L r) + 1 from
    ⟨(drp_yes hv (inB_true.2 (by omega))).1, (drp_yes hv (inB_true.2 (by omega))).2, lst_yes (drop_ord hv hr), drop_cnt_le hv hr, drop_cnt_ge hv hr⟩))
  obtain ⟨N, hN⟩ : ∃ N, cntN L = N := ⟨_, rfl⟩
  rw [hN] at hcl HKl HMk HEf HDr ⊢
  have HNz := Lib.hid (show N = 0 ↔ L.length = 0 by rw [← HEf.out]; exact HEm.out)
  have g0 : ((N : Int) < 0) = False := eq_false (by omega)
  clear hv hN HEm HEf
  obtain ⟨K, hK⟩ : ∃ K, lonR L = K := ⟨_, rfl⟩
  rw [hK] at HKl
  go_wp2_with fail
  refine (implOrdersLongest_b B d L _ Ha.out).mono ?_
  rintro e w4 ⟨B5, d5, rfl, ra5, ro5, rb4⟩
  dsimp only
  rw [hK, Hord.out]
  replace Ha := Lib.hid (Ha.out.go rb4)
  replace Bt := Lib.hid (below_step Bt.out rb4)
  clear ra5 ro5 rb4 hK
  obtain ⟨V, hV⟩ : ∃ V, mkL L = V := ⟨_, rfl⟩
  go_wp2_with fail
  refine (implStowageMake_b B d L _ Ha.out).mono ?_
  rintro e w5 ⟨B6, d6, rfl, ra6, ro6, rb5⟩
  dsimp only
  rw [hV, HMk.out]
  replace Ha := Lib.hid (Ha.out.go rb5)
  replace Bt := Lib.hid (below_step Bt.out rb5)
  clear ra6 ro6 rb5 hV
  have k1 : ((K.length : Int) != (N : Int)) = false := by rw [HKl.out]; simp
  have k2 : ((K.length : Int) == (N : Int)) = true := by rw [HKl.out]; simp
  have k3 : ((K.length : Int) = (N : Int)) = True := eq_true (by rw [HKl.out])
  have q0 : IntKind.i64.wrap ((N : Int) - 1) = (N : Int) - 1 := IntWalk.i64_in _ (by omega)
  obtain ⟨z, hz⟩ : ∃ z, decide (N ≤ 5) = z := ⟨_, rfl⟩
  have hz2 : decide ((N : Int) ≤ 5) = z := by rw [← hz]; exact decide_eq_decide.2 (by omega)
  rw [hz]
  clear hz
  rcases Nat.eq_zero_or_pos L.length with h0 | hpos
  · have e1 : ((L.length : Int) == 0) = true := beq_iff_eq.2 (by omega)
    have e2 : ((N : Int) == 0) = true := by have := HNz.out.2 h0; exact beq_iff_eq.2 (by omega)
    go_wp2
    go_ret
    exact ⟨rfl, Bt.out⟩
  have e1 : ((L.length : Int) == 0) = false := beq_eq_false_iff_ne.2 (by omega)
  have e3 : ((L.length : Int) = 0) = False := eq_false (by omega)
  obtain ⟨r, hr⟩ : ∃ r, n1 % L.length = r := ⟨_, rfl⟩
  have hrl : r < L.length := by rw [← hr]; exact Nat.mod_lt _ hpos
  have q1 : (n1 : Int).tmod (L.length : Int) = (r : Int) := by rw [Int.tmod_eq_emod_of_nonneg (by omega), ← hr]; simp
  obtain ⟨d1, d2, d3, d4, d5'⟩ := HDr.out r hrl
  have D1 := Lib.hid d1
  have D2 := Lib.hid d2
  have D3 := Lib.hid d3
  clear d1 d2 d3 hr
  go_wp2_with fail
  refine (implOrdersDrop_b B d L (r : Int) _ Ha.out).mono ?_
  rintro e w6 ⟨B7, d7, rfl, ra7, ro7, rb6⟩
  dsimp only
  rw [D1.out]
  rw [D2.out] at ra7 ⊢
  have A7 := Lib.hid ra7
  have B7' := Lib.hid (below_step Bt.out rb6)
  clear ra7 ro7 rb6
  obtain ⟨D, hD⟩ : ∃ D, dropL L r = D := ⟨_, rfl⟩
  rw [hD] at A7 D3 d4 d5' ⊢
  clear hD
  go_wp2_with fail
  refine (implTanksLeast_b B7 d7 D _ A7.out).mono ?_
  rintro e w7 ⟨rfl, rb7⟩
  rw [D3.out]
  have B8' := Lib.hid (below_step B7'.out rb7)
  clear rb7
  obtain ⟨X, hX⟩ : ∃ X, cntN D = X := ⟨_, rfl⟩
  rw [hX] at d4 d5' ⊢
  clear hX
  rcases (show X = N ∨ X + 1 = N by omega) with h1 | h1
  · have f1 : ((X : Int) == (N : Int)) = true := beq_iff_eq.2 (by omega)
    go_wp2
    go_ret
    exact ⟨rfl, B8'.out⟩
  · have f1 : ((X : Int) == (N : Int)) = false := beq_eq_false_iff_ne.2 (by omega)
    have f2 : ((X : Int) == (N : Int) - 1) = true := beq_iff_eq.2 (by omega)
    go_wp2
    go_ret
    exact ⟨rfl, B8'.out⟩

theorem fnLeast_walk (A0 : Option Addr) (n0 c0 : Nat) (A1 : Option Addr) (n1 c1 : Nat) (w : World) (hb0 : Byt0 w A0 n0 c0) (hb1 : Byt0 w A1 n1 c1) :
    Calls Try.prog 6 #[.slice A0 n0 c0, .slice A1 n1 c1] w (RetB (.bool true) w) := by
  by_cases hl0 : 1048576 < n0
  · clear hb0; clear hb1
    have u0 : decide ((1048576 : Int) < (n0 : Int)) = true := by simp; omega
    go_enter Try.func6, Try.ntmps6
    go_wp2
    go_ret
    exact ⟨rfl, Below.refl _ _⟩
  by_cases hl1 : 1048576 < n1
  · clear hb0; clear hb1
    have u0 : decide ((1048576 : Int) < (n0 : Int)) = false := by simp; omega
    have u1 : decide ((1048576 : Int) < (n1 : Int)) = true := by simp; omega
    go_enter Try.func6, Try.ntmps6
    go_wp2
    go_ret
    exact ⟨rfl, Below.refl _ _⟩
  exact fnLeast_in A0 n0 c0 A1 n1 c1 w (by omega) hb0.1 hb0.2.2 (by omega) hb1.1 hb1.2.2

set_option maxRecDepth 100000 in
theorem fnLeast_lifted (os : Os) (started : os.Started) (H : Type) (enc : TypeId × Value → H) :
    ReturnsInHanded {} Try.checked os 6 .any (Rows.fnLeastSpec.pre6 enc Try.prog Try.f6 Rows.fnLeastRow.domain false) (Rows.fnLeastSpec.post enc Try.prog Try.f6 false true false false) := by
  refine returnsInHanded_of_change (C := Try.checked) row_own started (by kernel_rfl) Try.func6
    (ChangeSpec.witness6 (enc := enc) (C := Try.checked) false ⟨#[], #[.slice none 0 0, .slice none 0 0], []⟩ 8 (by kernel_rfl) (by kernel_rfl) (by kernel_rfl) (by kernel_rfl)) ?_
  intro W base args ds gs before hval0 hW hcnd _
  have hval : ∀ (j : Nat) t v, Try.f6.params[j]? = some t → args[j]? = some v → Value.okWide Try.prog W .any base t v := hval0
  have hW' := hW
  obtain ⟨p, q, hA0, hV, rfl, _, _⟩ := hW
  have hA : DataW.TrodAll enc Try.prog W 0 (fun _ => true) true Try.f6.params.toList args.toList ds p := hA0
  rw [Try.params6] at hA hval
  obtain ⟨v0, vs0, d0, ds0, p0, q0, hargs, rfl, rfl, h0, r0⟩ := trodAll_cons hA
  obtain ⟨v1, vs1, d1, ds1, p1, q1, rfl, rfl, rfl, h1, r1⟩ := trodAll_cons r0
  obtain ⟨rfl, rfl, rfl⟩ := trodAll_nil r1
  obtain rfl : args = #[v0, v1] := by cases args; simp_all
  obtain ⟨rfl, rfl⟩ := trodVars_none hV
  have hlt0 : ∀ x ∈ p0, x.block < W.heap.size := fun x hx => by exact hW'.lt x (by simp [hx])
  obtain ⟨A0, n0, c0, rfl, hb0⟩ := open_bytes (hval 0 22 v0 rfl rfl) h0 hlt0
  have hlt1 : ∀ x ∈ p1, x.block < W.heap.size := fun x hx => by exact hW'.lt x (by simp [hx])
  obtain ⟨A1, n1, c1, rfl, hb1⟩ := open_bytes (hval 1 22 v1 rfl rfl) h1 hlt1
  clear hA0 hval0
  refine (fnLeast_walk A0 n0 c0 A1 n1 c1 W hb0 hb1).mono fun e W' ⟨he, hb⟩ => ?_
  subst he
  exact ⟨_, rfl, _, _, _, [], _, [], hW', (trodAll_cons_mk (shut_bool Try.underlying4 _) trodAll_mk0), (trodAll_cons_mk (read_again_bytes h0 hlt0 hb) (trodAll_cons_mk (read_again_bytes h1 hlt1 hb) trodAll_mk0)), rfl, hb.frame _, fun h => by cases h⟩

set_option maxRecDepth 100000 in
theorem fnLeast_closed : joinedFacts Try.prog 6 Try.f6 Rows.fnLeastSpec Rows.fnLeastRow = true := by
  unfold joinedFacts
  repeat' (with_reducible apply facAnd)
  all_goals first | (with_reducible exact facEnter) | (with_reducible exact facLaid) | (with_reducible exact facMaps) | (with_reducible exact facStops) | (with_reducible exact facKnobs) | (with_reducible exact facHeard) | (rw [facLifts]; as_aux_lemma => kernel_rfl) | (rw [facMake]; as_aux_lemma => kernel_rfl) | (as_aux_lemma => kernel_rfl)

/-- THE STATEMENT -/
theorem fnLeast_holds : Rows.FnLeastSaid :=
  OpenClaim.holds_of_wide 6 Try.f6 rfl rfl rfl rfl rfl rfl rfl ⟨rfl, rfl, rfl, rfl, rfl⟩ rfl rfl rfl rfl rfl (by kernel_rfl) Try.func6 fnLeast_closed
    (of_decide_eq_true (by kernel_rfl)) (by unfold Func.isWrapper; first | (rw [if_pos (by decide +kernel)]; kernel_rfl) | (rw [if_neg (by decide +kernel)]; exact ⟨rfl, rfl⟩))
    (fun os started H enc _ => fnLeast_lifted os started H enc)
#print axioms fnLeast_holds
end Go.Proofs.Ythdbbppahloapaa
