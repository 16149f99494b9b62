/-
  The law FnRounds: for all codes the law answers true. No condition.
-/
import Derived.Test.YtjboamhjfncgdaaFac
import Derived.Test.YtjboamhjfncgdaaRowB
import Derived.Test.YtjboamhjfncgdaaCtE
import Derived.Test.YtjboamhjfncgdaaRtD
import Derived.Test.YtjboamhjfncgdaaRtA
import Derived.Test.YtjboamhjfncgdaaRtH
import Derived.Test.YtjboamhjfncgdaaRtGr
import Derived.Test.YtjboamhjfncgdaaRtU
namespace Go.Proofs.Ytjboamhjfncgdaa
open Go.ChangeShapes Go.WideShapes Go.ChangeAt Go.RowKit

theorem chart_dropU {R : List Rot} {k : Nat} (h : chartB R = true) (hk : k < R.length) : chartB (dropR R k) = true := by
  unfold chartB at h ⊢
  rw [Bool.and_eq_true] at h ⊢
  obtain ⟨h1, h2⟩ := h
  rw [List.all_eq_true] at h1 ⊢
  rw [decide_eq_true_eq] at h2 ⊢
  rw [dropR_len hk]
  refine ⟨fun r hr => ?_, by omega⟩
  unfold dropR at hr
  rcases List.mem_append.1 hr with h3 | h3
  · exact h1 r (List.mem_of_mem_take h3)
  · exact h1 r (List.mem_of_mem_drop h3)
theorem drop_skU {R : List Rot} {k : Nat} (hk : k < R.length) (a : Nat) : rotAt (dropR R k) a = rotAt R (skN k a) := by
  unfold dropR rotAt skN
  split
  · rw [List.getElem?_append_left (by simp; omega), List.getElem?_take_of_lt (by omega)]
  · rw [List.getElem?_append_right (by simp; omega), List.length_take, Nat.min_eq_left (by omega), List.getElem?_drop, show k + 1 + (a - k) = a + 1 by omega]

set_option maxRecDepth 100000 in
set_option maxHeartbeats 4000000 in
theorem fnRounds_in (A0 : Option Addr) (n0 c0 : Nat) (A1 : Option Addr) (n1 c1 : Nat) (w : World) (hl0 : n0 ≤ 1048576) (hc0 : n0 ≤ c0) (hb0 : Bytes w.heap.size w A0 n0) (hl1 : n1 ≤ 1048576) (_ : n1 ≤ c1) (_ : Bytes w.heap.size w A1 n1) :
    Calls Try.prog 23 #[.slice A0 n0 c0, .slice A1 n1 c1] w (RetB (.bool true) w) := by
  have Hb := Lib.hid hb0
  clear hb0
  have u0 : decide ((1048576 : Int) < (n0 : Int)) = false := by simp; omega
  have u1 : decide ((1048576 : Int) < (n1 : Int)) = false := by simp; omega
  go_enter Try.func23, Try.ntmps23
  go_wp2_with fail
  refine (DrawLiftRounds_c A0 n0 c0 _ (by omega) hc0 Hb.out).mono ?_
  rintro e w1 ⟨B, d, zs, rfl, hzl, hA, hB⟩
  have Ha := Lib.hid hA
  have Bt := Lib.hid hB
  clear hA hB Hb
  dsimp only
  go_wp2_with fail
  refine (implLiftRounds_b B d zs _ Ha.out).mono ?_
  rintro e w2 ⟨rfl, hb2⟩
  replace Ha := Lib.hid (Ha.out.go hb2)
  replace Bt := Lib.hid (below_step Bt.out hb2)
  clear hb2
  dsimp only
  go_wp2_with fail
  refine (specLiftRounds_b B d zs _ Ha.out).mono ?_
  rintro e w3 ⟨rfl, hb3⟩
  have HA := Lib.hid (Ha.out.go hb3)
  have Bt3 := Lib.hid (below_step Bt.out hb3)
  clear hb3 Ha Bt
  dsimp only
  cases hv : chartB zs
  · rw [rdsV_no hv]
    clear hv
    go_wp2
    go_ret
    exact ⟨rfl, Bt3.out⟩
  have hl8 := chart_len hv
  have hrn := rds_n zs
  rw [rdsV_yes hv]
  by_cases hz : zs.length = 0
  · have h1 : rdsN zs = 0 := by omega
    rw [h1]
    have z1 : ((zs.length : Int) == 0) = true := beq_iff_eq.2 (by omega)
    clear hv h1 hrn
    go_wp2
    go_ret
    exact ⟨rfl, Bt3.out⟩
  have z1 : ((zs.length : Int) == 0) = false := beq_eq_false_iff_ne.2 (by omega)
  have z2 : ((zs.length : Int) = 0) = False := eq_false (by omega)
  obtain ⟨k, hk⟩ : ∃ k, n1 % zs.length = k := ⟨_, rfl⟩
  have hkl : k < zs.length := by rw [← hk]; exact Nat.mod_lt _ (by omega)
  have q5 : (n1 : Int).tmod (zs.length : Int) = (k : Int) := by
    rw [Int.tmod_eq_emod_of_nonneg (by omega), ← hk]; simp
  have q7 : IntKind.i64.wrap (k : Int) = (k : Int) := IntWalk.i64_in _ (by omega)
  have hDl := dropR_len hkl
  obtain ⟨r1, r2, r3⟩ := rds_drop (R := zs) (D := dropR zs k) (k := k) (by omega) (by omega) (drop_skU hkl) hl8
  have hone := rds_one hl8 (show 0 < zs.length by omega)
  have hD0 := fun W h => implChartDrop_b B d zs (k : Int) W h
  rw [cd_yes (hasR_nat hv hkl), hasR_nat hv hkl] at hD0
  have hE0 := fun W A c h => implLiftRounds_b A c (dropR zs k) W h
  rw [rdsV_yes (chart_dropU hv hkl)] at hE0
  have hC0 := fun W h => implChartCrossings_b B d zs W h
  rw [crsV_yes hv] at hC0
  obtain ⟨D, hD⟩ : ∃ D, dropR zs k = D := ⟨_, rfl⟩
  rw [hD] at hDl r1 r2 r3 hD0 hE0
  obtain ⟨o, ho⟩ : ∃ o, rdsN zs = o := ⟨_, rfl⟩
  obtain ⟨x, hx⟩ : ∃ x, rdsN D = x := ⟨_, rfl⟩
  obtain ⟨cn, hcn⟩ : ∃ cn, crsN zs zs.length = cn := ⟨_, rfl⟩
  rw [ho] at r1 r2 r3 hone hrn ⊢
  rw [hx] at r1 r2 r3 hE0
  rw [hcn] at hone hC0
  have HD := Lib.hid hD0
  have HE := Lib.hid hE0
  have HC := Lib.hid hC0
  obtain ⟨eb, b1, b2⟩ : ∃ eb, ((o : Int) == 1) = eb ∧ ((cn : Int) == 0) = eb := by
    by_cases h : o = 1
    · exact ⟨true, beq_iff_eq.2 (by omega), beq_iff_eq.2 (by have := hone.1 h; omega)⟩
    · exact ⟨false, beq_eq_false_iff_ne.2 (by omega), beq_eq_false_iff_ne.2 fun e => h (hone.2 (by omega))⟩
  have b3 : (eb == eb) = true := by simp
  have g0 : ¬ (o : Int) < 0 := by omega
  have b0 : ((o : Int) != (o : Int)) = false := by simp
  have v1 : decide ((o : Int) ≤ (zs.length : Int)) = true := decide_eq_true (by omega)
  have v2 : decide ((x : Int) ≤ (o : Int)) = true := decide_eq_true (by omega)
  have m1 : decide (o ≤ zs.length) = true := decide_eq_true (by omega)
  have m2 : decide (x ≤ o) = true := decide_eq_true (by omega)
  have p1 : o ≤ zs.length := by omega
  have p2 : x ≤ o := by omega
  have w1' : IntKind.i64.wrap (2 * (x : Int)) = 2 * (x : Int) := IntWalk.i64_in _ (by omega)
  have w2' : IntKind.i64.wrap ((o : Int) - 1) = (o : Int) - 1 := IntWalk.i64_in _ (by omega)
  have w3' : IntKind.i64.wrap ((zs.length : Int) - 1) = (zs.length : Int) - 1 := IntWalk.i64_in _ (by omega)
  have v3 : decide ((o : Int) - 1 ≤ 2 * (x : Int)) = true := decide_eq_true (by omega)
  have h3 : (0 < k ∧ (k : Int) < (zs.length : Int) - 1) ∨ (k = 0 ∧ (o : Int) - 1 ≤ (x : Int)) ∨ (0 < k ∧ ¬ (k : Int) < (zs.length : Int) - 1 ∧ (o : Int) - 1 ≤ (x : Int)) := by
    rcases (by omega : (0 < k ∧ k < D.length) ∨ k = 0 ∨ (0 < k ∧ k = D.length)) with h | h | h
    · exact .inl ⟨h.1, by omega⟩
    · have := r3 (.inl h); exact .inr (.inl ⟨h, by omega⟩)
    · have := r3 (.inr h.2); exact .inr (.inr ⟨h.1, by omega, by omega⟩)
  have l1 : D.length + 1 ≤ zs.length := by omega
  clear hk hDl r1 r2 r3 hone hD0 hE0 hC0 hD ho hx hcn hv hrn
  go_wp2_with fail
  refine (HD.out _ HA.out).mono ?_
  rintro e w4 ⟨B1, d1, rfl, ra, _, hb4⟩
  have HA4 := Lib.hid (HA.out.go hb4)
  have D4 := Lib.hid ra
  have Bt4 := Lib.hid (below_step Bt3.out hb4)
  clear ra hb4
  dsimp only
  go_wp2_with fail
  refine (HE.out _ _ _ D4.out).mono ?_
  rintro e w5 ⟨rfl, hb5⟩
  have HA5 := Lib.hid (HA4.out.go hb5)
  have Bt5 := Lib.hid (below_step Bt4.out hb5)
  clear hb5
  dsimp only
  rcases h3 with h | h | h
  · have v4 : decide ((0 : Int) < (k : Int)) = true := decide_eq_true (by omega)
    have m4 : decide (0 < k) = true := decide_eq_true (by omega)
    have p4 : 0 < k := by omega
    have v5 : decide ((k : Int) < (zs.length : Int) - 1) = true := decide_eq_true (by omega)
    clear h
    go_wp2_with fail
    refine (HC.out _ HA5.out).mono ?_
    rintro e w6 ⟨rfl, hb6⟩
    have Bt6 := Lib.hid (below_step Bt5.out hb6)
    clear hb6
    go_wp2
    go_ret
    exact ⟨rfl, Bt6.out⟩
  · have v4 : decide ((0 : Int) < (k : Int)) = false := decide_eq_false (by omega)
    have m4 : decide (0 < k) = false := decide_eq_false (by omega)
    have p4 : ¬ 0 < k := by omega
    have v6 : decide ((o : Int) - 1 ≤ (x : Int)) = true := decide_eq_true (by omega)
    clear h
    go_wp2_with fail
    refine (HC.out _ HA5.out).mono ?_
    rintro e w6 ⟨rfl, hb6⟩
    have Bt6 := Lib.hid (below_step Bt5.out hb6)
    clear hb6
    go_wp2
    go_ret
    exact ⟨rfl, Bt6.out⟩
  · have v4 : decide ((0 : Int) < (k : Int)) = true := decide_eq_true (by omega)
    have m4 : decide (0 < k) = true := decide_eq_true (by omega)
    have p4 : 0 < k := by omega
    have v5 : decide ((k : Int) < (zs.length : Int) - 1) = false := decide_eq_false (by omega)
    have v6 : decide ((o : Int) - 1 ≤ (x : Int)) = true := decide_eq_true (by omega)
    clear h
    go_wp2_with fail
    refine (HC.out _ HA5.out).mono ?_
    rintro e w6 ⟨rfl, hb6⟩
    have Bt6 := Lib.hid (below_step Bt5.out hb6)
    clear hb6
    go_wp2
    go_ret
    exact ⟨rfl, Bt6.out⟩

theorem fnRounds_walk (A0 : Option Addr) (n0 c0 : Nat) (A1 : Option Addr) (n1 c1 : Nat) (w : World) (hb0 : Byt0 w A0 n0 c0) (hb1 : Byt0 w A1 n1 c1) :
    Calls Try.prog 23 #[.slice A0 n0 c0, .slice A1 n1 c1] w (RetB (.bool true) w) := by
  by_cases hl0 : 1048576 < n0
  · clear hb0; clear hb1
    have u0 : decide ((1048576 : Int) < (n0 : Int)) = true := by simp; omega
    go_enter Try.func23, Try.ntmps23
    go_wp2
    go_ret
    exact ⟨rfl, Below.refl _ _⟩
  by_cases hl1 : 1048576 < n1
  · clear hb0; clear hb1
    have u0 : decide ((1048576 : Int) < (n0 : Int)) = false := by simp; omega
    have u1 : decide ((1048576 : Int) < (n1 : Int)) = true := by simp; omega
    go_enter Try.func23, Try.ntmps23
    go_wp2
    go_ret
    exact ⟨rfl, Below.refl _ _⟩
  exact fnRounds_in A0 n0 c0 A1 n1 c1 w (by omega) hb0.1 hb0.2.2 (by omega) hb1.1 hb1.2.2

set_option maxRecDepth 100000 in
theorem fnRounds_lifted (os : Os) (started : os.Started) (H : Type) (enc : TypeId × Value → H) :
    ReturnsInHanded {} Try.checked os 23 .any (Rows.fnRoundsSpec.pre6 enc Try.prog Try.f23 Rows.fnRoundsRow.domain false) (Rows.fnRoundsSpec.post enc Try.prog Try.f23 false true false false) := by
  refine returnsInHanded_of_change (C := Try.checked) row_own started (by kernel_rfl) Try.func23
    (ChangeSpec.witness6 (enc := enc) (C := Try.checked) false ⟨#[], #[.slice none 0 0, .slice none 0 0], []⟩ 8 (by kernel_rfl) (by kernel_rfl) (by kernel_rfl) (by kernel_rfl)) ?_
  intro W base args ds gs before hval0 hW hcnd _
  have hval : ∀ (j : Nat) t v, Try.f23.params[j]? = some t → args[j]? = some v → Value.okWide Try.prog W .any base t v := hval0
  have hW' := hW
  obtain ⟨p, q, hA0, hV, rfl, _, _⟩ := hW
  have hA : DataW.TrodAll enc Try.prog W 0 (fun _ => true) true Try.f23.params.toList args.toList ds p := hA0
  rw [Try.params23] at hA hval
  obtain ⟨v0, vs0, d0, ds0, p0, q0, hargs, rfl, rfl, h0, r0⟩ := trodAll_cons hA
  obtain ⟨v1, vs1, d1, ds1, p1, q1, rfl, rfl, rfl, h1, r1⟩ := trodAll_cons r0
  obtain ⟨rfl, rfl, rfl⟩ := trodAll_nil r1
  obtain rfl : args = #[v0, v1] := by cases args; simp_all
  obtain ⟨rfl, rfl⟩ := trodVars_none hV
  have hlt0 : ∀ x ∈ p0, x.block < W.heap.size := fun x hx => by exact hW'.lt x (by simp [hx])
  obtain ⟨A0, n0, c0, rfl, hb0⟩ := open_bytes (hval 0 22 v0 rfl rfl) h0 hlt0
  have hlt1 : ∀ x ∈ p1, x.block < W.heap.size := fun x hx => by exact hW'.lt x (by simp [hx])
  obtain ⟨A1, n1, c1, rfl, hb1⟩ := open_bytes (hval 1 22 v1 rfl rfl) h1 hlt1
  clear hA0 hval0
  refine (fnRounds_walk A0 n0 c0 A1 n1 c1 W hb0 hb1).mono fun e W' ⟨he, hb⟩ => ?_
  subst he
  exact ⟨_, rfl, _, _, _, [], _, [], hW', (trodAll_cons_mk (shut_bool Try.underlying4 _) trodAll_mk0), (trodAll_cons_mk (read_again_bytes h0 hlt0 hb) (trodAll_cons_mk (read_again_bytes h1 hlt1 hb) trodAll_mk0)), rfl, hb.frame _, fun h => by cases h⟩

set_option maxRecDepth 100000 in
theorem fnRounds_closed : joinedFacts Try.prog 23 Try.f23 Rows.fnRoundsSpec Rows.fnRoundsRow = true := by
  unfold joinedFacts
  repeat' (with_reducible apply facAnd)
  all_goals first | (with_reducible exact facEnter) | (with_reducible exact facLaid) | (with_reducible exact facMaps) | (with_reducible exact facStops) | (with_reducible exact facKnobs) | (with_reducible exact facHeard) | (rw [facLifts]; as_aux_lemma => kernel_rfl) | (rw [facMake]; as_aux_lemma => kernel_rfl) | (as_aux_lemma => kernel_rfl)

/-- THE STATEMENT -/
theorem fnRounds_holds : Rows.FnRoundsSaid :=
  OpenClaim.holds_of_wide 23 Try.f23 rfl rfl rfl rfl rfl rfl rfl ⟨rfl, rfl, rfl, rfl, rfl⟩ rfl rfl rfl rfl rfl (by kernel_rfl) Try.func23 fnRounds_closed
    (of_decide_eq_true (by kernel_rfl)) (by unfold Func.isWrapper; first | (rw [if_pos (by decide +kernel)]; kernel_rfl) | (rw [if_neg (by decide +kernel)]; exact ⟨rfl, rfl⟩))
    (fun os started H enc _ => fnRounds_lifted os started H enc)
#print axioms fnRounds_holds
end Go.Proofs.Ytjboamhjfncgdaa
