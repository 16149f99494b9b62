/-
  The law FnCross: for all codes the law answers true. No condition.
-/
import Derived.Test.YtjboamhjfncgdaaFac
import Derived.Test.YtjboamhjfncgdaaRowB
import Derived.Test.YtjboamhjfncgdaaHas
import Derived.Test.YtjboamhjfncgdaaCtX
import Derived.Test.YtjboamhjfncgdaaRtE
import Derived.Test.YtjboamhjfncgdaaRtA
import Derived.Test.YtjboamhjfncgdaaRtT
import Derived.Test.YtjboamhjfncgdaaRtQ
namespace Go.Proofs.Ytjboamhjfncgdaa
open Go.ChangeShapes Go.WideShapes Go.ChangeAt Go.RowKit

theorem crossB_true {R : List Rot} {i k : Int} (h : crossB R i k = true) : ∃ a b : Nat, i = (a : Int) ∧ k = (b : Int) ∧ a < R.length ∧ b < R.length ∧ chartB R = true ∧ crI R a b = true ∧ a ≠ b := by
  unfold crossB at h
  rw [Bool.and_eq_true, Bool.and_eq_true] at h
  obtain ⟨⟨h1, h2⟩, h3⟩ := h
  obtain ⟨k1, k2, k3⟩ := hasR_true.1 h1
  obtain ⟨_, m2, m3⟩ := hasR_true.1 h2
  refine ⟨i.toNat, k.toNat, by omega, by omega, by omega, by omega, k1, h3, fun e => ?_⟩
  rw [e, crI_own] at h3
  cases h3
theorem crossB_comm (R : List Rot) (i k : Int) : crossB R i k = crossB R k i := by
  unfold crossB; rw [crI_comm, Bool.and_comm (hasR R i)]
theorem mem_abv {R : List Rot} {a b : Nat} (hc : chartB R = true) (ha : a < b) (hb : b < R.length) (h : crI R a b = true) : decide ((b : Int) ∈ abvV R (a : Int)) = true := by
  refine decide_eq_true ?_
  rw [abvV_yes (hasR_nat hc (by omega))]
  simpa [ints_mem] using (abvN_mem.2 ⟨ha, hb, by rw [crI_comm]; exact h⟩ : b ∈ abvN R a)

theorem eq_case {a b c d : Int} (h : ¬ (a = b ∧ c = d)) : (a == b) = false ∨ ((a == b) = true ∧ (c == d) = false) := by
  by_cases h1 : a = b
  · exact .inr ⟨beq_iff_eq.2 h1, beq_eq_false_iff_ne.2 fun e => h ⟨h1, e⟩⟩
  · exact .inl (beq_eq_false_iff_ne.2 h1)
theorem common_cases {r s : Rot} (h : ¬ ((r.a = s.a ∧ r.b = s.b) ∨ (r.a = s.c ∧ r.b = s.d) ∨ (r.c = s.a ∧ r.d = s.b) ∨ (r.c = s.c ∧ r.d = s.d))) :
    ((r.a == s.a) = false ∨ ((r.a == s.a) = true ∧ (r.b == s.b) = false)) ∧ ((r.a == s.c) = false ∨ ((r.a == s.c) = true ∧ (r.b == s.d) = false)) ∧ ((r.c == s.a) = false ∨ ((r.c == s.a) = true ∧ (r.d == s.b) = false)) ∧ ((r.c == s.c) = false ∨ ((r.c == s.c) = true ∧ (r.d == s.d) = false)) :=
  ⟨eq_case fun e => h (.inl e), eq_case fun e => h (.inr (.inl e)), eq_case fun e => h (.inr (.inr (.inl e))), eq_case fun e => h (.inr (.inr (.inr e)))⟩

set_option maxRecDepth 100000 in
set_option maxHeartbeats 4000000 in
theorem fnCross_in (A0 : Option Addr) (n0 c0 : Nat) (w : World) (hl0 : n0 ≤ 1048576) (hc0 : n0 ≤ c0) (hb0 : Bytes w.heap.size w A0 n0) :
    Calls Try.prog 17 #[.slice A0 n0 c0] w (RetB (.bool true) w) := by
  have Hb := Lib.hid hb0
  clear hb0
  have u0 : ¬ (1048576 : Int) < (n0 : Int) := by omega
  go_enter Try.func17, Try.ntmps17
  go_wp2_with fail
  refine (DrawRoutesCross_c A0 n0 c0 _ (by omega) hc0 Hb.out).mono ?_
  rintro e w1 ⟨B, d, zs, i, k, rfl, hzl, hA, hB⟩
  have Ha := Lib.hid hA
  have Bt := Lib.hid hB
  clear hA hB Hb
  dsimp only
  have HI := Lib.hid (fun W h => implRoutesCross_b B d zs i k W h)
  have HS := Lib.hid (fun W h => specRoutesCross_b B d zs i k W h)
  go_wp2_with fail
  refine (HI.out _ Ha.out).mono ?_
  rintro e w2 ⟨rfl, hb2⟩
  replace Ha := Lib.hid (Ha.out.go hb2)
  replace Bt := Lib.hid (below_step Bt.out hb2)
  clear hb2
  dsimp only
  go_wp2_with fail
  refine (HS.out _ Ha.out).mono ?_
  rintro e w3 ⟨rfl, hb3⟩
  replace Ha := Lib.hid (Ha.out.go hb3)
  replace Bt := Lib.hid (below_step Bt.out hb3)
  clear hb3 HI HS
  dsimp only
  cases hv : crossB zs i k
  · clear hv
    go_wp2
    go_ret
    exact ⟨rfl, Bt.out⟩
  obtain ⟨a, b, rfl, rfl, hal, hbl, hcB, hcI, hne⟩ := crossB_true hv
  have HV := fun W h => implRoutesCross_b B d zs (b : Int) (a : Int) W h
  rw [crossB_comm, hv] at HV
  have HT := fun W h => implChartTurn_b B d zs W h
  rw [turnV_yes hcB, hcB] at HT
  have HU := fun W A c h => implRoutesCross_b A c (turnL zs) (a : Int) (b : Int) W h
  rw [crossB_turn, hv] at HU
  obtain ⟨T, hT⟩ : ∃ T, turnL zs = T := ⟨_, rfl⟩
  rw [hT] at HT HU
  obtain ⟨bb, off, rfl, hat⟩ := argK_at Ha.out hal
  obtain ⟨bb', off', eb, hat'⟩ := argK_at Ha.out hbl
  injection eb with eb
  injection eb with eb eo _
  subst eb
  subst eo
  have hcom : ¬ (((rotAt zs a).a = (rotAt zs b).a ∧ (rotAt zs a).b = (rotAt zs b).b) ∨ ((rotAt zs a).a = (rotAt zs b).c ∧ (rotAt zs a).b = (rotAt zs b).d) ∨ ((rotAt zs a).c = (rotAt zs b).a ∧ (rotAt zs a).d = (rotAt zs b).b) ∨ ((rotAt zs a).c = (rotAt zs b).c ∧ (rotAt zs a).d = (rotAt zs b).d)) := fun h => by
    have := cr_common h
    unfold crI at hcI
    rw [this] at hcI
    cases hcI
  have hat1 := fun W h => hat W h
  have hat2 := fun W h => hat' W h
  obtain ⟨r, hr⟩ : ∃ r, rotAt zs a = r := ⟨_, rfl⟩
  obtain ⟨s, hs⟩ : ∃ s, rotAt zs b = s := ⟨_, rfl⟩
  rw [hr] at hat1 hcom
  rw [hs] at hat2 hcom
  have Hv := Lib.hid HV
  have Ht := Lib.hid HT
  have Hu := Lib.hid HU
  have Hat1 := Lib.hid hat1
  have Hat2 := Lib.hid hat2
  have Hcom := Lib.hid hcom
  have g1 : (a : Int) < (zs.length : Int) := by omega
  have g2 : (b : Int) < (zs.length : Int) := by omega
  have b1 : ((a : Int) != (b : Int)) = true := by simp; omega
  clear HV HT HU hat hat' hat1 hat2 hcom hr hs hT hv
  rcases (by omega : a < b ∨ b < a) with hlt | hlt
  · have hlo := mem_abv hcB hlt hbl hcI
    have HO := fun W h => implRouteAbove_b (some ⟨bb, off, none⟩) d zs (a : Int) W h
    have HH := fun W A c h => hasInt_c A c (abvV zs (a : Int)) (b : Int) W h
    rw [hlo] at HH
    obtain ⟨O, hO⟩ : ∃ O, abvV zs (a : Int) = O := ⟨_, rfl⟩
    rw [hO] at HO HH
    have Ho := Lib.hid HO
    have Hh := Lib.hid HH
    have g3 : (a : Int) < (b : Int) := by omega
    have g4 : ¬ (b : Int) < (a : Int) := by omega
    clear HO HH hO hlo hcI hcB hal hbl hne hlt
    go_wp2_with fail
    refine (Ht.out _ Ha.out).mono ?_
    rintro e w4 ⟨B1, d1, rfl, ra, _, hb4⟩
    have Ha4 := Lib.hid (Ha.out.go hb4)
    have Bt4 := Lib.hid (below_step Bt.out hb4)
    have T4 := Lib.hid ra
    have L4 := Lib.hid hb4
    clear ra hb4
    dsimp only
    go_wp2_with fail
    refine (Ho.out _ Ha4.out).mono ?_
    rintro e w5 ⟨B2, d2, rfl, ra, _, hb5⟩
    have Ha5 := Lib.hid (Ha4.out.go hb5)
    have Bt5 := Lib.hid (below_step Bt4.out hb5)
    have T5 := Lib.hid (T4.out.go hb5)
    have O5 := Lib.hid ra
    have hb35 := Lib.hid (below_step L4.out hb5)
    have K1 := Hat1.out _ hb35.out
    have K2 := Hat2.out (w5.alloc (.cells #[.int .i64 r.a, .int .i64 r.b, .int .i64 r.c, .int .i64 r.d] 37)) (hb35.out.alloc hb35.out.size _)
    obtain ⟨k10, k11, k12, k13⟩ := K1
    obtain ⟨k20, k21, k22, k23⟩ := K2
    clear ra hb5
    have HN := Lib.hid (show Below w5.heap.size w5 ((w5.alloc (.cells #[.int .i64 r.a, .int .i64 r.b, .int .i64 r.c, .int .i64 r.d] 37)).alloc (.cells #[.int .i64 s.a, .int .i64 s.b, .int .i64 s.c, .int .i64 s.d] 37)) from ((Below.refl _ _).alloc (Nat.le_refl _) _).alloc (by simp) _)
    dsimp only [id]
    obtain ⟨E1, E2, E3, E4⟩ : ((r.a == s.a) = false ∨ ((r.a == s.a) = true ∧ (r.b == s.b) = false)) ∧ ((r.a == s.c) = false ∨ ((r.a == s.c) = true ∧ (r.b == s.d) = false)) ∧ ((r.c == s.a) = false ∨ ((r.c == s.a) = true ∧ (r.d == s.b) = false)) ∧ ((r.c == s.c) = false ∨ ((r.c == s.c) = true ∧ (r.d == s.d) = false)) := common_cases Hcom.out
    clear Hcom
    rcases E1 with e1 | ⟨e1, f1⟩ <;> rcases E2 with e2 | ⟨e2, f2⟩ <;> rcases E3 with e3 | ⟨e3, f3⟩ <;> rcases E4 with e4 | ⟨e4, f4⟩
    all_goals
      go_wp2_with fail
      refine (Hv.out _ (Ha5.out.go HN.out)).mono ?_
      rintro e w6 ⟨rfl, hb6⟩
      have Hb6 := Lib.hid (below_step HN.out hb6)
      clear hb6
      go_wp2_with fail
      refine (Hu.out _ _ _ (T5.out.go Hb6.out)).mono ?_
      rintro e w7 ⟨rfl, hb7⟩
      have Hb7 := Lib.hid (below_step Hb6.out hb7)
      clear hb7
      go_wp2_with fail
      refine (Hh.out _ _ _ (O5.out.go Hb7.out)).mono ?_
      rintro e w8 ⟨rfl, rfl⟩
      go_wp2
      go_ret
      exact ⟨rfl, below_step Bt5.out Hb7.out⟩
  · have hlo := mem_abv hcB hlt hal (by rw [crI_comm]; exact hcI)
    have HO := fun W h => implRouteAbove_b (some ⟨bb, off, none⟩) d zs (b : Int) W h
    have HH := fun W A c h => hasInt_c A c (abvV zs (b : Int)) (a : Int) W h
    rw [hlo] at HH
    obtain ⟨O, hO⟩ : ∃ O, abvV zs (b : Int) = O := ⟨_, rfl⟩
    rw [hO] at HO HH
    have Ho := Lib.hid HO
    have Hh := Lib.hid HH
    have g3 : (b : Int) < (a : Int) := by omega
    have g4 : ¬ (a : Int) < (b : Int) := by omega
    clear HO HH hO hlo hcI hcB hal hbl hne hlt
    go_wp2_with fail
    refine (Ht.out _ Ha.out).mono ?_
    rintro e w4 ⟨B1, d1, rfl, ra, _, hb4⟩
    have Ha4 := Lib.hid (Ha.out.go hb4)
    have Bt4 := Lib.hid (below_step Bt.out hb4)
    have T4 := Lib.hid ra
    have L4 := Lib.hid hb4
    clear ra hb4
    dsimp only
    go_wp2_with fail
    refine (Ho.out _ Ha4.out).mono ?_
    rintro e w5 ⟨B2, d2, rfl, ra, _, hb5⟩
    have Ha5 := Lib.hid (Ha4.out.go hb5)
    have Bt5 := Lib.hid (below_step Bt4.out hb5)
    have T5 := Lib.hid (T4.out.go hb5)
    have O5 := Lib.hid ra
    have hb35 := Lib.hid (below_step L4.out hb5)
    have K1 := Hat1.out _ hb35.out
    have K2 := Hat2.out (w5.alloc (.cells #[.int .i64 r.a, .int .i64 r.b, .int .i64 r.c, .int .i64 r.d] 37)) (hb35.out.alloc hb35.out.size _)
    obtain ⟨k10, k11, k12, k13⟩ := K1
    obtain ⟨k20, k21, k22, k23⟩ := K2
    clear ra hb5
    have HN := Lib.hid (show Below w5.heap.size w5 ((w5.alloc (.cells #[.int .i64 r.a, .int .i64 r.b, .int .i64 r.c, .int .i64 r.d] 37)).alloc (.cells #[.int .i64 s.a, .int .i64 s.b, .int .i64 s.c, .int .i64 s.d] 37)) from ((Below.refl _ _).alloc (Nat.le_refl _) _).alloc (by simp) _)
    dsimp only [id]
    obtain ⟨E1, E2, E3, E4⟩ : ((r.a == s.a) = false ∨ ((r.a == s.a) = true ∧ (r.b == s.b) = false)) ∧ ((r.a == s.c) = false ∨ ((r.a == s.c) = true ∧ (r.b == s.d) = false)) ∧ ((r.c == s.a) = false ∨ ((r.c == s.a) = true ∧ (r.d == s.b) = false)) ∧ ((r.c == s.c) = false ∨ ((r.c == s.c) = true ∧ (r.d == s.d) = false)) := common_cases Hcom.out
    clear Hcom
    rcases E1 with e1 | ⟨e1, f1⟩ <;> rcases E2 with e2 | ⟨e2, f2⟩ <;> rcases E3 with e3 | ⟨e3, f3⟩ <;> rcases E4 with e4 | ⟨e4, f4⟩
    all_goals
      go_wp2_with fail
      refine (Hv.out _ (Ha5.out.go HN.out)).mono ?_
      rintro e w6 ⟨rfl, hb6⟩
      have Hb6 := Lib.hid (below_step HN.out hb6)
      clear hb6
      go_wp2_with fail
      refine (Hu.out _ _ _ (T5.out.go Hb6.out)).mono ?_
      rintro e w7 ⟨rfl, hb7⟩
      have Hb7 := Lib.hid (below_step Hb6.out hb7)
      clear hb7
      go_wp2_with fail
      refine (Hh.out _ _ _ (O5.out.go Hb7.out)).mono ?_
      rintro e w8 ⟨rfl, rfl⟩
      go_wp2
      go_ret
      exact ⟨rfl, below_step Bt5.out Hb7.out⟩

theorem fnCross_walk (A0 : Option Addr) (n0 c0 : Nat) (w : World) (hb0 : Byt0 w A0 n0 c0) :
    Calls Try.prog 17 #[.slice A0 n0 c0] w (RetB (.bool true) w) := by
  by_cases hl0 : 1048576 < n0
  · clear hb0
    go_enter Try.func17, Try.ntmps17
    go_wp2
    go_ret
    exact ⟨rfl, Below.refl _ _⟩
  exact fnCross_in A0 n0 c0 w (by omega) hb0.1 hb0.2.2

set_option maxRecDepth 100000 in
theorem fnCross_lifted (os : Os) (started : os.Started) (H : Type) (enc : TypeId × Value → H) :
    ReturnsInHanded {} Try.checked os 17 .any (Rows.fnCrossSpec.pre6 enc Try.prog Try.f17 Rows.fnCrossRow.domain false) (Rows.fnCrossSpec.post enc Try.prog Try.f17 false true false false) := by
  refine returnsInHanded_of_change (C := Try.checked) row_own started (by kernel_rfl) Try.func17
    (ChangeSpec.witness6 (enc := enc) (C := Try.checked) false ⟨#[], #[.slice none 0 0], []⟩ 8 (by kernel_rfl) (by kernel_rfl) (by kernel_rfl) (by kernel_rfl)) ?_
  intro W base args ds gs before hval0 hW hcnd _
  have hval : ∀ (j : Nat) t v, Try.f17.params[j]? = some t → args[j]? = some v → Value.okWide Try.prog W .any base t v := hval0
  have hW' := hW
  obtain ⟨p, q, hA0, hV, rfl, _, _⟩ := hW
  have hA : DataW.TrodAll enc Try.prog W 0 (fun _ => true) true Try.f17.params.toList args.toList ds p := hA0
  rw [Try.params17] at hA hval
  obtain ⟨v0, vs0, d0, ds0, p0, q0, hargs, rfl, rfl, h0, r0⟩ := trodAll_cons hA
  obtain ⟨rfl, rfl, rfl⟩ := trodAll_nil r0
  obtain rfl : args = #[v0] := by cases args; simp_all
  obtain ⟨rfl, rfl⟩ := trodVars_none hV
  have hlt0 : ∀ x ∈ p0, x.block < W.heap.size := fun x hx => by exact hW'.lt x (by simp [hx])
  obtain ⟨A0, n0, c0, rfl, hb0⟩ := open_bytes (hval 0 22 v0 rfl rfl) h0 hlt0
  clear hA0 hval0
  refine (fnCross_walk A0 n0 c0 W hb0).mono fun e W' ⟨he, hb⟩ => ?_
  subst he
  exact ⟨_, rfl, _, _, _, [], _, [], hW', (trodAll_cons_mk (shut_bool Try.underlying4 _) trodAll_mk0), (trodAll_cons_mk (read_again_bytes h0 hlt0 hb) trodAll_mk0), rfl, hb.frame _, fun h => by cases h⟩

set_option maxRecDepth 100000 in
theorem fnCross_closed : joinedFacts Try.prog 17 Try.f17 Rows.fnCrossSpec Rows.fnCrossRow = true := by
  unfold joinedFacts
  repeat' (with_reducible apply facAnd)
  all_goals first | (with_reducible exact facEnter) | (with_reducible exact facLaid) | (with_reducible exact facMaps) | (with_reducible exact facStops) | (with_reducible exact facKnobs) | (with_reducible exact facHeard) | (rw [facLifts]; as_aux_lemma => kernel_rfl) | (rw [facMake]; as_aux_lemma => kernel_rfl) | (as_aux_lemma => kernel_rfl)

/-- THE STATEMENT -/
theorem fnCross_holds : Rows.FnCrossSaid :=
  OpenClaim.holds_of_wide 17 Try.f17 rfl rfl rfl rfl rfl rfl rfl ⟨rfl, rfl, rfl, rfl, rfl⟩ rfl rfl rfl rfl rfl (by kernel_rfl) Try.func17 fnCross_closed
    (of_decide_eq_true (by kernel_rfl)) (by unfold Func.isWrapper; first | (rw [if_pos (by decide +kernel)]; kernel_rfl) | (rw [if_neg (by decide +kernel)]; exact ⟨rfl, rfl⟩))
    (fun os started H enc _ => fnCross_lifted os started H enc)
#print axioms fnCross_holds
end Go.Proofs.Ytjboamhjfncgdaa
