/-
  The law FnJointBest: for every code the law answers true. No condition.
-/
import Derived.Test.YtkicifkigbciaaaFac
import Derived.Test.YtkicifkigbciaaaZDrawJ
import Derived.Test.YtkicifkigbciaaaJoBS
import Derived.Test.YtkicifkigbciaaaSame
import Derived.Test.YtkicifkigbciaaaRowB
namespace Go.Proofs.Ytkicifkigbciaaa
open Go.ChangeShapes Go.WideShapes Go.ChangeAt Go.RowKit

theorem sumZ_erase (L : List Spr) : ∀ (x : List Int) (j : Nat) (h : j < x.length), sumZ L (x.eraseIdx j) = sumZ L x - (sprAt L (x[j]).toNat).m
  | [], j, h => by simp at h
  | a :: t, 0, _ => by simp [sumZ]; omega
  | a :: t, j + 1, h => by
    have ih := sumZ_erase L t j (by simpa using h)
    simp only [List.eraseIdx_cons_succ, sumZ, List.getElem_cons_succ]
    omega
/-- without any one of its spares the best joint is too short -/
theorem best_short {L : List Spr} {kind miles : Int} {x : List Int} (h : bestP L kind miles x) {j : Nat} (hj : j < x.length) : sumZ L x - (sprAt L (x[j]).toNat).m < miles := by
  apply Classical.byContradiction
  intro hn
  have hsub : ∀ i, i ∈ x.eraseIdx j → i ∈ x := fun i hi => List.mem_of_mem_eraseIdx hi
  have hj2 : joinP L kind miles (x.eraseIdx j) := ⟨⟨h.1.1.1.sublist (List.eraseIdx_sublist x j), fun i hi => h.1.1.2 i (hsub i hi)⟩, fun i hi => h.1.2.1 i (hsub i hi), by rw [sumZ_erase L x j hj]; omega⟩
  have h2 := h.2 _ hj2
  have hl : (x.eraseIdx j).length = x.length - 1 := List.length_eraseIdx_of_lt hj
  unfold ahead at h2
  rw [if_neg (by omega)] at h2
  have : (x.eraseIdx j).length < x.length := by omega
  simp [this] at h2
theorem asc_lt {n : Nat} {x : List Int} (h : ascP n x) {i : Nat} (hi : i + 1 < x.length) : x[i] < x[i + 1] := (List.pairwise_iff_getElem.1 h.1) i (i + 1) (by omega) hi (by omega)

set_option maxRecDepth 100000 in
set_option maxHeartbeats 8000000 in
theorem fnJointBest_in (A : Option Addr) (n c : Nat) (w : World) (hl : n ≤ 1048576) (hnc : n ≤ c) (hb : Bytes w.heap.size w A n) :
    Calls Try.prog 6 #[.slice A n c] w (RetB (.bool true) w) := by
  have Hb := Lib.hid hb
  clear hb
  go_enter Try.func6, Try.ntmps6
  go_wp2_with fail
  refine (DrawJointBest_c A n c _ (by omega) hnc Hb.out).mono ?_
  rintro e w1 ⟨B, d, L, kind, miles, rfl, hzl, k0, k1, m0, m1, hA, hB⟩
  have Ha := Lib.hid hA
  have Bt := Lib.hid hB
  clear hA hB Hb
  go_wp2_with fail
  refine (implJointBest_b B d L kind miles _ Ha.out).mono ?_
  rintro e w2 ⟨B2, d2, rfl, ra2, ro2, rb2⟩
  dsimp only
  replace Ha := Lib.hid (Ha.out.go rb2)
  replace Bt := Lib.hid (below_step Bt.out rb2)
  have Hx := Lib.hid ra2
  clear ra2 ro2 rb2
  go_wp2_with fail
  refine (specJointBest_b B d L kind miles _ Ha.out).mono ?_
  rintro e w3 ⟨B3, d3, rfl, ra3, ro3, rb3⟩
  dsimp only
  replace Ha := Lib.hid (Ha.out.go rb3)
  replace Bt := Lib.hid (below_step Bt.out rb3)
  replace Hx := Lib.hid (Hx.out.go rb3)
  have Hy := Lib.hid ra3
  clear ra3 ro3 rb3
  cases hjb : jointB L kind miles
  · go_wp2_with fail
    refine (sameInts_c B2 B3 d2 d3 _ _ _ Hx.out Hy.out).mono ?_
    rintro e w4 ⟨rfl, q4, rfl⟩
    have hdt : decide (jointL L kind miles = jointL L kind miles) = true := by simp
    replace Ha := Lib.hid (Ha.out.go (below_drewN (Below.refl _ _) q4))
    replace Hx := Lib.hid (Hx.out.go (below_drewN (Below.refl _ _) q4))
    replace Hy := Lib.hid (Hy.out.go (below_drewN (Below.refl _ _) q4))
    have Bt0 := Bt
    replace Bt := Lib.hid (below_drewN Bt.out q4)
    go_wp2_with fail
    refine (sameInts_c B2 B3 d2 d3 _ _ _ Hx.out Hy.out).mono ?_
    rintro e w4 ⟨rfl, q5, rfl⟩
    go_wp2
    go_ret
    exact ⟨rfl, by first | exact below_drewN Bt0.out _ | exact below_drewN Bt.out _⟩
  have hfew : fewV L kind miles = ((jointL L kind miles).length : Int) - 1 := by rw [fewV_joint, hjb]; rfl
  have hval : sprB 10 L = true ∧ 1 ≤ miles ∧ miles ≤ 500 := by
    apply Classical.byContradiction
    intro h2
    unfold jointB jointG at hjb
    rw [if_neg h2] at hjb
    cases hjb
  obtain ⟨hbest, hlen⟩ : bestP L kind miles (jointL L kind miles) ∧ (jointL L kind miles).length ≤ 10 := by
    rcases joint_spec hval.1 kind hval.2 with ⟨_, h2, _⟩ | ⟨x, h2, h3, _, _, h6⟩
    · rw [(joint_none h2).2] at hjb; cases hjb
    · rw [(joint_some h2).1]; exact ⟨h3, h6⟩
  obtain ⟨hvL, hm1, hm2⟩ := hval
  have hl10 := (sprB_true.1 hvL).1
  have HvL := Lib.hid hvL
  have Hfew := Lib.hid hfew
  clear hfew hjb
  go_wp2_with fail
  refine (sameInts_c B2 B3 d2 d3 _ _ _ Hx.out Hy.out).mono ?_
  rintro e w4 ⟨rfl, q4, rfl⟩
  have hdt : decide (jointL L kind miles = jointL L kind miles) = true := by simp
  replace Ha := Lib.hid (Ha.out.go (below_drewN (Below.refl _ _) q4))
  replace Hx := Lib.hid (Hx.out.go (below_drewN (Below.refl _ _) q4))
  replace Bt := Lib.hid (below_drewN Bt.out q4)
  clear Hy
  have hjs := hbest.1.2.2
  obtain ⟨x, hx⟩ : ∃ x, jointL L kind miles = x := ⟨_, rfl⟩
  rw [hx] at hbest hlen Hfew Hx hjs ⊢
  have Hbest := Lib.hid hbest
  clear hbest hx
  obtain ⟨wa, hwa⟩ : ∃ wa, wa = w3.drewN q4 := ⟨_, rfl⟩
  rw [← hwa] at Ha Hx Bt ⊢
  clear hwa hdt hvL
  go_wp2
  go_loopw [10, 11, 12] (fun sv lv iv wr => ∃ (i : Nat) (le : Int), i ≤ x.length ∧ iv = .int .i64 i ∧ sv = .int .i64 (sumZ L (x.take i)) ∧ lv = .int .i64 le ∧ (i = 0 ∧ le = 1000 ∨ ∃ j : Nat, ∃ hj : j < x.length, le = (sprAt L (x[j]).toNat).m) ∧ Below wa.heap.size wa wr) (fun _ _ iv _ => x.length - (intOf iv).toNat)
  case atStart => exact ⟨0, 1000, Nat.zero_le _, rfl, rfl, rfl, .inl ⟨rfl, rfl⟩, Below.refl _ _⟩
  case round =>
    obtain ⟨i, le, hi, rfl, rfl, rfl, hle, hb⟩ := hrel
    have Hb := Lib.hid hb
    have Hle := Lib.hid hle
    clear hb hle
    have hasc := Hbest.out.1.1
    have hsb := sumZ_bd HvL.out (x.take i) (fun j hj => hasc.2 j (List.mem_of_mem_take hj))
    have hsl : (x.take i).length ≤ 10 := by rw [List.length_take]; omega
    have hlb : 1 ≤ le ∧ le ≤ 1000 := by
      rcases Hle.out with ⟨_, h⟩ | ⟨j, hj, h⟩
      · omega
      · have h1 := hasc.2 x[j] (List.getElem_mem hj)
        have h2 := (sprB_at HvL.out (k := (x[j]).toNat) (by omega)).1
        omega
    by_cases hlt : i < x.length
    · obtain ⟨b1, o1, rfl, _, _, hc1⟩ := (Hx.out.go Hb.out).rd.at_ hlt
      have hxk := hasc.2 x[i] (List.getElem_mem hlt)
      have hst := jv_step (L := L) (x := x) hlt
      have hkx := Hbest.out.1.2.1 x[i] (List.getElem_mem hlt)
      have hprev : 0 < i → ∃ yp : Int, wr.cell? ⟨b1, o1 + (i - 1), none⟩ = some (.int .i64 yp) ∧ yp < x[i] := fun h0 => by
        obtain ⟨b2, o2, e2, _, _, hc2⟩ := (Hx.out.go Hb.out).rd.at_ (k := i - 1) (by omega)
        injection e2 with e2
        injection e2 with e21 e22 _
        subst e21; subst e22
        rw [List.getElem?_eq_getElem (by omega)] at hc2
        refine ⟨x[i - 1], hc2, ?_⟩
        have := asc_lt hasc (i := i - 1) (by omega)
        have e : i - 1 + 1 = i := by omega
        simpa only [e] using this
      have Hmin := Lib.hid (show ∃ j : Nat, ∃ hj : j < x.length, (sprAt L (x[i]).toNat).m = (sprAt L (x[j]).toNat).m from ⟨i, hlt, rfl⟩)
      rw [List.getElem?_eq_getElem hlt] at hc1
      obtain ⟨y, hy⟩ : ∃ y, x[i] = y := ⟨_, rfl⟩
      rw [hy] at hxk hst hkx hprev Hmin
      replace hc1 : wr.cell? ⟨b1, o1 + i, none⟩ = some (.int .i64 y) := by rw [← hy]; exact hc1
      obtain ⟨m, rfl⟩ : ∃ m : Nat, y = (m : Int) := ⟨y.toNat, by omega⟩
      have hm : m < L.length := by omega
      rw [Int.toNat_natCast] at hst hkx Hmin
      obtain ⟨b0, o0, rfl, _, _, he0, he1⟩ := (Ha.out.go Hb.out).rd.at_ hm
      have hbd := (sprB_at HvL.out hm).1
      obtain ⟨s, hs⟩ : ∃ s, sprAt L m = s := ⟨_, rfl⟩
      rw [hs] at he0 he1 hbd hst hkx Hmin
      have hkb : (s.k != kind) = false := by simpa [ofKind] using hkx
      have g1 : (i : Int) < (x.length : Int) := by omega
      have g2 : (m : Int) < (L.length : Int) := by omega
      obtain ⟨q, hq⟩ : ∃ q, sumZ L (x.take i) = q := ⟨_, rfl⟩
      rw [hq] at hsb hst ⊢
      have Hst := Lib.hid hst
      clear hy hs hq hst hkx
      rcases Nat.eq_zero_or_pos i with h0 | h0
      · subst h0
        have g10 : (0 : Int) < (x.length : Int) := by omega
        rw [Nat.add_zero] at hc1
        clear hprev
        by_cases hmin : le ≤ s.m
        · go_wp2
          go_quiet (fail)
          go_wp2
          go_roundw
          case rel => exact ⟨0 + 1, le, by omega, by go_num, by rw [Hst.out], (by rw [Int.min_def, if_pos (by omega)]), (by rcases Hle.out with h | h; exact absurd hmin (by omega); exact .inr h), below_drewN Hb.out nq⟩
          case measure => simp [intOf]; omega
        · go_wp2
          go_quiet (fail)
          go_wp2
          go_roundw
          case rel => exact ⟨0 + 1, s.m, by omega, by go_num, by rw [Hst.out], (by rw [Int.min_def, if_neg (by omega)]), .inr Hmin.out, below_drewN Hb.out nq⟩
          case measure => simp [intOf]; omega
      · obtain ⟨yp, hyp, hypm⟩ := hprev h0
        have gi0 : (0 : Int) < (i : Int) := by omega
        have gid : decide ((0 : Int) < (i : Int)) = true := decide_eq_true gi0
        have q1 : IntKind.i64.wrap ((i : Int) - 1) = (i : Int) - 1 := IntWalk.i64_in _ (by omega)
        have q2 : (0 : Int) ≤ (i : Int) - 1 := by omega
        have q3 : ((i : Int) - 1).toNat = i - 1 := by omega
        have q4 : (i : Int) - 1 < (x.length : Int) := by omega
        have gle : ¬ (m : Int) ≤ yp := by omega
        clear hprev
        by_cases hmin : le ≤ s.m
        · go_wp2
          go_quiet (fail)
          go_wp2
          go_roundw
          case rel => exact ⟨i + 1, le, by omega, by go_num, by rw [Hst.out], (by rw [Int.min_def, if_pos (by omega)]), (by rcases Hle.out with h | h; exact absurd h.1 (by omega); exact .inr h), below_drewN Hb.out nq⟩
          case measure => simp [intOf]; omega
        · go_wp2
          go_quiet (fail)
          go_wp2
          go_roundw
          case rel => exact ⟨i + 1, s.m, by omega, by go_num, by rw [Hst.out], (by rw [Int.min_def, if_neg (by omega)]), .inr Hmin.out, below_drewN Hb.out nq⟩
          case measure => simp [intOf]; omega
    · obtain rfl : i = x.length := by omega
      have Hf := Lib.hid (fun w h => implJointFewest_b B d L kind miles w h)
      rw [Hfew.out] at Hf
      rw [List.take_length] at hsb ⊢
      have hshort : sumZ L x - le < miles := by
        rcases Hle.out with ⟨h, h2⟩ | ⟨j, hj, h⟩
        · have h3 := List.eq_nil_of_length_eq_zero h
          rw [h3] at hjs ⊢
          simp [sumZ] at hjs ⊢
          omega
        · rw [h]; exact best_short Hbest.out hj
      obtain ⟨q, hq⟩ : ∃ q, sumZ L x = q := ⟨_, rfl⟩
      rw [hq] at hsb hshort hjs ⊢
      clear hq
      go_wp2_with fail
      refine (Hf.out _ (Ha.out.go Hb.out)).mono ?_
      rintro e w9 ⟨rfl, hb9⟩
      have H9 := Lib.hid (below_step (below_step Bt.out Hb.out) hb9)
      clear hb9
      go_wp2
      go_ret
      exact ⟨rfl, H9.out⟩

theorem fnJointBest_walk (A0 : Option Addr) (n0 c0 : Nat) (w : World) (hb0 : Byt0 w A0 n0 c0) :
    Calls Try.prog 6 #[.slice A0 n0 c0] w (RetB (.bool true) w) := by
  by_cases hl0 : 1048576 < n0
  · clear hb0
    go_enter Try.func6, Try.ntmps6
    go_wp2
    go_ret
    exact ⟨rfl, Below.refl _ _⟩
  exact fnJointBest_in A0 n0 c0 w (by omega) hb0.1 hb0.2.2

set_option maxRecDepth 100000 in
theorem fnJointBest_lifted (os : Os) (started : os.Started) (H : Type) (enc : TypeId × Value → H) :
    ReturnsInHanded {} Try.checked os 6 .any (Rows.fnJointBestSpec.pre6 enc Try.prog Try.f6 Rows.fnJointBestRow.domain false) (Rows.fnJointBestSpec.post enc Try.prog Try.f6 false true false false) := by
  refine returnsInHanded_of_change (C := Try.checked) row_own started (by kernel_rfl) Try.func6
    (ChangeSpec.witness6 (enc := enc) (C := Try.checked) false ⟨#[], #[.slice none 0 0], []⟩ 8 (by kernel_rfl) (by kernel_rfl) (by kernel_rfl) (by kernel_rfl)) ?_
  intro W base args ds gs before hval0 hW hcnd _
  have hval : ∀ (j : Nat) t v, Try.f6.params[j]? = some t → args[j]? = some v → Value.okWide Try.prog W .any base t v := hval0
  have hW' := hW
  obtain ⟨p, q, hA0, hV, rfl, _, _⟩ := hW
  have hA : DataW.TrodAll enc Try.prog W 0 (fun _ => true) true Try.f6.params.toList args.toList ds p := hA0
  rw [Try.params6] at hA hval
  obtain ⟨v0, vs0, d0, ds0, p0, q0, hargs, rfl, rfl, h0, r0⟩ := trodAll_cons hA
  obtain ⟨rfl, rfl, rfl⟩ := trodAll_nil r0
  obtain rfl : args = #[v0] := by cases args; simp_all
  obtain ⟨rfl, rfl⟩ := trodVars_none hV
  have hlt0 : ∀ x ∈ p0, x.block < W.heap.size := fun x hx => by exact hW'.lt x (by simp [hx])
  obtain ⟨A0, n0, c0, rfl, hb0⟩ := open_bytes (hval 0 22 v0 rfl rfl) h0 hlt0
  clear hA0 hval0
  refine (fnJointBest_walk A0 n0 c0 W hb0).mono fun e W' ⟨he, hb⟩ => ?_
  subst he
  exact ⟨_, rfl, _, _, _, [], _, [], hW', (trodAll_cons_mk (shut_bool Try.underlying4 _) trodAll_mk0), (trodAll_cons_mk (read_again_bytes h0 hlt0 hb) trodAll_mk0), rfl, hb.frame _, fun h => by cases h⟩

set_option maxRecDepth 100000 in
theorem fnJointBest_closed : joinedFacts Try.prog 6 Try.f6 Rows.fnJointBestSpec Rows.fnJointBestRow = true := by
  unfold joinedFacts
  repeat' (with_reducible apply facAnd)
  all_goals first | (with_reducible exact facEnter) | (with_reducible exact facLaid) | (with_reducible exact facMaps) | (with_reducible exact facStops) | (with_reducible exact facKnobs) | (with_reducible exact facHeard) | (rw [facLifts]; as_aux_lemma => kernel_rfl) | (rw [facMake]; as_aux_lemma => kernel_rfl) | (as_aux_lemma => kernel_rfl)

/-- THE STATEMENT -/
theorem fnJointBest_holds : Rows.FnJointBestSaid :=
  OpenClaim.holds_of_wide 6 Try.f6 rfl rfl rfl rfl rfl rfl rfl ⟨rfl, rfl, rfl, rfl, rfl⟩ rfl rfl rfl rfl rfl (by kernel_rfl) Try.func6 fnJointBest_closed
    (of_decide_eq_true (by kernel_rfl)) (by unfold Func.isWrapper; first | (rw [if_pos (by decide +kernel)]; kernel_rfl) | (rw [if_neg (by decide +kernel)]; exact ⟨rfl, rfl⟩))
    (fun os started H enc _ => fnJointBest_lifted os started H enc)
#print axioms fnJointBest_holds
end Go.Proofs.Ytkicifkigbciaaa
