/-
  The law FnJoint: for every code the law answers true. No condition.
-/
import Derived.Test.YtmbdggakahbciaaFac
import Derived.Test.YtmbdggakahbciaaZDrawK
import Derived.Test.YtmbdggakahbciaaJoinM
import Derived.Test.YtmbdggakahbciaaJoBS
import Derived.Test.YtmbdggakahbciaaRowB
import Derived.BigQuiet
namespace Go.Proofs.Ytmbdggakahbciaa
open Go.ChangeShapes Go.WideShapes Go.ChangeAt Go.RowKit

set_option maxRecDepth 100000 in
set_option maxHeartbeats 4000000 in
theorem fnJoint_in (A : Option Addr) (n c : Nat) (w : World) (hl : n ≤ 1048576) (hnc : n ≤ c) (hb : Bytes w.heap.size w A n) :
    Calls Try.prog 8 #[.slice A n c] w (RetB (.bool true) w) := by
  have Hb := Lib.hid hb
  clear hb
  go_enter Try.func8, Try.ntmps8
  go_wp2_with fail
  refine (DrawJointFewest_c A n c _ (by omega) hnc Hb.out).mono ?_
  rintro e w1 ⟨B, d, L, kind, miles, rfl, hzl, k0, k1, m0, m1, hA, hB⟩
  have Ha := Lib.hid hA
  have Bt := Lib.hid hB
  clear hA hB Hb
  have Hj := Lib.hid (fun miles w h => implJointFewest_b B d L kind miles w h)
  have Hs := Lib.hid (fun w h => specJointFewest_b B d L kind miles w h)
  have hfa := few_all (L := L) (kind := kind) (miles := miles)
  have hfl := few_less (L := L) (kind := kind) (miles := miles)
  have hfo := fun h h1 => few_one (L := L) (kind := kind) (miles := miles) h h1 ⟨k0, by omega⟩
  obtain ⟨v, hv⟩ : ∃ v, fewV L kind miles = v := ⟨_, rfl⟩
  have Hi := Lib.hid (Hj.out miles)
  rw [hv] at Hi Hs hfa hfl hfo
  have Hfa := Lib.hid hfa
  have Hfl := Lib.hid hfl
  have Hfo := Lib.hid hfo
  have nv : (v != v) = false := by simp
  have ne : (v == v) = true := by simp
  clear hv hfa hfl hfo
  go_wp2_with fail
  refine (Hi.out _ Ha.out).mono ?_
  rintro e w2 ⟨rfl, rb2⟩
  replace Ha := Lib.hid (Ha.out.go rb2)
  replace Bt := Lib.hid (below_step Bt.out rb2)
  clear rb2
  go_wp2_with fail
  refine (Hs.out _ Ha.out).mono ?_
  rintro e w3 ⟨rfl, rb3⟩
  replace Ha := Lib.hid (Ha.out.go rb3)
  replace Bt := Lib.hid (below_step Bt.out rb3)
  clear rb3 Hi Hs
  by_cases hv0 : v < 0
  · go_wp2
    go_ret
    exact ⟨rfl, Bt.out⟩
  have hvp : 0 ≤ v := by omega
  have hga := Hfa.out hvp
  have Hf := Lib.hid (fun w h => implSparesFit_b B d L ⟨miles, kind⟩ w h)
  have Hm := Lib.hid (fun w h => implSparesMiles_b B d L kind w h)
  obtain ⟨p, hp⟩ : ∃ p, serveB L [⟨miles, kind⟩] = p := ⟨_, rfl⟩
  obtain ⟨q, hq⟩ : ∃ q, milesK L kind = q := ⟨_, rfl⟩
  obtain ⟨u, hu⟩ : ∃ u, fewV L kind (miles - 1) = u := ⟨_, rfl⟩
  have Hi := Lib.hid (Hj.out (miles - 1))
  rw [hp] at Hf Hfo
  rw [hq] at Hm hga
  rw [hu] at Hi Hfl
  clear hp hq hu Hfa Hj
  go_wp2_with fail
  refine (Hf.out _ Ha.out).mono ?_
  rintro e w4 ⟨rfl, rb4⟩
  replace Ha := Lib.hid (Ha.out.go rb4)
  replace Bt := Lib.hid (below_step Bt.out rb4)
  clear rb4
  go_wp2_with fail
  refine (Hi.out _ Ha.out).mono ?_
  rintro e w5 ⟨rfl, rb5⟩
  replace Ha := Lib.hid (Ha.out.go rb5)
  replace Bt := Lib.hid (below_step Bt.out rb5)
  clear rb5
  go_wp2_with fail
  refine (Hm.out _ Ha.out).mono ?_
  rintro e w6 ⟨rfl, rb6⟩
  replace Bt := Lib.hid (below_step Bt.out rb6)
  clear rb6 Ha
  have e0 : decide (miles ≤ q) = true := decide_eq_true hga
  by_cases h1 : miles = 1
  · have e1 : (miles == 1) = true := by simp [h1]
    have e2 : decide ((50 : Int) < miles) = false := decide_eq_false (by omega)
    have hpo := Hfo.out hvp (by omega)
    rw [hpo]
    by_cases h0 : v = 0
    · have e3 : decide (v = 0) = true := decide_eq_true h0
      have e4 : (v == 0) = true := by simp [h0]
      go_wp2
      go_ret
      exact ⟨rfl, Bt.out⟩
    · have e3 : decide (v = 0) = false := decide_eq_false h0
      have e4 : (v == 0) = false := by simp [h0]
      go_wp2
      go_ret
      exact ⟨rfl, Bt.out⟩
  · have e1 : (miles == 1) = false := by simp [h1]
    obtain ⟨hu0, hu1⟩ := Hfl.out hvp h1
    have e5 : decide (0 ≤ u) = true := decide_eq_true hu0
    have e6 : decide (u ≤ v) = true := decide_eq_true hu1
    by_cases h5 : miles ≤ 50
    · have e2 : decide ((50 : Int) < miles) = false := decide_eq_false (by omega)
      have hpo := Hfo.out hvp h5
      rw [hpo]
      by_cases h0 : v = 0
      · have e3 : decide (v = 0) = true := decide_eq_true h0
        have e4 : (v == 0) = true := by simp [h0]
        go_wp2
        go_ret
        exact ⟨rfl, Bt.out⟩
      · have e3 : decide (v = 0) = false := decide_eq_false h0
        have e4 : (v == 0) = false := by simp [h0]
        go_wp2
        go_ret
        exact ⟨rfl, Bt.out⟩
    · have e2 : decide ((50 : Int) < miles) = true := decide_eq_true (by omega)
      go_wp2
      go_ret
      exact ⟨rfl, Bt.out⟩

theorem fnJoint_walk (A0 : Option Addr) (n0 c0 : Nat) (w : World) (hb0 : Byt0 w A0 n0 c0) :
    Calls Try.prog 8 #[.slice A0 n0 c0] w (RetB (.bool true) w) := by
  by_cases hl0 : 1048576 < n0
  · clear hb0
    go_enter Try.func8, Try.ntmps8
    go_wp2
    go_ret
    exact ⟨rfl, Below.refl _ _⟩
  exact fnJoint_in A0 n0 c0 w (by omega) hb0.1 hb0.2.2

set_option maxRecDepth 100000 in
theorem fnJoint_lifted (os : Os) (started : os.Started) (H : Type) (enc : TypeId × Value → H) :
    ReturnsInHanded {} Try.checked os 8 .any (Rows.fnJointSpec.pre6 enc Try.prog Try.f8 Rows.fnJointRow.domain false) (Rows.fnJointSpec.post enc Try.prog Try.f8 false true false false) := by
  refine returnsInHanded_of_change (C := Try.checked) row_own started (by kernel_rfl) Try.func8
    (ChangeSpec.witness6 (enc := enc) (C := Try.checked) false ⟨#[], #[.slice none 0 0], []⟩ 8 (by kernel_rfl) (by kernel_rfl) (by kernel_rfl) (by kernel_rfl)) ?_
  intro W base args ds gs before hval0 hW hcnd _
  have hval : ∀ (j : Nat) t v, Try.f8.params[j]? = some t → args[j]? = some v → Value.okWide Try.prog W .any base t v := hval0
  have hW' := hW
  obtain ⟨p, q, hA0, hV, rfl, _, _⟩ := hW
  have hA : DataW.TrodAll enc Try.prog W 0 (fun _ => true) true Try.f8.params.toList args.toList ds p := hA0
  rw [Try.params8] at hA hval
  obtain ⟨v0, vs0, d0, ds0, p0, q0, hargs, rfl, rfl, h0, r0⟩ := trodAll_cons hA
  obtain ⟨rfl, rfl, rfl⟩ := trodAll_nil r0
  obtain rfl : args = #[v0] := by cases args; simp_all
  obtain ⟨rfl, rfl⟩ := trodVars_none hV
  have hlt0 : ∀ x ∈ p0, x.block < W.heap.size := fun x hx => by exact hW'.lt x (by simp [hx])
  obtain ⟨A0, n0, c0, rfl, hb0⟩ := open_bytes (hval 0 22 v0 rfl rfl) h0 hlt0
  clear hA0 hval0
  refine (fnJoint_walk A0 n0 c0 W hb0).mono fun e W' ⟨he, hb⟩ => ?_
  subst he
  exact ⟨_, rfl, _, _, _, [], _, [], hW', (trodAll_cons_mk (shut_bool Try.underlying4 _) trodAll_mk0), (trodAll_cons_mk (read_again_bytes h0 hlt0 hb) trodAll_mk0), rfl, hb.frame _, fun h => by cases h⟩

set_option maxRecDepth 100000 in
theorem fnJoint_closed : joinedFacts Try.prog 8 Try.f8 Rows.fnJointSpec Rows.fnJointRow = true := by
  unfold joinedFacts
  repeat' (with_reducible apply facAnd)
  all_goals first | (with_reducible exact facEnter) | (with_reducible exact facLaid) | (with_reducible exact facMaps) | (with_reducible exact facStops) | (with_reducible exact facKnobs) | (with_reducible exact facHeard) | (rw [facLifts]; as_aux_lemma => kernel_rfl) | (rw [facMake]; as_aux_lemma => kernel_rfl) | (as_aux_lemma => kernel_rfl)

/-- THE STATEMENT -/
theorem fnJoint_holds : Rows.FnJointSaid :=
  OpenClaim.holds_of_wide 8 Try.f8 rfl rfl rfl rfl rfl rfl rfl ⟨rfl, rfl, rfl, rfl, rfl⟩ rfl rfl rfl rfl rfl (by kernel_rfl) Try.func8 fnJoint_closed
    (of_decide_eq_true (by kernel_rfl)) (by unfold Func.isWrapper; first | (rw [if_pos (by decide +kernel)]; kernel_rfl) | (rw [if_neg (by decide +kernel)]; exact ⟨rfl, rfl⟩))
    (fun os started H enc _ => fnJoint_lifted os started H enc)
#print axioms fnJoint_holds
end Go.Proofs.Ytmbdggakahbciaa
