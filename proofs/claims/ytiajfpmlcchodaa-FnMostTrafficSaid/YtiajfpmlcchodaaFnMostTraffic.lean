/-
  The law FnMostTraffic: for every code the law answers true. No condition.
-/
import Derived.Test.YtiajfpmlcchodaaFac
import Derived.Test.YtiajfpmlcchodaaRowB
import Derived.Test.YtiajfpmlcchodaaNdW
import Derived.Test.YtiajfpmlcchodaaTfXn
import Derived.Test.YtiajfpmlcchodaaTfJ
import Derived.Test.YtiajfpmlcchodaaTfX
import Derived.Test.YtiajfpmlcchodaaTfZ
import Derived.Test.YtiajfpmlcchodaaTfL
namespace Go.Proofs.Ytiajfpmlcchodaa
open Go.ChangeShapes Go.WideShapes Go.ChangeAt Go.RowKit

set_option maxRecDepth 100000 in
set_option maxHeartbeats 8000000 in
theorem fnMostTraffic_in (A : Option Addr) (n c : Nat) (w : World) (hl : n ≤ 1048576) (hnc : n ≤ c) (hb : Bytes w.heap.size w A n) :
    Calls Try.prog 3 #[.slice A n c] w (RetB (.bool true) w) := by
  have Hb := Lib.hid hb
  clear hb
  go_enter Try.func3, Try.ntmps3
  go_wp2_with fail
  refine (DrawTrafficMost_c A n c _ (by omega) hnc Hb.out).mono ?_
  rintro e w1 ⟨m, B, d, zs, f, t, rfl, hm2, hm5, hzl, ⟨f0, f1⟩, ⟨t0, t1⟩, hA, hB⟩
  have Ha := Lib.hid hA
  have Bt := Lib.hid hB
  clear hA hB Hb
  have Himpl := Lib.hid (fun W h => implTrafficMost_b (m : Int) B d zs f t W h)
  have Hspec := Lib.hid (fun W h => specTrafficMost_b (m : Int) B d zs f t W h)
  have Hswap := Lib.hid (fun W h => implTrafficMost_b (m : Int) B d zs t f W h)
  have C1 := Lib.hid (fun W h => implCutLeast_b (m : Int) B d zs f t W h)
  have C2 := Lib.hid (fun W h => implTrafficLoad_b (m : Int) B d zs f t W h)
  have Hcl := Lib.hid (fun h => cut_least (n := (m : Int)) (N := zs) (f := f) (t := t) h)
  have Htl := Lib.hid (fun h => traf_TL (n := (m : Int)) (N := zs) (f := f) (t := t) h)
  have Hno := Lib.hid (fun (h : endB (m : Int) zs f t = false) => (show mostV (m : Int) zs f t = -1 by unfold mostV; rw [h]; rfl))
  rw [most_swap] at Hswap
  obtain ⟨v, hv⟩ : ∃ v, mostV (m : Int) zs f t = v := ⟨_, rfl⟩
  rw [hv] at Himpl Hspec Hswap Hcl Htl Hno
  have nv : (v != v) = false := by simp
  have ne : (v == v) = true := by simp
  obtain ⟨T1, hT1⟩ : ∃ T, lcV (m : Int) zs f t = T := ⟨_, rfl⟩
  obtain ⟨T2, hT2⟩ : ∃ T, TLv (m : Int) zs f t = T := ⟨_, rfl⟩
  rw [hT1] at C1 Hcl
  rw [hT2] at C2 Htl
  clear hv hT1 hT2
  dsimp only
  go_wp2_with fail
  refine (Himpl.out _ Ha.out).mono ?_
  rintro e w2 ⟨rfl, rb2⟩
  replace Ha := Lib.hid (Ha.out.go rb2)
  replace Bt := Lib.hid (below_step Bt.out rb2)
  clear rb2
  go_wp2_with fail
  refine (Hspec.out _ Ha.out).mono ?_
  rintro e w3 ⟨rfl, rb3⟩
  replace Ha := Lib.hid (Ha.out.go rb3)
  replace Bt := Lib.hid (below_step Bt.out rb3)
  clear rb3
  by_cases h0 : v < 0
  · go_wp2
    go_ret
    exact ⟨rfl, Bt.out⟩
  cases he : endB (m : Int) zs f t
  · have := Hno.out he; omega
  rw [he] at C1 C2
  have hcl := Hcl.out he
  have htl := Htl.out he
  have K3 := Lib.hid (fun (W : World) (A7 : Option Addr) (c7 : Nat) (h1 : ArgL W B d zs) (h2 : Arg W A7 c7 T1) => (by have h := implCutOf_b (m : Int) f t B A7 d c7 zs T1 W h1 h2; rw [hcl] at h; exact h : Calls Try.prog 12 #[.int .i64 (m : Int), .slice B zs.length d, .int .i64 f, .int .i64 t, .slice A7 T1.length c7] W (RetB (.int .i64 v) W)))
  have K4 := Lib.hid (fun (W : World) (A8 : Option Addr) (c8 : Nat) (h1 : ArgL W B d zs) (h2 : Arg W A8 c8 T2) => (by have h := implLoadTraffic_b (m : Int) f t B A8 d c8 zs T2 W h1 h2; rw [htl] at h; exact h : Calls Try.prog 13 #[.int .i64 (m : Int), .slice B zs.length d, .int .i64 f, .int .i64 t, .slice A8 T2.length c8] W (RetB (.int .i64 v) W)))
  clear he hcl htl Hcl Htl Hno
  go_wp2_with fail
  refine (C1.out _ Ha.out).mono ?_
  rintro e w4 ⟨A7, c7, rfl, ra4, _, rb4⟩
  have Ra := Lib.hid ra4
  replace Ha := Lib.hid (Ha.out.go rb4)
  replace Bt := Lib.hid (below_step Bt.out rb4)
  clear ra4 rb4
  dsimp only
  go_wp2_with fail
  refine (C2.out _ Ha.out).mono ?_
  rintro e w5 ⟨A8, c8, rfl, ra5, _, rb5⟩
  have Rb := Lib.hid ra5
  replace Ra := Lib.hid (Ra.out.go rb5)
  replace Ha := Lib.hid (Ha.out.go rb5)
  replace Bt := Lib.hid (below_step Bt.out rb5)
  clear ra5 rb5
  dsimp only
  go_wp2_with fail
  refine (K3.out _ _ _ Ha.out Ra.out).mono ?_
  rintro e w6 ⟨rfl, rb6⟩
  replace Rb := Lib.hid (Rb.out.go rb6)
  replace Ha := Lib.hid (Ha.out.go rb6)
  replace Bt := Lib.hid (below_step Bt.out rb6)
  clear rb6
  go_wp2_with fail
  refine (K4.out _ _ _ Ha.out Rb.out).mono ?_
  rintro e w7 ⟨rfl, rb7⟩
  replace Ha := Lib.hid (Ha.out.go rb7)
  replace Bt := Lib.hid (below_step Bt.out rb7)
  clear rb7
  go_wp2_with fail
  refine (Hswap.out _ Ha.out).mono ?_
  rintro e w8 ⟨rfl, rb8⟩
  replace Bt := Lib.hid (below_step Bt.out rb8)
  clear rb8
  go_wp2
  go_ret
  exact ⟨rfl, Bt.out⟩

theorem fnMostTraffic_walk (A0 : Option Addr) (n0 c0 : Nat) (w : World) (hb0 : Byt0 w A0 n0 c0) :
    Calls Try.prog 3 #[.slice A0 n0 c0] w (RetB (.bool true) w) := by
  by_cases hl0 : 1048576 < n0
  · clear hb0
    go_enter Try.func3, Try.ntmps3
    go_wp2
    go_ret
    exact ⟨rfl, Below.refl _ _⟩
  exact fnMostTraffic_in A0 n0 c0 w (by omega) hb0.1 hb0.2.2

set_option maxRecDepth 100000 in
theorem fnMostTraffic_lifted (os : Os) (started : os.Started) (H : Type) (enc : TypeId × Value → H) :
    ReturnsInHanded {} Try.checked os 3 .any (Rows.fnMostTrafficSpec.pre6 enc Try.prog Try.f3 Rows.fnMostTrafficRow.domain false) (Rows.fnMostTrafficSpec.post enc Try.prog Try.f3 false true false false) := by
  refine returnsInHanded_of_change (C := Try.checked) row_own started (by kernel_rfl) Try.func3
    (ChangeSpec.witness6 (enc := enc) (C := Try.checked) false ⟨#[], #[.slice none 0 0], []⟩ 8 (by kernel_rfl) (by kernel_rfl) (by kernel_rfl) (by kernel_rfl)) ?_
  intro W base args ds gs before hval0 hW hcnd _
  have hval : ∀ (j : Nat) t v, Try.f3.params[j]? = some t → args[j]? = some v → Value.okWide Try.prog W .any base t v := hval0
  have hW' := hW
  obtain ⟨p, q, hA0, hV, rfl, _, _⟩ := hW
  have hA : DataW.TrodAll enc Try.prog W 0 (fun _ => true) true Try.f3.params.toList args.toList ds p := hA0
  rw [Try.params3] at hA hval
  obtain ⟨v0, vs0, d0, ds0, p0, q0, hargs, rfl, rfl, h0, r0⟩ := trodAll_cons hA
  obtain ⟨rfl, rfl, rfl⟩ := trodAll_nil r0
  obtain rfl : args = #[v0] := by cases args; simp_all
  obtain ⟨rfl, rfl⟩ := trodVars_none hV
  have hlt0 : ∀ x ∈ p0, x.block < W.heap.size := fun x hx => by exact hW'.lt x (by simp [hx])
  obtain ⟨A0, n0, c0, rfl, hb0⟩ := open_bytes (hval 0 22 v0 rfl rfl) h0 hlt0
  clear hA0 hval0
  refine (fnMostTraffic_walk A0 n0 c0 W hb0).mono fun e W' ⟨he, hb⟩ => ?_
  subst he
  exact ⟨_, rfl, _, _, _, [], _, [], hW', (trodAll_cons_mk (shut_bool Try.underlying4 _) trodAll_mk0), (trodAll_cons_mk (read_again_bytes h0 hlt0 hb) trodAll_mk0), rfl, hb.frame _, fun h => by cases h⟩

set_option maxRecDepth 100000 in
theorem fnMostTraffic_closed : joinedFacts Try.prog 3 Try.f3 Rows.fnMostTrafficSpec Rows.fnMostTrafficRow = true := by
  unfold joinedFacts
  repeat' (with_reducible apply facAnd)
  all_goals first | (with_reducible exact facEnter) | (with_reducible exact facLaid) | (with_reducible exact facMaps) | (with_reducible exact facStops) | (with_reducible exact facKnobs) | (with_reducible exact facHeard) | (rw [facLifts]; as_aux_lemma => kernel_rfl) | (rw [facMake]; as_aux_lemma => kernel_rfl) | (as_aux_lemma => kernel_rfl)

/-- THE STATEMENT -/
theorem fnMostTraffic_holds : Rows.FnMostTrafficSaid :=
  OpenClaim.holds_of_wide 3 Try.f3 rfl rfl rfl rfl rfl rfl rfl ⟨rfl, rfl, rfl, rfl, rfl⟩ rfl rfl rfl rfl rfl (by kernel_rfl) Try.func3 fnMostTraffic_closed
    (of_decide_eq_true (by kernel_rfl)) (by unfold Func.isWrapper; first | (rw [if_pos (by decide +kernel)]; kernel_rfl) | (rw [if_neg (by decide +kernel)]; exact ⟨rfl, rfl⟩))
    (fun os started H enc _ => fnMostTraffic_lifted os started H enc)
#print axioms fnMostTraffic_holds
end Go.Proofs.Ytiajfpmlcchodaa
