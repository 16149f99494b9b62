/-
  The law FnWhere: for every code the law answers true. No condition.
-/
import Derived.Test.YtgidemhencbgdaaCDrawW
import Derived.Test.YtgidemhencbgdaaCWhere
import Derived.Test.YtgidemhencbgdaaRowB
namespace Go.Proofs.Ytgidemhencbgdaa
open Go.ChangeShapes Go.WideShapes Go.ChangeAt Go.RowKit

set_option maxHeartbeats 2000000 in
theorem fnWhere_in (A : Option Addr) (n c : Nat) (w : World) (hl : n ≤ 1048576) (hnc : n ≤ c) (hb : Bytes w.heap.size w A n) :
    Calls Try.prog 3 #[.slice A n c] w (RetB (.bool true) w) := by
  have Hb := Lib.hid hb
  clear hb
  go_enter Try.func3, Try.ntmps3
  go_wp2_with fail
  refine (DrawCableWhere_c A n c _ (by omega) hnc Hb.out).mono ?_
  rintro e w1 ⟨B, d, ss, x, rfl, hzl, hx0, hx1, ha1, hb1⟩
  have Ha := Lib.hid ha1
  have Bt := Lib.hid hb1
  clear ha1 hb1 Hb
  go_wp2_with fail
  refine (implCableWhere_t B d ss x _ Ha.out hx1).mono ?_
  rintro e w2 ⟨rfl, rb2⟩
  replace Ha := Lib.hid (Ha.out.go rb2)
  replace Bt := Lib.hid (below_step Bt.out rb2)
  clear rb2
  go_wp2_with fail
  refine (specCableWhere_t B d ss x _ Ha.out hx1).mono ?_
  rintro e w3 ⟨rfl, rb3⟩
  replace Ha := Lib.hid (Ha.out.go rb3)
  replace Bt := Lib.hid (below_step Bt.out rb3)
  clear rb3
  cases hok : whereOk ss x
  · have Hok := Lib.hid hok
    have g0 : (whereM ss x != whereM ss x) = false := by simp
    have g1 : (whereR ss x != whereR ss x) = false := by simp
    have g2 : (whereM ss x == whereM ss x) = true := by simp
    have g3 : (whereR ss x == whereR ss x) = true := by simp
    clear hok
    go_wp2
    go_ret
    exact ⟨rfl, Bt.out⟩
  · have hv : cabB ss = true ∧ 0 ≤ x := by
      unfold whereOk at hok
      simpa using hok
    obtain ⟨hv, hx⟩ := hv
    have eM : whereM ss x = (whereL ss x).1 := by unfold whereM; rw [hok]; rfl
    have eR : whereR ss x = (whereL ss x).2 := by unfold whereR; rw [hok]; rfl
    obtain ⟨f1, f2, f3, f4, f5⟩ := whereL_facts (cabB_true.1 hv).2 x hx
    rw [eM, eR]
    obtain ⟨W, hW⟩ : ∃ W, (whereL ss x).1 = W := ⟨_, rfl⟩
    obtain ⟨R, hR⟩ : ∃ R, (whereL ss x).2 = R := ⟨_, rfl⟩
    rw [hW] at f1 f2 f4 f5 ⊢
    rw [hR] at f3 f4 ⊢
    have hm := cab_miles hv
    have hob := ohmsTo_bd (cab_small hv) W f1
    have hl8 := (cab_len hv).2
    obtain ⟨O, hO⟩ : ∃ O, ohmsTo ss W = O := ⟨_, rfl⟩
    rw [hO] at f4 hob
    have HO := Lib.hid (show ohmsI ss W = O by rw [ohmsI_in hv (inB_true.2 ⟨f1, f2⟩), hO])
    have k0 : (O + R == x) = true := by rw [beq_iff_eq]; omega
    have k1 : 0 ≤ O := hob.1
    have k2 : R ≤ x := by omega
    have k3 : O ≤ x := by omega
    have k4 : O + R ≤ 9223372036854775807 := by omega
    have k5 : W ≤ 400 := by omega
    have g0 : (W != W) = false := by simp
    have g1 : (R != R) = false := by simp
    have Hv := Lib.hid hv
    have F5 := Lib.hid f5
    clear hok eM eR hW hR hO f4 f5 hv hob
    by_cases hwm : W < milesL ss
    · have f6 := F5.out hwm
      have hob2 := ohmsTo_bd (cab_small Hv.out) (W + 1) (by omega)
      obtain ⟨X, hX⟩ : ∃ X, ohmsTo ss (W + 1) = X := ⟨_, rfl⟩
      rw [hX] at f6 hob2
      have HX := Lib.hid (show ohmsI ss (W + 1) = X by rw [ohmsI_in Hv.out (inB_true.2 (by omega)), hX])
      have j0 : (X == -1) = false := by rw [beq_eq_false_iff_ne]; omega
      have j1 : decide (x < X) = true := by simp; omega
      clear hX hob2
      go_wp2_with fail
      refine (implCableOhms_b B d ss (W + 1) _ Ha.out).mono ?_
      rintro e w4 ⟨rfl, rb4⟩
      rw [HX.out]
      replace Ha := Lib.hid (Ha.out.go rb4)
      replace Bt := Lib.hid (below_step Bt.out rb4)
      clear rb4
      go_wp2_with fail
      refine (implCableOhms_b B d ss W _ Ha.out).mono ?_
      rintro e w5 ⟨rfl, rb5⟩
      rw [HO.out]
      replace Bt := Lib.hid (below_step Bt.out rb5)
      clear rb5
      go_wp2
      go_ret
      exact ⟨rfl, Bt.out⟩
    · have HX := Lib.hid (show ohmsI ss (W + 1) = -1 from ohmsI_out (inB_false.2 (by omega)))
      go_wp2_with fail
      refine (implCableOhms_b B d ss (W + 1) _ Ha.out).mono ?_
      rintro e w4 ⟨rfl, rb4⟩
      rw [HX.out]
      replace Ha := Lib.hid (Ha.out.go rb4)
      replace Bt := Lib.hid (below_step Bt.out rb4)
      clear rb4
      go_wp2_with fail
      refine (implCableOhms_b B d ss W _ Ha.out).mono ?_
      rintro e w5 ⟨rfl, rb5⟩
      rw [HO.out]
      replace Bt := Lib.hid (below_step Bt.out rb5)
      clear rb5
      go_wp2
      go_ret
      exact ⟨rfl, Bt.out⟩

theorem fnWhere_walk (A0 : Option Addr) (n0 c0 : Nat) (w : World) (hb0 : Byt0 w A0 n0 c0) :
    Calls Try.prog 3 #[.slice A0 n0 c0] w (RetB (.bool true) w) := by
  by_cases hl0 : 1048576 < n0
  · clear hb0
    go_enter Try.func3, Try.ntmps3
    go_wp2
    go_ret
    exact ⟨rfl, Below.refl _ _⟩
  exact fnWhere_in A0 n0 c0 w (by omega) hb0.1 hb0.2.2

set_option maxRecDepth 100000 in
theorem fnWhere_lifted (os : Os) (started : os.Started) (H : Type) (enc : TypeId × Value → H) :
    ReturnsInHanded {} Try.checked os 3 .any (Rows.fnWhereSpec.pre6 enc Try.prog Try.f3 Rows.fnWhereRow.domain false) (Rows.fnWhereSpec.post enc Try.prog Try.f3 false true false false) := by
  refine returnsInHanded_of_change (C := Try.checked) row_own started (by kernel_rfl) Try.func3
    (ChangeSpec.witness6 (enc := enc) (C := Try.checked) false ⟨#[], #[.slice none 0 0], []⟩ 8 (by kernel_rfl) (by kernel_rfl) (by kernel_rfl) (by kernel_rfl)) ?_
  intro W base args ds gs before hval0 hW hcnd _
  have hval : ∀ (j : Nat) t v, Try.f3.params[j]? = some t → args[j]? = some v → Value.okWide Try.prog W .any base t v := hval0
  have hW' := hW
  obtain ⟨p, q, hA0, hV, rfl, _, _⟩ := hW
  have hA : DataW.TrodAll enc Try.prog W 0 (fun _ => true) true Try.f3.params.toList args.toList ds p := hA0
  rw [Try.params3] at hA hval
  obtain ⟨v0, vs0, d0, ds0, p0, q0, hargs, rfl, rfl, h0, r0⟩ := trodAll_cons hA
  obtain ⟨rfl, rfl, rfl⟩ := trodAll_nil r0
  obtain rfl : args = #[v0] := by cases args; simp_all
  obtain ⟨rfl, rfl⟩ := trodVars_none hV
  have hlt0 : ∀ x ∈ p0, x.block < W.heap.size := fun x hx => by exact hW'.lt x (by simp [hx])
  obtain ⟨A0, n0, c0, rfl, hb0⟩ := open_bytes (hval 0 22 v0 rfl rfl) h0 hlt0
  clear hA0 hval0
  refine (fnWhere_walk A0 n0 c0 W hb0).mono fun e W' ⟨he, hb⟩ => ?_
  subst he
  exact ⟨_, rfl, _, _, _, [], _, [], hW', (trodAll_cons_mk (shut_bool Try.underlying4 _) trodAll_mk0), (trodAll_cons_mk (read_again_bytes h0 hlt0 hb) trodAll_mk0), rfl, hb.frame _, fun h => by cases h⟩

/-- THE STATEMENT -/
theorem fnWhere_holds : Rows.FnWhereSaid :=
  OpenClaim.holds_of_wide 3 Try.f3 rfl rfl rfl rfl rfl rfl rfl ⟨rfl, rfl, rfl, rfl, rfl⟩ rfl rfl rfl rfl rfl (by kernel_rfl) Try.func3 (by kernel_rfl)
    (of_decide_eq_true (by kernel_rfl)) (by unfold Func.isWrapper; first | (rw [if_pos (by decide +kernel)]; kernel_rfl) | (rw [if_neg (by decide +kernel)]; exact ⟨rfl, rfl⟩))
    (fun os started H enc _ => fnWhere_lifted os started H enc)
#print axioms fnWhere_holds
end Go.Proofs.Ytgidemhencbgdaa
