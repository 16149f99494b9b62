/-
  The law FnRatioLess: for every code the law answers true. No condition.
-/
import Derived.Test.YtgnemkflojohdaaFDrawR
import Derived.Test.YtgnemkflojohdaaRatioL
import Derived.Test.YtgnemkflojohdaaRowB
import Derived.Test.YtgnemkflojohdaaTwoK
namespace Go.Proofs.Ytgnemkflojohdaa
open Go.ChangeShapes Go.WideShapes Go.ChangeAt Go.RowKit

theorem lessR_facts {t l t2 l2 : Int} (h : lessR t l t2 l2 = true) : lessR t2 l2 t l = false ∧ lessR t l t l = false ∧ (t2 + 1 ≤ 1000000 → lessR t l (t2 + 1) l2 = true) := by
  have h0 := h
  unfold lessR at h0
  rw [Bool.and_eq_true, Bool.and_eq_true] at h0
  obtain ⟨⟨ha, hb⟩, hlt⟩ := h0
  have a := smallR_true ha
  have b := smallR_true hb
  have lt := of_decide_eq_true hlt
  refine ⟨?_, ?_, fun hc => ?_⟩
  · rw [lessR_yes hb ha]
    exact decide_eq_false (by omega)
  · rw [lessR_yes ha ha]
    exact decide_eq_false (by omega)
  · have hs : smallR (t2 + 1) l2 = true := by
      unfold smallR
      rw [inB_true.2 (by omega), inB_true.2 (by omega)]
      rfl
    rw [lessR_yes ha hs]
    have e : (t2 + 1) * l = t2 * l + l := by rw [Int.add_mul, Int.one_mul]
    exact decide_eq_true (by omega)

set_option maxRecDepth 100000 in
set_option maxHeartbeats 4000000 in
theorem fnRatioLess_in (A : Option Addr) (n c : Nat) (w : World) (hl : n ≤ 1048576) (hnc : n ≤ c) (hb : Bytes w.heap.size w A n) :
    Calls Try.prog 12 #[.slice A n c] w (RetB (.bool true) w) := by
  have Hb := Lib.hid hb
  clear hb
  go_enter Try.func12, Try.ntmps12
  go_wp2_with fail
  refine (DrawRatioLess_c A n c _ (by omega) hnc Hb.out).mono ?_
  rintro e w1 ⟨⟨at0, al0⟩, ⟨bt0, bl0⟩, rfl, hB, ha0, ha1, hb0, hb1⟩
  dsimp only at ha0 ha1 hb0 hb1 ⊢
  have Bt := Lib.hid hB
  clear hB Hb ha0 ha1
  cases hv : lessR at0 al0 bt0 bl0
  · have HV := Lib.hid hv
    clear hv
    have rx : Below w1.heap.size w1 ((w1.alloc (.cells #[.int .i64 at0, .int .i64 al0] 29)).alloc (.cells #[.int .i64 bt0, .int .i64 bl0] 29)) := ((Below.refl _ _).alloc (Nat.le_refl _) _).alloc (by simp) _
    have hx := (TwoAt.new 29 w1 at0 al0).old (.cells #[.int .i64 bt0, .int .i64 bl0] 29)
    have hy := TwoAt.new1 29 w1 (.cells #[.int .i64 at0, .int .i64 al0] 29) bt0 bl0
    replace Bt := Lib.hid (below_step Bt.out rx)
    have HF := Lib.hid hx
    have HG := Lib.hid hy
    clear rx hx hy
    have cHF1 := HF.out.c0
    have dHF1 := HF.out.c1
    have cHG1 := HG.out.c0
    have dHG1 := HG.out.c1
    go_wp2_with fail
    refine (implRatioLess_b at0 al0 bt0 bl0 _).mono ?_
    rintro e u2 ⟨rfl, rb2⟩
    rw [HV.out]
    replace HF := Lib.hid (HF.out.go rb2)
    replace HG := Lib.hid (HG.out.go rb2)
    replace Bt := Lib.hid (below_step Bt.out rb2)
    clear rb2
    have cHF2 := HF.out.c0
    have dHF2 := HF.out.c1
    have cHG2 := HG.out.c0
    have dHG2 := HG.out.c1
    go_wp2_with fail
    refine (specRatioLess_b at0 al0 bt0 bl0 _).mono ?_
    rintro e u3 ⟨rfl, rb3⟩
    rw [HV.out]
    replace HF := Lib.hid (HF.out.go rb3)
    replace HG := Lib.hid (HG.out.go rb3)
    replace Bt := Lib.hid (below_step Bt.out rb3)
    clear rb3
    have cHF3 := HF.out.c0
    have dHF3 := HF.out.c1
    have cHG3 := HG.out.c0
    have dHG3 := HG.out.c1
    go_wp2
    go_ret
    exact ⟨rfl, Bt.out⟩
  · have HV := Lib.hid hv
    have hf := lessR_facts hv
    have HN := Lib.hid hf.1
    have HS := Lib.hid hf.2.1
    have HC := Lib.hid hf.2.2
    have q1 : IntKind.i64.wrap (bt0 + 1) = bt0 + 1 := IntWalk.i64_in _ (by omega)
    clear hv hf
    have rx : Below w1.heap.size w1 ((w1.alloc (.cells #[.int .i64 at0, .int .i64 al0] 29)).alloc (.cells #[.int .i64 bt0, .int .i64 bl0] 29)) := ((Below.refl _ _).alloc (Nat.le_refl _) _).alloc (by simp) _
    have hx := (TwoAt.new 29 w1 at0 al0).old (.cells #[.int .i64 bt0, .int .i64 bl0] 29)
    have hy := TwoAt.new1 29 w1 (.cells #[.int .i64 at0, .int .i64 al0] 29) bt0 bl0
    replace Bt := Lib.hid (below_step Bt.out rx)
    have HF := Lib.hid hx
    have HG := Lib.hid hy
    clear rx hx hy
    have cHF1 := HF.out.c0
    have dHF1 := HF.out.c1
    have cHG1 := HG.out.c0
    have dHG1 := HG.out.c1
    go_wp2_with fail
    refine (implRatioLess_b at0 al0 bt0 bl0 _).mono ?_
    rintro e u2 ⟨rfl, rb2⟩
    rw [HV.out]
    replace HF := Lib.hid (HF.out.go rb2)
    replace HG := Lib.hid (HG.out.go rb2)
    replace Bt := Lib.hid (below_step Bt.out rb2)
    clear rb2
    have cHF2 := HF.out.c0
    have dHF2 := HF.out.c1
    have cHG2 := HG.out.c0
    have dHG2 := HG.out.c1
    go_wp2_with fail
    refine (specRatioLess_b at0 al0 bt0 bl0 _).mono ?_
    rintro e u3 ⟨rfl, rb3⟩
    rw [HV.out]
    replace HF := Lib.hid (HF.out.go rb3)
    replace HG := Lib.hid (HG.out.go rb3)
    replace Bt := Lib.hid (below_step Bt.out rb3)
    clear rb3
    have cHF3 := HF.out.c0
    have dHF3 := HF.out.c1
    have cHG3 := HG.out.c0
    have dHG3 := HG.out.c1
    have rxHX : Below u3.heap.size u3 (u3.alloc (.cells #[.int .i64 (bt0 + 1), .int .i64 bl0] 29)) := (Below.refl _ _).alloc (Nat.le_refl _) _
    have hxHX := TwoAt.new 29 u3 (bt0 + 1) bl0
    replace HF := Lib.hid (HF.out.go rxHX)
    replace HG := Lib.hid (HG.out.go rxHX)
    replace Bt := Lib.hid (below_step Bt.out rxHX)
    have HX := Lib.hid hxHX
    clear rxHX hxHX
    have cHF4 := HF.out.c0
    have dHF4 := HF.out.c1
    have cHG4 := HG.out.c0
    have dHG4 := HG.out.c1
    have cHX4 := HX.out.c0
    have dHX4 := HX.out.c1
    go_wp2_with fail
    refine (implRatioLess_b bt0 bl0 at0 al0 _).mono ?_
    rintro e u4 ⟨rfl, rb4⟩
    rw [HN.out]
    replace HF := Lib.hid (HF.out.go rb4)
    replace HG := Lib.hid (HG.out.go rb4)
    replace HX := Lib.hid (HX.out.go rb4)
    replace Bt := Lib.hid (below_step Bt.out rb4)
    clear rb4
    have cHF5 := HF.out.c0
    have dHF5 := HF.out.c1
    have cHG5 := HG.out.c0
    have dHG5 := HG.out.c1
    have cHX5 := HX.out.c0
    have dHX5 := HX.out.c1
    go_wp2_with fail
    refine (implRatioLess_b at0 al0 at0 al0 _).mono ?_
    rintro e u5 ⟨rfl, rb5⟩
    rw [HS.out]
    replace HF := Lib.hid (HF.out.go rb5)
    replace HG := Lib.hid (HG.out.go rb5)
    replace HX := Lib.hid (HX.out.go rb5)
    replace Bt := Lib.hid (below_step Bt.out rb5)
    clear rb5
    have cHF6 := HF.out.c0
    have dHF6 := HF.out.c1
    have cHG6 := HG.out.c0
    have dHG6 := HG.out.c1
    have cHX6 := HX.out.c0
    have dHX6 := HX.out.c1
    obtain hc | hc := Classical.em (1000000 < bt0 + 1)
    · have g1 : decide (bt0 + 1 > 1000000) = true := decide_eq_true hc
      clear hc hb0 hb1
      go_wp2
      go_ret
      exact ⟨rfl, Bt.out⟩
    · have g1 : decide (bt0 + 1 > 1000000) = false := decide_eq_false hc
      have HCt := Lib.hid (HC.out (by omega))
      clear hc hb0 hb1
      go_wp2_with fail
      refine (implRatioLess_b at0 al0 (bt0 + 1) bl0 _).mono ?_
      rintro e u6 ⟨rfl, rb6⟩
      rw [HCt.out]
      replace HF := Lib.hid (HF.out.go rb6)
      replace HG := Lib.hid (HG.out.go rb6)
      replace HX := Lib.hid (HX.out.go rb6)
      replace Bt := Lib.hid (below_step Bt.out rb6)
      clear rb6
      go_wp2
      go_ret
      exact ⟨rfl, Bt.out⟩

theorem fnRatioLess_walk (A0 : Option Addr) (n0 c0 : Nat) (w : World) (hb0 : Byt0 w A0 n0 c0) :
    Calls Try.prog 12 #[.slice A0 n0 c0] w (RetB (.bool true) w) := by
  by_cases hl0 : 1048576 < n0
  · clear hb0
    go_enter Try.func12, Try.ntmps12
    go_wp2
    go_ret
    exact ⟨rfl, Below.refl _ _⟩
  exact fnRatioLess_in A0 n0 c0 w (by omega) hb0.1 hb0.2.2

set_option maxRecDepth 100000 in
theorem fnRatioLess_lifted (os : Os) (started : os.Started) (H : Type) (enc : TypeId × Value → H) :
    ReturnsInHanded {} Try.checked os 12 .any (Rows.fnRatioLessSpec.pre6 enc Try.prog Try.f12 Rows.fnRatioLessRow.domain false) (Rows.fnRatioLessSpec.post enc Try.prog Try.f12 false true false false) := by
  refine returnsInHanded_of_change (C := Try.checked) row_own started (by kernel_rfl) Try.func12
    (ChangeSpec.witness6 (enc := enc) (C := Try.checked) false ⟨#[], #[.slice none 0 0], []⟩ 8 (by kernel_rfl) (by kernel_rfl) (by kernel_rfl) (by kernel_rfl)) ?_
  intro W base args ds gs before hval0 hW hcnd _
  have hval : ∀ (j : Nat) t v, Try.f12.params[j]? = some t → args[j]? = some v → Value.okWide Try.prog W .any base t v := hval0
  have hW' := hW
  obtain ⟨p, q, hA0, hV, rfl, _, _⟩ := hW
  have hA : DataW.TrodAll enc Try.prog W 0 (fun _ => true) true Try.f12.params.toList args.toList ds p := hA0
  rw [Try.params12] at hA hval
  obtain ⟨v0, vs0, d0, ds0, p0, q0, hargs, rfl, rfl, h0, r0⟩ := trodAll_cons hA
  obtain ⟨rfl, rfl, rfl⟩ := trodAll_nil r0
  obtain rfl : args = #[v0] := by cases args; simp_all
  obtain ⟨rfl, rfl⟩ := trodVars_none hV
  have hlt0 : ∀ x ∈ p0, x.block < W.heap.size := fun x hx => by exact hW'.lt x (by simp [hx])
  obtain ⟨A0, n0, c0, rfl, hb0⟩ := open_bytes (hval 0 22 v0 rfl rfl) h0 hlt0
  clear hA0 hval0
  refine (fnRatioLess_walk A0 n0 c0 W hb0).mono fun e W' ⟨he, hb⟩ => ?_
  subst he
  exact ⟨_, rfl, _, _, _, [], _, [], hW', (trodAll_cons_mk (shut_bool Try.underlying4 _) trodAll_mk0), (trodAll_cons_mk (read_again_bytes h0 hlt0 hb) trodAll_mk0), rfl, hb.frame _, fun h => by cases h⟩

/-- THE STATEMENT -/
theorem fnRatioLess_holds : Rows.FnRatioLessSaid :=
  OpenClaim.holds_of_wide 12 Try.f12 rfl rfl rfl rfl rfl rfl rfl ⟨rfl, rfl, rfl, rfl, rfl⟩ rfl rfl rfl rfl rfl (by kernel_rfl) Try.func12 (by kernel_rfl)
    (of_decide_eq_true (by kernel_rfl)) (by unfold Func.isWrapper; first | (rw [if_pos (by decide +kernel)]; kernel_rfl) | (rw [if_neg (by decide +kernel)]; exact ⟨rfl, rfl⟩))
    (fun os started H enc _ => fnRatioLess_lifted os started H enc)
#print axioms fnRatioLess_holds
end Go.Proofs.Ytgnemkflojohdaa
