/-
  The law FnFaultLess: for every code the law answers true. No condition.
-/
import Derived.Test.YtgnemkflojohdaaFDrawL
import Derived.Test.YtgnemkflojohdaaFltN
import Derived.Test.YtgnemkflojohdaaFltPS
import Derived.Test.YtgnemkflojohdaaRowB
import Derived.Test.YtgnemkflojohdaaTwoK
import Derived.Test.YtgnemkflojohdaaCBackI
namespace Go.Proofs.Ytgnemkflojohdaa
open Go.ChangeShapes Go.WideShapes Go.ChangeAt Go.RowKit

theorem backV_bkL {ss : List Sec} {f : Flt} (h : faultB ss f = true) : backV ss f = .tuple #[.agg #[.int .i64 (bk ss f).m, .int .i64 (bk ss f).o], .bool true] := backV_yes h

set_option maxRecDepth 100000 in
set_option maxHeartbeats 4000000 in
theorem fnFaultLess_in (A : Option Addr) (n c : Nat) (w : World) (hl : n ≤ 1048576) (hnc : n ≤ c) (hb : Bytes w.heap.size w A n) :
    Calls Try.prog 8 #[.slice A n c] w (RetB (.bool true) w) := by
  have Hb := Lib.hid hb
  clear hb
  go_enter Try.func8, Try.ntmps8
  go_wp2_with fail
  refine (DrawFaultLess_c A n c _ (by omega) hnc Hb.out).mono ?_
  rintro e w1 ⟨B, d, ss, f, g, rfl, hzl, hA, hB⟩
  have Ha := Lib.hid hA
  have Bt := Lib.hid hB
  clear hA hB Hb
  cases hv : fless ss f g
  · have HV := Lib.hid hv
    clear hv
    have rx : Below w1.heap.size w1 ((w1.alloc (.cells #[.int .i64 f.m, .int .i64 f.o] 25)).alloc (.cells #[.int .i64 g.m, .int .i64 g.o] 25)) := ((Below.refl _ _).alloc (Nat.le_refl _) _).alloc (by simp) _
    have hx := (TwoAt.new 25 w1 f.m f.o).old (.cells #[.int .i64 g.m, .int .i64 g.o] 25)
    have hy := TwoAt.new1 25 w1 (.cells #[.int .i64 f.m, .int .i64 f.o] 25) g.m g.o
    replace Ha := Lib.hid (Ha.out.go rx)
    replace Bt := Lib.hid (below_step Bt.out rx)
    have HF := Lib.hid hx
    have HG := Lib.hid hy
    clear rx hx hy
    have cHF1 := HF.out.c0
    have dHF1 := HF.out.c1
    have cHG1 := HG.out.c0
    have dHG1 := HG.out.c1
    go_wp2_with fail
    refine (implFaultLess_b B d ss f g _ Ha.out).mono ?_
    rintro e u2 ⟨rfl, rb2⟩
    rw [HV.out]
    replace Ha := Lib.hid (Ha.out.go rb2)
    replace HF := Lib.hid (HF.out.go rb2)
    replace HG := Lib.hid (HG.out.go rb2)
    replace Bt := Lib.hid (below_step Bt.out rb2)
    clear rb2
    have cHF2 := HF.out.c0
    have dHF2 := HF.out.c1
    have cHG2 := HG.out.c0
    have dHG2 := HG.out.c1
    go_wp2_with fail
    refine (specFaultLess_b B d ss f g _ Ha.out).mono ?_
    rintro e u3 ⟨rfl, rb3⟩
    rw [HV.out]
    replace Ha := Lib.hid (Ha.out.go rb3)
    replace HF := Lib.hid (HF.out.go rb3)
    replace HG := Lib.hid (HG.out.go rb3)
    replace Bt := Lib.hid (below_step Bt.out rb3)
    clear rb3
    have cHF3 := HF.out.c0
    have dHF3 := HF.out.c1
    have cHG3 := HG.out.c0
    have dHG3 := HG.out.c1
    go_wp2
    go_ret
    exact ⟨rfl, Bt.out⟩
  · have HV := Lib.hid hv
    have hft := fless_true hv
    have hc := (faultB_true hft.1).1
    have HB1 := Lib.hid (backV_bkL hft.1)
    have HB2 := Lib.hid (backV_bkL hft.2.1)
    have HN := Lib.hid (fless_not hv)
    have HK := Lib.hid (fless_back hv)
    have HC := Lib.hid (And.intro hc (backL_yes hc))
    have g9 : decide (f.o < g.o) = true := by simpa using fless_ohms hv
    obtain ⟨rv, hrv⟩ : ∃ rv, ss.reverse = rv := ⟨_, rfl⟩
    rw [hrv] at HC HK
    obtain ⟨p, hp⟩ : ∃ p, bk ss f = p := ⟨_, rfl⟩
    obtain ⟨q, hq⟩ : ∃ q, bk ss g = q := ⟨_, rfl⟩
    rw [hp] at HB1 HK
    rw [hq] at HB2 HK
    clear hv hft hc hrv hp hq
    have rx : Below w1.heap.size w1 ((w1.alloc (.cells #[.int .i64 f.m, .int .i64 f.o] 25)).alloc (.cells #[.int .i64 g.m, .int .i64 g.o] 25)) := ((Below.refl _ _).alloc (Nat.le_refl _) _).alloc (by simp) _
    have hx := (TwoAt.new 25 w1 f.m f.o).old (.cells #[.int .i64 g.m, .int .i64 g.o] 25)
    have hy := TwoAt.new1 25 w1 (.cells #[.int .i64 f.m, .int .i64 f.o] 25) g.m g.o
    replace Ha := Lib.hid (Ha.out.go rx)
    replace Bt := Lib.hid (below_step Bt.out rx)
    have HF := Lib.hid hx
    have HG := Lib.hid hy
    clear rx hx hy
    have cHF1 := HF.out.c0
    have dHF1 := HF.out.c1
    have cHG1 := HG.out.c0
    have dHG1 := HG.out.c1
    go_wp2_with fail
    refine (implFaultLess_b B d ss f g _ Ha.out).mono ?_
    rintro e u2 ⟨rfl, rb2⟩
    rw [HV.out]
    replace Ha := Lib.hid (Ha.out.go rb2)
    replace HF := Lib.hid (HF.out.go rb2)
    replace HG := Lib.hid (HG.out.go rb2)
    replace Bt := Lib.hid (below_step Bt.out rb2)
    clear rb2
    have cHF2 := HF.out.c0
    have dHF2 := HF.out.c1
    have cHG2 := HG.out.c0
    have dHG2 := HG.out.c1
    go_wp2_with fail
    refine (specFaultLess_b B d ss f g _ Ha.out).mono ?_
    rintro e u3 ⟨rfl, rb3⟩
    rw [HV.out]
    replace Ha := Lib.hid (Ha.out.go rb3)
    replace HF := Lib.hid (HF.out.go rb3)
    replace HG := Lib.hid (HG.out.go rb3)
    replace Bt := Lib.hid (below_step Bt.out rb3)
    clear rb3
    have cHF3 := HF.out.c0
    have dHF3 := HF.out.c1
    have cHG3 := HG.out.c0
    have dHG3 := HG.out.c1
    go_wp2_with fail
    refine (implCableBack_b B d ss _ Ha.out).mono ?_
    rintro e u4 ⟨B2, d2, rfl, ra2, _, rb4⟩
    replace Ha := Lib.hid (Ha.out.go rb4)
    replace HF := Lib.hid (HF.out.go rb4)
    replace HG := Lib.hid (HG.out.go rb4)
    replace Bt := Lib.hid (below_step Bt.out rb4)
    clear rb4
    rw [HC.out.2] at ra2 ⊢
    rw [HC.out.1]
    dsimp only
    have Hk := Lib.hid ra2
    clear ra2
    have cHF4 := HF.out.c0
    have dHF4 := HF.out.c1
    have cHG4 := HG.out.c0
    have dHG4 := HG.out.c1
    go_wp2_with fail
    refine (implFaultBack_b B d ss f _ Ha.out).mono ?_
    rintro e u5 ⟨rfl, rb5⟩
    rw [HB1.out]
    replace Ha := Lib.hid (Ha.out.go rb5)
    replace Hk := Lib.hid (Hk.out.go rb5)
    replace HF := Lib.hid (HF.out.go rb5)
    replace HG := Lib.hid (HG.out.go rb5)
    replace Bt := Lib.hid (below_step Bt.out rb5)
    clear rb5
    have rxHX : Below u5.heap.size u5 (u5.alloc (.cells #[.int .i64 p.m, .int .i64 p.o] 25)) := (Below.refl _ _).alloc (Nat.le_refl _) _
    have hxHX := TwoAt.new 25 u5 p.m p.o
    replace Ha := Lib.hid (Ha.out.go rxHX)
    replace Hk := Lib.hid (Hk.out.go rxHX)
    replace HF := Lib.hid (HF.out.go rxHX)
    replace HG := Lib.hid (HG.out.go rxHX)
    replace Bt := Lib.hid (below_step Bt.out rxHX)
    have HX := Lib.hid hxHX
    clear rxHX hxHX
    have cHF5 := HF.out.c0
    have dHF5 := HF.out.c1
    have cHG5 := HG.out.c0
    have dHG5 := HG.out.c1
    have cHX5 := HX.out.c0
    have dHX5 := HX.out.c1
    go_wp2_with fail
    refine (implFaultBack_b B d ss g _ Ha.out).mono ?_
    rintro e u6 ⟨rfl, rb6⟩
    rw [HB2.out]
    replace Ha := Lib.hid (Ha.out.go rb6)
    replace Hk := Lib.hid (Hk.out.go rb6)
    replace HF := Lib.hid (HF.out.go rb6)
    replace HG := Lib.hid (HG.out.go rb6)
    replace HX := Lib.hid (HX.out.go rb6)
    replace Bt := Lib.hid (below_step Bt.out rb6)
    clear rb6
    have rxHY : Below u6.heap.size u6 (u6.alloc (.cells #[.int .i64 q.m, .int .i64 q.o] 25)) := (Below.refl _ _).alloc (Nat.le_refl _) _
    have hxHY := TwoAt.new 25 u6 q.m q.o
    replace Ha := Lib.hid (Ha.out.go rxHY)
    replace Hk := Lib.hid (Hk.out.go rxHY)
    replace HF := Lib.hid (HF.out.go rxHY)
    replace HG := Lib.hid (HG.out.go rxHY)
    replace HX := Lib.hid (HX.out.go rxHY)
    replace Bt := Lib.hid (below_step Bt.out rxHY)
    have HY := Lib.hid hxHY
    clear rxHY hxHY
    have cHF6 := HF.out.c0
    have dHF6 := HF.out.c1
    have cHG6 := HG.out.c0
    have dHG6 := HG.out.c1
    have cHX6 := HX.out.c0
    have dHX6 := HX.out.c1
    have cHY6 := HY.out.c0
    have dHY6 := HY.out.c1
    go_wp2_with fail
    refine (implFaultLess_b B d ss g f _ Ha.out).mono ?_
    rintro e u7 ⟨rfl, rb7⟩
    rw [HN.out]
    replace Ha := Lib.hid (Ha.out.go rb7)
    replace Hk := Lib.hid (Hk.out.go rb7)
    replace HF := Lib.hid (HF.out.go rb7)
    replace HG := Lib.hid (HG.out.go rb7)
    replace HX := Lib.hid (HX.out.go rb7)
    replace HY := Lib.hid (HY.out.go rb7)
    replace Bt := Lib.hid (below_step Bt.out rb7)
    clear rb7
    have cHF7 := HF.out.c0
    have dHF7 := HF.out.c1
    have cHG7 := HG.out.c0
    have dHG7 := HG.out.c1
    have cHX7 := HX.out.c0
    have dHX7 := HX.out.c1
    have cHY7 := HY.out.c0
    have dHY7 := HY.out.c1
    go_wp2_with fail
    refine (implFaultLess_b B2 d2 rv p q _ Hk.out).mono ?_
    rintro e u8 ⟨rfl, rb8⟩
    rw [HK.out]
    replace Ha := Lib.hid (Ha.out.go rb8)
    replace Hk := Lib.hid (Hk.out.go rb8)
    replace HF := Lib.hid (HF.out.go rb8)
    replace HG := Lib.hid (HG.out.go rb8)
    replace HX := Lib.hid (HX.out.go rb8)
    replace HY := Lib.hid (HY.out.go rb8)
    replace Bt := Lib.hid (below_step Bt.out rb8)
    clear rb8
    go_wp2
    go_ret
    exact ⟨rfl, Bt.out⟩

theorem fnFaultLess_walk (A0 : Option Addr) (n0 c0 : Nat) (w : World) (hb0 : Byt0 w A0 n0 c0) :
    Calls Try.prog 8 #[.slice A0 n0 c0] w (RetB (.bool true) w) := by
  by_cases hl0 : 1048576 < n0
  · clear hb0
    go_enter Try.func8, Try.ntmps8
    go_wp2
    go_ret
    exact ⟨rfl, Below.refl _ _⟩
  exact fnFaultLess_in A0 n0 c0 w (by omega) hb0.1 hb0.2.2

set_option maxRecDepth 100000 in
theorem fnFaultLess_lifted (os : Os) (started : os.Started) (H : Type) (enc : TypeId × Value → H) :
    ReturnsInHanded {} Try.checked os 8 .any (Rows.fnFaultLessSpec.pre6 enc Try.prog Try.f8 Rows.fnFaultLessRow.domain false) (Rows.fnFaultLessSpec.post enc Try.prog Try.f8 false true false false) := by
  refine returnsInHanded_of_change (C := Try.checked) row_own started (by kernel_rfl) Try.func8
    (ChangeSpec.witness6 (enc := enc) (C := Try.checked) false ⟨#[], #[.slice none 0 0], []⟩ 8 (by kernel_rfl) (by kernel_rfl) (by kernel_rfl) (by kernel_rfl)) ?_
  intro W base args ds gs before hval0 hW hcnd _
  have hval : ∀ (j : Nat) t v, Try.f8.params[j]? = some t → args[j]? = some v → Value.okWide Try.prog W .any base t v := hval0
  have hW' := hW
  obtain ⟨p, q, hA0, hV, rfl, _, _⟩ := hW
  have hA : DataW.TrodAll enc Try.prog W 0 (fun _ => true) true Try.f8.params.toList args.toList ds p := hA0
  rw [Try.params8] at hA hval
  obtain ⟨v0, vs0, d0, ds0, p0, q0, hargs, rfl, rfl, h0, r0⟩ := trodAll_cons hA
  obtain ⟨rfl, rfl, rfl⟩ := trodAll_nil r0
  obtain rfl : args = #[v0] := by cases args; simp_all
  obtain ⟨rfl, rfl⟩ := trodVars_none hV
  have hlt0 : ∀ x ∈ p0, x.block < W.heap.size := fun x hx => by exact hW'.lt x (by simp [hx])
  obtain ⟨A0, n0, c0, rfl, hb0⟩ := open_bytes (hval 0 22 v0 rfl rfl) h0 hlt0
  clear hA0 hval0
  refine (fnFaultLess_walk A0 n0 c0 W hb0).mono fun e W' ⟨he, hb⟩ => ?_
  subst he
  exact ⟨_, rfl, _, _, _, [], _, [], hW', (trodAll_cons_mk (shut_bool Try.underlying4 _) trodAll_mk0), (trodAll_cons_mk (read_again_bytes h0 hlt0 hb) trodAll_mk0), rfl, hb.frame _, fun h => by cases h⟩

/-- THE STATEMENT -/
theorem fnFaultLess_holds : Rows.FnFaultLessSaid :=
  OpenClaim.holds_of_wide 8 Try.f8 rfl rfl rfl rfl rfl rfl rfl ⟨rfl, rfl, rfl, rfl, rfl⟩ rfl rfl rfl rfl rfl (by kernel_rfl) Try.func8 (by kernel_rfl)
    (of_decide_eq_true (by kernel_rfl)) (by unfold Func.isWrapper; first | (rw [if_pos (by decide +kernel)]; kernel_rfl) | (rw [if_neg (by decide +kernel)]; exact ⟨rfl, rfl⟩))
    (fun os started H enc _ => fnFaultLess_lifted os started H enc)
#print axioms fnFaultLess_holds
end Go.Proofs.Ytgnemkflojohdaa
