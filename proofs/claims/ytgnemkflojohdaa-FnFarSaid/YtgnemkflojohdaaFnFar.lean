/-
  The law FnFar: for every code the law answers true. No condition.
-/
import Derived.Test.YtgnemkflojohdaaFDrawE
import Derived.Test.YtgnemkflojohdaaEarN
import Derived.Test.YtgnemkflojohdaaFltN
import Derived.Test.YtgnemkflojohdaaFltOS
import Derived.Test.YtgnemkflojohdaaFltPS
import Derived.Test.YtgnemkflojohdaaRowB
import Derived.Test.YtgnemkflojohdaaTwoK
import Derived.Deep.RegionHeld3
namespace Go.Proofs.Ytgnemkflojohdaa
open Go.ChangeShapes Go.WideShapes Go.ChangeAt Go.RowKit


set_option maxRecDepth 100000 in
set_option maxHeartbeats 4000000 in
theorem fnFar_in (A : Option Addr) (n c : Nat) (w : World) (hl : n ≤ 1048576) (hnc : n ≤ c) (hb : Bytes w.heap.size w A n) :
    Calls Try.prog 4 #[.slice A n c] w (RetB (.bool true) w) := by
  have Hb := Lib.hid hb
  clear hb
  go_enter Try.func4, Try.ntmps4
  go_wp2_with fail
  refine (DrawFaultFar_c A n c _ (by omega) hnc Hb.out).mono ?_
  rintro e w1 ⟨B, d, ss, f, rfl, hzl, hA, hB, ⟨hm0, hm1⟩, ho0, ho1⟩
  have Ha := Lib.hid hA
  have Bt := Lib.hid hB
  clear hA hB Hb
  cases hv : faultB ss f
  · have HV := Lib.hid (farV_no hv)
    clear hv
    have rxHF : Below w1.heap.size w1 (w1.alloc (.cells #[.int .i64 f.m, .int .i64 f.o] 25)) := (Below.refl _ _).alloc (Nat.le_refl _) _
    have hxHF := TwoAt.new 25 w1 f.m f.o
    replace Ha := Lib.hid (Ha.out.go rxHF)
    replace Bt := Lib.hid (below_step Bt.out rxHF)
    have HF := Lib.hid hxHF
    clear rxHF hxHF
    have cHF1 := HF.out.c0
    have dHF1 := HF.out.c1
    go_wp2_with fail
    refine (implFaultFar_b B d ss f _ Ha.out).mono ?_
    rintro e u2 ⟨rfl, rb2⟩
    rw [HV.out]
    replace Ha := Lib.hid (Ha.out.go rb2)
    replace HF := Lib.hid (HF.out.go rb2)
    replace Bt := Lib.hid (below_step Bt.out rb2)
    clear rb2
    have rxHX : Below u2.heap.size u2 (u2.alloc (.cells #[.int .i64 0, .int .i64 0] 29)) := (Below.refl _ _).alloc (Nat.le_refl _) _
    have hxHX := TwoAt.new 29 u2 0 0
    replace Ha := Lib.hid (Ha.out.go rxHX)
    replace HF := Lib.hid (HF.out.go rxHX)
    replace Bt := Lib.hid (below_step Bt.out rxHX)
    have HX := Lib.hid hxHX
    clear rxHX hxHX
    have cHF2 := HF.out.c0
    have dHF2 := HF.out.c1
    have cHX2 := HX.out.c0
    have dHX2 := HX.out.c1
    go_wp2_with fail
    refine (specFaultFar_b B d ss f _ Ha.out).mono ?_
    rintro e u3 ⟨rfl, rb3⟩
    rw [HV.out]
    replace Ha := Lib.hid (Ha.out.go rb3)
    replace HF := Lib.hid (HF.out.go rb3)
    replace HX := Lib.hid (HX.out.go rb3)
    replace Bt := Lib.hid (below_step Bt.out rb3)
    clear rb3
    have rxHY : Below u3.heap.size u3 (u3.alloc (.cells #[.int .i64 0, .int .i64 0] 29)) := (Below.refl _ _).alloc (Nat.le_refl _) _
    have hxHY := TwoAt.new 29 u3 0 0
    replace Ha := Lib.hid (Ha.out.go rxHY)
    replace HF := Lib.hid (HF.out.go rxHY)
    replace HX := Lib.hid (HX.out.go rxHY)
    replace Bt := Lib.hid (below_step Bt.out rxHY)
    have HY := Lib.hid hxHY
    clear rxHY hxHY
    have cHF3 := HF.out.c0
    have dHF3 := HF.out.c1
    have cHX3 := HX.out.c0
    have dHX3 := HX.out.c1
    have cHY3 := HY.out.c0
    have dHY3 := HY.out.c1
    go_wp2
    go_ret
    exact ⟨rfl, Bt.out⟩
  · have hc := (faultB_true hv).1
    have hfo := (faultB_true hv).2.2
    have hsd := sides_bd hv
    have HV := Lib.hid (farV_yes hv)
    have HVo := Lib.hid (openV_yes hv)
    have HR := Lib.hid (faultB_ohms hv).1
    have HAl := Lib.hid (allI_yes hc)
    have hsum := sides_sum ss f
    have hbd := earR_bd (r := restL ss f) hsd.1.1 hfo.1
    have hlb := earR_low_bd (r := restL ss f) hsd.1 hfo
    have hno : f.o = 0 → earR (restL ss f) (upL ss f) f.o = ⟨restL ss f, 1⟩ := fun e => by rw [e]; exact earR_none hsd.1.1
    obtain ⟨x, hx⟩ : ∃ x, upL ss f = x := ⟨_, rfl⟩
    obtain ⟨y, hy⟩ : ∃ y, restL ss f = y := ⟨_, rfl⟩
    obtain ⟨T, hT⟩ : ∃ T, ohmsL ss = T := ⟨_, rfl⟩
    rw [hx, hy] at HV HVo hsum hsd hbd hlb hno
    rw [hx] at HR
    rw [hT] at hsum HAl
    obtain ⟨⟨t, l⟩, hE⟩ : ∃ e, earR y x f.o = e := ⟨_, rfl⟩
    rw [hE] at HV hbd hlb hno
    have Hno := Lib.hid (show f.o = 0 → t = y ∧ l = 1 from fun e => by have := hno e; injection this with e1 e2; exact ⟨e1, e2⟩)
    unfold Rat2.v at HV
    dsimp only at HV hbd hlb
    have Hbd := Lib.hid hbd
    have Hlb := Lib.hid hlb
    have Hsd := Lib.hid hsd
    have Hfo := Lib.hid hfo
    have q0 : IntKind.i64.wrap (T - x) = y := by rw [IntWalk.i64_in _ (by omega)]; omega
    clear hv hc hx hy hT hE hbd hlb hsd hfo hsum hno
    have rxHF : Below w1.heap.size w1 (w1.alloc (.cells #[.int .i64 f.m, .int .i64 f.o] 25)) := (Below.refl _ _).alloc (Nat.le_refl _) _
    have hxHF := TwoAt.new 25 w1 f.m f.o
    replace Ha := Lib.hid (Ha.out.go rxHF)
    replace Bt := Lib.hid (below_step Bt.out rxHF)
    have HF := Lib.hid hxHF
    clear rxHF hxHF
    have cHF1 := HF.out.c0
    have dHF1 := HF.out.c1
    go_wp2_with fail
    refine (implFaultFar_b B d ss f _ Ha.out).mono ?_
    rintro e u2 ⟨rfl, rb2⟩
    rw [HV.out]
    replace Ha := Lib.hid (Ha.out.go rb2)
    replace HF := Lib.hid (HF.out.go rb2)
    replace Bt := Lib.hid (below_step Bt.out rb2)
    clear rb2
    have rxHX : Below u2.heap.size u2 (u2.alloc (.cells #[.int .i64 t, .int .i64 l] 29)) := (Below.refl _ _).alloc (Nat.le_refl _) _
    have hxHX := TwoAt.new 29 u2 t l
    replace Ha := Lib.hid (Ha.out.go rxHX)
    replace HF := Lib.hid (HF.out.go rxHX)
    replace Bt := Lib.hid (below_step Bt.out rxHX)
    have HX := Lib.hid hxHX
    clear rxHX hxHX
    have cHF2 := HF.out.c0
    have dHF2 := HF.out.c1
    have cHX2 := HX.out.c0
    have dHX2 := HX.out.c1
    go_wp2_with fail
    refine (specFaultFar_b B d ss f _ Ha.out).mono ?_
    rintro e u3 ⟨rfl, rb3⟩
    rw [HV.out]
    replace Ha := Lib.hid (Ha.out.go rb3)
    replace HF := Lib.hid (HF.out.go rb3)
    replace HX := Lib.hid (HX.out.go rb3)
    replace Bt := Lib.hid (below_step Bt.out rb3)
    clear rb3
    have rxHY : Below u3.heap.size u3 (u3.alloc (.cells #[.int .i64 t, .int .i64 l] 29)) := (Below.refl _ _).alloc (Nat.le_refl _) _
    have hxHY := TwoAt.new 29 u3 t l
    replace Ha := Lib.hid (Ha.out.go rxHY)
    replace HF := Lib.hid (HF.out.go rxHY)
    replace HX := Lib.hid (HX.out.go rxHY)
    replace Bt := Lib.hid (below_step Bt.out rxHY)
    have HY := Lib.hid hxHY
    clear rxHY hxHY
    have cHF3 := HF.out.c0
    have dHF3 := HF.out.c1
    have cHX3 := HX.out.c0
    have dHX3 := HX.out.c1
    have cHY3 := HY.out.c0
    have dHY3 := HY.out.c1
    go_wp2_with fail
    refine (implFaultOpen_b B d ss f _ Ha.out).mono ?_
    rintro e u4 ⟨rfl, rb4⟩
    rw [HVo.out]
    replace Ha := Lib.hid (Ha.out.go rb4)
    replace HF := Lib.hid (HF.out.go rb4)
    replace HX := Lib.hid (HX.out.go rb4)
    replace HY := Lib.hid (HY.out.go rb4)
    replace Bt := Lib.hid (below_step Bt.out rb4)
    clear rb4
    have cHF4 := HF.out.c0
    have dHF4 := HF.out.c1
    have cHX4 := HX.out.c0
    have dHX4 := HX.out.c1
    have cHY4 := HY.out.c0
    have dHY4 := HY.out.c1
    have rd := (Below.refl u4.heap.size u4).drew
    replace Ha := Lib.hid (Ha.out.go rd)
    replace HF := Lib.hid (HF.out.go rd)
    replace HX := Lib.hid (HX.out.go rd)
    replace Bt := Lib.hid (below_step Bt.out rd)
    clear rd
    have pk0 := And.intro HF.out.c0 HF.out.c1
    go_wp2
    go_region_held3 (fun w9 => w9.cell? ⟨w1.heap.size, 0, none⟩ = some (.int .i64 f.m) ∧ w9.cell? ⟨w1.heap.size, 1, none⟩ = some (.int .i64 f.o)) (first | exact pk1 | exact pk0)
      (first | (go_at_call 22; refine (implCableAll_b B d ss _ Ha.out).mono ?_; rintro e w9 ⟨rfl, rb9⟩; rw [HAl.out]; replace Ha := Lib.hid (Ha.out.go rb9); replace HF := Lib.hid (HF.out.go rb9); replace HX := Lib.hid (HX.out.go rb9); replace Bt := Lib.hid (below_step Bt.out rb9); have pk1 := And.intro HF.out.c0 HF.out.c1; clear rb9) | (go_at_call 18; refine (implCableOhms_b B d ss f.m _ Ha.out).mono ?_; rintro e w9 ⟨rfl, rb9⟩; rw [HR.out]; replace Ha := Lib.hid (Ha.out.go rb9); replace HF := Lib.hid (HF.out.go rb9); replace HX := Lib.hid (HX.out.go rb9); replace Bt := Lib.hid (below_step Bt.out rb9); have pk1 := And.intro HF.out.c0 HF.out.c1; clear rb9))
    all_goals
      have cHF5 := HF.out.c0
      have dHF5 := HF.out.c1
      have cHX5 := HX.out.c0
      have dHX5 := HX.out.c1
      have q1 : IntKind.i64.wrap ((y + f.o) * l) = (y + f.o) * l := mul_small (by have := Hsd.out; have := Hfo.out; omega) ⟨Hbd.out.1, Hlb.out⟩
      have q3 : IntKind.i64.wrap (y * l) = y * l := mul_small (by have := Hsd.out; omega) ⟨Hbd.out.1, Hlb.out⟩
      have g1 : decide (t ≤ (y + f.o) * l) = true := decide_eq_true Hbd.out.2.2.1
      have g3 : decide (t ≥ y * l) = true := decide_eq_true Hbd.out.2.1
      obtain h0 | h0 := Classical.em (f.o = 0)
      · obtain ⟨rfl, rfl⟩ := Hno.out h0
        have he : (f.o == 0) = true := by simpa using h0
        have hn : (f.o != 0) = false := by simpa using h0
        have q5 : IntKind.i64.wrap t = t := IntWalk.i64_in _ (by have := Hsd.out; omega)
        have q6 : IntKind.i64.wrap (t + f.o) = t + f.o := IntWalk.i64_in _ (by have := Hsd.out; omega)
        have g5 : decide (t ≤ t + f.o) = true := decide_eq_true (by omega)
        clear h0
        go_wp2
        go_ret
        exact ⟨rfl, Bt.out⟩
      · have he : (f.o == 0) = false := by simpa using h0
        have hn : (f.o != 0) = true := by simpa using h0
        clear h0
        go_wp2
        go_ret
        exact ⟨rfl, Bt.out⟩

theorem fnFar_walk (A0 : Option Addr) (n0 c0 : Nat) (w : World) (hb0 : Byt0 w A0 n0 c0) :
    Calls Try.prog 4 #[.slice A0 n0 c0] w (RetB (.bool true) w) := by
  by_cases hl0 : 1048576 < n0
  · clear hb0
    go_enter Try.func4, Try.ntmps4
    go_wp2
    go_ret
    exact ⟨rfl, Below.refl _ _⟩
  exact fnFar_in A0 n0 c0 w (by omega) hb0.1 hb0.2.2

set_option maxRecDepth 100000 in
theorem fnFar_lifted (os : Os) (started : os.Started) (H : Type) (enc : TypeId × Value → H) :
    ReturnsInHanded {} Try.checked os 4 .any (Rows.fnFarSpec.pre6 enc Try.prog Try.f4 Rows.fnFarRow.domain false) (Rows.fnFarSpec.post enc Try.prog Try.f4 false true false false) := by
  refine returnsInHanded_of_change (C := Try.checked) row_own started (by kernel_rfl) Try.func4
    (ChangeSpec.witness6 (enc := enc) (C := Try.checked) false ⟨#[], #[.slice none 0 0], []⟩ 8 (by kernel_rfl) (by kernel_rfl) (by kernel_rfl) (by kernel_rfl)) ?_
  intro W base args ds gs before hval0 hW hcnd _
  have hval : ∀ (j : Nat) t v, Try.f4.params[j]? = some t → args[j]? = some v → Value.okWide Try.prog W .any base t v := hval0
  have hW' := hW
  obtain ⟨p, q, hA0, hV, rfl, _, _⟩ := hW
  have hA : DataW.TrodAll enc Try.prog W 0 (fun _ => true) true Try.f4.params.toList args.toList ds p := hA0
  rw [Try.params4] at hA hval
  obtain ⟨v0, vs0, d0, ds0, p0, q0, hargs, rfl, rfl, h0, r0⟩ := trodAll_cons hA
  obtain ⟨rfl, rfl, rfl⟩ := trodAll_nil r0
  obtain rfl : args = #[v0] := by cases args; simp_all
  obtain ⟨rfl, rfl⟩ := trodVars_none hV
  have hlt0 : ∀ x ∈ p0, x.block < W.heap.size := fun x hx => by exact hW'.lt x (by simp [hx])
  obtain ⟨A0, n0, c0, rfl, hb0⟩ := open_bytes (hval 0 22 v0 rfl rfl) h0 hlt0
  clear hA0 hval0
  refine (fnFar_walk A0 n0 c0 W hb0).mono fun e W' ⟨he, hb⟩ => ?_
  subst he
  exact ⟨_, rfl, _, _, _, [], _, [], hW', (trodAll_cons_mk (shut_bool Try.underlying4 _) trodAll_mk0), (trodAll_cons_mk (read_again_bytes h0 hlt0 hb) trodAll_mk0), rfl, hb.frame _, fun h => by cases h⟩

/-- THE STATEMENT -/
theorem fnFar_holds : Rows.FnFarSaid :=
  OpenClaim.holds_of_wide 4 Try.f4 rfl rfl rfl rfl rfl rfl rfl ⟨rfl, rfl, rfl, rfl, rfl⟩ rfl rfl rfl rfl rfl (by kernel_rfl) Try.func4 (by kernel_rfl)
    (of_decide_eq_true (by kernel_rfl)) (by unfold Func.isWrapper; first | (rw [if_pos (by decide +kernel)]; kernel_rfl) | (rw [if_neg (by decide +kernel)]; exact ⟨rfl, rfl⟩))
    (fun os started H enc _ => fnFar_lifted os started H enc)
#print axioms fnFar_holds
end Go.Proofs.Ytgnemkflojohdaa
