/-
  The law FnEarthed: for every code the law answers true. No condition.
-/
import Derived.Test.YtgnemkflojohdaaFDrawE
import Derived.Test.YtgnemkflojohdaaEarM
import Derived.Test.YtgnemkflojohdaaFltN
import Derived.Test.YtgnemkflojohdaaFltOS
import Derived.Test.YtgnemkflojohdaaFltPS
import Derived.Test.YtgnemkflojohdaaRowB
import Derived.Test.YtgnemkflojohdaaTwoK
import Derived.Test.YtgnemkflojohdaaCBackI
import Derived.Deep.RegionHeld3
namespace Go.Proofs.Ytgnemkflojohdaa
open Go.ChangeShapes Go.WideShapes Go.ChangeAt Go.RowKit

theorem backV_bkE {ss : List Sec} {f : Flt} (h : faultB ss f = true) : backV ss f = .tuple #[.agg #[.int .i64 (bk ss f).m, .int .i64 (bk ss f).o], .bool true] := backV_yes h

set_option maxRecDepth 100000 in
set_option maxHeartbeats 4000000 in
theorem fnEarthed_in (A : Option Addr) (n c : Nat) (w : World) (hl : n ≤ 1048576) (hnc : n ≤ c) (hb : Bytes w.heap.size w A n) :
    Calls Try.prog 3 #[.slice A n c] w (RetB (.bool true) w) := by
  have Hb := Lib.hid hb
  clear hb
  go_enter Try.func3, Try.ntmps3
  go_wp2_with fail
  refine (DrawFaultEarthed_c A n c _ (by omega) hnc Hb.out).mono ?_
  rintro e w1 ⟨B, d, ss, f, rfl, hzl, hA, hB, ⟨hm0, hm1⟩, ho0, ho1⟩
  have Ha := Lib.hid hA
  have Bt := Lib.hid hB
  clear hA hB Hb
  cases hv : faultB ss f
  · have HV := Lib.hid (earthV_no hv)
    clear hv
    have rxHF : Below w1.heap.size w1 (w1.alloc (.cells #[.int .i64 f.m, .int .i64 f.o] 25)) := (Below.refl _ _).alloc (Nat.le_refl _) _
    have hxHF := TwoAt.new 25 w1 f.m f.o
    replace Ha := Lib.hid (Ha.out.go rxHF)
    replace Bt := Lib.hid (below_step Bt.out rxHF)
    have HF := Lib.hid hxHF
    clear rxHF hxHF
    have cHF1 := HF.out.c0
    have dHF1 := HF.out.c1
    go_wp2_with fail
    refine (implFaultEarthed_b B d ss f _ Ha.out).mono ?_
    rintro e u2 ⟨rfl, rb2⟩
    rw [HV.out]
    replace Ha := Lib.hid (Ha.out.go rb2)
    replace HF := Lib.hid (HF.out.go rb2)
    replace Bt := Lib.hid (below_step Bt.out rb2)
    clear rb2
    have rxHX : Below u2.heap.size u2 (u2.alloc (.cells #[.int .i64 0, .int .i64 0] 29)) := (Below.refl _ _).alloc (Nat.le_refl _) _
    have hxHX := TwoAt.new 29 u2 0 0
    replace Ha := Lib.hid (Ha.out.go rxHX)
    replace HF := Lib.hid (HF.out.go rxHX)
    replace Bt := Lib.hid (below_step Bt.out rxHX)
    have HX := Lib.hid hxHX
    clear rxHX hxHX
    have cHF2 := HF.out.c0
    have dHF2 := HF.out.c1
    have cHX2 := HX.out.c0
    have dHX2 := HX.out.c1
    go_wp2_with fail
    refine (specFaultEarthed_b B d ss f _ Ha.out).mono ?_
    rintro e u3 ⟨rfl, rb3⟩
    rw [HV.out]
    replace Ha := Lib.hid (Ha.out.go rb3)
    replace HF := Lib.hid (HF.out.go rb3)
    replace HX := Lib.hid (HX.out.go rb3)
    replace Bt := Lib.hid (below_step Bt.out rb3)
    clear rb3
    have rxHY : Below u3.heap.size u3 (u3.alloc (.cells #[.int .i64 0, .int .i64 0] 29)) := (Below.refl _ _).alloc (Nat.le_refl _) _
    have hxHY := TwoAt.new 29 u3 0 0
    replace Ha := Lib.hid (Ha.out.go rxHY)
    replace HF := Lib.hid (HF.out.go rxHY)
    replace HX := Lib.hid (HX.out.go rxHY)
    replace Bt := Lib.hid (below_step Bt.out rxHY)
    have HY := Lib.hid hxHY
    clear rxHY hxHY
    have cHF3 := HF.out.c0
    have dHF3 := HF.out.c1
    have cHX3 := HX.out.c0
    have dHX3 := HX.out.c1
    have cHY3 := HY.out.c0
    have dHY3 := HY.out.c1
    go_wp2
    go_ret
    exact ⟨rfl, Bt.out⟩
  · have hc := (faultB_true hv).1
    have hfo := (faultB_true hv).2.2
    have hsd := sides_bd hv
    have HV := Lib.hid (earthV_yes hv)
    have HVo := Lib.hid (openV_yes hv)
    have HVb := Lib.hid (backV_bkE hv)
    have HE := Lib.hid ((bk_earth hv).trans (earthV_yes hv))
    have HC := Lib.hid (And.intro hc (backL_yes hc))
    have HR := Lib.hid (faultB_ohms hv).1
    have HAl := Lib.hid (allI_yes hc)
    have hsum := sides_sum ss f
    have hbd := earR_bd (r := upL ss f) hsd.2.1 hfo.1
    have hlb := earR_low_bd (r := upL ss f) hsd.2 hfo
    obtain ⟨x, hx⟩ : ∃ x, upL ss f = x := ⟨_, rfl⟩
    obtain ⟨y, hy⟩ : ∃ y, restL ss f = y := ⟨_, rfl⟩
    obtain ⟨T, hT⟩ : ∃ T, ohmsL ss = T := ⟨_, rfl⟩
    rw [hx, hy] at HV HVo HE hsum hsd hbd hlb
    rw [hx] at HR
    rw [hT] at hsum HAl
    obtain ⟨⟨t, l⟩, hE⟩ : ∃ e, earR x y f.o = e := ⟨_, rfl⟩
    rw [hE] at HV HE hbd hlb
    obtain ⟨g, hgg⟩ : ∃ g, bk ss f = g := ⟨_, rfl⟩
    rw [hgg] at HVb HE
    obtain ⟨rv, hrv⟩ : ∃ rv, ss.reverse = rv := ⟨_, rfl⟩
    rw [hrv] at HC HE
    unfold Rat2.v at HV HE
    dsimp only at HV HE hbd hlb
    rw [hsum] at hbd
    have Hbd := Lib.hid hbd
    have Hlb := Lib.hid hlb
    have Hsd := Lib.hid hsd
    have Hfo := Lib.hid hfo
    have hTb : 0 ≤ T ∧ T ≤ 9000 := by have := cab_ohms hc; omega
    have HTb := Lib.hid hTb
    clear hv hc hx hy hT hE hgg hrv hbd hlb hsd hfo hTb hsum
    have rxHF : Below w1.heap.size w1 (w1.alloc (.cells #[.int .i64 f.m, .int .i64 f.o] 25)) := (Below.refl _ _).alloc (Nat.le_refl _) _
    have hxHF := TwoAt.new 25 w1 f.m f.o
    replace Ha := Lib.hid (Ha.out.go rxHF)
    replace Bt := Lib.hid (below_step Bt.out rxHF)
    have HF := Lib.hid hxHF
    clear rxHF hxHF
    have cHF1 := HF.out.c0
    have dHF1 := HF.out.c1
    go_wp2_with fail
    refine (implFaultEarthed_b B d ss f _ Ha.out).mono ?_
    rintro e u2 ⟨rfl, rb2⟩
    rw [HV.out]
    replace Ha := Lib.hid (Ha.out.go rb2)
    replace HF := Lib.hid (HF.out.go rb2)
    replace Bt := Lib.hid (below_step Bt.out rb2)
    clear rb2
    have rxHX : Below u2.heap.size u2 (u2.alloc (.cells #[.int .i64 t, .int .i64 l] 29)) := (Below.refl _ _).alloc (Nat.le_refl _) _
    have hxHX := TwoAt.new 29 u2 t l
    replace Ha := Lib.hid (Ha.out.go rxHX)
    replace HF := Lib.hid (HF.out.go rxHX)
    replace Bt := Lib.hid (below_step Bt.out rxHX)
    have HX := Lib.hid hxHX
    clear rxHX hxHX
    have cHF2 := HF.out.c0
    have dHF2 := HF.out.c1
    have cHX2 := HX.out.c0
    have dHX2 := HX.out.c1
    go_wp2_with fail
    refine (specFaultEarthed_b B d ss f _ Ha.out).mono ?_
    rintro e u3 ⟨rfl, rb3⟩
    rw [HV.out]
    replace Ha := Lib.hid (Ha.out.go rb3)
    replace HF := Lib.hid (HF.out.go rb3)
    replace HX := Lib.hid (HX.out.go rb3)
    replace Bt := Lib.hid (below_step Bt.out rb3)
    clear rb3
    have rxHY : Below u3.heap.size u3 (u3.alloc (.cells #[.int .i64 t, .int .i64 l] 29)) := (Below.refl _ _).alloc (Nat.le_refl _) _
    have hxHY := TwoAt.new 29 u3 t l
    replace Ha := Lib.hid (Ha.out.go rxHY)
    replace HF := Lib.hid (HF.out.go rxHY)
    replace HX := Lib.hid (HX.out.go rxHY)
    replace Bt := Lib.hid (below_step Bt.out rxHY)
    have HY := Lib.hid hxHY
    clear rxHY hxHY
    have cHF3 := HF.out.c0
    have dHF3 := HF.out.c1
    have cHX3 := HX.out.c0
    have dHX3 := HX.out.c1
    have cHY3 := HY.out.c0
    have dHY3 := HY.out.c1
    go_wp2_with fail
    refine (implFaultOpen_b B d ss f _ Ha.out).mono ?_
    rintro e u4 ⟨rfl, rb4⟩
    rw [HVo.out]
    replace Ha := Lib.hid (Ha.out.go rb4)
    replace HF := Lib.hid (HF.out.go rb4)
    replace HX := Lib.hid (HX.out.go rb4)
    replace HY := Lib.hid (HY.out.go rb4)
    replace Bt := Lib.hid (below_step Bt.out rb4)
    clear rb4
    have cHF4 := HF.out.c0
    have dHF4 := HF.out.c1
    have cHX4 := HX.out.c0
    have dHX4 := HX.out.c1
    have cHY4 := HY.out.c0
    have dHY4 := HY.out.c1
    go_wp2_with fail
    refine (implCableOhms_b B d ss f.m _ Ha.out).mono ?_
    rintro e u5 ⟨rfl, rb5⟩
    rw [HR.out]
    replace Ha := Lib.hid (Ha.out.go rb5)
    replace HF := Lib.hid (HF.out.go rb5)
    replace HX := Lib.hid (HX.out.go rb5)
    replace HY := Lib.hid (HY.out.go rb5)
    replace Bt := Lib.hid (below_step Bt.out rb5)
    clear rb5
    have cHF5 := HF.out.c0
    have dHF5 := HF.out.c1
    have cHX5 := HX.out.c0
    have dHX5 := HX.out.c1
    have cHY5 := HY.out.c0
    have dHY5 := HY.out.c1
    go_wp2_with fail
    refine (implCableBack_b B d ss _ Ha.out).mono ?_
    rintro e u6 ⟨B2, d2, rfl, ra2, _, rb6⟩
    replace Ha := Lib.hid (Ha.out.go rb6)
    replace HF := Lib.hid (HF.out.go rb6)
    replace HX := Lib.hid (HX.out.go rb6)
    replace HY := Lib.hid (HY.out.go rb6)
    replace Bt := Lib.hid (below_step Bt.out rb6)
    clear rb6
    rw [HC.out.2] at ra2 ⊢
    rw [HC.out.1]
    dsimp only
    have Hk := Lib.hid ra2
    clear ra2
    have cHF6 := HF.out.c0
    have dHF6 := HF.out.c1
    have cHX6 := HX.out.c0
    have dHX6 := HX.out.c1
    have cHY6 := HY.out.c0
    have dHY6 := HY.out.c1
    go_wp2_with fail
    refine (implFaultBack_b B d ss f _ Ha.out).mono ?_
    rintro e u7 ⟨rfl, rb7⟩
    rw [HVb.out]
    replace Ha := Lib.hid (Ha.out.go rb7)
    replace Hk := Lib.hid (Hk.out.go rb7)
    replace HF := Lib.hid (HF.out.go rb7)
    replace HX := Lib.hid (HX.out.go rb7)
    replace HY := Lib.hid (HY.out.go rb7)
    replace Bt := Lib.hid (below_step Bt.out rb7)
    clear rb7
    have rxHG : Below u7.heap.size u7 (u7.alloc (.cells #[.int .i64 g.m, .int .i64 g.o] 25)) := (Below.refl _ _).alloc (Nat.le_refl _) _
    have hxHG := TwoAt.new 25 u7 g.m g.o
    replace Ha := Lib.hid (Ha.out.go rxHG)
    replace Hk := Lib.hid (Hk.out.go rxHG)
    replace HF := Lib.hid (HF.out.go rxHG)
    replace HX := Lib.hid (HX.out.go rxHG)
    replace HY := Lib.hid (HY.out.go rxHG)
    replace Bt := Lib.hid (below_step Bt.out rxHG)
    have HG := Lib.hid hxHG
    clear rxHG hxHG
    have cHF7 := HF.out.c0
    have dHF7 := HF.out.c1
    have cHX7 := HX.out.c0
    have dHX7 := HX.out.c1
    have cHY7 := HY.out.c0
    have dHY7 := HY.out.c1
    have cHG7 := HG.out.c0
    have dHG7 := HG.out.c1
    go_wp2_with fail
    refine (implFaultFar_b B2 d2 rv g _ Hk.out).mono ?_
    rintro e u8 ⟨rfl, rb8⟩
    rw [HE.out]
    replace Ha := Lib.hid (Ha.out.go rb8)
    replace Hk := Lib.hid (Hk.out.go rb8)
    replace HF := Lib.hid (HF.out.go rb8)
    replace HX := Lib.hid (HX.out.go rb8)
    replace HY := Lib.hid (HY.out.go rb8)
    replace HG := Lib.hid (HG.out.go rb8)
    replace Bt := Lib.hid (below_step Bt.out rb8)
    clear rb8
    have rxHZ : Below u8.heap.size u8 (u8.alloc (.cells #[.int .i64 t, .int .i64 l] 29)) := (Below.refl _ _).alloc (Nat.le_refl _) _
    have hxHZ := TwoAt.new 29 u8 t l
    replace Ha := Lib.hid (Ha.out.go rxHZ)
    replace Hk := Lib.hid (Hk.out.go rxHZ)
    replace HF := Lib.hid (HF.out.go rxHZ)
    replace HX := Lib.hid (HX.out.go rxHZ)
    replace HY := Lib.hid (HY.out.go rxHZ)
    replace HG := Lib.hid (HG.out.go rxHZ)
    replace Bt := Lib.hid (below_step Bt.out rxHZ)
    have HZ := Lib.hid hxHZ
    clear rxHZ hxHZ
    have cHF8 := HF.out.c0
    have dHF8 := HF.out.c1
    have cHX8 := HX.out.c0
    have dHX8 := HX.out.c1
    have cHY8 := HY.out.c0
    have dHY8 := HY.out.c1
    have cHG8 := HG.out.c0
    have dHG8 := HG.out.c1
    have cHZ8 := HZ.out.c0
    have dHZ8 := HZ.out.c1
    have rd := (Below.refl (u8.alloc (.cells #[.int .i64 t, .int .i64 l] 29)).heap.size (u8.alloc (.cells #[.int .i64 t, .int .i64 l] 29))).drew
    replace Ha := Lib.hid (Ha.out.go rd)
    replace Hk := Lib.hid (Hk.out.go rd)
    replace HF := Lib.hid (HF.out.go rd)
    replace HX := Lib.hid (HX.out.go rd)
    replace HY := Lib.hid (HY.out.go rd)
    replace HG := Lib.hid (HG.out.go rd)
    replace HZ := Lib.hid (HZ.out.go rd)
    replace Bt := Lib.hid (below_step Bt.out rd)
    clear rd
    have q1 : IntKind.i64.wrap ((x + f.o) * l) = (x + f.o) * l := mul_small (by have := Hsd.out; have := Hfo.out; omega) ⟨Hbd.out.1, Hlb.out⟩
    have q2 : IntKind.i64.wrap (T * l) = T * l := mul_small HTb.out ⟨Hbd.out.1, Hlb.out⟩
    have q3 : IntKind.i64.wrap (x * l) = x * l := mul_small (by have := Hsd.out; omega) ⟨Hbd.out.1, Hlb.out⟩
    have g1 : decide (t ≤ (x + f.o) * l) = true := decide_eq_true Hbd.out.2.2.1
    have g2 : decide (t ≤ T * l) = true := decide_eq_true Hbd.out.2.2.2
    have g3 : decide (t ≥ x * l) = true := decide_eq_true Hbd.out.2.1
    have g4 : decide (l ≥ 1) = true := decide_eq_true Hbd.out.1
    have pk0 := And.intro HF.out.c0 (And.intro HF.out.c1 (And.intro HX.out.c0 (And.intro HX.out.c1 (And.intro HY.out.c0 (And.intro HY.out.c1 (And.intro HG.out.c0 (And.intro HG.out.c1 (And.intro HZ.out.c0 (HZ.out.c1)))))))))
    go_wp2
    go_region_held3 (fun w9 => w9.cell? ⟨w1.heap.size, 0, none⟩ = some (.int .i64 f.m) ∧ w9.cell? ⟨w1.heap.size, 1, none⟩ = some (.int .i64 f.o) ∧ w9.cell? ⟨u2.heap.size, 0, none⟩ = some (.int .i64 t) ∧ w9.cell? ⟨u2.heap.size, 1, none⟩ = some (.int .i64 l) ∧ w9.cell? ⟨u3.heap.size, 0, none⟩ = some (.int .i64 t) ∧ w9.cell? ⟨u3.heap.size, 1, none⟩ = some (.int .i64 l) ∧ w9.cell? ⟨u7.heap.size, 0, none⟩ = some (.int .i64 g.m) ∧ w9.cell? ⟨u7.heap.size, 1, none⟩ = some (.int .i64 g.o) ∧ w9.cell? ⟨u8.heap.size, 0, none⟩ = some (.int .i64 t) ∧ w9.cell? ⟨u8.heap.size, 1, none⟩ = some (.int .i64 l)) (first | exact pk1 | exact pk0)
      (first | (go_at_call 22; refine (implCableAll_b B d ss _ Ha.out).mono ?_; rintro e w9 ⟨rfl, rb9⟩; rw [HAl.out]; have pk1 := And.intro (HF.out.go rb9).c0 (And.intro (HF.out.go rb9).c1 (And.intro (HX.out.go rb9).c0 (And.intro (HX.out.go rb9).c1 (And.intro (HY.out.go rb9).c0 (And.intro (HY.out.go rb9).c1 (And.intro (HG.out.go rb9).c0 (And.intro (HG.out.go rb9).c1 (And.intro (HZ.out.go rb9).c0 ((HZ.out.go rb9).c1))))))))); have Bt9 := Lib.hid (below_step Bt.out rb9); clear rb9))
    all_goals
      go_wp2
      go_ret
      exact ⟨rfl, Bt9.out⟩

theorem fnEarthed_walk (A0 : Option Addr) (n0 c0 : Nat) (w : World) (hb0 : Byt0 w A0 n0 c0) :
    Calls Try.prog 3 #[.slice A0 n0 c0] w (RetB (.bool true) w) := by
  by_cases hl0 : 1048576 < n0
  · clear hb0
    go_enter Try.func3, Try.ntmps3
    go_wp2
    go_ret
    exact ⟨rfl, Below.refl _ _⟩
  exact fnEarthed_in A0 n0 c0 w (by omega) hb0.1 hb0.2.2

set_option maxRecDepth 100000 in
theorem fnEarthed_lifted (os : Os) (started : os.Started) (H : Type) (enc : TypeId × Value → H) :
    ReturnsInHanded {} Try.checked os 3 .any (Rows.fnEarthedSpec.pre6 enc Try.prog Try.f3 Rows.fnEarthedRow.domain false) (Rows.fnEarthedSpec.post enc Try.prog Try.f3 false true false false) := by
  refine returnsInHanded_of_change (C := Try.checked) row_own started (by kernel_rfl) Try.func3
    (ChangeSpec.witness6 (enc := enc) (C := Try.checked) false ⟨#[], #[.slice none 0 0], []⟩ 8 (by kernel_rfl) (by kernel_rfl) (by kernel_rfl) (by kernel_rfl)) ?_
  intro W base args ds gs before hval0 hW hcnd _
  have hval : ∀ (j : Nat) t v, Try.f3.params[j]? = some t → args[j]? = some v → Value.okWide Try.prog W .any base t v := hval0
  have hW' := hW
  obtain ⟨p, q, hA0, hV, rfl, _, _⟩ := hW
  have hA : DataW.TrodAll enc Try.prog W 0 (fun _ => true) true Try.f3.params.toList args.toList ds p := hA0
  rw [Try.params3] at hA hval
  obtain ⟨v0, vs0, d0, ds0, p0, q0, hargs, rfl, rfl, h0, r0⟩ := trodAll_cons hA
  obtain ⟨rfl, rfl, rfl⟩ := trodAll_nil r0
  obtain rfl : args = #[v0] := by cases args; simp_all
  obtain ⟨rfl, rfl⟩ := trodVars_none hV
  have hlt0 : ∀ x ∈ p0, x.block < W.heap.size := fun x hx => by exact hW'.lt x (by simp [hx])
  obtain ⟨A0, n0, c0, rfl, hb0⟩ := open_bytes (hval 0 22 v0 rfl rfl) h0 hlt0
  clear hA0 hval0
  refine (fnEarthed_walk A0 n0 c0 W hb0).mono fun e W' ⟨he, hb⟩ => ?_
  subst he
  exact ⟨_, rfl, _, _, _, [], _, [], hW', (trodAll_cons_mk (shut_bool Try.underlying4 _) trodAll_mk0), (trodAll_cons_mk (read_again_bytes h0 hlt0 hb) trodAll_mk0), rfl, hb.frame _, fun h => by cases h⟩

/-- THE STATEMENT -/
theorem fnEarthed_holds : Rows.FnEarthedSaid :=
  OpenClaim.holds_of_wide 3 Try.f3 rfl rfl rfl rfl rfl rfl rfl ⟨rfl, rfl, rfl, rfl, rfl⟩ rfl rfl rfl rfl rfl (by kernel_rfl) Try.func3 (by kernel_rfl)
    (of_decide_eq_true (by kernel_rfl)) (by unfold Func.isWrapper; first | (rw [if_pos (by decide +kernel)]; kernel_rfl) | (rw [if_neg (by decide +kernel)]; exact ⟨rfl, rfl⟩))
    (fun os started H enc _ => fnEarthed_lifted os started H enc)
#print axioms fnEarthed_holds
end Go.Proofs.Ytgnemkflojohdaa
