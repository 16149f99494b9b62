/-
  The law FnFaultBack: for every code the law answers true. No condition.
-/
import Derived.Test.YtgnemkflojohdaaFDrawB
import Derived.Test.YtgnemkflojohdaaFltN
import Derived.Test.YtgnemkflojohdaaFltPS
import Derived.Test.YtgnemkflojohdaaRowB
import Derived.Test.YtgnemkflojohdaaTwoK
import Derived.Test.YtgnemkflojohdaaCBackI
import Derived.Deep.RegionHeld3
namespace Go.Proofs.Ytgnemkflojohdaa
open Go.ChangeShapes Go.WideShapes Go.ChangeAt Go.RowKit

theorem backV_bk {ss : List Sec} {f : Flt} (h : faultB ss f = true) : backV ss f = .tuple #[.agg #[.int .i64 (bk ss f).m, .int .i64 (bk ss f).o], .bool true] := backV_yes h
theorem backV_bk2 {ss : List Sec} {f : Flt} (h : faultB ss f = true) : backV ss.reverse (bk ss f) = .tuple #[.agg #[.int .i64 f.m, .int .i64 f.o], .bool true] := by rw [backV_bk (bk_valid h), bk_bk]

set_option maxRecDepth 100000 in
set_option maxHeartbeats 4000000 in
theorem fnFaultBack_in (A : Option Addr) (n c : Nat) (w : World) (hl : n ≤ 1048576) (hnc : n ≤ c) (hb : Bytes w.heap.size w A n) :
    Calls Try.prog 7 #[.slice A n c] w (RetB (.bool true) w) := by
  have Hb := Lib.hid hb
  clear hb
  go_enter Try.func7, Try.ntmps7
  go_wp2_with fail
  refine (DrawFaultBack_c A n c _ (by omega) hnc Hb.out).mono ?_
  rintro e w1 ⟨B, d, ss, f, rfl, hzl, hA, hB, ⟨hm0, hm1⟩, ho0, ho1⟩
  have Ha := Lib.hid hA
  have Bt := Lib.hid hB
  clear hA hB Hb
  cases hv : faultB ss f
  · have HV := Lib.hid (backV_no hv)
    clear hv
    have rxHF : Below w1.heap.size w1 (w1.alloc (.cells #[.int .i64 f.m, .int .i64 f.o] 25)) := (Below.refl _ _).alloc (Nat.le_refl _) _
    have hxHF := TwoAt.new 25 w1 f.m f.o
    replace Ha := Lib.hid (Ha.out.go rxHF)
    replace Bt := Lib.hid (below_step Bt.out rxHF)
    have HF := Lib.hid hxHF
    clear rxHF hxHF
    have cHF1 := HF.out.c0
    have dHF1 := HF.out.c1
    go_wp2_with fail
    refine (implFaultBack_b B d ss f _ Ha.out).mono ?_
    rintro e u2 ⟨rfl, rb2⟩
    rw [HV.out]
    replace Ha := Lib.hid (Ha.out.go rb2)
    replace HF := Lib.hid (HF.out.go rb2)
    replace Bt := Lib.hid (below_step Bt.out rb2)
    clear rb2
    have rxHX : Below u2.heap.size u2 (u2.alloc (.cells #[.int .i64 0, .int .i64 0] 25)) := (Below.refl _ _).alloc (Nat.le_refl _) _
    have hxHX := TwoAt.new 25 u2 0 0
    replace Ha := Lib.hid (Ha.out.go rxHX)
    replace HF := Lib.hid (HF.out.go rxHX)
    replace Bt := Lib.hid (below_step Bt.out rxHX)
    have HX := Lib.hid hxHX
    clear rxHX hxHX
    have cHF2 := HF.out.c0
    have dHF2 := HF.out.c1
    have cHX2 := HX.out.c0
    have dHX2 := HX.out.c1
    go_wp2_with fail
    refine (specFaultBack_b B d ss f _ Ha.out).mono ?_
    rintro e u3 ⟨rfl, rb3⟩
    rw [HV.out]
    replace Ha := Lib.hid (Ha.out.go rb3)
    replace HF := Lib.hid (HF.out.go rb3)
    replace HX := Lib.hid (HX.out.go rb3)
    replace Bt := Lib.hid (below_step Bt.out rb3)
    clear rb3
    have rxHY : Below u3.heap.size u3 (u3.alloc (.cells #[.int .i64 0, .int .i64 0] 25)) := (Below.refl _ _).alloc (Nat.le_refl _) _
    have hxHY := TwoAt.new 25 u3 0 0
    replace Ha := Lib.hid (Ha.out.go rxHY)
    replace HF := Lib.hid (HF.out.go rxHY)
    replace HX := Lib.hid (HX.out.go rxHY)
    replace Bt := Lib.hid (below_step Bt.out rxHY)
    have HY := Lib.hid hxHY
    clear rxHY hxHY
    have cHF3 := HF.out.c0
    have dHF3 := HF.out.c1
    have cHX3 := HX.out.c0
    have dHX3 := HX.out.c1
    have cHY3 := HY.out.c0
    have dHY3 := HY.out.c1
    go_wp2
    go_ret
    exact ⟨rfl, Bt.out⟩
  · have hc := (faultB_true hv).1
    have hms := cab_miles hc
    have HV := Lib.hid (backV_bk hv)
    have HV2 := Lib.hid (backV_bk2 hv)
    have HC := Lib.hid (And.intro hc (backL_yes hc))
    have HM := Lib.hid (milesI_yes hc)
    have hg : (bk ss f).m + f.m = milesL ss := by unfold bk; dsimp only; omega
    have hgo : (bk ss f).o = f.o := rfl
    have hfm := (faultB_true hv).2
    obtain ⟨M, hM⟩ : ∃ M, milesL ss = M := ⟨_, rfl⟩
    rw [hM] at HM hg hms hfm
    obtain ⟨g, hgg⟩ : ∃ g, bk ss f = g := ⟨_, rfl⟩
    rw [hgg] at HV HV2 hg hgo
    have Hg := Lib.hid hg
    have Hgo := Lib.hid hgo
    have hgm : 0 ≤ g.m ∧ g.m ≤ 400 := by omega
    obtain ⟨rv, hrv⟩ : ∃ rv, ss.reverse = rv := ⟨_, rfl⟩
    rw [hrv] at HC HV2
    clear hv hc hM hgg hg hgo hrv
    have rxHF : Below w1.heap.size w1 (w1.alloc (.cells #[.int .i64 f.m, .int .i64 f.o] 25)) := (Below.refl _ _).alloc (Nat.le_refl _) _
    have hxHF := TwoAt.new 25 w1 f.m f.o
    replace Ha := Lib.hid (Ha.out.go rxHF)
    replace Bt := Lib.hid (below_step Bt.out rxHF)
    have HF := Lib.hid hxHF
    clear rxHF hxHF
    have cHF1 := HF.out.c0
    have dHF1 := HF.out.c1
    go_wp2_with fail
    refine (implFaultBack_b B d ss f _ Ha.out).mono ?_
    rintro e u2 ⟨rfl, rb2⟩
    rw [HV.out]
    replace Ha := Lib.hid (Ha.out.go rb2)
    replace HF := Lib.hid (HF.out.go rb2)
    replace Bt := Lib.hid (below_step Bt.out rb2)
    clear rb2
    have rxHX : Below u2.heap.size u2 (u2.alloc (.cells #[.int .i64 g.m, .int .i64 g.o] 25)) := (Below.refl _ _).alloc (Nat.le_refl _) _
    have hxHX := TwoAt.new 25 u2 g.m g.o
    replace Ha := Lib.hid (Ha.out.go rxHX)
    replace HF := Lib.hid (HF.out.go rxHX)
    replace Bt := Lib.hid (below_step Bt.out rxHX)
    have HX := Lib.hid hxHX
    clear rxHX hxHX
    have cHF2 := HF.out.c0
    have dHF2 := HF.out.c1
    have cHX2 := HX.out.c0
    have dHX2 := HX.out.c1
    go_wp2_with fail
    refine (specFaultBack_b B d ss f _ Ha.out).mono ?_
    rintro e u3 ⟨rfl, rb3⟩
    rw [HV.out]
    replace Ha := Lib.hid (Ha.out.go rb3)
    replace HF := Lib.hid (HF.out.go rb3)
    replace HX := Lib.hid (HX.out.go rb3)
    replace Bt := Lib.hid (below_step Bt.out rb3)
    clear rb3
    have rxHY : Below u3.heap.size u3 (u3.alloc (.cells #[.int .i64 g.m, .int .i64 g.o] 25)) := (Below.refl _ _).alloc (Nat.le_refl _) _
    have hxHY := TwoAt.new 25 u3 g.m g.o
    replace Ha := Lib.hid (Ha.out.go rxHY)
    replace HF := Lib.hid (HF.out.go rxHY)
    replace HX := Lib.hid (HX.out.go rxHY)
    replace Bt := Lib.hid (below_step Bt.out rxHY)
    have HY := Lib.hid hxHY
    clear rxHY hxHY
    have cHF3 := HF.out.c0
    have dHF3 := HF.out.c1
    have cHX3 := HX.out.c0
    have dHX3 := HX.out.c1
    have cHY3 := HY.out.c0
    have dHY3 := HY.out.c1
    go_wp2_with fail
    refine (implCableBack_b B d ss _ Ha.out).mono ?_
    rintro e u4 ⟨B2, d2, rfl, ra2, _, rb4⟩
    replace Ha := Lib.hid (Ha.out.go rb4)
    replace HF := Lib.hid (HF.out.go rb4)
    replace HX := Lib.hid (HX.out.go rb4)
    replace HY := Lib.hid (HY.out.go rb4)
    replace Bt := Lib.hid (below_step Bt.out rb4)
    clear rb4
    rw [HC.out.2] at ra2 ⊢
    rw [HC.out.1]
    dsimp only
    have Hk := Lib.hid ra2
    clear ra2
    have cHF4 := HF.out.c0
    have dHF4 := HF.out.c1
    have cHX4 := HX.out.c0
    have dHX4 := HX.out.c1
    have cHY4 := HY.out.c0
    have dHY4 := HY.out.c1
    go_wp2_with fail
    refine (implFaultBack_b B2 d2 rv g _ Hk.out).mono ?_
    rintro e u5 ⟨rfl, rb5⟩
    rw [HV2.out]
    replace Ha := Lib.hid (Ha.out.go rb5)
    replace Hk := Lib.hid (Hk.out.go rb5)
    replace HF := Lib.hid (HF.out.go rb5)
    replace HX := Lib.hid (HX.out.go rb5)
    replace HY := Lib.hid (HY.out.go rb5)
    replace Bt := Lib.hid (below_step Bt.out rb5)
    clear rb5
    have rxHZ : Below u5.heap.size u5 (u5.alloc (.cells #[.int .i64 f.m, .int .i64 f.o] 25)) := (Below.refl _ _).alloc (Nat.le_refl _) _
    have hxHZ := TwoAt.new 25 u5 f.m f.o
    replace Ha := Lib.hid (Ha.out.go rxHZ)
    replace Hk := Lib.hid (Hk.out.go rxHZ)
    replace HF := Lib.hid (HF.out.go rxHZ)
    replace HX := Lib.hid (HX.out.go rxHZ)
    replace HY := Lib.hid (HY.out.go rxHZ)
    replace Bt := Lib.hid (below_step Bt.out rxHZ)
    have HZ := Lib.hid hxHZ
    clear rxHZ hxHZ
    have cHF5 := HF.out.c0
    have dHF5 := HF.out.c1
    have cHX5 := HX.out.c0
    have dHX5 := HX.out.c1
    have cHY5 := HY.out.c0
    have dHY5 := HY.out.c1
    have cHZ5 := HZ.out.c0
    have dHZ5 := HZ.out.c1
    have rd := (Below.refl (u5.alloc (.cells #[.int .i64 f.m, .int .i64 f.o] 25)).heap.size (u5.alloc (.cells #[.int .i64 f.m, .int .i64 f.o] 25))).drew
    replace Ha := Lib.hid (Ha.out.go rd)
    replace Hk := Lib.hid (Hk.out.go rd)
    replace HF := Lib.hid (HF.out.go rd)
    replace HX := Lib.hid (HX.out.go rd)
    replace HY := Lib.hid (HY.out.go rd)
    replace HZ := Lib.hid (HZ.out.go rd)
    replace Bt := Lib.hid (below_step Bt.out rd)
    clear rd
    have g1 : (g.m + f.m == M) = true := by simpa using Hg.out
    have g2 : (g.o == f.o) = true := by simpa using Hgo.out
    have q1 : IntKind.i64.wrap (g.m + f.m) = g.m + f.m := IntWalk.i64_in _ (by omega)
    have pk0 := And.intro HF.out.c0 (And.intro HF.out.c1 (And.intro HX.out.c0 (And.intro HX.out.c1 (And.intro HY.out.c0 (And.intro HY.out.c1 (And.intro HZ.out.c0 (HZ.out.c1)))))))
    go_wp2
    go_region_held3 (fun w9 => w9.cell? ⟨w1.heap.size, 0, none⟩ = some (.int .i64 f.m) ∧ w9.cell? ⟨w1.heap.size, 1, none⟩ = some (.int .i64 f.o) ∧ w9.cell? ⟨u2.heap.size, 0, none⟩ = some (.int .i64 g.m) ∧ w9.cell? ⟨u2.heap.size, 1, none⟩ = some (.int .i64 g.o) ∧ w9.cell? ⟨u3.heap.size, 0, none⟩ = some (.int .i64 g.m) ∧ w9.cell? ⟨u3.heap.size, 1, none⟩ = some (.int .i64 g.o) ∧ w9.cell? ⟨u5.heap.size, 0, none⟩ = some (.int .i64 f.m) ∧ w9.cell? ⟨u5.heap.size, 1, none⟩ = some (.int .i64 f.o)) (first | exact pk1 | exact pk0)
      (first | (go_at_call 30; refine (implCableMiles_b B d ss _ Ha.out).mono ?_; rintro e w9 ⟨rfl, rb9⟩; rw [HM.out]; have pk1 := And.intro (HF.out.go rb9).c0 (And.intro (HF.out.go rb9).c1 (And.intro (HX.out.go rb9).c0 (And.intro (HX.out.go rb9).c1 (And.intro (HY.out.go rb9).c0 (And.intro (HY.out.go rb9).c1 (And.intro (HZ.out.go rb9).c0 ((HZ.out.go rb9).c1))))))); have Bt9 := Lib.hid (below_step Bt.out rb9); clear rb9))
    all_goals
      go_wp2
      go_ret
      exact ⟨rfl, Bt9.out⟩

theorem fnFaultBack_walk (A0 : Option Addr) (n0 c0 : Nat) (w : World) (hb0 : Byt0 w A0 n0 c0) :
    Calls Try.prog 7 #[.slice A0 n0 c0] w (RetB (.bool true) w) := by
  by_cases hl0 : 1048576 < n0
  · clear hb0
    go_enter Try.func7, Try.ntmps7
    go_wp2
    go_ret
    exact ⟨rfl, Below.refl _ _⟩
  exact fnFaultBack_in A0 n0 c0 w (by omega) hb0.1 hb0.2.2

set_option maxRecDepth 100000 in
theorem fnFaultBack_lifted (os : Os) (started : os.Started) (H : Type) (enc : TypeId × Value → H) :
    ReturnsInHanded {} Try.checked os 7 .any (Rows.fnFaultBackSpec.pre6 enc Try.prog Try.f7 Rows.fnFaultBackRow.domain false) (Rows.fnFaultBackSpec.post enc Try.prog Try.f7 false true false false) := by
  refine returnsInHanded_of_change (C := Try.checked) row_own started (by kernel_rfl) Try.func7
    (ChangeSpec.witness6 (enc := enc) (C := Try.checked) false ⟨#[], #[.slice none 0 0], []⟩ 8 (by kernel_rfl) (by kernel_rfl) (by kernel_rfl) (by kernel_rfl)) ?_
  intro W base args ds gs before hval0 hW hcnd _
  have hval : ∀ (j : Nat) t v, Try.f7.params[j]? = some t → args[j]? = some v → Value.okWide Try.prog W .any base t v := hval0
  have hW' := hW
  obtain ⟨p, q, hA0, hV, rfl, _, _⟩ := hW
  have hA : DataW.TrodAll enc Try.prog W 0 (fun _ => true) true Try.f7.params.toList args.toList ds p := hA0
  rw [Try.params7] at hA hval
  obtain ⟨v0, vs0, d0, ds0, p0, q0, hargs, rfl, rfl, h0, r0⟩ := trodAll_cons hA
  obtain ⟨rfl, rfl, rfl⟩ := trodAll_nil r0
  obtain rfl : args = #[v0] := by cases args; simp_all
  obtain ⟨rfl, rfl⟩ := trodVars_none hV
  have hlt0 : ∀ x ∈ p0, x.block < W.heap.size := fun x hx => by exact hW'.lt x (by simp [hx])
  obtain ⟨A0, n0, c0, rfl, hb0⟩ := open_bytes (hval 0 22 v0 rfl rfl) h0 hlt0
  clear hA0 hval0
  refine (fnFaultBack_walk A0 n0 c0 W hb0).mono fun e W' ⟨he, hb⟩ => ?_
  subst he
  exact ⟨_, rfl, _, _, _, [], _, [], hW', (trodAll_cons_mk (shut_bool Try.underlying4 _) trodAll_mk0), (trodAll_cons_mk (read_again_bytes h0 hlt0 hb) trodAll_mk0), rfl, hb.frame _, fun h => by cases h⟩

/-- THE STATEMENT -/
theorem fnFaultBack_holds : Rows.FnFaultBackSaid :=
  OpenClaim.holds_of_wide 7 Try.f7 rfl rfl rfl rfl rfl rfl rfl ⟨rfl, rfl, rfl, rfl, rfl⟩ rfl rfl rfl rfl rfl (by kernel_rfl) Try.func7 (by kernel_rfl)
    (of_decide_eq_true (by kernel_rfl)) (by unfold Func.isWrapper; first | (rw [if_pos (by decide +kernel)]; kernel_rfl) | (rw [if_neg (by decide +kernel)]; exact ⟨rfl, rfl⟩))
    (fun os started H enc _ => fnFaultBack_lifted os started H enc)
#print axioms fnFaultBack_holds
end Go.Proofs.Ytgnemkflojohdaa
