/-
  The law FnOpen: for every code the law answers true. No condition.
-/
import Derived.Test.YtgnemkflojohdaaFDrawB
import Derived.Test.YtgnemkflojohdaaFltN
import Derived.Test.YtgnemkflojohdaaFltPS
import Derived.Test.YtgnemkflojohdaaRowB
import Derived.Test.YtgnemkflojohdaaTwoK
import Derived.Test.YtgnemkflojohdaaCBackI
import Derived.Test.YtgnemkflojohdaaFltOS
import Derived.Test.YtgnemkflojohdaaFltF
import Derived.Deep.RegionHeld3
namespace Go.Proofs.Ytgnemkflojohdaa
open Go.ChangeShapes Go.WideShapes Go.ChangeAt Go.RowKit

theorem backV_bkO {ss : List Sec} {f : Flt} (h : faultB ss f = true) : backV ss f = .tuple #[.agg #[.int .i64 (bk ss f).m, .int .i64 (bk ss f).o], .bool true] := backV_yes h

set_option maxRecDepth 100000 in
set_option maxHeartbeats 4000000 in
theorem fnOpen_in (A : Option Addr) (n c : Nat) (w : World) (hl : n ≤ 1048576) (hnc : n ≤ c) (hb : Bytes w.heap.size w A n) :
    Calls Try.prog 13 #[.slice A n c] w (RetB (.bool true) w) := by
  have Hb := Lib.hid hb
  clear hb
  go_enter Try.func13, Try.ntmps13
  go_wp2_with fail
  refine (DrawFaultOpen_c A n c _ (by omega) hnc Hb.out).mono ?_
  rintro e w1 ⟨B, d, ss, f, rfl, hzl, hA, hB, ⟨hm0, hm1⟩, ho0, ho1⟩
  have Ha := Lib.hid hA
  have Bt := Lib.hid hB
  clear hA hB Hb
  cases hv : faultB ss f
  · have HV := Lib.hid (openV_no hv)
    clear hv
    have rxHF : Below w1.heap.size w1 (w1.alloc (.cells #[.int .i64 f.m, .int .i64 f.o] 25)) := (Below.refl _ _).alloc (Nat.le_refl _) _
    have hxHF := TwoAt.new 25 w1 f.m f.o
    replace Ha := Lib.hid (Ha.out.go rxHF)
    replace Bt := Lib.hid (below_step Bt.out rxHF)
    have HF := Lib.hid hxHF
    clear rxHF hxHF
    have cHF1 := HF.out.c0
    have dHF1 := HF.out.c1
    go_wp2_with fail
    refine (implFaultOpen_b B d ss f _ Ha.out).mono ?_
    rintro e u2 ⟨rfl, rb2⟩
    rw [HV.out]
    replace Ha := Lib.hid (Ha.out.go rb2)
    replace HF := Lib.hid (HF.out.go rb2)
    replace Bt := Lib.hid (below_step Bt.out rb2)
    clear rb2
    have cHF2 := HF.out.c0
    have dHF2 := HF.out.c1
    go_wp2_with fail
    refine (specFaultOpen_b B d ss f _ Ha.out).mono ?_
    rintro e u3 ⟨rfl, rb3⟩
    rw [HV.out]
    replace Ha := Lib.hid (Ha.out.go rb3)
    replace HF := Lib.hid (HF.out.go rb3)
    replace Bt := Lib.hid (below_step Bt.out rb3)
    clear rb3
    have cHF3 := HF.out.c0
    have dHF3 := HF.out.c1
    go_wp2
    go_ret
    exact ⟨rfl, Bt.out⟩
  · have hc := (faultB_true hv).1
    have hfo := (faultB_true hv).2.2
    have hsd := sides_bd hv
    have HV := Lib.hid (openV_yes hv)
    have HFi := Lib.hid (show findV ss (upL ss f + f.o) (restL ss f + f.o) = .tuple #[.agg #[.int .i64 f.m, .int .i64 f.o], .bool true] from findV_some (find_of_open hv))
    have HVb := Lib.hid (backV_bkO hv)
    have HO := Lib.hid (bk_open hv)
    have HC := Lib.hid (And.intro hc (backL_yes hc))
    have hsum := sides_sum ss f
    have HAl := Lib.hid (allI_yes hc)
    obtain ⟨x, hx⟩ : ∃ x, upL ss f = x := ⟨_, rfl⟩
    obtain ⟨y, hy⟩ : ∃ y, restL ss f = y := ⟨_, rfl⟩
    obtain ⟨T, hT⟩ : ∃ T, ohmsL ss = T := ⟨_, rfl⟩
    rw [hx, hy] at HV HFi HO hsum hsd
    rw [hT] at hsum HAl
    obtain ⟨g, hgg⟩ : ∃ g, bk ss f = g := ⟨_, rfl⟩
    rw [hgg] at HVb HO
    obtain ⟨rv, hrv⟩ : ∃ rv, ss.reverse = rv := ⟨_, rfl⟩
    rw [hrv] at HC HO
    clear hv hc hx hy hT hgg hrv
    have rxHF : Below w1.heap.size w1 (w1.alloc (.cells #[.int .i64 f.m, .int .i64 f.o] 25)) := (Below.refl _ _).alloc (Nat.le_refl _) _
    have hxHF := TwoAt.new 25 w1 f.m f.o
    replace Ha := Lib.hid (Ha.out.go rxHF)
    replace Bt := Lib.hid (below_step Bt.out rxHF)
    have HF := Lib.hid hxHF
    clear rxHF hxHF
    have cHF1 := HF.out.c0
    have dHF1 := HF.out.c1
    go_wp2_with fail
    refine (implFaultOpen_b B d ss f _ Ha.out).mono ?_
    rintro e u2 ⟨rfl, rb2⟩
    rw [HV.out]
    replace Ha := Lib.hid (Ha.out.go rb2)
    replace HF := Lib.hid (HF.out.go rb2)
    replace Bt := Lib.hid (below_step Bt.out rb2)
    clear rb2
    have cHF2 := HF.out.c0
    have dHF2 := HF.out.c1
    go_wp2_with fail
    refine (specFaultOpen_b B d ss f _ Ha.out).mono ?_
    rintro e u3 ⟨rfl, rb3⟩
    rw [HV.out]
    replace Ha := Lib.hid (Ha.out.go rb3)
    replace HF := Lib.hid (HF.out.go rb3)
    replace Bt := Lib.hid (below_step Bt.out rb3)
    clear rb3
    have cHF3 := HF.out.c0
    have dHF3 := HF.out.c1
    go_wp2_with fail
    refine (implFaultFind_b B d ss (x + f.o) (y + f.o) _ Ha.out (by omega)).mono ?_
    rintro e u4 ⟨rfl, rb4⟩
    rw [HFi.out]
    replace Ha := Lib.hid (Ha.out.go rb4)
    replace HF := Lib.hid (HF.out.go rb4)
    replace Bt := Lib.hid (below_step Bt.out rb4)
    clear rb4
    have rxHX : Below u4.heap.size u4 (u4.alloc (.cells #[.int .i64 f.m, .int .i64 f.o] 25)) := (Below.refl _ _).alloc (Nat.le_refl _) _
    have hxHX := TwoAt.new 25 u4 f.m f.o
    replace Ha := Lib.hid (Ha.out.go rxHX)
    replace HF := Lib.hid (HF.out.go rxHX)
    replace Bt := Lib.hid (below_step Bt.out rxHX)
    have HX := Lib.hid hxHX
    clear rxHX hxHX
    have cHF4 := HF.out.c0
    have dHF4 := HF.out.c1
    have cHX4 := HX.out.c0
    have dHX4 := HX.out.c1
    go_wp2_with fail
    refine (implCableBack_b B d ss _ Ha.out).mono ?_
    rintro e u5 ⟨B2, d2, rfl, ra2, _, rb5⟩
    replace Ha := Lib.hid (Ha.out.go rb5)
    replace HF := Lib.hid (HF.out.go rb5)
    replace HX := Lib.hid (HX.out.go rb5)
    replace Bt := Lib.hid (below_step Bt.out rb5)
    clear rb5
    rw [HC.out.2] at ra2 ⊢
    rw [HC.out.1]
    dsimp only
    have Hk := Lib.hid ra2
    clear ra2
    have cHF5 := HF.out.c0
    have dHF5 := HF.out.c1
    have cHX5 := HX.out.c0
    have dHX5 := HX.out.c1
    go_wp2_with fail
    refine (implFaultBack_b B d ss f _ Ha.out).mono ?_
    rintro e u6 ⟨rfl, rb6⟩
    rw [HVb.out]
    replace Ha := Lib.hid (Ha.out.go rb6)
    replace Hk := Lib.hid (Hk.out.go rb6)
    replace HF := Lib.hid (HF.out.go rb6)
    replace HX := Lib.hid (HX.out.go rb6)
    replace Bt := Lib.hid (below_step Bt.out rb6)
    clear rb6
    have rxHG : Below u6.heap.size u6 (u6.alloc (.cells #[.int .i64 g.m, .int .i64 g.o] 25)) := (Below.refl _ _).alloc (Nat.le_refl _) _
    have hxHG := TwoAt.new 25 u6 g.m g.o
    replace Ha := Lib.hid (Ha.out.go rxHG)
    replace Hk := Lib.hid (Hk.out.go rxHG)
    replace HF := Lib.hid (HF.out.go rxHG)
    replace HX := Lib.hid (HX.out.go rxHG)
    replace Bt := Lib.hid (below_step Bt.out rxHG)
    have HG := Lib.hid hxHG
    clear rxHG hxHG
    have cHF6 := HF.out.c0
    have dHF6 := HF.out.c1
    have cHX6 := HX.out.c0
    have dHX6 := HX.out.c1
    have cHG6 := HG.out.c0
    have dHG6 := HG.out.c1
    go_wp2_with fail
    refine (implFaultOpen_b B2 d2 rv g _ Hk.out).mono ?_
    rintro e u7 ⟨rfl, rb7⟩
    rw [HO.out]
    replace Ha := Lib.hid (Ha.out.go rb7)
    replace Hk := Lib.hid (Hk.out.go rb7)
    replace HF := Lib.hid (HF.out.go rb7)
    replace HX := Lib.hid (HX.out.go rb7)
    replace HG := Lib.hid (HG.out.go rb7)
    replace Bt := Lib.hid (below_step Bt.out rb7)
    clear rb7
    have cHF7 := HF.out.c0
    have dHF7 := HF.out.c1
    have cHX7 := HX.out.c0
    have dHX7 := HX.out.c1
    have cHG7 := HG.out.c0
    have dHG7 := HG.out.c1
    have rd := (Below.refl u7.heap.size u7).drew
    replace Ha := Lib.hid (Ha.out.go rd)
    replace Hk := Lib.hid (Hk.out.go rd)
    replace HF := Lib.hid (HF.out.go rd)
    replace HX := Lib.hid (HX.out.go rd)
    replace HG := Lib.hid (HG.out.go rd)
    replace Bt := Lib.hid (below_step Bt.out rd)
    clear rd
    have g1 : (x + f.o + (y + f.o) == T + 2 * f.o) = true := by rw [beq_iff_eq]; omega
    have q1 : IntKind.i64.wrap (x + f.o + (y + f.o)) = x + f.o + (y + f.o) := IntWalk.i64_in _ (by omega)
    have q2 : IntKind.i64.wrap (2 * f.o) = 2 * f.o := IntWalk.i64_in _ (by omega)
    have q3 : IntKind.i64.wrap (T + 2 * f.o) = T + 2 * f.o := IntWalk.i64_in _ (by omega)
    have pk0 := And.intro HF.out.c0 (And.intro HF.out.c1 (And.intro HX.out.c0 (And.intro HX.out.c1 (And.intro HG.out.c0 (HG.out.c1)))))
    go_wp2
    go_region_held3 (fun w9 => w9.cell? ⟨w1.heap.size, 0, none⟩ = some (.int .i64 f.m) ∧ w9.cell? ⟨w1.heap.size, 1, none⟩ = some (.int .i64 f.o) ∧ w9.cell? ⟨u4.heap.size, 0, none⟩ = some (.int .i64 f.m) ∧ w9.cell? ⟨u4.heap.size, 1, none⟩ = some (.int .i64 f.o) ∧ w9.cell? ⟨u6.heap.size, 0, none⟩ = some (.int .i64 g.m) ∧ w9.cell? ⟨u6.heap.size, 1, none⟩ = some (.int .i64 g.o)) (first | exact pk1 | exact pk0)
      (first | (go_at_call 22; refine (implCableAll_b B d ss _ Ha.out).mono ?_; rintro e w9 ⟨rfl, rb9⟩; rw [HAl.out]; have pk1 := And.intro (HF.out.go rb9).c0 (And.intro (HF.out.go rb9).c1 (And.intro (HX.out.go rb9).c0 (And.intro (HX.out.go rb9).c1 (And.intro (HG.out.go rb9).c0 ((HG.out.go rb9).c1))))); have Bt9 := Lib.hid (below_step Bt.out rb9); clear rb9))
    all_goals
      go_wp2
      go_ret
      exact ⟨rfl, Bt9.out⟩

theorem fnOpen_walk (A0 : Option Addr) (n0 c0 : Nat) (w : World) (hb0 : Byt0 w A0 n0 c0) :
    Calls Try.prog 13 #[.slice A0 n0 c0] w (RetB (.bool true) w) := by
  by_cases hl0 : 1048576 < n0
  · clear hb0
    go_enter Try.func13, Try.ntmps13
    go_wp2
    go_ret
    exact ⟨rfl, Below.refl _ _⟩
  exact fnOpen_in A0 n0 c0 w (by omega) hb0.1 hb0.2.2

set_option maxRecDepth 100000 in
theorem fnOpen_lifted (os : Os) (started : os.Started) (H : Type) (enc : TypeId × Value → H) :
    ReturnsInHanded {} Try.checked os 13 .any (Rows.fnOpenSpec.pre6 enc Try.prog Try.f13 Rows.fnOpenRow.domain false) (Rows.fnOpenSpec.post enc Try.prog Try.f13 false true false false) := by
  refine returnsInHanded_of_change (C := Try.checked) row_own started (by kernel_rfl) Try.func13
    (ChangeSpec.witness6 (enc := enc) (C := Try.checked) false ⟨#[], #[.slice none 0 0], []⟩ 8 (by kernel_rfl) (by kernel_rfl) (by kernel_rfl) (by kernel_rfl)) ?_
  intro W base args ds gs before hval0 hW hcnd _
  have hval : ∀ (j : Nat) t v, Try.f13.params[j]? = some t → args[j]? = some v → Value.okWide Try.prog W .any base t v := hval0
  have hW' := hW
  obtain ⟨p, q, hA0, hV, rfl, _, _⟩ := hW
  have hA : DataW.TrodAll enc Try.prog W 0 (fun _ => true) true Try.f13.params.toList args.toList ds p := hA0
  rw [Try.params13] at hA hval
  obtain ⟨v0, vs0, d0, ds0, p0, q0, hargs, rfl, rfl, h0, r0⟩ := trodAll_cons hA
  obtain ⟨rfl, rfl, rfl⟩ := trodAll_nil r0
  obtain rfl : args = #[v0] := by cases args; simp_all
  obtain ⟨rfl, rfl⟩ := trodVars_none hV
  have hlt0 : ∀ x ∈ p0, x.block < W.heap.size := fun x hx => by exact hW'.lt x (by simp [hx])
  obtain ⟨A0, n0, c0, rfl, hb0⟩ := open_bytes (hval 0 22 v0 rfl rfl) h0 hlt0
  clear hA0 hval0
  refine (fnOpen_walk A0 n0 c0 W hb0).mono fun e W' ⟨he, hb⟩ => ?_
  subst he
  exact ⟨_, rfl, _, _, _, [], _, [], hW', (trodAll_cons_mk (shut_bool Try.underlying4 _) trodAll_mk0), (trodAll_cons_mk (read_again_bytes h0 hlt0 hb) trodAll_mk0), rfl, hb.frame _, fun h => by cases h⟩

/-- THE STATEMENT -/
theorem fnOpen_holds : Rows.FnOpenSaid :=
  OpenClaim.holds_of_wide 13 Try.f13 rfl rfl rfl rfl rfl rfl rfl ⟨rfl, rfl, rfl, rfl, rfl⟩ rfl rfl rfl rfl rfl (by kernel_rfl) Try.func13 (by kernel_rfl)
    (of_decide_eq_true (by kernel_rfl)) (by unfold Func.isWrapper; first | (rw [if_pos (by decide +kernel)]; kernel_rfl) | (rw [if_neg (by decide +kernel)]; exact ⟨rfl, rfl⟩))
    (fun os started H enc _ => fnOpen_lifted os started H enc)
#print axioms fnOpen_holds
end Go.Proofs.Ytgnemkflojohdaa
