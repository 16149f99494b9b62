/-
  The law FnFind: for every code the law answers true. No condition.
-/
import Derived.Test.YtleagighkbmapaaFDraw
import Derived.Test.YtleagighkbmapaaFltFS
import Derived.Test.YtleagighkbmapaaRowB
import Derived.Test.YtleagighkbmapaaRowG
namespace Go.Proofs.Ytleagighkbmapaa
open Go.ChangeShapes Go.WideShapes Go.ChangeAt Go.RowKit

/-! ### what is found is measured -/
theorem findO_some {ss : List Sec} {a b : Int} {f : Flt} (h : findO ss a b = some f) :
    cab0 ss a = true ∧ ∃ k, k ≤ mN ss ∧ f = ⟨k, a - rN ss k⟩ ∧ inB (a - rN ss k) 0 1000 = true ∧ ohmsL ss - rN ss k + (a - rN ss k) = b := by
  unfold findO at h
  have hm := List.mem_of_mem_head? h
  cases h0 : cab0 ss a
  · rw [findsL_no _ h0] at hm
    simp at hm
  · rw [findsL_yes _ h0] at hm
    unfold fltL at hm
    rw [List.mem_map] at hm
    obtain ⟨k, hk, rfl⟩ := hm
    rw [List.mem_filter, List.mem_range, Bool.and_eq_true] at hk
    refine ⟨rfl, k, by omega, rfl, hk.2.1, ?_⟩
    have := hk.2.2
    unfold balP at this
    simpa using this
theorem find_open {ss : List Sec} {a b : Int} {f : Flt} (h : findO ss a b = some f) : openV ss f = .tuple #[.int .i64 a, .int .i64 b, .bool true] := by
  obtain ⟨h0, k, hk, rfl, hin, hb⟩ := findO_some h
  obtain ⟨hc, ha⟩ := cab0_true h0
  have h8 := (mN_bd hc 0).2.2
  have hv : faultB ss ⟨k, a - rN ss k⟩ = true := faultB_yes (inB_true.2 (by rw [milesI_yes hc]; dsimp only; omega)) hin
  rw [openV_yes hv]
  have e1 : upL ss ⟨k, a - rN ss k⟩ = rN ss k := rfl
  have e2 : restL ss ⟨k, a - rN ss k⟩ = ohmsL ss - rN ss k := rfl
  rw [e1, e2]
  dsimp only
  rw [hb, show rN ss k + (a - rN ss k) = a by omega]
theorem rN_mono {ss : List Sec} (hc : cabB ss = true) {j k : Nat} (hjk : j ≤ k) (hk : k ≤ mN ss) : rN ss j ≤ rN ss k := by
  have h8 := (mN_bd hc 0).2.2
  have := ohmsTo_mono (cabB_true.1 hc).2 (k - j) (j : Int) (by omega) (by omega)
  unfold rN
  rwa [show (j : Int) + ((k - j : Nat) : Int) = (k : Int) by omega] at this
theorem find_more {ss : List Sec} {a b : Int} {f g : Flt} (h : findO ss a b = some f) (h2 : findO ss (a + 2) b = some g) : f.m < g.m := by
  obtain ⟨h0, k, hk, rfl, _, hb⟩ := findO_some h
  obtain ⟨_, j, hj, rfl, _, hb2⟩ := findO_some h2
  obtain ⟨hc, _⟩ := cab0_true h0
  dsimp only
  rcases Nat.lt_or_ge k j with hlt | hge
  · omega
  · have := rN_mono hc hge hk
    omega
theorem findV_none {ss : List Sec} {a b : Int} (h : findO ss a b = none) : findV ss a b = .tuple #[.agg #[.int .i64 0, .int .i64 0], .bool false] := by unfold findV; rw [h]; rfl
theorem findV_some {ss : List Sec} {a b : Int} {f : Flt} (h : findO ss a b = some f) : findV ss a b = .tuple #[.agg #[.int .i64 f.m, .int .i64 f.o], .bool true] := by unfold findV; rw [h]; rfl

set_option maxRecDepth 100000 in
set_option maxHeartbeats 4000000 in
theorem fnFind_in (A : Option Addr) (n c : Nat) (w : World) (hl : n ≤ 1048576) (hnc : n ≤ c) (hb : Bytes w.heap.size w A n) :
    Calls Try.prog 3 #[.slice A n c] w (RetB (.bool true) w) := by
  have Hb := Lib.hid hb
  clear hb
  go_enter Try.func3, Try.ntmps3
  go_wp2_with fail
  refine (DrawFaultFind_c A n c _ (by omega) hnc Hb.out).mono ?_
  rintro e w1 ⟨B, d, ss, a, b, rfl, hzl, ha0, ha1, hb0, hb1, hA, hB⟩
  have Ha := Lib.hid hA
  have Bt := Lib.hid hB
  clear hA hB Hb
  cases hf : findO ss a b with
  | none =>
    have HV := Lib.hid (findV_none hf)
    clear hf
    go_wp2_with fail
    refine (implFaultFind_b B d ss a b _ Ha.out (by omega)).mono ?_
    rintro e w2 ⟨rfl, rb2⟩
    rw [HV.out]
    have rv2 := rb2.trans ((Below.refl w2.heap.size w2).alloc (Nat.le_refl _) (.cells #[.int .i64 0, .int .i64 0] 27) |>.mono rb2.size)
    replace Ha := Lib.hid (Ha.out.go rv2)
    replace Bt := Lib.hid (below_step Bt.out rv2)
    have HX := Lib.hid (TwoAt.new 27 w2 0 0)
    clear rb2 rv2
    go_wp2_with fail
    refine (specFaultFind_b B d ss a b _ Ha.out (by omega)).mono ?_
    rintro e w3 ⟨rfl, rb3⟩
    rw [HV.out]
    have hX3 := (HX.out.go rb3).old (.cells #[.int .i64 0, .int .i64 0] 27)
    have hY3 := TwoAt.new 27 w3 0 0
    have c0 := hX3.c0
    have c1 := hX3.c1
    have d0 := hY3.c0
    have d1 := hY3.c1
    have rv3 := rb3.trans ((Below.refl w3.heap.size w3).alloc (Nat.le_refl _) (.cells #[.int .i64 0, .int .i64 0] 27) |>.mono rb3.size)
    replace Bt := Lib.hid (below_step Bt.out rv3)
    clear rb3 rv3 hX3 hY3
    go_wp2
    go_ret
    exact ⟨rfl, Bt.out⟩
  | some f =>
    have HV := Lib.hid (findV_some hf)
    have HO := Lib.hid (find_open hf)
    have Hf := Lib.hid hf
    clear hf
    go_wp2_with fail
    refine (implFaultFind_b B d ss a b _ Ha.out (by omega)).mono ?_
    rintro e w2 ⟨rfl, rb2⟩
    rw [HV.out]
    have rv2 := rb2.trans ((Below.refl w2.heap.size w2).alloc (Nat.le_refl _) (.cells #[.int .i64 f.m, .int .i64 f.o] 27) |>.mono rb2.size)
    replace Ha := Lib.hid (Ha.out.go rv2)
    replace Bt := Lib.hid (below_step Bt.out rv2)
    have HX := Lib.hid (TwoAt.new 27 w2 f.m f.o)
    clear rb2 rv2
    go_wp2_with fail
    refine (specFaultFind_b B d ss a b _ Ha.out (by omega)).mono ?_
    rintro e w3 ⟨rfl, rb3⟩
    rw [HV.out]
    have hX3 := (HX.out.go rb3).old (.cells #[.int .i64 f.m, .int .i64 f.o] 27)
    have hY3 := TwoAt.new 27 w3 f.m f.o
    have c0 := hX3.c0
    have c1 := hX3.c1
    have d0 := hY3.c0
    have d1 := hY3.c1
    have rv3 := rb3.trans ((Below.refl w3.heap.size w3).alloc (Nat.le_refl _) (.cells #[.int .i64 f.m, .int .i64 f.o] 27) |>.mono rb3.size)
    replace Ha := Lib.hid (Ha.out.go rv3)
    replace Bt := Lib.hid (below_step Bt.out rv3)
    replace HX := Lib.hid hX3
    clear rb3 rv3 hX3 hY3
    go_wp2_with fail
    refine (implFaultOpen_b B d ss f _ Ha.out).mono ?_
    rintro e w4 ⟨rfl, rb4⟩
    rw [HO.out]
    replace Ha := Lib.hid (Ha.out.go rb4)
    replace Bt := Lib.hid (below_step Bt.out rb4)
    replace HX := Lib.hid (HX.out.go rb4)
    clear rb4
    cases hg : findO ss (a + 2) b with
    | none =>
      have HV2 := Lib.hid (findV_none hg)
      clear hg
      go_wp2_with fail
      refine (implFaultFind_b B d ss (a + 2) b _ Ha.out (by omega)).mono ?_
      rintro e w5 ⟨rfl, rb5⟩
      rw [HV2.out]
      have rv5 := rb5.trans ((Below.refl w5.heap.size w5).alloc (Nat.le_refl _) (.cells #[.int .i64 0, .int .i64 0] 27) |>.mono rb5.size)
      replace Bt := Lib.hid (below_step Bt.out rv5)
      clear rb5 rv5
      go_wp2
      go_ret
      exact ⟨rfl, Bt.out⟩
    | some g =>
      have HV2 := Lib.hid (findV_some hg)
      have hmore := find_more Hf.out hg
      have g9 : decide (f.m < g.m) = true := by simpa using hmore
      clear hg
      go_wp2_with fail
      refine (implFaultFind_b B d ss (a + 2) b _ Ha.out (by omega)).mono ?_
      rintro e w5 ⟨rfl, rb5⟩
      rw [HV2.out]
      have hX5 := (HX.out.go rb5).old (.cells #[.int .i64 g.m, .int .i64 g.o] 27)
      have hY5 := TwoAt.new 27 w5 g.m g.o
      have c50 := hX5.c0
      have d50 := hY5.c0
      have rv5 := rb5.trans ((Below.refl w5.heap.size w5).alloc (Nat.le_refl _) (.cells #[.int .i64 g.m, .int .i64 g.o] 27) |>.mono rb5.size)
      replace Bt := Lib.hid (below_step Bt.out rv5)
      clear rb5 rv5 hX5 hY5
      go_wp2
      go_ret
      exact ⟨rfl, Bt.out⟩

theorem fnFind_walk (A0 : Option Addr) (n0 c0 : Nat) (w : World) (hb0 : Byt0 w A0 n0 c0) :
    Calls Try.prog 3 #[.slice A0 n0 c0] w (RetB (.bool true) w) := by
  by_cases hl0 : 1048576 < n0
  · clear hb0
    go_enter Try.func3, Try.ntmps3
    go_wp2
    go_ret
    exact ⟨rfl, Below.refl _ _⟩
  exact fnFind_in A0 n0 c0 w (by omega) hb0.1 hb0.2.2

set_option maxRecDepth 100000 in
theorem fnFind_lifted (os : Os) (started : os.Started) (H : Type) (enc : TypeId × Value → H) :
    ReturnsInHanded {} Try.checked os 3 .any (Rows.fnFindSpec.pre6 enc Try.prog Try.f3 Rows.fnFindRow.domain false) (Rows.fnFindSpec.post enc Try.prog Try.f3 false true false false) := by
  refine returnsInHanded_of_change (C := Try.checked) row_own started (by kernel_rfl) Try.func3
    (ChangeSpec.witness6 (enc := enc) (C := Try.checked) false ⟨#[], #[.slice none 0 0], []⟩ 8 (by kernel_rfl) (by kernel_rfl) (by kernel_rfl) (by kernel_rfl)) ?_
  intro W base args ds gs before hval0 hW hcnd _
  have hval : ∀ (j : Nat) t v, Try.f3.params[j]? = some t → args[j]? = some v → Value.okWide Try.prog W .any base t v := hval0
  have hW' := hW
  obtain ⟨p, q, hA0, hV, rfl, _, _⟩ := hW
  have hA : DataW.TrodAll enc Try.prog W 0 (fun _ => true) true Try.f3.params.toList args.toList ds p := hA0
  rw [Try.params3] at hA hval
  obtain ⟨v0, vs0, d0, ds0, p0, q0, hargs, rfl, rfl, h0, r0⟩ := trodAll_cons hA
  obtain ⟨rfl, rfl, rfl⟩ := trodAll_nil r0
  obtain rfl : args = #[v0] := by cases args; simp_all
  obtain ⟨rfl, rfl⟩ := trodVars_none hV
  have hlt0 : ∀ x ∈ p0, x.block < W.heap.size := fun x hx => by exact hW'.lt x (by simp [hx])
  obtain ⟨A0, n0, c0, rfl, hb0⟩ := open_bytes (hval 0 22 v0 rfl rfl) h0 hlt0
  clear hA0 hval0
  refine (fnFind_walk A0 n0 c0 W hb0).mono fun e W' ⟨he, hb⟩ => ?_
  subst he
  exact ⟨_, rfl, _, _, _, [], _, [], hW', (trodAll_cons_mk (shut_bool Try.underlying4 _) trodAll_mk0), (trodAll_cons_mk (read_again_bytes h0 hlt0 hb) trodAll_mk0), rfl, hb.frame _, fun h => by cases h⟩

/-- THE STATEMENT -/
theorem fnFind_holds : Rows.FnFindSaid :=
  OpenClaim.holds_of_wide 3 Try.f3 rfl rfl rfl rfl rfl rfl rfl ⟨rfl, rfl, rfl, rfl, rfl⟩ rfl rfl rfl rfl rfl (by kernel_rfl) Try.func3 (by kernel_rfl)
    (of_decide_eq_true (by kernel_rfl)) (by unfold Func.isWrapper; first | (rw [if_pos (by decide +kernel)]; kernel_rfl) | (rw [if_neg (by decide +kernel)]; exact ⟨rfl, rfl⟩))
    (fun os started H enc _ => fnFind_lifted os started H enc)
#print axioms fnFind_holds
end Go.Proofs.Ytleagighkbmapaa
