/-
  The exact law of FaultOpen: for all arguments the law answers true. No condition.
  (Written by a program of mine, genf.py.)
-/
import Derived.Test.YtleagighkbmapaaBaseD
import Derived.Test.YtleagighkbmapaaRowC
import Derived.Test.YtleagighkbmapaaRowG
import Derived.Test.YtleagighkbmapaaFltOS
import Derived.Deep.RegionHeld3
namespace Go.Proofs.Ytleagighkbmapaa
open Go.ChangeShapes Go.WideShapes Go.ChangeAt Go.RowKit

theorem openV_form (z0 : List Sec) (f1 : Flt) : ∃ (x0 : Int) (x1 : Int) (x2 : Bool), openV z0 f1 = .tuple #[.int .i64 x0, .int .i64 x1, .bool x2] := by
  unfold openV
  split
  · exact ⟨_, _, true, rfl⟩
  · exact ⟨0, 0, false, rfl⟩

set_option maxRecDepth 100000 in
set_option maxHeartbeats 4000000 in
theorem exFaultOpen_in (A0 : Option Addr) (c0 : Nat) (z0 : List Sec) (f1 : Flt) (w : World) (ha0 : ArgC w A0 c0 z0) (hl : z0.length ≤ 1048576)  :
    Calls Try.prog 5 #[.slice A0 z0.length c0, .agg #[.int .i64 f1.m, .int .i64 f1.o]] w (RetB (.bool true) w) := by
  have Ha0 := Lib.hid ha0.held
  clear ha0
  have Bt := Lib.hid (Below.refl w.heap.size w)
  obtain ⟨w0, hw0⟩ : ∃ w0, w.alloc (.cells #[.int .i64 f1.m, .int .i64 f1.o] 34) = w0 := ⟨_, rfl⟩
  have hs0 : w0.heap.size = w.heap.size + 1 := by rw [← hw0]; simp
  have rb0 : Below w.heap.size w w0 := by rw [← hw0]; exact (Below.refl _ _).alloc (Nat.le_refl _) _
  have hT1 : TwoAt 34 w0 (w.heap.size) f1.m f1.o := by rw [← hw0]; exact TwoAt.new _ w f1.m f1.o
  replace Ha0 := Lib.hid (Ha0.out.go rb0)
  replace Bt := Lib.hid (below_step Bt.out rb0)
  have HT1 := Lib.hid hT1
  have Hw0 := Lib.hid hw0
  clear hw0 rb0 hT1
  obtain ⟨x0, x1, x2, hform⟩ := openV_form z0 f1
  have Hform := Lib.hid hform
  clear hform
  go_enter Try.func5, Try.ntmps5
  go_wp2_with fail
  rw [Hw0.out]
  refine (szSectionS_yes A0 c0 z0.length (1048576) _ (by omega) (by omega)).mono ?_
  rintro e w9 ⟨rfl, rfl⟩
  go_wp2
  have rb1 := (Below.refl w0.heap.size w0).drew
  replace Ha0 := Lib.hid (Ha0.out.go rb1)
  replace HT1 := Lib.hid (HT1.out.go rb1)
  replace Bt := Lib.hid (below_step Bt.out rb1)
  clear rb1
  have pk1 := And.intro HT1.out.c0 HT1.out.c1
  go_region_held3 (fun w9 => w9.cell? ⟨w.heap.size, 0, none⟩ = some (.int .i64 f1.m) ∧ w9.cell? ⟨w.heap.size, 1, none⟩ = some (.int .i64 f1.o)) (first | exact pk4 | exact pk3 | exact pk2 | exact pk1)
    (first | (go_at_call 23; refine (toSectionS_c A0 c0 z0 _ Ha0.out.arg).mono ?_; rintro e u2 ⟨B2, d2, rfl, ra2, ro2, rb2⟩; dsimp only [id]; have sz2 := rb2.size; replace Ha0 := Lib.hid (Ha0.out.go rb2); replace HT1 := Lib.hid (HT1.out.go rb2); replace Bt := Lib.hid (below_step Bt.out rb2); have Hx2 := Lib.hid (ro2.held (Nat.le_refl _) ra2.len); have Ox2 := Lib.hid ro2; clear ra2 ro2 rb2; have pk2 := And.intro HT1.out.c0 HT1.out.c1) | (go_at_call 24; refine (toFault_c f1 _).mono ?_; rintro e u3 ⟨rfl, rb3⟩; have sz3 := rb3.size; replace Ha0 := Lib.hid (Ha0.out.go rb3); replace HT1 := Lib.hid (HT1.out.go rb3); replace Hx2 := Lib.hid (Hx2.out.go rb3); replace Ox2 := Lib.hid (Ox2.out.go rb3 (by omega)); replace Bt := Lib.hid (below_step Bt.out rb3); clear rb3; have pk3 := And.intro HT1.out.c0 HT1.out.c1) | (go_at_call 27; refine (specFaultOpen_b B2 d2 z0 f1 _ Hx2.out.arg ).mono ?_; rintro e u4 ⟨rfl, rb4⟩; rw [Hform.out]; have sz4 := rb4.size; replace Ha0 := Lib.hid (Ha0.out.go rb4); replace HT1 := Lib.hid (HT1.out.go rb4); replace Hx2 := Lib.hid (Hx2.out.go rb4); replace Ox2 := Lib.hid (Ox2.out.go rb4 (by omega)); replace Bt := Lib.hid (below_step Bt.out rb4); clear rb4; have pk4 := And.intro HT1.out.c0 HT1.out.c1))
  clear pk1 pk2 pk3 pk4
  clear Hx2 Ox2
  go_wp2_with fail
  refine (toSectionS_c A0 c0 z0 _ Ha0.out.arg).mono ?_
  rintro e u5 ⟨B5, d5, rfl, ra5, ro5, rb5⟩
  dsimp only [id]
  have sz5 := rb5.size
  replace Ha0 := Lib.hid (Ha0.out.go rb5)
  replace HT1 := Lib.hid (HT1.out.go rb5)
  replace Bt := Lib.hid (below_step Bt.out rb5)
  have Hx5 := Lib.hid (ro5.held (Nat.le_refl _) ra5.len)
  have Ox5 := Lib.hid ro5
  clear ra5 ro5 rb5
  have cct10 := HT1.out.c0
  have cct11 := HT1.out.c1
  go_wp2_with fail
  refine (toFault_c f1 _).mono ?_
  rintro e u6 ⟨rfl, rb6⟩
  have sz6 := rb6.size
  replace Ha0 := Lib.hid (Ha0.out.go rb6)
  replace HT1 := Lib.hid (HT1.out.go rb6)
  replace Hx5 := Lib.hid (Hx5.out.go rb6)
  replace Ox5 := Lib.hid (Ox5.out.go rb6 (by omega))
  replace Bt := Lib.hid (below_step Bt.out rb6)
  clear rb6
  go_wp2_with fail
  refine (implFaultOpen_b B5 d5 z0 f1 _ Hx5.out.arg ).mono ?_
  rintro e u7 ⟨rfl, rb7⟩
  rw [Hform.out]
  have sz7 := rb7.size
  replace Ha0 := Lib.hid (Ha0.out.go rb7)
  replace HT1 := Lib.hid (HT1.out.go rb7)
  replace Hx5 := Lib.hid (Hx5.out.go rb7)
  replace Ox5 := Lib.hid (Ox5.out.go rb7 (by omega))
  replace Bt := Lib.hid (below_step Bt.out rb7)
  clear rb7
  go_wp2_with fail
  refine (toSectionS_c A0 c0 z0 _ Ha0.out.arg).mono ?_
  rintro e u8 ⟨B8, d8, rfl, ra8, ro8, rb8⟩
  dsimp only [id]
  have sz8 := rb8.size
  replace Ha0 := Lib.hid (Ha0.out.go rb8)
  replace HT1 := Lib.hid (HT1.out.go rb8)
  replace Hx5 := Lib.hid (Hx5.out.go rb8)
  replace Ox5 := Lib.hid (Ox5.out.go rb8 (by omega))
  replace Bt := Lib.hid (below_step Bt.out rb8)
  have Hx8 := Lib.hid (ro8.held (Nat.le_refl _) ra8.len)
  have Ox8 := Lib.hid ro8
  clear ra8 ro8 rb8
  go_wp2_with fail
  refine (eqSectionS_c B5 B8 d5 d8 z0 z0 _ Hx5.out.arg Hx8.out.arg).mono ?_
  rintro e u9 ⟨rfl, rb9⟩
  have sz9 := rb9.size
  replace Ha0 := Lib.hid (Ha0.out.go rb9)
  replace HT1 := Lib.hid (HT1.out.go rb9)
  replace Hx5 := Lib.hid (Hx5.out.go rb9)
  replace Ox5 := Lib.hid (Ox5.out.go rb9 (by omega))
  replace Hx8 := Lib.hid (Hx8.out.go rb9)
  replace Ox8 := Lib.hid (Ox8.out.go rb9 (by omega))
  replace Bt := Lib.hid (below_step Bt.out rb9)
  clear rb9
  clear Hx8 Ox8
  go_wp2
  go_ret
  exact ⟨rfl, Bt.out⟩

theorem exFaultOpen_walk (A0 : Option Addr) (c0 : Nat) (z0 : List Sec) (f1 : Flt) (w : World) (ha0 : ArgC0 w A0 c0 z0)  :
    Calls Try.prog 5 #[.slice A0 z0.length c0, .agg #[.int .i64 f1.m, .int .i64 f1.o]] w (RetB (.bool true) w) := by
  by_cases hl0 : 1048576 < z0.length
  · have hc0 := ha0.1
    have hm0 := ha0.2.1
    have hk0 : (1048576 : Int) < (z0.length : Int) := by omega
    clear ha0
    go_enter Try.func5, Try.ntmps5
    go_wp2_with fail
    refine (szSectionS_no A0 c0 z0.length (1048576) _ hk0 (by omega) hc0 hm0).mono ?_
    rintro e w9 ⟨rfl, rfl⟩
    go_wp2
    go_ret
    exact ⟨rfl, (Below.refl _ _).alloc (Nat.le_refl _) _⟩
  exact exFaultOpen_in A0 c0 z0 f1 w (ha0.arg (by omega)) (by omega) 

set_option maxRecDepth 100000 in
theorem exFaultOpen_lifted (os : Os) (started : os.Started) (H : Type) (enc : TypeId × Value → H) :
    ReturnsInHanded {} Try.checked os 5 .any (Rows.fnExactFaultOpenSpec.pre6 enc Try.prog Try.f5 Rows.fnExactFaultOpenRow.domain false) (Rows.fnExactFaultOpenSpec.post enc Try.prog Try.f5 false true false false) := by
  refine returnsInHanded_of_change (C := Try.checked) row_own started (by kernel_rfl) Try.func5
    (ChangeSpec.witness6 (enc := enc) (C := Try.checked) false ⟨#[], #[.slice none 0 0, .agg #[.int .i64 0, .int .i64 0]], []⟩ 8 (by kernel_rfl) (by kernel_rfl) (by kernel_rfl) (by kernel_rfl)) ?_
  intro W base args ds gs before hval0 hW hcnd _
  have hval : ∀ (j : Nat) t v, Try.f5.params[j]? = some t → args[j]? = some v → Value.okWide Try.prog W .any base t v := hval0
  have hW' := hW
  obtain ⟨p, q, hA0, hV, rfl, _, _⟩ := hW
  have hA : DataW.TrodAll enc Try.prog W 0 (fun _ => true) true Try.f5.params.toList args.toList ds p := hA0
  rw [Try.params5] at hA hval
  obtain ⟨v0, vs0, d0, ds0, p0, q0, hargs, rfl, rfl, h0, r0⟩ := trodAll_cons hA
  obtain ⟨v1, vs1, d1, ds1, p1, q1, rfl, rfl, rfl, h1, r1⟩ := trodAll_cons r0
  obtain ⟨rfl, rfl, rfl⟩ := trodAll_nil r1
  obtain rfl : args = #[v0, v1] := by cases args; simp_all
  obtain ⟨rfl, rfl⟩ := trodVars_none hV
  have hlt0 : ∀ x ∈ p0, x.block < W.heap.size := fun x hx => by exact hW'.lt x (by simp [hx])
  obtain ⟨A0, c0, z0, rfl, ha0⟩ := open_secs (hval 0 33 v0 rfl rfl) h0 hlt0
  obtain ⟨f1, rfl, rfl, rfl, wf1a, wf1b⟩ := open_fault (hval 1 34 v1 rfl rfl) h1
  clear hA0 hval0
  refine (exFaultOpen_walk A0 c0 z0 f1 W ha0 ).mono fun e W' ⟨he, hb⟩ => ?_
  subst he
  exact ⟨_, rfl, _, _, _, [], _, [], hW', (trodAll_cons_mk (shut_bool Try.underlying4 _) trodAll_mk0), (trodAll_cons_mk (read_again_secs h0 hlt0 hb) (trodAll_cons_mk (shut_fault wf1a wf1b) trodAll_mk0)), rfl, hb.frame _, fun h => by cases h⟩

/-- THE STATEMENT -/
theorem exFaultOpen_holds : Rows.FnExactFaultOpenSaid :=
  OpenClaim.holds_of_wide 5 Try.f5 rfl rfl rfl rfl rfl rfl rfl ⟨rfl, rfl, rfl, rfl, rfl⟩ rfl rfl rfl rfl rfl (by kernel_rfl) Try.func5 (by kernel_rfl)
    (of_decide_eq_true (by kernel_rfl)) (by unfold Func.isWrapper; first | (rw [if_pos (by decide +kernel)]; kernel_rfl) | (rw [if_neg (by decide +kernel)]; exact ⟨rfl, rfl⟩))
    (fun os started H enc _ => exFaultOpen_lifted os started H enc)
#print axioms exFaultOpen_holds
end Go.Proofs.Ytleagighkbmapaa
