/-
  The exact law of SparesFit: for all arguments the law answers true. No condition.
-/
import Derived.Test.YtkicifkigbciaaaFac
import Derived.Test.YtkicifkigbciaaaBaseZ
import Derived.Test.YtkicifkigbciaaaBaseZD
import Derived.Test.YtkicifkigbciaaaRowZ
import Derived.Test.YtkicifkigbciaaaRowV
import Derived.Test.YtkicifkigbciaaaSpFi
import Derived.Deep.RegionHeld3
namespace Go.Proofs.Ytkicifkigbciaaa
open Go.ChangeShapes Go.WideShapes Go.ChangeAt Go.RowKit

theorem spr_cells {W : World} {b : Nat} {s : Spr} (h : SprAt W b 0 s) : W.cell? ⟨b, 0, none⟩ = some (.int .i64 s.m) ∧ W.cell? ⟨b, 1, none⟩ = some (.int .i64 s.k) := h

set_option maxRecDepth 100000 in
set_option maxHeartbeats 4000000 in
theorem exSparesFit_in (A0 : Option Addr) (c0 : Nat) (z0 : List Spr) (f1 : Spr) (w : World) (ha0 : ArgZ w A0 c0 z0) (hl : z0.length ≤ 1048576)  :
    Calls Try.prog 9 #[.slice A0 z0.length c0, .agg #[.int .i64 f1.m, .int .i64 f1.k]] w (RetB (.bool true) w) := by
  have Ha0 := Lib.hid ha0.held
  clear ha0
  have Bt := Lib.hid (Below.refl w.heap.size w)
  obtain ⟨w0, hw0⟩ : ∃ w0, w.alloc (.cells #[.int .i64 f1.m, .int .i64 f1.k] 53) = w0 := ⟨_, rfl⟩
  have hs0 : w.heap.size < w0.heap.size := by rw [← hw0]; simp
  have rb0 : Below w.heap.size w w0 := by rw [← hw0]; exact (Below.refl _ _).alloc (Nat.le_refl _) _
  have hT1 : SprAt w0 w.heap.size 0 f1 := by rw [← hw0]; exact ⟨cell_of_row _ _ 0 _ _ _ (heap_alloc_new w _), cell_of_row _ _ 1 _ _ _ (heap_alloc_new w _)⟩
  replace Ha0 := Lib.hid (Ha0.out.go rb0)
  replace Bt := Lib.hid (below_step Bt.out rb0)
  have HT1 := Lib.hid hT1
  have Hw0 := Lib.hid hw0
  obtain ⟨fv, hfv⟩ : ∃ fv, fitV z0 f1 = fv := ⟨_, rfl⟩
  obtain ⟨fb, hfb⟩ : ∃ fb, serveB z0 [f1] = fb := ⟨_, rfl⟩
  have Hspec := Lib.hid (fun A c w h => specSparesFit_b A c z0 f1 w h)
  have Himpl := Lib.hid (fun A c w h => implSparesFit_b A c z0 f1 w h)
  rw [hfv, hfb] at Hspec Himpl
  have nv : (fv != fv) = false := by simp
  have nb : (fb != fb) = false := by simp
  clear hw0 rb0 hT1 hfv hfb
  go_enter Try.func9, Try.ntmps9
  go_wp2_with fail
  rw [Hw0.out]
  refine (szSpareS_yes A0 c0 z0.length (1048576) _ (by omega) (by omega)).mono ?_
  rintro e w9 ⟨rfl, rfl⟩
  go_wp2
  have rb1 := (Below.refl w0.heap.size w0).drew
  replace Ha0 := Lib.hid (Ha0.out.go rb1)
  have hs1 : w.heap.size < w0.drew.heap.size := hs0
  replace HT1 := Lib.hid (HT1.out.below rb1 hs0)
  replace Bt := Lib.hid (below_step Bt.out rb1)
  clear rb1
  have pk1 := spr_cells HT1.out
  go_region_held3 (fun w9 => w9.cell? ⟨w.heap.size, 0, none⟩ = some (.int .i64 f1.m) ∧ w9.cell? ⟨w.heap.size, 1, none⟩ = some (.int .i64 f1.k)) (first | exact pk4 | exact pk3 | exact pk2 | exact pk1)
    (first
    | (go_at_call 36; refine (toSpareS_c A0 c0 z0 _ Ha0.out.arg).mono ?_; rintro e u2 ⟨B2, d2, rfl, ra2, ro2, rb2⟩; dsimp only [id]; have sz2 := rb2.size; replace Ha0 := Lib.hid (Ha0.out.go rb2); replace HT1 := Lib.hid (HT1.out.below rb2 (by omega)); replace Bt := Lib.hid (below_step Bt.out rb2); have Hx2 := Lib.hid (ro2.held (Nat.le_refl _) ra2.len); clear ra2 ro2 rb2; have pk2 := spr_cells HT1.out)
    | (go_at_call 41; refine (toSpare_c f1 _).mono ?_; rintro e u3 ⟨rfl, rb3⟩; have sz3 := rb3.size; replace Ha0 := Lib.hid (Ha0.out.go rb3); replace HT1 := Lib.hid (HT1.out.below rb3 (by omega)); replace Hx2 := Lib.hid (Hx2.out.go rb3); replace Bt := Lib.hid (below_step Bt.out rb3); clear rb3; have pk3 := spr_cells HT1.out)
    | (go_at_call 21; refine (Hspec.out B2 d2 _ Hx2.out.arg).mono ?_; rintro e u4 ⟨rfl, rb4⟩; have sz4 := rb4.size; replace Ha0 := Lib.hid (Ha0.out.go rb4); replace HT1 := Lib.hid (HT1.out.below rb4 (by omega)); replace Hx2 := Lib.hid (Hx2.out.go rb4); replace Bt := Lib.hid (below_step Bt.out rb4); clear rb4; have pk4 := spr_cells HT1.out))
  clear pk1 pk2 pk3
  clear Hx2
  obtain ⟨cct10, cct11⟩ := pk4
  go_wp2_with fail
  refine (toSpareS_c A0 c0 z0 _ Ha0.out.arg).mono ?_
  rintro e u5 ⟨B5, d5, rfl, ra5, ro5, rb5⟩
  dsimp only [id]
  have sz5 := rb5.size
  replace Ha0 := Lib.hid (Ha0.out.go rb5)
  replace HT1 := Lib.hid (HT1.out.below rb5 (by omega))
  replace Bt := Lib.hid (below_step Bt.out rb5)
  have Hx5 := Lib.hid (ro5.held (Nat.le_refl _) ra5.len)
  clear ra5 ro5 rb5 cct10 cct11
  obtain ⟨cct10, cct11⟩ := spr_cells HT1.out
  go_wp2_with fail
  refine (toSpare_c f1 _).mono ?_
  rintro e u6 ⟨rfl, rb6⟩
  have sz6 := rb6.size
  replace Ha0 := Lib.hid (Ha0.out.go rb6)
  replace HT1 := Lib.hid (HT1.out.below rb6 (by omega))
  replace Hx5 := Lib.hid (Hx5.out.go rb6)
  replace Bt := Lib.hid (below_step Bt.out rb6)
  clear rb6
  go_wp2_with fail
  refine (Himpl.out B5 d5 _ Hx5.out.arg).mono ?_
  rintro e u7 ⟨rfl, rb7⟩
  have sz7 := rb7.size
  replace Ha0 := Lib.hid (Ha0.out.go rb7)
  replace Hx5 := Lib.hid (Hx5.out.go rb7)
  replace Bt := Lib.hid (below_step Bt.out rb7)
  clear rb7
  go_wp2_with fail
  refine (toSpareS_c A0 c0 z0 _ Ha0.out.arg).mono ?_
  rintro e u8 ⟨B8, d8, rfl, ra8, ro8, rb8⟩
  dsimp only [id]
  replace Hx5 := Lib.hid (Hx5.out.go rb8)
  replace Bt := Lib.hid (below_step Bt.out rb8)
  have Hx8 := Lib.hid (ro8.held (Nat.le_refl _) ra8.len)
  clear ra8 ro8 rb8
  go_wp2_with fail
  refine (eqSpareS_c B5 B8 d5 d8 z0 z0 _ Hx5.out.arg Hx8.out.arg).mono ?_
  rintro e u9 ⟨rfl, rb9⟩
  replace Bt := Lib.hid (below_step Bt.out rb9)
  clear rb9
  go_wp2
  go_ret
  exact ⟨rfl, Bt.out⟩

theorem exSparesFit_walk (A0 : Option Addr) (c0 : Nat) (z0 : List Spr) (f1 : Spr) (w : World) (ha0 : ArgZ0 w A0 c0 z0)  :
    Calls Try.prog 9 #[.slice A0 z0.length c0, .agg #[.int .i64 f1.m, .int .i64 f1.k]] w (RetB (.bool true) w) := by
  by_cases hl0 : 1048576 < z0.length
  · have hc0 := ha0.1
    have hm0 := ha0.2.1
    have hk0 : (1048576 : Int) < (z0.length : Int) := by omega
    clear ha0
    go_enter Try.func9, Try.ntmps9
    go_wp2_with fail
    refine (szSpareS_no A0 c0 z0.length (1048576) _ hk0 (by omega) hc0 hm0).mono ?_
    rintro e w9 ⟨rfl, rfl⟩
    go_wp2
    go_ret
    exact ⟨rfl, (Below.refl _ _).alloc (Nat.le_refl _) _⟩
  exact exSparesFit_in A0 c0 z0 f1 w (ha0.arg (by omega)) (by omega) 

set_option maxRecDepth 100000 in
theorem exSparesFit_lifted (os : Os) (started : os.Started) (H : Type) (enc : TypeId × Value → H) :
    ReturnsInHanded {} Try.checked os 9 .any (Rows.fnExactSparesFitSpec.pre6 enc Try.prog Try.f9 Rows.fnExactSparesFitRow.domain false) (Rows.fnExactSparesFitSpec.post enc Try.prog Try.f9 false true false false) := by
  refine returnsInHanded_of_change (C := Try.checked) row_own started (by kernel_rfl) Try.func9
    (ChangeSpec.witness6 (enc := enc) (C := Try.checked) false ⟨#[], #[.slice none 0 0, .agg #[.int .i64 0, .int .i64 0]], []⟩ 8 (by kernel_rfl) (by kernel_rfl) (by kernel_rfl) (by kernel_rfl)) ?_
  intro W base args ds gs before hval0 hW hcnd _
  have hval : ∀ (j : Nat) t v, Try.f9.params[j]? = some t → args[j]? = some v → Value.okWide Try.prog W .any base t v := hval0
  have hW' := hW
  obtain ⟨p, q, hA0, hV, rfl, _, _⟩ := hW
  have hA : DataW.TrodAll enc Try.prog W 0 (fun _ => true) true Try.f9.params.toList args.toList ds p := hA0
  rw [Try.params9] at hA hval
  obtain ⟨v0, vs0, d0, ds0, p0, q0, hargs, rfl, rfl, h0, r0⟩ := trodAll_cons hA
  obtain ⟨v1, vs1, d1, ds1, p1, q1, rfl, rfl, rfl, h1, r1⟩ := trodAll_cons r0
  obtain ⟨rfl, rfl, rfl⟩ := trodAll_nil r1
  obtain rfl : args = #[v0, v1] := by cases args; simp_all
  obtain ⟨rfl, rfl⟩ := trodVars_none hV
  have hlt0 : ∀ x ∈ p0, x.block < W.heap.size := fun x hx => by exact hW'.lt x (by simp [hx])
  obtain ⟨A0, c0, z0, rfl, ha0⟩ := open_sprs (hval 0 45 v0 rfl rfl) h0 hlt0
  obtain ⟨f1, rfl, rfl, rfl, wf1a, wf1b⟩ := open_spare (hval 1 53 v1 rfl rfl) h1
  clear hA0 hval0
  refine (exSparesFit_walk A0 c0 z0 f1 W ha0 ).mono fun e W' ⟨he, hb⟩ => ?_
  subst he
  exact ⟨_, rfl, _, _, _, [], _, [], hW', (trodAll_cons_mk (shut_bool Try.underlying4 _) trodAll_mk0), (trodAll_cons_mk (read_again_sprs h0 hlt0 hb) (trodAll_cons_mk (shut_spare wf1a wf1b) trodAll_mk0)), rfl, hb.frame _, fun h => by cases h⟩

set_option maxRecDepth 100000 in
theorem exSparesFit_closed : joinedFacts Try.prog 9 Try.f9 Rows.fnExactSparesFitSpec Rows.fnExactSparesFitRow = true := by
  unfold joinedFacts
  repeat' (with_reducible apply facAnd)
  all_goals first | (with_reducible exact facEnter) | (with_reducible exact facLaid) | (with_reducible exact facMaps) | (with_reducible exact facStops) | (with_reducible exact facKnobs) | (with_reducible exact facHeard) | (rw [facLifts]; as_aux_lemma => kernel_rfl) | (rw [facMake]; as_aux_lemma => kernel_rfl) | (as_aux_lemma => kernel_rfl)

/-- THE STATEMENT -/
theorem exSparesFit_holds : Rows.FnExactSparesFitSaid :=
  OpenClaim.holds_of_wide 9 Try.f9 rfl rfl rfl rfl rfl rfl rfl ⟨rfl, rfl, rfl, rfl, rfl⟩ rfl rfl rfl rfl rfl (by kernel_rfl) Try.func9 exSparesFit_closed
    (of_decide_eq_true (by kernel_rfl)) (by unfold Func.isWrapper; first | (rw [if_pos (by decide +kernel)]; kernel_rfl) | (rw [if_neg (by decide +kernel)]; exact ⟨rfl, rfl⟩))
    (fun os started H enc _ => exSparesFit_lifted os started H enc)
#print axioms exSparesFit_holds
end Go.Proofs.Ytkicifkigbciaaa
