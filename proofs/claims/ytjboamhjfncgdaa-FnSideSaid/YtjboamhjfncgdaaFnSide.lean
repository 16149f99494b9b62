/-
  The law FnSide: for all codes the law answers true. No condition.
-/
import Derived.Test.YtjboamhjfncgdaaFac
import Derived.Test.YtjboamhjfncgdaaRowB
import Derived.Test.YtjboamhjfncgdaaCtR
import Derived.Test.YtjboamhjfncgdaaRtE
import Derived.Test.YtjboamhjfncgdaaRtQ
namespace Go.Proofs.Ytjboamhjfncgdaa
open Go.ChangeShapes Go.WideShapes Go.ChangeAt Go.RowKit

theorem sdB_true {R : List Rot} {k x y : Int} : sdB R k x y = true ↔ hasR R k = true ∧ onB x y = true := by unfold sdB; rw [Bool.and_eq_true]
theorem sd_val {R : List Rot} {k x y : Int} (h : sdB R k x y = true) : sdV R k x y = sideV (rotAt R k.toNat) x y := by unfold sdV; rw [if_pos h]

set_option maxRecDepth 100000 in
set_option maxHeartbeats 4000000 in
theorem fnSide_in (A0 : Option Addr) (n0 c0 : Nat) (w : World) (hl0 : n0 ≤ 1048576) (hc0 : n0 ≤ c0) (hb0 : Bytes w.heap.size w A0 n0) :
    Calls Try.prog 4 #[.slice A0 n0 c0] w (RetB (.bool true) w) := by
  have Hb := Lib.hid hb0
  clear hb0
  have u0 : ¬ (1048576 : Int) < (n0 : Int) := by omega
  go_enter Try.func4, Try.ntmps4
  go_wp2_with fail
  refine (DrawRouteSide_c A0 n0 c0 _ (by omega) hc0 Hb.out).mono ?_
  rintro e w1 ⟨B, d, zs, kk, x, y, rfl, hzl, hA, hB⟩
  have Ha := Lib.hid hA
  have Bt := Lib.hid hB
  clear hA hB Hb
  dsimp only
  have HI := Lib.hid (fun W h => implRouteSide_b B d zs kk x y W h)
  have HS := Lib.hid (fun W h => specRouteSide_b B d zs kk x y W h)
  go_wp2_with fail
  refine (HI.out _ Ha.out).mono ?_
  rintro e w2 ⟨rfl, hb2⟩
  replace Ha := Lib.hid (Ha.out.go hb2)
  replace Bt := Lib.hid (below_step Bt.out hb2)
  clear hb2
  dsimp only
  go_wp2_with fail
  refine (HS.out _ Ha.out).mono ?_
  rintro e w3 ⟨rfl, hb3⟩
  replace Ha := Lib.hid (Ha.out.go hb3)
  replace Bt := Lib.hid (below_step Bt.out hb3)
  clear hb3 HI HS
  dsimp only
  cases hv : sdB zs kk x y
  · have hz := sd_no hv
    rw [hz]
    clear hv hz
    go_wp2
    go_ret
    exact ⟨rfl, Bt.out⟩
  have hval := sd_val hv
  obtain ⟨h1, h2⟩ := sdB_true.1 hv
  obtain ⟨k1, k2, k3⟩ := hasR_true.1 h1
  obtain ⟨k, rfl⟩ : ∃ k : Nat, kk = (k : Int) := ⟨kk.toNat, by omega⟩
  have hlt : k < zs.length := by omega
  rw [Int.toNat_natCast] at hval
  have hrt := chart_rt k1 hlt
  obtain ⟨r1, r2, _⟩ := rtOk_true.1 hrt
  have hback := rtOk_back hrt
  have hbd := side_bd (rotAt zs k) x y
  have hsb := side_back (rotAt zs k) x y
  have hso := side_own (rotAt zs k)
  have hse := side_end (rotAt zs k)
  obtain ⟨b, off, rfl, hat⟩ := argK_at Ha.out hlt
  obtain ⟨c0', c1', c2', c3'⟩ := hat _ (Below.refl _ _)
  have HIa := fun W h => implRouteSide_b (some ⟨b, off, none⟩) d zs (k : Int) (rotAt zs k).a (rotAt zs k).b W h
  have HIc := fun W h => implRouteSide_b (some ⟨b, off, none⟩) d zs (k : Int) (rotAt zs k).c (rotAt zs k).d W h
  have va := sd_yes h1 r1
  have vc := sd_yes h1 r2
  rw [va.1, va.2, hso] at HIa
  rw [vc.1, vc.2, hse] at HIc
  have HIb := fun W (A : Option Addr) c h => implRouteSide_b A c [backR (rotAt zs k)] 0 x y W h
  have vb := sd_yes (k := 0) (hasR_nat hback (by simp)) h2
  rw [show ((0 : Nat) : Int) = 0 from rfl, show rotAt [backR (rotAt zs k)] 0 = backR (rotAt zs k) from rfl, show sideV (backR (rotAt zs k)) x y = - sideV (rotAt zs k) x y from hsb] at vb
  rw [vb.1, vb.2] at HIb
  obtain ⟨s, hs⟩ : ∃ s, rotAt zs k = s := ⟨_, rfl⟩
  rw [hval]
  rw [hs] at c0' c1' c2' c3' HIa HIb HIc hbd ⊢
  obtain ⟨v, hvv⟩ : ∃ v, sideV s x y = v := ⟨_, rfl⟩
  rw [hvv] at HIb hbd ⊢
  have Ia := Lib.hid HIa
  have Ib := Lib.hid HIb
  have Ic := Lib.hid HIc
  have g1 : (k : Int) < (zs.length : Int) := by omega
  have b1 : (v != v) = false := by simp
  have q1 : IntKind.i64.wrap (-v) = -v := IntWalk.i64_in _ (by omega)
  have b2 : (-v == -v) = true := by simp
  clear hv hval h1 h2 k1 k2 k3 hrt r1 r2 hback hsb hso hse hat va vc vb hs hvv HIa HIb HIc hbd
  have Hs3 := Lib.hid (show Below w3.heap.size w3 ((w3.alloc (.cells #[.int .i64 s.a, .int .i64 s.b, .int .i64 s.c, .int .i64 s.d] 37)).alloc (.cells #[.int .i64 s.c, .int .i64 s.d, .int .i64 s.a, .int .i64 s.b] 37)) from ((Below.refl _ _).alloc (Nat.le_refl _) _).alloc (by simp) _)
  have Ho := Lib.hid (argK_one3 w3 (.cells #[.int .i64 s.a, .int .i64 s.b, .int .i64 s.c, .int .i64 s.d] 37) (backR s) 37)
  go_wp2_with fail
  refine (Ib.out _ _ _ Ho.out).mono ?_
  rintro e w4 ⟨rfl, hb4⟩
  have hbx : ∀ j, w4.cell? ⟨w3.heap.size, j, none⟩ = (#[Value.int .i64 s.a, .int .i64 s.b, .int .i64 s.c, .int .i64 s.d] : Array Value)[j]? := fun j => (hb4.cell (p := ⟨w3.heap.size, j, none⟩) (by simp; omega)).trans (cell_of_row _ _ j _ _ _ ((Below.heap_alloc _ _ _ (by simp)).trans (heap_alloc_new w3 _)))
  have X := Lib.hid hbx
  have Ha4 := Lib.hid ((Ha.out.go Hs3.out).go hb4)
  have Bt4 := Lib.hid (below_step (below_step Bt.out Hs3.out) hb4)
  have hz4 := hb4.size
  rw [World.size_alloc, World.size_alloc] at hz4
  clear hb4 hbx Ib Ho
  have x0 : w4.cell? ⟨w3.heap.size, 0, none⟩ = some (.int .i64 s.a) := X.out 0
  have x1 : w4.cell? ⟨w3.heap.size, 1, none⟩ = some (.int .i64 s.b) := X.out 1
  dsimp only
  go_wp2_with fail
  refine (Ia.out _ Ha4.out).mono ?_
  rintro e w5 ⟨rfl, hb5⟩
  have x2 : w5.cell? ⟨w3.heap.size, 2, none⟩ = some (.int .i64 s.c) := (hb5.cell (p := ⟨w3.heap.size, 2, none⟩) (show w3.heap.size < w4.heap.size by omega)).trans (X.out 2)
  have x3 : w5.cell? ⟨w3.heap.size, 3, none⟩ = some (.int .i64 s.d) := (hb5.cell (p := ⟨w3.heap.size, 3, none⟩) (show w3.heap.size < w4.heap.size by omega)).trans (X.out 3)
  have Ha5 := Lib.hid (Ha4.out.go hb5)
  have Bt5 := Lib.hid (below_step Bt4.out hb5)
  clear hb5 Ia x0 x1
  dsimp only
  go_wp2_with fail
  refine (Ic.out _ Ha5.out).mono ?_
  rintro e w6 ⟨rfl, hb6⟩
  have Bt6 := Lib.hid (below_step Bt5.out hb6)
  clear hb6 Ic x2 x3
  dsimp only
  go_wp2
  go_ret
  exact ⟨rfl, Bt6.out⟩

theorem fnSide_walk (A0 : Option Addr) (n0 c0 : Nat) (w : World) (hb0 : Byt0 w A0 n0 c0) :
    Calls Try.prog 4 #[.slice A0 n0 c0] w (RetB (.bool true) w) := by
  by_cases hl0 : 1048576 < n0
  · clear hb0
    go_enter Try.func4, Try.ntmps4
    go_wp2
    go_ret
    exact ⟨rfl, Below.refl _ _⟩
  exact fnSide_in A0 n0 c0 w (by omega) hb0.1 hb0.2.2

set_option maxRecDepth 100000 in
theorem fnSide_lifted (os : Os) (started : os.Started) (H : Type) (enc : TypeId × Value → H) :
    ReturnsInHanded {} Try.checked os 4 .any (Rows.fnSideSpec.pre6 enc Try.prog Try.f4 Rows.fnSideRow.domain false) (Rows.fnSideSpec.post enc Try.prog Try.f4 false true false false) := by
  refine returnsInHanded_of_change (C := Try.checked) row_own started (by kernel_rfl) Try.func4
    (ChangeSpec.witness6 (enc := enc) (C := Try.checked) false ⟨#[], #[.slice none 0 0], []⟩ 8 (by kernel_rfl) (by kernel_rfl) (by kernel_rfl) (by kernel_rfl)) ?_
  intro W base args ds gs before hval0 hW hcnd _
  have hval : ∀ (j : Nat) t v, Try.f4.params[j]? = some t → args[j]? = some v → Value.okWide Try.prog W .any base t v := hval0
  have hW' := hW
  obtain ⟨p, q, hA0, hV, rfl, _, _⟩ := hW
  have hA : DataW.TrodAll enc Try.prog W 0 (fun _ => true) true Try.f4.params.toList args.toList ds p := hA0
  rw [Try.params4] at hA hval
  obtain ⟨v0, vs0, d0, ds0, p0, q0, hargs, rfl, rfl, h0, r0⟩ := trodAll_cons hA
  obtain ⟨rfl, rfl, rfl⟩ := trodAll_nil r0
  obtain rfl : args = #[v0] := by cases args; simp_all
  obtain ⟨rfl, rfl⟩ := trodVars_none hV
  have hlt0 : ∀ x ∈ p0, x.block < W.heap.size := fun x hx => by exact hW'.lt x (by simp [hx])
  obtain ⟨A0, n0, c0, rfl, hb0⟩ := open_bytes (hval 0 22 v0 rfl rfl) h0 hlt0
  clear hA0 hval0
  refine (fnSide_walk A0 n0 c0 W hb0).mono fun e W' ⟨he, hb⟩ => ?_
  subst he
  exact ⟨_, rfl, _, _, _, [], _, [], hW', (trodAll_cons_mk (shut_bool Try.underlying4 _) trodAll_mk0), (trodAll_cons_mk (read_again_bytes h0 hlt0 hb) trodAll_mk0), rfl, hb.frame _, fun h => by cases h⟩

set_option maxRecDepth 100000 in
theorem fnSide_closed : joinedFacts Try.prog 4 Try.f4 Rows.fnSideSpec Rows.fnSideRow = true := by
  unfold joinedFacts
  repeat' (with_reducible apply facAnd)
  all_goals first | (with_reducible exact facEnter) | (with_reducible exact facLaid) | (with_reducible exact facMaps) | (with_reducible exact facStops) | (with_reducible exact facKnobs) | (with_reducible exact facHeard) | (rw [facLifts]; as_aux_lemma => kernel_rfl) | (rw [facMake]; as_aux_lemma => kernel_rfl) | (as_aux_lemma => kernel_rfl)

/-- THE STATEMENT -/
theorem fnSide_holds : Rows.FnSideSaid :=
  OpenClaim.holds_of_wide 4 Try.f4 rfl rfl rfl rfl rfl rfl rfl ⟨rfl, rfl, rfl, rfl, rfl⟩ rfl rfl rfl rfl rfl (by kernel_rfl) Try.func4 fnSide_closed
    (of_decide_eq_true (by kernel_rfl)) (by unfold Func.isWrapper; first | (rw [if_pos (by decide +kernel)]; kernel_rfl) | (rw [if_neg (by decide +kernel)]; exact ⟨rfl, rfl⟩))
    (fun os started H enc _ => fnSide_lifted os started H enc)
#print axioms fnSide_holds
end Go.Proofs.Ytjboamhjfncgdaa
