/-
  JointBest of the program.
-/
import Derived.Test.YtkicifkigbciaaaJoFI
import Derived.Test.YtkicifkigbciaaaEachJ
import Derived.Test.YtkicifkigbciaaaSvBI
namespace Go.Proofs.Ytkicifkigbciaaa
open Go.RowKit

def jointL (L : List Spr) (kind miles : Int) : List Int := (jointG L kind miles).getD []
def jointB (L : List Spr) (kind miles : Int) : Bool := (jointG L kind miles).isSome
theorem joint_none {L : List Spr} {kind miles : Int} (h : jointG L kind miles = none) : jointL L kind miles = [] ∧ jointB L kind miles = false := by unfold jointL jointB; rw [h]; exact ⟨rfl, rfl⟩
theorem joint_some {L : List Spr} {kind miles : Int} {x : List Int} (h : jointG L kind miles = some x) : jointL L kind miles = x ∧ jointB L kind miles = true := by unfold jointL jointB; rw [h]; exact ⟨rfl, rfl⟩
theorem joint_neg {L : List Spr} {kind miles : Int} (h : fewV L kind miles < 0) : jointG L kind miles = none := by
  unfold fewV at h
  unfold jointG
  by_cases h1 : sprB 10 L = true ∧ 1 ≤ miles ∧ miles ≤ 500
  · rw [if_pos h1] at h ⊢; rw [if_pos h]
  · rw [if_neg h1]
theorem joint_pos {L : List Spr} {kind miles : Int} (h : ¬ fewV L kind miles < 0) : sprB 10 L = true ∧ ∃ j : Nat, fewV L kind miles = j ∧ j < 10 ∧ jointG L kind miles = bst (sumZ L) ((rows (jf L kind) L.length (j + 1)).filter (fun y => decide (miles ≤ sumZ L y))) := by
  unfold fewV at h
  by_cases h1 : sprB 10 L = true ∧ 1 ≤ miles ∧ miles ≤ 500
  · rw [if_pos h1] at h
    have h9 := (sprB_true.1 h1.1).1
    rcases few_spec h1.1 kind h1.2.1 with ⟨h2, _⟩ | ⟨j, h2, h3, _⟩
    · omega
    · refine ⟨h1.1, j, by unfold fewV; rw [if_pos h1]; exact h2, by omega, ?_⟩
      unfold jointG
      rw [if_pos h1, if_neg h, h2, show ((j : Int) + 1).toNat = j + 1 by omega]
  · rw [if_neg h1] at h; exact absurd (by decide) h

/-- what the callback's blocks hold -/
structure JbAt (L : List Spr) (miles : Int) (w2 : World) (lo s bl rb : Nat) (lv : Value) (d : List (List Int)) (W : World) : Prop where
  best : BestAt (sumZ L) lo s rb (d.filter (fun y => decide (miles ≤ sumZ L y))) W
  box : Boxed W bl 23 lv
  mil : Boxed W (bl + 1) 3 (.int .i64 miles)
  keep : KeepBut (fun x => x = s) w2 W

set_option maxHeartbeats 1000000 in
theorem tellJ_c (L : List Spr) (miles : Int) (hL : sprB 10 L = true) (A0 : Option Addr) (c0 : Nat) (w2 : World) (lo s bl rb : Nat) (hs : s < rb) (hlo : lo ≤ s) (hbl : bl + 1 < s) (d : List (List Int)) (r : List Int) (W : World) (h : JbAt L miles w2 lo s bl rb (.slice A0 L.length c0) d W) (ha : ArgZ W A0 c0 L)
    (hrow : RowAt 3 rb rb W r) (hl : r.length ≤ 10) (hx : idx L.length r) :
    Calls Try.prog 74 #[.slice (some ⟨rb, 0, none⟩) r.length 10, .pointer (some ⟨bl, 0, none⟩), .pointer (some ⟨bl + 1, 0, none⟩), .pointer (some ⟨s, 0, none⟩)] W
      fun e W' => (∃ v, e = .returned v) ∧ JbAt L miles w2 lo s bl rb (.slice A0 L.length c0) (d ++ [r]) W' ∧ RowAt 3 rb rb W' r ∧ KeepBut (fun x => x = s ∨ x = rb) W W' := by
  have cb := h.box.cell
  have Hsum := Lib.hid (sumMiles_c A0 c0 L (some ⟨rb, 0, none⟩) 10 r W ha hrow.arg hL hx)
  have H := Lib.hid h
  have Hrow := Lib.hid hrow
  have Hx := Lib.hid hx
  clear h hrow ha hx
  go_enter Try.func74, Try.ntmps74
  go_wp2_with fail
  refine Hsum.out.mono ?_
  rintro e w3 ⟨rfl, hb3⟩
  have hk3 : KeepBut (fun _ => False) W w3 := KeepBut.of_below hb3
  have hoff := offer_c (sumZ L) lo s rb (d.filter (fun y => decide (miles ≤ sumZ L y))) r w3 (H.out.best.keep hk3 (by simp) (by omega)) (Hrow.out.keep hk3 (by simp)) hs hlo hl
  have hml : Boxed w3 (bl + 1) 3 (.int .i64 miles) := (hk3.block _ H.out.mil.lt (by simp)).trans H.out.mil
  have cm := hml.cell
  have hfl : (d ++ [r]).filter (fun y => decide (miles ≤ sumZ L y)) = d.filter (fun y => decide (miles ≤ sumZ L y)) ++ (if miles ≤ sumZ L r then [r] else []) := by
    rw [List.filter_append]
    by_cases h : miles ≤ sumZ L r <;> simp [h]
  have Hfl := Lib.hid hfl
  have Hk3 := Lib.hid hk3
  have Hbx := Lib.hid ((hk3.block _ H.out.box.lt (by simp)).trans H.out.box)
  obtain ⟨v, hv⟩ : ∃ v, sumZ L r = v := ⟨_, rfl⟩
  rw [hv] at hoff Hfl ⊢
  have Hoff := Lib.hid hoff
  clear hoff hb3 hk3 hml hfl hv
  by_cases hm : miles ≤ v
  · have Hf2 := Lib.hid (show (d ++ [r]).filter (fun y => decide (miles ≤ sumZ L y)) = d.filter (fun y => decide (miles ≤ sumZ L y)) ++ [r] by rw [Hfl.out, if_pos hm])
    go_wp2_with fail
    refine Hoff.out.mono ?_
    rintro e w4 ⟨⟨v4, rfl⟩, hb4, hr4, hk4⟩
    rw [← Hf2.out] at hb4
    have Hb4 := Lib.hid hb4
    have Hr4 := Lib.hid hr4
    have Hk4 := Lib.hid hk4
    clear hb4 hr4 hk4
    go_wp2
    go_end0
    have hk := (Hk3.out.weak (q := fun x => x = s) (fun _ _ h => h.elim)).trans Hk4.out
    exact ⟨⟨_, rfl⟩, ⟨Hb4.out, (hk.block _ H.out.box.lt (by omega)).trans H.out.box, (hk.block _ H.out.mil.lt (by omega)).trans H.out.mil, H.out.keep.trans hk⟩, Hr4.out, hk.weak (fun _ _ h => .inl h)⟩
  · have Hf2 := Lib.hid (show (d ++ [r]).filter (fun y => decide (miles ≤ sumZ L y)) = d.filter (fun y => decide (miles ≤ sumZ L y)) by rw [Hfl.out, if_neg hm, List.append_nil])
    go_wp2
    go_end0
    have hk := Hk3.out.weak (q := fun x => x = s) (fun _ _ h => h.elim)
    exact ⟨⟨_, rfl⟩, ⟨by rw [Hf2.out]; exact H.out.best.keep Hk3.out (by simp) (by omega), (hk.block _ H.out.box.lt (by omega)).trans H.out.box, (hk.block _ H.out.mil.lt (by omega)).trans H.out.mil, H.out.keep.trans hk⟩, Hrow.out.keep Hk3.out (by simp), hk.weak (fun _ _ h => .inl h)⟩

set_option maxRecDepth 100000 in
set_option maxHeartbeats 1000000 in
theorem implJointBest_b (A0 : Option Addr) (c0 : Nat) (z0 : List Spr) (kind miles : Int) (w : World) (h0 : ArgZ w A0 c0 z0) :
    Calls Try.prog 31 #[.slice A0 z0.length c0, .int .i64 kind, .int .i64 miles] w (RetS 3 (fun v => .tuple #[v, .bool (jointB z0 kind miles)]) (jointL z0 kind miles) w) := by
  obtain ⟨wb, hwb⟩ : ∃ wb, wb = (w.alloc (.cells #[.slice A0 z0.length c0] 23)).alloc (.cells #[.int .i64 miles] 3) := ⟨_, rfl⟩
  have hbb : Below w.heap.size w wb := by rw [hwb]; exact ((Below.refl _ _).alloc (Nat.le_refl _) _).alloc (by simp) _
  have hbx : B2j wb w.heap.size (.slice A0 z0.length c0) (.int .i64 miles) := by rw [hwb]; exact B2j.new _ _ _
  have H0 := Lib.hid (h0.go hbb)
  have cb := hbx.l.cell
  have cm := hbx.n.cell
  have Hbb := Lib.hid hbb
  have Hbx := Lib.hid hbx
  rw [hwb] at H0 cb cm Hbb Hbx
  clear h0 hbb hbx hwb
  go_enter Try.func31, Try.ntmps31
  go_wp2_with fail
  refine (implJointFewest_b A0 c0 z0 kind miles _ H0.out).mono ?_
  rintro e w1 ⟨rfl, hb1⟩
  have Hb1 := Lib.hid (below_step Hbb.out hb1)
  have hbx1 : B2j w1 w.heap.size (.slice A0 z0.length c0) (.int .i64 miles) := Hbx.out.keep (KeepBut.of_below (p := fun _ => False) hb1) (by simp)
  have hlt1 := hbx1.n.lt
  replace H0 := Lib.hid (H0.out.go hb1)
  have cb1 := hbx1.l.cell
  have Hbx1 := Lib.hid hbx1
  clear hb1 hbx1
  by_cases hneg : fewV z0 kind miles < 0
  · have Hn := Lib.hid (joint_none (joint_neg hneg))
    go_wp2
    go_ret2
    rw [Hn.out.1, Hn.out.2]
    exact RetS.nil (f := fun v => .tuple #[v, .bool false]) Hb1.out
  obtain ⟨hv, j, hj, hj10, hjg⟩ := joint_pos hneg
  have hn10 := (sprB_true.1 hv).1
  rw [hj]
  have Hjg := Lib.hid hjg
  clear hneg hj hjg
  obtain ⟨w2, hw2⟩ : ∃ w2, w2 = w1.alloc (.cells #[.slice none 0 0, .int .i64 0, .bool false] 71) := ⟨_, rfl⟩
  have hb2 : Below w1.heap.size w1 w2 := by rw [hw2]; exact (Below.refl _ _).alloc (Nat.le_refl _) _
  have hsz : w2.heap.size = w1.heap.size + 1 := by rw [hw2]; simp
  have hch : ChAt w2 w1.heap.size (.slice none 0 0) 0 false := by rw [hw2]; exact heap_alloc_new w1 _
  have g0 := H0.out.held.go hb2
  have hbx2 : B2j w2 w.heap.size (.slice A0 z0.length c0) (.int .i64 miles) := Hbx1.out.keep (KeepBut.of_below (p := fun _ => False) hb2) (by simp)
  have ih := eachSet_c z0 kind (j + 1) A0 c0 hn10 (by omega) (fun x => x = w1.heap.size) (JbAt z0 miles w2 w.heap.size w1.heap.size w.heap.size (w2.heap.size + 2 + 3 * (j + 1 + 1)) (.slice A0 z0.length c0)) 74 #[.pointer (some ⟨w.heap.size, 0, none⟩), .pointer (some ⟨w.heap.size + 1, 0, none⟩), .pointer (some ⟨w1.heap.size, 0, none⟩)] w2 _
    (fun args w => enters_of Try.func74 (by kernel_rfl) rfl args w) rfl
    (fun d W W' h1 h2 => ⟨h1.best.keep h2 (fun _ h => h) (by omega), (h2.block _ h1.box.lt (by omega)).trans h1.box, (h2.block _ h1.mil.lt (by omega)).trans h1.mil, h1.keep.then_ h2 (fun x hx h3 => by omega)⟩)
    (fun x hx => by omega)
    (fun d W h => (g0.but h.keep (.inr (Nat.le_refl _))).arg)
    (fun d r W h2 h3 h4 h5 => tellJ_c z0 miles hv A0 c0 w2 w.heap.size w1.heap.size w.heap.size _ (by omega) (by omega) (by omega) d r W h4 (g0.but h4.keep (.inr (Nat.le_refl _))).arg h5 (by omega) h3)
    ⟨⟨_, _, _, hch, KeptB.start _ _ _ _ _ _⟩, hbx2.l, hbx2.n, KeepBut.refl _ _⟩
  rw [show ((j + 1 : Nat) : Int) = (j : Int) + 1 by omega] at ih
  have Ih := Lib.hid ih
  have Hb2 := Lib.hid hb2
  have cb2 := hbx2.l.cell
  rw [hw2] at Ih cb2
  have gj : ¬ (j : Int) < 0 := by omega
  clear ih hb2 g0 hv hbx2 hch
  go_wp2_with fail
  refine Ih.out.mono ?_
  rintro e w4 ⟨⟨v4, rfl⟩, hi4, hk4⟩
  rw [← hw2] at hk4
  have hb4 : Below w.heap.size w w4 := Hb1.out.trans ((Hb2.out.trans (hk4.below (B := w1.heap.size) (fun x hx => by omega) (by omega))).mono (by omega))
  obtain ⟨sv, cost, fd, hch, hkp⟩ := hi4.best
  have e0 := hch.c0
  have e2 := hch.c2
  unfold KeptB at hkp
  have hjg := Hjg.out
  cases hb : bst (sumZ z0) ((rows (jf z0 kind) z0.length (j + 1)).filter (fun y => decide (miles ≤ sumZ z0 y))) with
  | none =>
    rw [hb] at hkp hjg
    obtain ⟨rfl, rfl⟩ := hkp
    have Hsl := Lib.hid (joint_none hjg)
    have Hb4 := Lib.hid hb4
    have Hw4 := Lib.hid hw2
    clear hi4 hk4 hch hb hjg hb4 hw2
    go_wp2
    go_quiet (fail)
    go_wp2
    go_ret2
    rw [Hsl.out.1, Hsl.out.2]
    exact RetS.nil (f := fun v => .tuple #[v, .bool false]) (below_drewN Hb4.out nq)
  | some x =>
    rw [hb] at hkp hjg
    obtain ⟨rfl, rfl, hl10, ho, hg⟩ := hkp
    obtain ⟨A, c, rfl, _, _, _⟩ := ho.form
    have Hsl := Lib.hid (joint_some hjg)
    have Hfin := Lib.hid (show ∀ nq, RetS 3 (fun v => .tuple #[v, .bool true]) x w (.returned (.tuple #[.slice A x.length c, .bool true])) (w4.drewN nq) from fun nq => ⟨A, c, rfl, ho.arg (by omega) (Nat.le_refl _), ho, below_drewN hb4 nq⟩)
    have Hw4 := Lib.hid hw2
    clear hi4 hk4 hch hb hjg hb4 ho hg hw2
    go_wp2
    go_quiet (fail)
    go_wp2
    go_ret2
    rw [Hsl.out.1, Hsl.out.2]
    exact Hfin.out nq

end Go.Proofs.Ytkicifkigbciaaa
