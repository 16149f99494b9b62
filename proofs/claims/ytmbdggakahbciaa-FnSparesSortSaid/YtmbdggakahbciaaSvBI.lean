/-
  ServeBest of the program.
-/
import Derived.Test.YtmbdggakahbciaaSvMI
import Derived.Test.YtmbdggakahbciaaSvBS
import Derived.Test.YtmbdggakahbciaaChp
namespace Go.Proofs.Ytmbdggakahbciaa
open Go.RowKit

/-- what the callback's blocks hold -/
structure SbAt (L : List Spr) (w2 : World) (lo s bl rb : Nat) (lv : Value) (d : List (List Int)) (W : World) : Prop where
  best : BestAt (sumZ L) lo s rb d W
  box : Boxed W bl 23 lv
  keep : KeepBut (fun x => x = s) w2 W

set_option maxHeartbeats 1000000 in
theorem tellB_c (L : List Spr) (hL : sprB 10 L = true) (A0 : Option Addr) (c0 : Nat) (w2 : World) (lo s bl rb : Nat) (hs : s < rb) (hlo : lo ≤ s) (hbl : bl ≠ s) (d : List (List Int)) (r : List Int) (W : World) (h : SbAt L w2 lo s bl rb (.slice A0 L.length c0) d W) (ha : ArgZ W A0 c0 L)
    (hrow : RowAt 3 rb rb W r) (hl : r.length ≤ 10) (hx : idx L.length r) :
    Calls Try.prog 60 #[.slice (some ⟨rb, 0, none⟩) r.length 10, .pointer (some ⟨s, 0, none⟩), .pointer (some ⟨bl, 0, none⟩)] W
      fun e W' => (∃ v, e = .returned v) ∧ SbAt L w2 lo s bl rb (.slice A0 L.length c0) (d ++ [r]) W' ∧ RowAt 3 rb rb W' r ∧ KeepBut (fun x => x = s ∨ x = rb) W W' := by
  have cb := h.box.cell
  have Hsum := Lib.hid (sumMiles_c A0 c0 L (some ⟨rb, 0, none⟩) 10 r W ha hrow.arg hL hx)
  have H := Lib.hid h
  have Hrow := Lib.hid hrow
  have Hx := Lib.hid hx
  clear h hrow ha hx
  go_enter Try.func60, Try.ntmps60
  go_wp2_with fail
  refine Hsum.out.mono ?_
  rintro e w3 ⟨rfl, hb3⟩
  have hk3 : KeepBut (fun _ => False) W w3 := KeepBut.of_below hb3
  have hoff := offer_c (sumZ L) lo s rb d r w3 (H.out.best.keep hk3 (by simp) (by omega)) (Hrow.out.keep hk3 (by simp)) hs hlo hl
  have Hoff := Lib.hid hoff
  have Hk3 := Lib.hid hk3
  have Hbx := Lib.hid ((hk3.block _ H.out.box.lt (by simp)).trans H.out.box)
  clear hoff hb3 hk3
  go_wp2_with fail
  refine Hoff.out.mono ?_
  rintro e w4 ⟨⟨v4, rfl⟩, hb4, hr4, hk4⟩
  have Hb4 := Lib.hid hb4
  have Hr4 := Lib.hid hr4
  have Hk4 := Lib.hid hk4
  clear hb4 hr4 hk4
  go_wp2
  go_end0
  have hk := (Hk3.out.weak (q := fun x => x = s) (fun _ _ h => h.elim)).trans Hk4.out
  exact ⟨⟨_, rfl⟩, ⟨Hb4.out, (hk.block _ H.out.box.lt hbl).trans H.out.box, H.out.keep.trans hk⟩, Hr4.out, hk.weak (fun _ _ h => .inl h)⟩

set_option maxRecDepth 100000 in
set_option maxHeartbeats 1000000 in
theorem implServeBest_b (A0 : Option Addr) (c0 : Nat) (z0 : List Spr) (A1 : Option Addr) (c1 : Nat) (z1 : List Spr) (w : World) (h0 : ArgZ w A0 c0 z0) (h1 : ArgZ w A1 c1 z1) :
    Calls Try.prog 28 #[.slice A0 z0.length c0, .slice A1 z1.length c1] w (RetS 3 (fun v => .tuple #[v, .bool (serveB z0 z1)]) (serveL z0 z1) w) := by
  obtain ⟨wb, hwb⟩ : ∃ wb, wb = w.alloc (.cells #[.slice A0 z0.length c0] 23) := ⟨_, rfl⟩
  have hbb : Below w.heap.size w wb := by rw [hwb]; exact (Below.refl _ _).alloc (Nat.le_refl _) _
  have hbx : Boxed wb w.heap.size 23 (.slice A0 z0.length c0) := by rw [hwb]; exact Boxed.new _ _ _
  have H0 := Lib.hid (h0.go hbb)
  have H1 := Lib.hid (h1.go hbb)
  have cb := hbx.cell
  have Hbb := Lib.hid hbb
  have Hbx := Lib.hid hbx
  rw [hwb] at H0 H1 cb Hbb Hbx
  clear h0 h1 hbb hbx hwb
  go_enter Try.func28, Try.ntmps28
  go_wp2_with fail
  refine (sparesAndNeeds_c A0 c0 z0 A1 c1 z1 _ H0.out H1.out).mono ?_
  rintro e w1 ⟨rfl, hb1⟩
  have Hb1 := Lib.hid (below_step Hbb.out hb1)
  have hbx1 : Boxed w1 w.heap.size 23 (.slice A0 z0.length c0) := (hb1.block _ Hbx.out.lt).trans Hbx.out
  have hlt1 := hbx1.lt
  replace H0 := Lib.hid (H0.out.go hb1)
  replace H1 := Lib.hid (H1.out.go hb1)
  have cb1 := hbx1.cell
  have Hbx1 := Lib.hid hbx1
  clear hb1 hbx1
  cases hv : bothB z0 z1
  · have Hv := Lib.hid hv
    have Hsb := Lib.hid (serveB_no hv)
    clear hv
    go_wp2
    go_ret2
    rw [serve_none Hsb.out, Hsb.out]
    exact RetS.nil (f := fun v => .tuple #[v, .bool false]) Hb1.out
  have Hv := Lib.hid hv
  obtain ⟨hbL, hbN⟩ := bothB_true.1 hv
  have hn10 := (sprB_true.1 hbL).1
  have hn5 := (sprB_true.1 hbN).1
  obtain ⟨w2, hw2⟩ : ∃ w2, w2 = w1.alloc (.cells #[.slice none 0 0, .int .i64 0, .bool false] 72) := ⟨_, rfl⟩
  have hb2 : Below w1.heap.size w1 w2 := by rw [hw2]; exact (Below.refl _ _).alloc (Nat.le_refl _) _
  have hsz : w2.heap.size = w1.heap.size + 1 := by rw [hw2]; simp
  have hch : ChAt w2 w1.heap.size (.slice none 0 0) 0 false := by rw [hw2]; exact heap_alloc_new w1 _
  have g0 := H0.out.held.go hb2
  have g1 := H1.out.held.go hb2
  have hbx2 : Boxed w2 w.heap.size 23 (.slice A0 z0.length c0) := (hb2.block _ hlt1).trans Hbx1.out
  have ih := eachServing_c z0 z1 A0 c0 A1 c1 hn10 hn5 (fun x => x = w1.heap.size) (SbAt z0 w2 w.heap.size w1.heap.size w.heap.size (w2.heap.size + 2 + 3 * (z1.length + 1)) (.slice A0 z0.length c0)) 60 #[.pointer (some ⟨w1.heap.size, 0, none⟩), .pointer (some ⟨w.heap.size, 0, none⟩)] w2 _
    (fun args w => enters_of Try.func60 (by kernel_rfl) rfl args w) rfl
    (fun d W W' h1 h2 => ⟨h1.best.keep h2 (fun _ h => h) (by omega), (h2.block _ h1.box.lt (by omega)).trans h1.box, h1.keep.then_ h2 (fun x hx h3 => by omega)⟩)
    (fun x hx => by omega)
    (fun d W h => ⟨(g0.but h.keep (.inr (Nat.le_refl _))).arg, (g1.but h.keep (.inr (Nat.le_refl _))).arg⟩)
    (fun d r W h2 h3 h4 h5 => tellB_c z0 hbL A0 c0 w2 w.heap.size w1.heap.size w.heap.size _ (by omega) (by omega) (by omega) d r W h4 (g0.but h4.keep (.inr (Nat.le_refl _))).arg h5 (by omega) h3)
    ⟨⟨_, _, _, hch, KeptB.start _ _ _ _ _ _⟩, hbx2, KeepBut.refl _ _⟩
  have Ih := Lib.hid ih
  have Hb2 := Lib.hid hb2
  have cb2 := hbx2.cell
  rw [hw2] at Ih cb2
  clear ih hb2 g0 g1 hbL hbN hv hbx2 hch
  go_wp2_with fail
  refine Ih.out.mono ?_
  rintro e w4 ⟨⟨v4, rfl⟩, hi4, hk4⟩
  rw [← hw2] at hk4
  have hb4 : Below w.heap.size w w4 := Hb1.out.trans ((Hb2.out.trans (hk4.below (B := w1.heap.size) (fun x hx => by omega) (by omega))).mono (by omega))
  obtain ⟨sv, cost, fd, hch, hkp⟩ := hi4.best
  have e0 := hch.c0
  have e2 := hch.c2
  have hsg : serveG z0 z1 = bst (sumZ z0) (allS z0 z1) := by unfold serveG; rw [Hv.out]; rfl
  unfold KeptB at hkp
  cases hb : bst (sumZ z0) (allS z0 z1) with
  | none =>
    rw [hb] at hkp hsg
    obtain ⟨rfl, rfl⟩ := hkp
    have Hsl := Lib.hid (show serveL z0 z1 = [] ∧ serveB z0 z1 = false by unfold serveL serveB; rw [hsg]; exact ⟨rfl, rfl⟩)
    have Hb4 := Lib.hid hb4
    have Hw4 := Lib.hid hw2
    clear hi4 hk4 hch hb hsg hb4 hw2
    go_wp2
    go_quiet (fail)
    go_wp2
    go_ret2
    rw [Hsl.out.1, Hsl.out.2]
    exact RetS.nil (f := fun v => .tuple #[v, .bool false]) (below_drewN Hb4.out nq)
  | some x =>
    rw [hb] at hkp hsg
    obtain ⟨rfl, rfl, hl10, ho, hg⟩ := hkp
    obtain ⟨A, c, rfl, _, _, _⟩ := ho.form
    have Hsl := Lib.hid (show serveL z0 z1 = x ∧ serveB z0 z1 = true by unfold serveL serveB; rw [hsg]; exact ⟨rfl, rfl⟩)
    have Hfin := Lib.hid (show ∀ nq, RetS 3 (fun v => .tuple #[v, .bool true]) x w (.returned (.tuple #[.slice A x.length c, .bool true])) (w4.drewN nq) from fun nq => ⟨A, c, rfl, ho.arg (by omega) (Nat.le_refl _), ho, below_drewN hb4 nq⟩)
    have Hw4 := Lib.hid hw2
    clear hi4 hk4 hch hb hsg hb4 ho hg hw2
    go_wp2
    go_quiet (fail)
    go_wp2
    go_ret2
    rw [Hsl.out.1, Hsl.out.2]
    exact Hfin.out nq

end Go.Proofs.Ytmbdggakahbciaa
