/-
  ServeMany and ServeCan of the program.
-/
import Derived.Test.YtmbdggakahbciaaEachS
import Derived.Test.YtmbdggakahbciaaSvM0
namespace Go.Proofs.Ytmbdggakahbciaa
open Go.RowKit

/-- the counter's box -/
def CntAt (w2 : World) (s : Nat) (d : List (List Int)) (W : World) : Prop := Boxed W s 3 (.int .i64 (wrap64 (d.length : Int))) ∧ KeepBut (fun x => x = s) w2 W

theorem RdZ.but {lo hi s : Nat} {W W' : World} {A : Option Addr} {zs : List Spr} (h : RdZ lo hi W A zs) (hk : KeepBut (fun x => x = s) W W') (hs : s < lo ∨ hi ≤ s) : RdZ lo hi W' A zs := fun hn => by
  obtain ⟨b, off, e, h1, h2, hc⟩ := h hn
  refine ⟨b, off, e, h1, h2, fun j hj => ?_⟩
  exact ⟨hk.cell (x := ⟨b, off + j * 2, none⟩) (by show ¬ b = s; omega) (hc j hj).1, hk.cell (x := ⟨b, off + j * 2 + 1, none⟩) (by show ¬ b = s; omega) (hc j hj).2⟩
theorem HeldZ.but {lo hi s : Nat} {W W' : World} {A : Option Addr} {c : Nat} {zs : List Spr} (h : HeldZ lo hi W A c zs) (hk : KeepBut (fun x => x = s) W W') (hs : s < lo ∨ hi ≤ s) : HeldZ lo hi W' A c zs :=
  ⟨h.1.but hk hs, Nat.le_trans h.2.1 hk.size, h.2.2⟩

theorem wrap_step (n : Nat) : wrap64 (wrap64 (n : Int) + 1) = wrap64 ((n + 1 : Nat) : Int) := by
  unfold wrap64
  omega

theorem tellM_c (w2 : World) (s rb : Nat) (d : List (List Int)) (r : List Int) (W : World) (h : CntAt w2 s d W) (hrow : RowAt 3 rb rb W r) (hs : s < rb) :
    Calls Try.prog 58 #[.slice (some ⟨rb, 0, none⟩) r.length 10, .pointer (some ⟨s, 0, none⟩)] W fun e W' => (∃ v, e = .returned v) ∧ CntAt w2 s (d ++ [r]) W' ∧ RowAt 3 rb rb W' r ∧ KeepBut (fun x => x = s ∨ x = rb) W W' := by
  have c0 := h.1.cell
  have f0 := h.1.frozen
  have Hw := Lib.hid (wrap_step d.length)
  have H := Lib.hid h
  have Hrow := Lib.hid hrow
  obtain ⟨x, hx⟩ : ∃ x, wrap64 (d.length : Int) = x := ⟨_, rfl⟩
  rw [hx] at c0 Hw
  have Hx := Lib.hid hx
  clear h hrow hx
  go_enter Try.func58, Try.ntmps58
  go_wp2
  refine bodyPost_end (results_none rfl _ _ _) rfl ?_
  have hg := KeepBut.of_grown (p := fun x => x = s) (grownBy_setCell' W s (.int .i64 (wrap64 (x + 1)))) rfl
  refine ⟨⟨_, rfl⟩, ⟨?_, H.out.2.trans hg⟩, Hrow.out.keep hg (by omega), hg.weak (fun k _ hk => .inl hk)⟩
  rw [List.length_append, show [r].length = 1 from rfl, ← Hw.out]
  exact H.out.1.set _

set_option maxHeartbeats 1000000 in
theorem implServeMany_b (A0 : Option Addr) (c0 : Nat) (z0 : List Spr) (A1 : Option Addr) (c1 : Nat) (z1 : List Spr) (w : World) (h0 : ArgZ w A0 c0 z0) (h1 : ArgZ w A1 c1 z1) :
    Calls Try.prog 23 #[.slice A0 z0.length c0, .slice A1 z1.length c1] w (RetB (.int .i64 (manyZ z0 z1)) w) := by
  have H0 := Lib.hid h0
  have H1 := Lib.hid h1
  clear h0 h1
  go_enter Try.func23, Try.ntmps23
  go_wp2_with fail
  refine (sparesAndNeeds_c A0 c0 z0 A1 c1 z1 _ H0.out H1.out).mono ?_
  rintro e w1 ⟨rfl, hb1⟩
  have Hb1 := Lib.hid hb1
  replace H0 := Lib.hid (H0.out.go hb1)
  replace H1 := Lib.hid (H1.out.go hb1)
  clear hb1
  cases hv : bothB z0 z1
  · have Hv := Lib.hid hv
    clear hv
    go_wp2
    go_ret
    exact ⟨by rw [manyZ_no Hv.out]; rfl, Hb1.out⟩
  have Hv := Lib.hid hv
  obtain ⟨hbL, hbN⟩ := bothB_true.1 hv
  have hn10 := (sprB_true.1 hbL).1
  have hn5 := (sprB_true.1 hbN).1
  obtain ⟨w2, hw2⟩ : ∃ w2, w2 = w1.alloc (.cells #[.int .i64 0] 3) := ⟨_, rfl⟩
  have hb2 : Below w1.heap.size w1 w2 := by rw [hw2]; exact (Below.refl _ _).alloc (Nat.le_refl _) _
  have hsz : w2.heap.size = w1.heap.size + 1 := by rw [hw2]; simp
  have g0 := H0.out.held.go hb2
  have g1 := H1.out.held.go hb2
  have ih := eachServing_c z0 z1 A0 c0 A1 c1 hn10 hn5 (fun x => x = w1.heap.size) (CntAt w2 w1.heap.size) 58 #[.pointer (some ⟨w1.heap.size, 0, none⟩)] w2 (w2.heap.size + 2 + 3 * (z1.length + 1))
    (fun args w => enters_of Try.func58 (by kernel_rfl) rfl args w) rfl
    (fun d W W' h1 h2 => ⟨(h2.block _ h1.1.lt (by omega)).trans h1.1, h1.2.then_ h2 (fun x hx h3 => by omega)⟩)
    (fun x hx => by omega)
    (fun d W h => ⟨(g0.but h.2 (.inr (Nat.le_refl _))).arg, (g1.but h.2 (.inr (Nat.le_refl _))).arg⟩)
    (fun d r W h2 h3 h4 h5 => tellM_c w2 w1.heap.size _ d r W h4 h5 (by omega))
    ⟨by rw [hw2]; rw [show wrap64 (([] : List (List Int)).length : Int) = 0 by unfold wrap64; rfl]; exact Boxed.new w1 _ _, KeepBut.refl _ _⟩
  have Ih := Lib.hid ih
  have Hb2 := Lib.hid hb2
  have hcd : (allS z0 z1).length ≤ 100000 := by rw [allS_from]; exact fromS_card hn10 hn5
  rw [hw2] at Ih
  clear ih hb2 g0 g1 hbL hbN hv
  go_wp2_with fail
  refine Ih.out.mono ?_
  rintro e w4 ⟨⟨v4, rfl⟩, hi4, hk4⟩
  have c4 := hi4.1.cell
  have hwr : wrap64 ((allS z0 z1).length : Int) = (allS z0 z1).length := by unfold wrap64; omega
  rw [hwr] at c4
  rw [← hw2] at hk4
  have Hk4 := Lib.hid (hk4.below (B := w1.heap.size) (fun x hx => by omega) (by omega))
  have Hw4 := Lib.hid hw2
  clear hi4 hk4 hwr
  go_wp2
  go_ret
  exact ⟨by rw [manyZ_yes Hv.out, ← allS_from]; rfl, below_step Hb1.out (Hb2.out.trans Hk4.out)⟩

theorem implServeCan_b (A0 : Option Addr) (c0 : Nat) (z0 : List Spr) (A1 : Option Addr) (c1 : Nat) (z1 : List Spr) (w : World) (h0 : ArgZ w A0 c0 z0) (h1 : ArgZ w A1 c1 z1) :
    Calls Try.prog 22 #[.slice A0 z0.length c0, .slice A1 z1.length c1] w (RetB (.bool (serveB z0 z1)) w) := by
  have H := Lib.hid (implServeMany_b A0 c0 z0 A1 c1 z1 w h0 h1)
  clear h0 h1
  have Hc := Lib.hid (canB_eq z0 z1)
  go_enter Try.func22, Try.ntmps22
  go_wp2_with fail
  refine H.out.mono ?_
  rintro e w1 ⟨rfl, hb1⟩
  have Hb1 := Lib.hid hb1
  clear hb1
  go_wp2
  go_ret
  exact ⟨by rw [← Hc.out]; rfl, Hb1.out⟩

end Go.Proofs.Ytmbdggakahbciaa
