/-
  eachServing of the program, for whatever function value.
-/
import Derived.Test.YtmbdggakahbciaaEachR
import Derived.Test.YtmbdggakahbciaaSvC
namespace Go.Proofs.Ytmbdggakahbciaa
open Go.RowKit

structure B2 (W : World) (b : Nat) (lv nv : Value) : Prop where
  l : Boxed W b 23 lv
  n : Boxed W (b + 1) 23 nv
theorem B2.keep {p : Nat → Prop} {W W' : World} {b : Nat} {lv nv : Value} (h : B2 W b lv nv) (hk : KeepBut p W W') (hp : ∀ x, b ≤ x → x < b + 2 → ¬ p x) : B2 W' b lv nv :=
  ⟨(hk.block _ h.l.lt (hp _ (by omega) (by omega))).trans h.l, (hk.block _ h.n.lt (hp _ (by omega) (by omega))).trans h.n⟩
theorem B2.new (w : World) (lv nv : Value) : B2 ((w.alloc (.cells #[lv] 23)).alloc (.cells #[nv] 23)) w.heap.size lv nv := by
  refine ⟨(Boxed.new w _ _).alloc _, ?_⟩
  have h := Boxed.new (w.alloc (.cells #[lv] 23)) 23 nv
  rwa [World.size_alloc] at h

theorem fitsS_c (L Nd : List Spr) (A0 : Option Addr) (c0 : Nat) (A1 : Option Addr) (c1 b : Nat) (r : List Int) (rb : Nat) (W : World) (i : Nat) (hr : r.length < Nd.length) (hi : i < L.length) (h0 : ArgZ W A0 c0 L) (h1 : ArgZ W A1 c1 Nd) (hrow : RowAt 3 rb rb W r)
    (hb : B2 W b (.slice A0 L.length c0) (.slice A1 Nd.length c1)) :
    Calls Try.prog 71 #[.slice (some ⟨rb, 0, none⟩) r.length 10, .int .i64 i, .pointer (some ⟨b, 0, none⟩), .pointer (some ⟨b + 1, 0, none⟩)] W (RetB (.bool (sf L Nd r i)) W) := by
  have d0 := hb.l.cell
  have d1 := hb.n.cell
  have H := Lib.hid (servesNext_c A0 c0 L A1 c1 Nd (some ⟨rb, 0, none⟩) 10 r i W h0 h1 hrow.arg hi hr)
  clear h0 h1 hrow hb
  go_enter Try.func71, Try.ntmps71
  go_wp2_with fail
  refine H.out.mono ?_
  rintro e w1 ⟨rfl, hb1⟩
  have Hb1 := Lib.hid hb1
  clear hb1
  go_wp2
  go_ret
  exact ⟨rfl, Hb1.out⟩

set_option maxRecDepth 100000 in
set_option maxHeartbeats 1000000 in
theorem eachServing_c (L Nd : List Spr) (A0 : Option Addr) (c0 : Nat) (A1 : Option Addr) (c1 : Nat) (hL : L.length ≤ 10) (hN : Nd.length ≤ 5) (P : Nat → Prop) (I : List (List Int) → World → Prop) (gt : Nat) (capst : Array Value) (w : World) (rb : Nat)
    (hent : ∀ (args : Array Value) (w : World), (callFunc gt args).run Try.prog w = .ok (.enter gt args) w) (hrb : rb = w.heap.size + 2 + 3 * (Nd.length + 1)) (hst : Stays rb I) (hP : ∀ x, P x → x < w.heap.size)
    (hargs : ∀ d W, I d W → ArgZ W A0 c0 L ∧ ArgZ W A1 c1 Nd) (htell : Tells L.length Nd.length rb P I gt capst) (h0 : I [] w) :
    Calls Try.prog 57 #[.slice A0 L.length c0, .slice A1 Nd.length c1, .func (.func gt) #[] capst] w fun e w' => (∃ v, e = .returned v) ∧ I (allS L Nd) w' ∧ KeepBut P w w' := by
  obtain ⟨w2, hw2⟩ : ∃ w2, w2 = (w.alloc (.cells #[.slice A0 L.length c0] 23)).alloc (.cells #[.slice A1 Nd.length c1] 23) := ⟨_, rfl⟩
  have hb2 : Below w.heap.size w w2 := by rw [hw2]; exact ((Below.refl _ _).alloc (Nat.le_refl _) _).alloc (by simp) _
  have hbx : B2 w2 w.heap.size (.slice A0 L.length c0) (.slice A1 Nd.length c1) := by rw [hw2]; exact B2.new w _ _
  have hsz : w2.heap.size = w.heap.size + 2 := by rw [hw2]; simp
  have hrbe : w2.heap.size + 3 * (Nd.length + 1) = rb := by omega
  have ih := eachRow_c (sf L Nd) L A0 c0 71 #[.pointer (some ⟨w.heap.size, 0, none⟩), .pointer (some ⟨w.heap.size + 1, 0, none⟩)] hL
    (fun args w => enters_of Try.func71 (by kernel_rfl) rfl args w) Nd.length P (fun d W => I d W ∧ B2 W w.heap.size (.slice A0 L.length c0) (.slice A1 Nd.length c1)) gt capst w2 (by omega) hent
    (by rw [hrbe]; exact fun d W W' h1 h2 => ⟨hst _ _ _ h1.1 h2, h1.2.keep h2 (fun x h3 h4 h5 => by omega)⟩)
    (fun x hx => by have := hP x hx; omega)
    (by rw [hrbe]; exact fun d r W i h1 h2 h3 h4 h5 => fitsS_c L Nd A0 c0 A1 c1 w.heap.size r rb W i h1 h3 (hargs d W h4.1).1 (hargs d W h4.1).2 h5 h4.2)
    (by rw [hrbe]; exact htell.and _ (fun W W' h1 h2 => h1.keep h2 (fun x h3 h4 h5 => by rcases h5 with h5 | h5; have := hP x h5; omega; omega)))
    ⟨hst _ _ _ h0 (KeepBut.of_below hb2), hbx⟩
  have c0' := hbx.l.cell
  have c1' := hbx.n.cell
  have Ih := Lib.hid ih
  have Hb2 := Lib.hid hb2
  rw [hw2] at Ih Hb2 c0' c1'
  clear ih hb2 hst hP hargs htell h0 hbx hsz hrbe hw2
  go_enter Try.func57, Try.ntmps57
  go_wp2_with fail
  refine Ih.out.mono ?_
  rintro e w4 ⟨⟨v4, rfl⟩, hi4, hk4⟩
  have Hi4 := Lib.hid hi4
  have Hk4 := Lib.hid ((KeepBut.of_below (p := P) Hb2.out).trans hk4)
  clear hi4 hk4
  go_wp2
  go_end0
  exact ⟨⟨_, rfl⟩, Hi4.out.1, Hk4.out⟩

end Go.Proofs.Ytmbdggakahbciaa
