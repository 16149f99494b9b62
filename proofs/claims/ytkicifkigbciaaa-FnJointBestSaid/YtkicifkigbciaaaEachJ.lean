/-
  eachSet of the program, for whatever function value.
-/
import Derived.Test.YtkicifkigbciaaaEachR
import Derived.BigQuiet
namespace Go.Proofs.Ytkicifkigbciaaa
open Go.RowKit

structure B2j (W : World) (b : Nat) (lv nv : Value) : Prop where
  l : Boxed W b 23 lv
  n : Boxed W (b + 1) 3 nv
theorem B2j.keep {p : Nat → Prop} {W W' : World} {b : Nat} {lv nv : Value} (h : B2j W b lv nv) (hk : KeepBut p W W') (hp : ∀ x, b ≤ x → x < b + 2 → ¬ p x) : B2j W' b lv nv :=
  ⟨(hk.block _ h.l.lt (hp _ (by omega) (by omega))).trans h.l, (hk.block _ h.n.lt (hp _ (by omega) (by omega))).trans h.n⟩
theorem B2j.new (w : World) (lv nv : Value) : B2j ((w.alloc (.cells #[lv] 23)).alloc (.cells #[nv] 3)) w.heap.size lv nv := by
  refine ⟨(Boxed.new w _ _).alloc _, ?_⟩
  have h := Boxed.new (w.alloc (.cells #[lv] 23)) 3 nv
  rwa [World.size_alloc] at h

theorem jf_empty {L : List Spr} {kind : Int} {r : List Int} {i : Nat} (h : r.length = 0) : jf L kind r i = decide ((sprAt L i).k = kind) := by
  unfold jf; rw [decide_eq_true h]; simp [ofKind]
theorem jf_up {L : List Spr} {kind : Int} {r : List Int} {i : Nat} (h : lastI r < (i : Int)) : jf L kind r i = decide ((sprAt L i).k = kind) := by
  unfold jf; rw [decide_eq_true h]; simp [ofKind]
theorem jf_down {L : List Spr} {kind : Int} {r : List Int} {i : Nat} (h : ¬ r.length = 0) (h2 : ¬ lastI r < (i : Int)) : jf L kind r i = false := by
  unfold jf; rw [decide_eq_false h, decide_eq_false h2]; rfl

set_option maxHeartbeats 2000000 in
theorem fitsJ_c (L : List Spr) (kind : Int) (A0 : Option Addr) (c0 : Nat) (b : Nat) (r : List Int) (rb : Nat) (W : World) (i : Nat) (hi : i < L.length) (h0 : ArgZ W A0 c0 L) (hrow : RowAt 3 rb rb W r)
    (hb : B2j W b (.slice A0 L.length c0) (.int .i64 kind)) :
    Calls Try.prog 95 #[.slice (some ⟨rb, 0, none⟩) r.length 10, .int .i64 i, .pointer (some ⟨b, 0, none⟩), .pointer (some ⟨b + 1, 0, none⟩)] W (RetB (.bool (jf L kind r i)) W) := by
  have d0 := hb.l.cell
  have d1 := hb.n.cell
  obtain ⟨bl, off, rfl, _, hbw, e0, e1⟩ := h0.rd.at_ hi
  have g1 : (i : Int) < (L.length : Int) := by omega
  have hr10 := hrow.len
  have hje := jf_empty (L := L) (kind := kind) (r := r) (i := i)
  have hju := jf_up (L := L) (kind := kind) (r := r) (i := i)
  have hjd := jf_down (L := L) (kind := kind) (r := r) (i := i)
  obtain ⟨s, hs⟩ : ∃ s, sprAt L i = s := ⟨_, rfl⟩
  rw [hs] at e0 e1 hje hju
  by_cases hr0 : r.length = 0
  · have Hj := Lib.hid (hje hr0)
    have g0 : (r.length : Int) = 0 := by omega
    clear hs hje hju hjd h0 hrow hb hr10 hr0
    by_cases hk : s.k = kind
    · have Hk := Lib.hid (Hj.out.trans (decide_eq_true hk))
      clear Hj
      go_enter Try.func95, Try.ntmps95
      go_wp2
      go_quiet (fail)
      go_wp2
      go_ret
      exact ⟨by rw [Hk.out]; rfl, below_drewN (Below.refl _ _) nq⟩
    · have Hk := Lib.hid (Hj.out.trans (decide_eq_false hk))
      have hkd : (s.k == kind) = false := beq_false_of_ne hk
      clear Hj
      go_enter Try.func95, Try.ntmps95
      go_wp2
      go_quiet (fail)
      go_wp2
      go_ret
      exact ⟨by rw [Hk.out]; rfl, below_drewN (Below.refl _ _) nq⟩
  · have g0 : ¬ (r.length : Int) = 0 := by omega
    have gb : ((r.length : Int) == 0) = false := beq_false_of_ne g0
    obtain ⟨b9, o9, e9, _, _, hc9⟩ := hrow.arg.rd.at_ (k := r.length - 1) (by omega)
    injection e9 with e9
    injection e9 with e91 e92 _
    subst e91; subst e92
    have hl : W.cell? ⟨rb, r.length - 1, none⟩ = some (.int .i64 (lastI r)) := by rw [Nat.zero_add] at hc9; exact hc9
    have q1 : IntKind.i64.wrap ((r.length : Int) - 1) = (r.length : Int) - 1 := IntWalk.i64_in _ (by omega)
    have q2 : (0 : Int) ≤ (r.length : Int) - 1 := by omega
    have q3 : ((r.length : Int) - 1).toNat = r.length - 1 := by omega
    have q4 : (r.length : Int) - 1 < (r.length : Int) := by omega
    have hjd2 := hjd hr0
    obtain ⟨y, hy⟩ : ∃ y, lastI r = y := ⟨_, rfl⟩
    rw [hy] at hl hju hjd2
    clear hs hje hjd h0 hrow hb hr10 hr0 hc9 hy
    by_cases hlt : y < (i : Int)
    · have Hj := Lib.hid (hju hlt)
      clear hju hjd2
      by_cases hk : s.k = kind
      · have Hk := Lib.hid (Hj.out.trans (decide_eq_true hk))
        clear Hj
        go_enter Try.func95, Try.ntmps95
        go_wp2
        go_quiet (fail)
        go_wp2
        go_ret
        exact ⟨by rw [Hk.out]; rfl, below_drewN (Below.refl _ _) nq⟩
      · have Hk := Lib.hid (Hj.out.trans (decide_eq_false hk))
        have hkd : (s.k == kind) = false := beq_false_of_ne hk
        clear Hj
        go_enter Try.func95, Try.ntmps95
        go_wp2
        go_quiet (fail)
        go_wp2
        go_ret
        exact ⟨by rw [Hk.out]; rfl, below_drewN (Below.refl _ _) nq⟩
    · have Hk := Lib.hid (hjd2 hlt)
      have hltd : decide (y < (i : Int)) = false := decide_eq_false hlt
      clear hju hjd2
      go_enter Try.func95, Try.ntmps95
      go_wp2
      go_quiet (fail)
      go_wp2
      go_ret
      exact ⟨by rw [Hk.out]; rfl, below_drewN (Below.refl _ _) nq⟩

set_option maxRecDepth 100000 in
set_option maxHeartbeats 1000000 in
theorem eachSet_c (L : List Spr) (kind : Int) (k : Nat) (A0 : Option Addr) (c0 : Nat) (hL : L.length ≤ 10) (hN : k ≤ 10) (P : Nat → Prop) (I : List (List Int) → World → Prop) (gt : Nat) (capst : Array Value) (w : World) (rb : Nat)
    (hent : ∀ (args : Array Value) (w : World), (callFunc gt args).run Try.prog w = .ok (.enter gt args) w) (hrb : rb = w.heap.size + 2 + 3 * (k + 1)) (hst : Stays rb I) (hP : ∀ x, P x → x < w.heap.size)
    (hargs : ∀ d W, I d W → ArgZ W A0 c0 L) (htell : Tells L.length k rb P I gt capst) (h0 : I [] w) :
    Calls Try.prog 73 #[.slice A0 L.length c0, .int .i64 kind, .int .i64 k, .func (.func gt) #[] capst] w fun e w' => (∃ v, e = .returned v) ∧ I (rows (jf L kind) L.length k) w' ∧ KeepBut P w w' := by
  obtain ⟨w2, hw2⟩ : ∃ w2, w2 = (w.alloc (.cells #[.slice A0 L.length c0] 23)).alloc (.cells #[.int .i64 kind] 3) := ⟨_, rfl⟩
  have hb2 : Below w.heap.size w w2 := by rw [hw2]; exact ((Below.refl _ _).alloc (Nat.le_refl _) _).alloc (by simp) _
  have hbx : B2j w2 w.heap.size (.slice A0 L.length c0) (.int .i64 kind) := by rw [hw2]; exact B2j.new w _ _
  have hsz : w2.heap.size = w.heap.size + 2 := by rw [hw2]; simp
  have hrbe : w2.heap.size + 3 * (k + 1) = rb := by omega
  have ih := eachRow_c (jf L kind) L A0 c0 95 #[.pointer (some ⟨w.heap.size, 0, none⟩), .pointer (some ⟨w.heap.size + 1, 0, none⟩)] hL
    (fun args w => enters_of Try.func95 (by kernel_rfl) rfl args w) k P (fun d W => I d W ∧ B2j W w.heap.size (.slice A0 L.length c0) (.int .i64 kind)) gt capst w2 (by omega) hent
    (by rw [hrbe]; exact fun d W W' h1 h2 => ⟨hst _ _ _ h1.1 h2, h1.2.keep h2 (fun x h3 h4 h5 => by omega)⟩)
    (fun x hx => by have := hP x hx; omega)
    (by rw [hrbe]; exact fun d r W i h1 h2 h3 h4 h5 => fitsJ_c L kind A0 c0 w.heap.size r rb W i h3 (hargs d W h4.1) h5 h4.2)
    (by rw [hrbe]; exact htell.and _ (fun W W' h1 h2 => h1.keep h2 (fun x h3 h4 h5 => by rcases h5 with h5 | h5; have := hP x h5; omega; omega)))
    ⟨hst _ _ _ h0 (KeepBut.of_below hb2), hbx⟩
  have c0' := hbx.l.cell
  have c1' := hbx.n.cell
  have Ih := Lib.hid ih
  have Hb2 := Lib.hid hb2
  rw [hw2] at Ih Hb2 c0' c1'
  clear ih hb2 hst hP hargs htell h0 hbx hsz hrbe hw2
  go_enter Try.func73, Try.ntmps73
  go_wp2_with fail
  refine Ih.out.mono ?_
  rintro e w4 ⟨⟨v4, rfl⟩, hi4, hk4⟩
  have Hi4 := Lib.hid hi4
  have Hk4 := Lib.hid ((KeepBut.of_below (p := P) Hb2.out).trans hk4)
  clear hi4 hk4
  go_wp2
  go_end0
  exact ⟨⟨_, rfl⟩, Hi4.out.1, Hk4.out⟩

end Go.Proofs.Ytkicifkigbciaaa
