/-
  BreakRange of the program: its callback, and the whole.
-/
import Derived.Test.YtgnemkflojohdaaEach
import Derived.Test.YtgnemkflojohdaaCabV
import Derived.RangeFuncBox
import Derived.BigQuiet
namespace Go.Proofs.Ytgnemkflojohdaa
open Go.RowKit

/-! ### the miles at which a cable can be broken -/
def rgTo (r : Nat → Int) (a e : Int) : Nat → Option (Nat × Nat)
  | 0 => none
  | k + 1 => if inB (a - r k) 0 e then some ((rgTo r a e k).elim k (·.1), k) else rgTo r a e k
theorem rgTo_yes {r : Nat → Int} {a e : Int} {k : Nat} (h : inB (a - r k) 0 e = true) : rgTo r a e (k + 1) = some ((rgTo r a e k).elim k (·.1), k) := by rw [rgTo, if_pos h]
theorem rgTo_no {r : Nat → Int} {a e : Int} {k : Nat} (h : inB (a - r k) 0 e = false) : rgTo r a e (k + 1) = rgTo r a e k := by
  rw [rgTo, if_neg]
  rw [h]
  exact Bool.false_ne_true
def rgL (o : Option (Nat × Nat)) : Int := o.elim 0 (fun x => (x.1 : Int))
def rgH (o : Option (Nat × Nat)) : Int := o.elim 0 (fun x => (x.2 : Int))

theorem boxed_far {W : World} {B b : Nat} {t : TypeId} {v : Value} (h : Boxed W B t v) (hne : B ≠ b) (u : Value) : Boxed (W.setCell ⟨b, 0, none⟩ u) B t v :=
  h.kept (grownBy_setCell' W b u) (by simpa using hne)
theorem boxed_drewN {W : World} {B : Nat} {t : TypeId} {v : Value} (h : Boxed W B t v) (n : Nat) : Boxed (W.drewN n) B t v := h
theorem boxed_below {B b : Nat} {W W' : World} {t : TypeId} {v : Value} (h : Boxed W b t v) (hb : Below B W W') (hB : b < B) : Boxed W' b t v := (hb.block b hB).trans h
theorem KSec.refl (W : World) : KSec W W := fun _ _ h => h
theorem KSec.trans {a b c : World} (h : KSec a b) (k : KSec b c) : KSec a c := fun D s hd => k D s (h D s hd)
theorem KSec.set {W W' : World} {b : Nat} {t : TypeId} {v : Value} (h : KSec W W') (hb : Boxed W' b t v) (u : Value) : KSec W (W'.setCell ⟨b, 0, none⟩ u) := fun D s hd => by
  have h1 := h D s hd
  refine (Below.heap_setCell W' ⟨b, 0, none⟩ u D ?_).trans h1
  rintro rfl
  unfold SecBlk at h1
  unfold Boxed at hb
  rw [hb] at h1
  simp at h1
theorem KSec.below {W W' : World} (h : Below W.heap.size W W') : KSec W W' := fun D _ hd => (h.block D (Array.getElem?_eq_some_iff.1 hd).1).trans hd

/-- what the callback's boxes hold -/
structure BrkAt (W : World) (bm be bf bl bg : Nat) (a e : Int) (o : Option (Nat × Nat)) : Prop where
  m : Boxed W bm 3 (.int .i64 a)
  e : Boxed W be 3 (.int .i64 e)
  f : Boxed W bf 4 (.bool o.isSome)
  l : Boxed W bl 3 (.int .i64 (rgL o))
  g : Boxed W bg 3 (.int .i64 (rgH o))
theorem BrkAt.alloc {W : World} {bm be bf bl bg : Nat} {a e : Int} {o : Option (Nat × Nat)} (h : BrkAt W bm be bf bl bg a e o) (ob : Obj) : BrkAt (W.alloc ob) bm be bf bl bg a e o :=
  ⟨h.m.alloc _, h.e.alloc _, h.f.alloc _, h.l.alloc _, h.g.alloc _⟩

set_option maxHeartbeats 1000000 in
theorem brk_c (bm be bf bl bg : Nat) (a e : Int) (r : Nat → Int) (k : Nat) (W : World) (h : BrkAt W bm be bf bl bg a e (rgTo r a e k)) (hd : bm ≠ bf ∧ bm ≠ bl ∧ bm ≠ bg ∧ be ≠ bf ∧ be ≠ bl ∧ be ≠ bg ∧ bf ≠ bl ∧ bf ≠ bg ∧ bl ≠ bg)
    (B : Nat) (hB : B ≤ bf ∧ B ≤ bl ∧ B ≤ bg) (ha : 0 ≤ a) (ha2 : a ≤ 9223372036854775807) (hr : 0 ≤ r k) (hr2 : r k ≤ 8000) :
    Calls Try.prog 81 #[.int .i64 k, .int .i64 (r k), .pointer (some ⟨bm, 0, none⟩), .pointer (some ⟨be, 0, none⟩), .pointer (some ⟨bf, 0, none⟩), .pointer (some ⟨bl, 0, none⟩), .pointer (some ⟨bg, 0, none⟩)] W
      fun x W' => (∃ v, x = .returned v) ∧ BrkAt W' bm be bf bl bg a e (rgTo r a e (k + 1)) ∧ Below B W W' ∧ KSec W W' := by
  have cm := h.m.cell
  have ce := h.e.cell
  have cf := h.f.cell
  have ff := h.f.frozen
  have fl := h.l.frozen
  have cl := h.l.cell
  have cg := h.g.cell
  have fg := h.g.frozen
  have q1 : IntKind.i64.wrap (a - r k) = a - r k := IntWalk.i64_in _ (by omega)
  obtain ⟨hd1, hd2, hd3, hd4, hd5, hd6, hd7, hd8, hd9⟩ := hd
  cases hin : inB (a - r k) 0 e
  · have Ho := Lib.hid (rgTo_no hin)
    have Hin := Lib.hid hin
    have H := Lib.hid h
    clear hin h hd1 hd2 hd3 hd4 hd5 hd6 hd7 hd8 hd9
    go_enter Try.func81, Try.ntmps81
    go_wp2_with fail
    refine (inRange_c _ _ _ _).mono ?_
    rintro e w1 ⟨rfl, rfl⟩
    rw [Hin.out]
    go_wp2
    exact bodyPost_ret (results_none rfl _ _ _) rfl ⟨⟨_, rfl⟩, by rw [Ho.out]; exact H.out, Below.refl _ _, KSec.refl _⟩
  · have Ho := Lib.hid (rgTo_yes hin)
    have Hin := Lib.hid hin
    obtain ⟨o, hoo⟩ : ∃ o, rgTo r a e k = o := ⟨_, rfl⟩
    rw [hoo] at h Ho cf cl cg
    clear hin hoo
    cases o with
    | none =>
      have b1 := boxed_far h.f hd7 (.int .i64 k)
      have cf1 := b1.cell
      have ff1 := b1.frozen
      have b2 := boxed_far (boxed_far h.g hd9.symm (.int .i64 k)) hd8.symm (.bool true)
      have cg2 := b2.cell
      have fg2 := b2.frozen
      have b3 := b1.set (.bool true)
      have b4 := boxed_far (h.l.set (.int .i64 k)) hd7.symm (.bool true)
      have H := Lib.hid (show BrkAt (((W.setCell ⟨bl, 0, none⟩ (.int .i64 k)).setCell ⟨bf, 0, none⟩ (.bool true)).setCell ⟨bg, 0, none⟩ (.int .i64 k)) bm be bf bl bg a e (some (k, k)) ∧ Below B W (((W.setCell ⟨bl, 0, none⟩ (.int .i64 k)).setCell ⟨bf, 0, none⟩ (.bool true)).setCell ⟨bg, 0, none⟩ (.int .i64 k)) ∧ KSec W (((W.setCell ⟨bl, 0, none⟩ (.int .i64 k)).setCell ⟨bf, 0, none⟩ (.bool true)).setCell ⟨bg, 0, none⟩ (.int .i64 k)) from
        ⟨⟨boxed_far (boxed_far (boxed_far h.m hd2 _) hd1 _) hd3 _, boxed_far (boxed_far (boxed_far h.e hd5 _) hd4 _) hd6 _, boxed_far b3 hd8 _, boxed_far b4 hd9 _, b2.set _⟩,
          (((Below.refl B W).setCell (p := ⟨bl, 0, none⟩) hB.2.1 _).setCell (p := ⟨bf, 0, none⟩) hB.1 _).setCell (p := ⟨bg, 0, none⟩) hB.2.2 _, (((KSec.refl W).set h.l _).set b1 _).set b2 _⟩)
      clear b1 b2 b3 b4 h hd1 hd2 hd3 hd4 hd5 hd6 hd7 hd8 hd9
      go_enter Try.func81, Try.ntmps81
      go_wp2_with fail
      refine (inRange_c _ _ _ _).mono ?_
      rintro e w1 ⟨rfl, rfl⟩
      rw [Hin.out]
      go_wp2
      go_end0
      exact ⟨⟨_, rfl⟩, by rw [Ho.out]; exact H.out.1, H.out.2⟩
    | some x =>
      have H := Lib.hid (show BrkAt (W.setCell ⟨bg, 0, none⟩ (.int .i64 k)) bm be bf bl bg a e (some (x.1, k)) ∧ Below B W (W.setCell ⟨bg, 0, none⟩ (.int .i64 k)) ∧ KSec W (W.setCell ⟨bg, 0, none⟩ (.int .i64 k)) from
        ⟨⟨boxed_far h.m hd3 _, boxed_far h.e hd6 _, boxed_far h.f hd8 _, boxed_far h.l hd9 _, h.g.set _⟩, (Below.refl B W).setCell (p := ⟨bg, 0, none⟩) hB.2.2 _, (KSec.refl W).set h.g _⟩)
      clear h hd1 hd2 hd3 hd4 hd5 hd6 hd7 hd8 hd9
      go_enter Try.func81, Try.ntmps81
      go_wp2_with fail
      refine (inRange_c _ _ _ _).mono ?_
      rintro e w1 ⟨rfl, rfl⟩
      rw [Hin.out]
      go_wp2
      go_end0
      exact ⟨⟨_, rfl⟩, by rw [Ho.out]; exact H.out.1, H.out.2⟩

/-- what BreakRange hands back -/
def rangeO (ss : List Sec) (a e : Int) : Option (Nat × Nat) := if cabB ss && decide (0 ≤ a) && inB e 0 1000 then rgTo (rN ss) a e (mN ss + 1) else none
def rangeV (ss : List Sec) (a e : Int) : Value := .tuple #[.int .i64 (rgL (rangeO ss a e)), .int .i64 (rgH (rangeO ss a e)), .bool (rangeO ss a e).isSome]
theorem rangeV_no {ss : List Sec} {a e : Int} (h : (cabB ss && decide (0 ≤ a) && inB e 0 1000) = false) : rangeV ss a e = .tuple #[.int .i64 0, .int .i64 0, .bool false] := by unfold rangeV rangeO; rw [h]; rfl
theorem rangeO_yes {ss : List Sec} {a e : Int} (h : cabB ss = true) (h2 : 0 ≤ a) (h3 : inB e 0 1000 = true) : rangeO ss a e = rgTo (rN ss) a e (mN ss + 1) := by unfold rangeO; rw [h, h3]; simp [h2]

set_option maxHeartbeats 1000000 in
theorem implBreakRange_b (A : Option Addr) (c : Nat) (ss : List Sec) (a e : Int) (w : World) (ha : ArgC w A c ss) (ha2 : a ≤ 9223372036854775807) :
    Calls Try.prog 43 #[.slice A ss.length c, .int .i64 a, .int .i64 e] w (RetB (rangeV ss a e) w) := by
  obtain ⟨w0, hw0⟩ : ∃ w0, (w.alloc (.cells #[.int .i64 a] 3)).alloc (.cells #[.int .i64 e] 3) = w0 := ⟨_, rfl⟩
  have hm : Boxed w0 w.heap.size 3 (.int .i64 a) := by rw [← hw0]; exact (Boxed.new w _ _).alloc _
  have he : Boxed w0 (w.heap.size + 1) 3 (.int .i64 e) := by
    have := Boxed.new (w.alloc (.cells #[.int .i64 a] 3)) 3 (.int .i64 e)
    rw [hw0] at this
    simpa using this
  have hB : Below w.heap.size w w0 := by rw [← hw0]; exact ((Below.refl _ _).alloc (Nat.le_refl _) _).alloc (by simp) _
  have hs : w0.heap.size = w.heap.size + 2 := by rw [← hw0]; simp
  have HA := Lib.hid ha
  have Hm := Lib.hid hm
  have He := Lib.hid he
  have HB := Lib.hid hB
  have Hw0 := Lib.hid hw0
  clear ha hm he hB hw0
  cases hc : cabB ss
  · have Hv := Lib.hid (rangeV_no (ss := ss) (a := a) (e := e) (by rw [hc]; rfl))
    have Hc := Lib.hid hc
    clear hc
    go_enter Try.func43, Try.ntmps43
    go_wp2_with fail
    rw [Hw0.out]
    refine (implCableValid_c A c ss _ (HA.out.go HB.out)).mono ?_
    rintro e9 w1 ⟨rfl, hb1⟩
    rw [Hc.out]
    have Hb1 := Lib.hid (below_step HB.out hb1)
    clear hb1
    go_wp2
    go_ret3
    exact ⟨by rw [Hv.out]; rfl, Hb1.out⟩
  have Hc := Lib.hid hc
  by_cases h0 : a < 0
  · have Hv := Lib.hid (rangeV_no (ss := ss) (a := a) (e := e) (by simp [hc]; intro; omega))
    clear hc
    go_enter Try.func43, Try.ntmps43
    go_wp2_with fail
    rw [Hw0.out]
    refine (implCableValid_c A c ss _ (HA.out.go HB.out)).mono ?_
    rintro e9 w1 ⟨rfl, hb1⟩
    rw [Hc.out]
    have cm := (boxed_below Hm.out hb1 (by omega)).cell
    have Hb1 := Lib.hid (below_step HB.out hb1)
    clear hb1
    go_wp2
    go_ret3
    exact ⟨by rw [Hv.out]; rfl, Hb1.out⟩
  cases hi : inB e 0 1000
  · have Hv := Lib.hid (rangeV_no (ss := ss) (a := a) (e := e) (by rw [hi]; simp))
    have Hi := Lib.hid hi
    clear hc hi
    go_enter Try.func43, Try.ntmps43
    go_wp2_with fail
    rw [Hw0.out]
    refine (implCableValid_c A c ss _ (HA.out.go HB.out)).mono ?_
    rintro e9 w1 ⟨rfl, hb1⟩
    rw [Hc.out]
    have cm := (boxed_below Hm.out hb1 (by omega)).cell
    have ce := (boxed_below He.out hb1 (by omega)).cell
    have Hb1 := Lib.hid (below_step HB.out hb1)
    clear hb1
    go_wp2_with fail
    refine (inRange_c _ _ _ _).mono ?_
    rintro e9 w2 ⟨rfl, rfl⟩
    rw [Hi.out]
    go_wp2
    go_ret3
    exact ⟨by rw [Hv.out]; rfl, Hb1.out⟩
  · have Ho := Lib.hid (rangeO_yes hc (show 0 ≤ a by omega) hi)
    have Hi := Lib.hid hi
    clear hc hi
    go_enter Try.func43, Try.ntmps43
    go_wp2_with fail
    rw [Hw0.out]
    refine (implCableValid_c A c ss _ (HA.out.go HB.out)).mono ?_
    rintro e9 w1 ⟨rfl, hb1⟩
    rw [Hc.out]
    have s1 := hb1.size
    have hm1 := boxed_below Hm.out hb1 (by omega)
    have he1 := boxed_below He.out hb1 (by omega)
    have cm := hm1.cell
    have ce := he1.cell
    have Hm1 := Lib.hid hm1
    have He1 := Lib.hid he1
    have Hb1 := Lib.hid (below_step HB.out hb1)
    clear hb1 hm1 he1
    go_wp2_with fail
    refine (inRange_c _ _ _ _).mono ?_
    rintro e9 w2 ⟨rfl, rfl⟩
    rw [Hi.out]
    obtain ⟨w3, hw3⟩ : ∃ w3, ((w1.alloc (.cells #[.int .i64 0] 3)).alloc (.cells #[.int .i64 0] 3)).alloc (.cells #[.bool false] 4) = w3 := ⟨_, rfl⟩
    have hb3 : Below w.heap.size w w3 := by rw [← hw3]; exact ((Hb1.out.alloc (by omega) _).alloc (by simp; omega) _).alloc (by simp; omega) _
    have hat : BrkAt w3 w.heap.size (w.heap.size + 1) (w1.heap.size + 1 + 1) w1.heap.size (w1.heap.size + 1) a e (rgTo (rN ss) a e 0) := by
      rw [← hw3]
      refine ⟨((Hm1.out.alloc _).alloc _).alloc _, ((He1.out.alloc _).alloc _).alloc _, ?_, ((Boxed.new w1 _ _).alloc _).alloc _, ?_⟩
      · have := Boxed.new ((w1.alloc (.cells #[.int .i64 0] 3)).alloc (.cells #[.int .i64 0] 3)) 4 (.bool false)
        simp only [World.size_alloc] at this
        exact this
      · have := (Boxed.new (w1.alloc (.cells #[.int .i64 0] 3)) 3 (.int .i64 0)).alloc (.cells #[.bool false] 4)
        simp only [World.size_alloc] at this
        exact this
    have ha3 : HeldC 0 w.heap.size w3 A c ss := HA.out.held.go hb3
    have Hat := Lib.hid hat
    have Ha3 := Lib.hid ha3
    have Hb3 := Lib.hid hb3
    have Hw3 := Lib.hid hw3
    clear hw3 hb3 hat ha3
    go_wp2_with fail
    rw [Hw3.out]
    refine (eachMile_c (fun k W => Below w.heap.size w3 W ∧ BrkAt W w.heap.size (w.heap.size + 1) (w1.heap.size + 1 + 1) w1.heap.size (w1.heap.size + 1) a e (rgTo (rN ss) a e k)) 81 #[.pointer (some ⟨w.heap.size, 0, none⟩), .pointer (some ⟨w.heap.size + 1, 0, none⟩), .pointer (some ⟨w1.heap.size + 1 + 1, 0, none⟩), .pointer (some ⟨w1.heap.size, 0, none⟩), .pointer (some ⟨w1.heap.size + 1, 0, none⟩)] A c ss w3 w.heap.size
      (fun args w => enters_of Try.func81 (by kernel_rfl) rfl args w) Hc.out Ha3.out (fun _ _ h => h.1) (fun _ _ _ h => ⟨h.1.alloc (by have h5 := h.1.size; have h6 := Hb3.out.size; omega) _, h.2.alloc _⟩) ⟨Below.refl _ _, Hat.out⟩ ?_).mono ?_
    · rintro k W _ ⟨h1, h2⟩
      have hr := rN_bd Hc.out k
      simp only [List.append_toArray, List.cons_append, List.nil_append]
      refine (brk_c _ _ _ _ _ a e (rN ss) k W h2 (by omega) w.heap.size (by omega) (by omega) ha2 hr.1 hr.2).mono ?_
      rintro x W' ⟨hx, h3, h4, h5⟩
      exact ⟨hx, ⟨h1.trans h4, h3⟩, h5⟩
    rintro e9 w4 ⟨⟨v, rfl⟩, hb4, h4⟩
    have cl := h4.l.cell
    have cg := h4.g.cell
    have cf := h4.f.cell
    have Hb4 := Lib.hid (Hb3.out.trans hb4)
    clear hb4 h4
    go_wp2
    go_quiet (fail)
    go_wp2
    go_ret3
    exact ⟨by unfold rangeV; rw [Ho.out]; rfl, below_drewN Hb4.out _⟩

end Go.Proofs.Ytgnemkflojohdaa
