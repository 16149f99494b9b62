/-
  The two drawn floors of the law FnJoin: DrawFloorJoin.
-/
import Derived.Test.YtndpdoiomoefpaaDraws0
import Derived.Test.YtndpdoiomoefpaaStkA0
namespace Go.Proofs.Ytndpdoiomoefpaa
open Go.RowKit

/-- two floors of at most 20 ints each -/
def RetJoin (w : World) (e : Ending) (w' : World) : Prop :=
  ∃ B d zs B2 d2 ys, e = .returned (.tuple #[.slice B (zs : List Int).length d, .slice B2 (ys : List Int).length d2]) ∧ zs.length ≤ 20 ∧ ys.length ≤ 20 ∧ Arg w' B d zs ∧ Arg w' B2 d2 ys ∧ Below w.heap.size w w'
theorem RetJoin.mk {lo hi lo2 hi2 : Nat} {w w' : World} {B B2 : Option Addr} {d d2 : Nat} {zs ys : List Int} (hl : zs.length ≤ 20) (hl2 : ys.length ≤ 20) (ho : Ow 3 lo hi w' (.slice B zs.length d) zs) (hh : hi ≤ w'.heap.size) (ho2 : Ow 3 lo2 hi2 w' (.slice B2 ys.length d2) ys) (hh2 : hi2 ≤ w'.heap.size) (hb : Below w.heap.size w w') :
    RetJoin w (.returned (.tuple #[.slice B zs.length d, .slice B2 ys.length d2])) w' := ⟨B, d, zs, B2, d2, ys, rfl, hl, hl2, ho.arg (by omega) hh, ho2.arg (by omega) hh2, hb⟩

set_option maxRecDepth 100000 in
set_option maxHeartbeats 4000000 in
theorem DrawFloorJoin_c (A : Option Addr) (n c : Nat) (w : World) (hn : n ≤ 9223372036854775807) (hnc : n ≤ c) (hb : Bytes w.heap.size w A n) :
    Calls Try.prog 24 #[.slice A n c] w (RetJoin w) := by
  have Hb := Lib.hid hb
  clear hb
  go_enter Try.func24, Try.ntmps24
  go_wp2_with fail
  refine (l6Open_c A n c _ hn hnc Hb.out).mono ?_
  rintro e w1 ⟨n1, c1, rfl, hr1, hb1, hs1⟩
  have H1 := Lib.hid hr1
  have B1 := Lib.hid hb1
  clear hr1 hb1
  go_wp2_with fail
  refine (l91Floor_c w.heap.size A n1 c1 0 8 _ H1.out hs1 (by omega) (by omega) (by omega)).mono ?_
  rintro e w2 ⟨B, d, zs, q, rfl, hzl, _, ho, hr, hq, hg⟩
  have s2 := hg.size
  have HO := Lib.hid ho
  have H2 := Lib.hid hr
  have B2 := Lib.hid (draw_below B1.out (Nat.le_refl _) hg)
  clear ho hr hg H1 B1
  go_wp2_with fail
  refine (l91Floor_c w.heap.size A n1 c1 q 8 _ H2.out (by omega) (by omega) (by omega) (by omega)).mono ?_
  rintro e w3 ⟨C, d2, ys, q2, rfl, hyl, _, ho2, hr, hq2, hg⟩
  have s3 := hg.size
  have HP := Lib.hid ho2
  have HQ := Lib.hid (HO.out.kept hg (fun r e => by cases e; exact .inl hs1))
  have H3 := Lib.hid hr
  have B3 := Lib.hid (draw_below B2.out (Nat.le_refl _) hg)
  clear ho2 hr hg H2 B2 HO
  by_cases hz : zs.length = 0
  · obtain rfl := List.eq_nil_of_length_eq_zero hz
    clear hz
    go_wp2
    go_ret2
    exact RetJoin.mk hzl hyl HQ.out (by omega) HP.out (Nat.le_refl _) B3.out
  have e1 : (zs = []) = False := eq_false (fun e => hz (by rw [e]; rfl))
  have g1 : (0 : Int) < (zs.length : Int) := by omega
  have d1 : decide (0 < zs.length) = true := decide_eq_true (by omega)
  by_cases hy : ys.length = 0
  · obtain rfl := List.eq_nil_of_length_eq_zero hy
    clear hy
    go_wp2
    go_ret2
    exact RetJoin.mk hzl hyl HQ.out (by omega) HP.out (Nat.le_refl _) B3.out
  have e2 : (ys = []) = False := eq_false (fun e => hy (by rw [e]; rfl))
  have g2 : (0 : Int) < (ys.length : Int) := by omega
  have d2 : decide (0 < ys.length) = true := decide_eq_true (by omega)
  go_wp2_with fail
  refine (pick_c w.heap.size A n1 c1 q2 6 _ H3.out (by omega) (by omega) (by omega)).mono ?_
  rintro e w4 ⟨k, rfl, k0, k1, hr, hg⟩
  have s4 := hg.size
  have HQ4 := Lib.hid (HQ.out.kept hg (fun r e => by cases e; exact .inl hs1))
  have HP4 := Lib.hid (HP.out.kept hg (fun r e => by cases e; exact .inl (by omega)))
  have B4 := Lib.hid (draw_below B3.out (Nat.le_refl _) hg)
  clear hr hg H3 B3 HQ HP
  by_cases hk : (0 : Int) < k
  · have d3 : decide ((0 : Int) < k) = true := decide_eq_true hk
    obtain ⟨m, hm⟩ : ∃ m, zs.length = m + 1 := ⟨zs.length - 1, by omega⟩
    have q1 : IntKind.i64.wrap ((zs.length : Int) - 1) = (m : Int) := by rw [show (zs.length : Int) - 1 = (m : Int) by omega]; exact IntWalk.i64_in _ (by omega)
    have g3 : (m : Int) < (zs.length : Int) := by omega
    have ha := HQ4.out.arg (by omega) (by omega)
    obtain ⟨b, off, rfl, _, _, hc⟩ := ha.rd.at_ (k := m) (by omega)
    obtain ⟨y, hy2⟩ : ∃ y, zs[m]?.getD 0 = y := ⟨_, rfl⟩
    rw [hy2] at hc
    obtain ⟨g, cap, ev, hck, hfk, hgb, hso, hsg⟩ := own_put HP4.out.1 (i := 0) (by omega) y
    injection ev with ev1 _ ev2
    subst ev1
    subst ev2
    have HQ5 := Lib.hid (HQ4.out.kept hsg (fun r e => by cases e; exact .inr hgb))
    have hB5 := B4.out.grown hsg B4.out.size (fun r e => by simp at e; have := B4.out.size; omega)
    have HB5 := Lib.hid hB5
    have HP5 := Lib.hid (Ow.of_own hso)
    have hyl5 : (ys.set 0 y).length ≤ 20 := by rw [List.length_set]; exact hyl
    have el : (ys.set 0 y).length = ys.length := List.length_set
    obtain ⟨Y, hY⟩ : ∃ Y, ys.set 0 y = Y := ⟨_, rfl⟩
    rw [hY] at HP5 hyl5 el
    have hsz : hsg.size = hsg.size := rfl
    have s5 := hsg.size
    clear hso hsg hB5 hY hsz hm ha hy2
    go_wp2
    go_ret2
    rw [← el]
    exact RetJoin.mk hzl hyl5 HQ5.out (by omega) HP5.out (Nat.le_refl _) HB5.out
  · have d3 : decide ((0 : Int) < k) = false := decide_eq_false hk
    go_wp2
    go_ret2
    exact RetJoin.mk hzl hyl HQ4.out (by omega) HP4.out (by omega) B4.out
end Go.Proofs.Ytndpdoiomoefpaa
