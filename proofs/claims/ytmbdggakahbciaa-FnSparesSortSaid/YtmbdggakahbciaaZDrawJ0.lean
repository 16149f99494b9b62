/-
  The drawn joints: l91Joint.
-/
import Derived.Test.YtmbdggakahbciaaZDraw
import Derived.Test.YtmbdggakahbciaaChp
namespace Go.Proofs.Ytmbdggakahbciaa
open Go.RowKit

theorem draw_below {w a b : World} {R : Nat} (h : Below w.heap.size w a) (hR : w.heap.size ≤ R) (hg : a.grownBy b (some R)) : Below w.heap.size w b := h.grown hg h.size (fun r e => by cases e; exact hR)
theorem quo_pick {a m d : Int} (h0 : 0 ≤ a) (h1 : a < m) (hm : m ≤ 2 * d) (hd : 0 < d) : ∃ y : Int, a.tdiv d = y ∧ 0 ≤ y ∧ y ≤ 1 := by
  refine ⟨a / d, Int.tdiv_eq_ediv_of_nonneg h0, Int.ediv_nonneg h0 (by omega), ?_⟩
  have : a / d < 2 := Int.ediv_lt_of_lt_mul hd (by omega)
  omega

/-- spares and two small numbers -/
def RetJo (R : Nat) (A : Option Addr) (n c : Nat) (w : World) (e : Ending) (w' : World) : Prop :=
  ∃ B d zs q k m, e = .returned (.tuple #[.slice B (zs : List Spr).length d, .int .i64 k, .int .i64 m]) ∧ zs.length ≤ 12 ∧ 0 ≤ k ∧ k ≤ 1 ∧ -100 ≤ m ∧ m ≤ 600 ∧ ArgZ w' B d zs ∧ Reader w' R A n c q ∧ w.grownBy w' (some R)

set_option maxRecDepth 100000 in
set_option maxHeartbeats 4000000 in
theorem l91Joint_c (R : Nat) (A : Option Addr) (n c p : Nat) (w : World) (h : Reader w R A n c p) (hRw : R < w.heap.size) (hp : p ≤ 40000) :
    Calls Try.prog 63 #[.pointer (some ⟨R, 0, none⟩)] w (RetJo R A n c w) := by
  have H0 := Lib.hid h
  clear h
  go_enter Try.func63, Try.ntmps63
  go_wp2_with fail
  refine (l91Spares_c R A n c p 7 _ H0.out hRw (by omega) (by omega)).mono ?_
  rintro e w1 ⟨B, d, zs, q, rfl, hzl, _, ho1, hr1, hq, hg1⟩
  have s1 := hg1.size
  have HA1 := Lib.hid ho1
  have HR1 := Lib.hid hr1
  have HG1 := Lib.hid hg1
  clear ho1 hr1 hg1 H0
  go_wp2_with fail
  refine (pick_c R A n c q 3 _ HR1.out (by omega) (by omega) (by omega)).mono ?_
  rintro e w2 ⟨k2, rfl, k20, k21, hr2, hg2⟩
  obtain ⟨y2, ht2, y20, y21⟩ := quo_pick (d := 2) k20 k21 (by omega) (by omega)
  have s2 := hg2.size
  have HA2 := Lib.hid (HA1.out.kept hg2 (fun r e => by cases e; exact .inl hRw))
  have HR2 := Lib.hid hr2
  have HG2 := Lib.hid (grown_then HG1.out hg2)
  clear hr2 hg2 HA1 HR1 HG1
  go_wp2_with fail
  refine (pick_c R A n c (q + 1) 30 _ HR2.out (by omega) (by omega) (by omega)).mono ?_
  rintro e w3 ⟨k3, rfl, k30, k31, hr3, hg3⟩
  have s3 := hg3.size
  have HA3 := Lib.hid (HA2.out.kept hg3 (fun r e => by cases e; exact .inl hRw))
  have HR3 := Lib.hid hr3
  have HG3 := Lib.hid (grown_then HG2.out hg3)
  clear hr3 hg3 HA2 HR2 HG2
  go_wp2_with fail
  refine (pick_c R A n c (q + 2) 20 _ HR3.out (by omega) (by omega) (by omega)).mono ?_
  rintro e w4 ⟨k4, rfl, k40, k41, hr4, hg4⟩
  obtain ⟨y4, ht4, y40, y41⟩ := quo_pick (d := 19) k40 k41 (by omega) (by omega)
  have s4 := hg4.size
  have HA4 := Lib.hid (HA3.out.kept hg4 (fun r e => by cases e; exact .inl hRw))
  have HR4 := Lib.hid hr4
  have HG4 := Lib.hid (grown_then HG3.out hg4)
  clear hr4 hg4 HA3 HR3 HG3
  go_wp2_with fail
  refine (pick_c R A n c (q + 3) 20 _ HR4.out (by omega) (by omega) (by omega)).mono ?_
  rintro e w5 ⟨k5, rfl, k50, k51, hr5, hg5⟩
  obtain ⟨y5, ht5, y50, y51⟩ := quo_pick (d := 19) k50 k51 (by omega) (by omega)
  have s5 := hg5.size
  have HA5 := Lib.hid (HA4.out.kept hg5 (fun r e => by cases e; exact .inl hRw))
  have HR5 := Lib.hid hr5
  have HG5 := Lib.hid (grown_then HG4.out hg5)
  clear hr5 hg5 HA4 HR4 HG4
  go_wp2
  go_ret3
  exact ⟨B, d, zs, _, y2, 1 + k3 - y4 * 31 + y5 * 500, rfl, hzl, by omega, by omega, by omega, by omega, HA5.out.arg (by omega) (by omega), HR5.out, HG5.out⟩

/-- spares and two small numbers -/
def RetJoint (w : World) (e : Ending) (w' : World) : Prop :=
  ∃ B d zs k m, e = .returned (.tuple #[.slice B (zs : List Spr).length d, .int .i64 k, .int .i64 m]) ∧ zs.length ≤ 12 ∧ 0 ≤ k ∧ k ≤ 1 ∧ -100 ≤ m ∧ m ≤ 600 ∧ ArgZ w' B d zs ∧ Below w.heap.size w w'

end Go.Proofs.Ytmbdggakahbciaa
