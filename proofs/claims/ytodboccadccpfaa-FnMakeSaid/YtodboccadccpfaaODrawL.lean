/-
  Drawn coils: l91At.
-/
import Derived.Test.YtodboccadccpfaaODraw
namespace Go.Proofs.Ytodboccadccpfaa
open Go.RowKit

/-- a drawn number -/
def RetNum (R : Nat) (A : Option Addr) (n c p : Nat) (w : World) (e : Ending) (w' : World) : Prop :=
  ∃ (x : Int) (q : Nat), e = .returned (.int .i64 x) ∧ Reader w' R A n c q ∧ q ≤ p + 3 ∧ w.grownBy w' (some R)
theorem draw_below {w a b : World} {R : Nat} (h : Below w.heap.size w a) (hR : w.heap.size ≤ R) (hg : a.grownBy b (some R)) : Below w.heap.size w b := h.grown hg h.size (fun r e => by cases e; exact hR)

set_option maxRecDepth 100000 in
set_option maxHeartbeats 2000000 in
theorem l91At_c (R : Nat) (A : Option Addr) (n c p : Nat) (m : Nat) (w : World) (h : Reader w R A n c p) (hRw : R < w.heap.size) (hp : p ≤ 50000) (hm1 : m ≤ 20) :
    Calls Try.prog 78 #[.pointer (some ⟨R, 0, none⟩), .int .i64 m] w (RetNum R A n c p w) := by
  have H := Lib.hid h
  clear h
  go_enter Try.func78, Try.ntmps78
  have tail : ∀ (p' : Nat) (w1 : World), p' ≤ p + 1 → Reader w1 R A n c p' → w.grownBy w1 (some R) →
      Hid (Reader (w1.alloc (.cells #[.int .i64 (-1), .int .i64 m] 3)) R A n c p' ∧ w.grownBy (w1.alloc (.cells #[.int .i64 (-1), .int .i64 m] 3)) (some R) ∧
        (w1.alloc (.cells #[.int .i64 (-1), .int .i64 m] 3)).cell? ⟨w1.heap.size, 0, none⟩ = some (.int .i64 (-1)) ∧ (w1.alloc (.cells #[.int .i64 (-1), .int .i64 m] 3)).cell? ⟨w1.heap.size, 1, none⟩ = some (.int .i64 m)) := fun p' w1 hp' hr hg => Lib.hid
    ⟨hr.kept (World.grownBy_alloc w1 _ none) (by simp), grown_alloc hg _, cell_of_row _ _ 0 _ _ _ (heap_alloc_new w1 _), cell_of_row _ _ 1 _ _ _ (heap_alloc_new w1 _)⟩
  have Tail := Lib.hid tail
  clear tail
  by_cases hm : m = 0
  · subst hm
    have T := Tail.out p w (by omega) H.out (World.grownBy.refl w _)
    go_wp2_with fail
    refine (pick_c R A n c p 2 _ T.out.1 (by omega) (by omega) (by omega)).mono ?_
    rintro e w6 ⟨k5, rfl, k50, k51, hr6, hg6⟩
    have H6 := Lib.hid hr6
    have Hg6 := Lib.hid (grown_then T.out.2.1 hg6)
    have hc0 := hg6.cell T.out.2.2.1 (show some w.heap.size ≠ some R by simp; omega)
    have hc1 := hg6.cell T.out.2.2.2 (show some w.heap.size ≠ some R by simp; omega)
    clear hr6 hg6
    rcases (show k5 = 0 ∨ k5 = 1 by omega) with h5 | h5
    all_goals
      subst h5
      go_wp2
      go_ret
      exact ⟨_, _, rfl, H6.out, by omega, Hg6.out⟩
  · have gm : ((m : Int) = 0) = False := eq_false (by omega)
    have gm2 : ((m : Int) == 0) = false := beq_eq_false_iff_ne.2 (by omega)
    go_wp2_with fail
    refine (pick_c R A n c p 20 _ H.out (by omega) (by omega) (by omega)).mono ?_
    rintro e w1 ⟨k1, rfl, k10, k11, hr1, hg1⟩
    have H1 := Lib.hid hr1
    have Hg1 := Lib.hid hg1
    have hs1 := hg1.size
    clear hr1 hg1
    by_cases hk1 : k1 = 0
    · subst hk1
      have T := Tail.out (p + 1) w1 (by omega) H1.out Hg1.out
      go_wp2_with fail
      refine (pick_c R A n c (p + 1) 2 _ T.out.1 (by omega) (by omega) (by omega)).mono ?_
      rintro e w6 ⟨k5, rfl, k50, k51, hr6, hg6⟩
      have H6 := Lib.hid hr6
      have Hg6 := Lib.hid (grown_then T.out.2.1 hg6)
      have hc0 := hg6.cell T.out.2.2.1 (show some w1.heap.size ≠ some R by simp; omega)
      have hc1 := hg6.cell T.out.2.2.2 (show some w1.heap.size ≠ some R by simp; omega)
      clear hr6 hg6
      rcases (show k5 = 0 ∨ k5 = 1 by omega) with h5 | h5
      all_goals
        subst h5
        go_wp2
        go_ret
        exact ⟨_, _, rfl, H6.out, by omega, Hg6.out⟩
    · have gk : (k1 == 0) = false := beq_eq_false_iff_ne.2 hk1
      go_wp2_with fail
      refine (pick_c R A n c (p + 1) m _ H1.out (by omega) (by omega) (by omega)).mono ?_
      rintro e w6 ⟨k5, rfl, k50, k51, hr6, hg6⟩
      have H6 := Lib.hid hr6
      have Hg6 := Lib.hid (grown_then Hg1.out hg6)
      clear hr6 hg6
      go_wp2
      go_ret
      exact ⟨_, _, rfl, H6.out, by omega, Hg6.out⟩

end Go.Proofs.Ytodboccadccpfaa
