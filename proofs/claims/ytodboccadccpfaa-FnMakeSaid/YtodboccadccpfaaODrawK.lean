/-
  Drawn orders: DrawStowageMake.
-/
import Derived.Test.YtodboccadccpfaaODrawL
namespace Go.Proofs.Ytodboccadccpfaa
open Go.RowKit

/-- the first of the ints in a block, as an argument -/
theorem arg_alloc (w : World) (arr : Array Value) (zs : List Int) (c : Nat) (t : TypeId) (h1 : zs.length ≤ 2097152) (h2 : zs.length ≤ c) (h3 : c ≤ maxLen) (h : ∀ j, j < zs.length → arr[j]? = some (.int .i64 (zs[j]?.getD 0))) :
    Arg (w.alloc (.cells arr t)) (some ⟨w.heap.size, 0, none⟩) c zs := by
  refine ⟨h1, h2, h3, fun _ => ⟨w.heap.size, 0, rfl, Nat.zero_le _, by simp, fun j hj => ?_⟩⟩
  rw [Nat.zero_add, cell_of_row _ _ j _ _ _ (heap_alloc_new w _)]
  exact h j hj
theorem seven (w : World) (zs : List Int) (t : TypeId) (hz : zs = [0, 1, 2, 3, 4] ∨ zs = [0, 1, 2, 3, 4, 5] ∨ zs = [0, 1, 2, 3, 4, 5, 6]) :
    Arg (w.alloc (.cells #[.int .i64 0, .int .i64 1, .int .i64 2, .int .i64 3, .int .i64 4, .int .i64 5, .int .i64 6] t)) (some ⟨w.heap.size, 0, none⟩) 7 zs := by
  have h7 : zs.length ≤ 7 := by rcases hz with rfl | rfl | rfl <;> simp
  refine arg_alloc w _ zs 7 t (by omega) h7 (by simp [maxLen]) fun j hj => ?_
  have hj7 : j < 7 := by omega
  rcases hz with rfl | rfl | rfl <;>
    rcases (show j = 0 ∨ j = 1 ∨ j = 2 ∨ j = 3 ∨ j = 4 ∨ j = 5 ∨ j = 6 by omega) with rfl | rfl | rfl | rfl | rfl | rfl | rfl <;>
    first | rfl | (simp at hj)

set_option maxRecDepth 100000 in
set_option maxHeartbeats 1000000 in
theorem DrawStowageMake_c (A : Option Addr) (n c : Nat) (w : World) (hn : n ≤ 9223372036854775807) (hnc : n ≤ c) (hb : Bytes w.heap.size w A n) :
    Calls Try.prog 45 #[.slice A n c] w fun e w' => ∃ B d zs, e = .returned (.slice B (zs : List Int).length d) ∧ zs.length ≤ 20 ∧ Arg w' B d zs ∧ Below w.heap.size w w' := by
  have Hb := Lib.hid hb
  clear hb
  go_enter Try.func45, Try.ntmps45
  go_wp2_with fail
  refine (l6Open_c A n c _ hn hnc Hb.out).mono ?_
  rintro e w1 ⟨n1, c1, rfl, hr1, hb1, hs1⟩
  have Hr1 := Lib.hid hr1
  have Hb1 := Lib.hid hb1
  clear hr1 hb1
  go_wp2_with fail
  refine (pick_c w.heap.size A n1 c1 0 8 _ Hr1.out (by omega) (by omega) (by omega)).mono ?_
  rintro e w2 ⟨k, rfl, k0, k1, hr2, hg2⟩
  have hs2 := hg2.size
  have Hr2 := Lib.hid hr2
  have Hb2 := Lib.hid (draw_below Hb1.out (Nat.le_refl _) hg2)
  clear hr2 hg2
  by_cases hk : k = 0
  · subst hk
    obtain ⟨o, ho⟩ : ∃ o : Obj, o = .cells #[.int .i64 0, .int .i64 1, .int .i64 2, .int .i64 3, .int .i64 4, .int .i64 5, .int .i64 6] 3 := ⟨_, rfl⟩
    have Hr3 := Lib.hid (Hr2.out.kept (World.grownBy_alloc w2 o none) (by simp))
    have Hb3 := Lib.hid (Hb2.out.alloc (by have := Hb2.out.size; exact this) o)
    have HS := Lib.hid (fun zs hz => seven w2 zs 3 hz)
    rw [← ho] at HS
    go_wp2_with fail
    rw [← ho]
    refine (pick_c w.heap.size A n1 c1 (0 + 1) 3 _ Hr3.out (by omega) (by omega) (by omega)).mono ?_
    rintro e w4 ⟨x, rfl, x0, x1, hr4, hg4⟩
    have Hb4 := Lib.hid (draw_below Hb3.out (Nat.le_refl _) hg4)
    have Harg := Lib.hid (fun (zs : List Int) (hz : zs = [0, 1, 2, 3, 4] ∨ zs = [0, 1, 2, 3, 4, 5] ∨ zs = [0, 1, 2, 3, 4, 5, 6]) =>
      (show Arg w4 (some ⟨w2.heap.size, 0, none⟩) 7 zs from by
        obtain ⟨a1, a2, a3, a4⟩ := HS.out zs hz
        refine ⟨a1, a2, a3, fun hp => ?_⟩
        obtain ⟨b, off, e, _, _, hc⟩ := a4 hp
        injection e with e
        injection e with e1 e2
        subst e1
        subst e2
        exact ⟨w2.heap.size, 0, rfl, Nat.zero_le _, by have := hg4.size; simp at this; omega, fun j hj => hg4.cell (hc j hj) (show some w2.heap.size ≠ some w.heap.size by simp; omega)⟩))
    clear hr4 hg4 HS
    rcases (show x = 0 ∨ x = 1 ∨ x = 2 by omega) with rfl | rfl | rfl
    · go_wp2
      go_ret
      exact ⟨_, 7, [0, 1, 2, 3, 4], rfl, by simp, Harg.out _ (.inl rfl), Hb4.out⟩
    · go_wp2
      go_ret
      exact ⟨_, 7, [0, 1, 2, 3, 4, 5], rfl, by simp, Harg.out _ (.inr (.inl rfl)), Hb4.out⟩
    · go_wp2
      go_ret
      exact ⟨_, 7, [0, 1, 2, 3, 4, 5, 6], rfl, by simp, Harg.out _ (.inr (.inr rfl)), Hb4.out⟩
  · have e1 : (k == 0) = false := beq_eq_false_iff_ne.2 hk
    go_wp2_with fail
    refine (l92Orders_c w.heap.size A n1 c1 (0 + 1) 9 _ Hr2.out (by omega) (by omega) (by omega) (by omega)).mono ?_
    rintro e w4 ⟨B, d, zs, q, rfl, hl, ha, ho, hr4, hq, hg4⟩
    have Hb4 := Lib.hid (draw_below Hb2.out (Nat.le_refl _) hg4)
    have Ha := Lib.hid ha
    clear ha ho hr4 hg4
    go_wp2
    go_ret
    exact ⟨B, d, zs, rfl, hl, Ha.out, Hb4.out⟩

end Go.Proofs.Ytodboccadccpfaa
