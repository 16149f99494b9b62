/-
  Drawn forecasts.
-/
import Derived.Test.YtodboccadccpfaaDoorOpen
import Derived.Lib.Hide
import Derived.Laws.Concat
namespace Go.Proofs.YtodboccadccpfaaDoor
open Go.RowKit

theorem grown_thenW {a b c : World} {row : Option Nat} (h : a.grownBy b row) (k : b.grownBy c row) : a.grownBy c row :=
  ⟨k.os.trans h.os, k.tape.trans h.tape, k.output.trans h.output, Nat.le_trans h.size k.size, fun i hi hne => (k.block i (Nat.lt_of_lt_of_le hi h.size) hne).trans (h.block i hi hne)⟩
theorem grown_belowW {a b c : World} {R : Nat} (h : a.grownBy b (some R)) (k : Below b.heap.size b c) : a.grownBy c (some R) :=
  ⟨k.os.trans h.os, k.tape.trans h.tape, k.output.trans h.output, Nat.le_trans h.size k.size, fun i hi hne => (k.block i (Nat.lt_of_lt_of_le hi h.size)).trans (h.block i hi hne)⟩
/-- what a drawn text is: short -/
def RetTxt (R : Nat) (A : Option Addr) (n c p m : Nat) (w : World) (e : Ending) (w' : World) : Prop :=
  ∃ (s : ByteArray) (q : Nat), e = .returned (.string s) ∧ s.size ≤ m ∧ Reader w' R A n c q ∧ q ≤ p + m + 2 ∧ w.grownBy w' (some R)
set_option maxRecDepth 100000 in
theorem of_c (R : Nat) (A : Option Addr) (n c p b : Nat) (s0 s1 s2 : ByteArray) (w : World) (h : Reader w R A n c p) (hp : p ≤ 50000) (hb : w.heap[b]? = some (.cells #[.string s0, .string s1, .string s2] 9 (0, 0))) (hbR : R < b)
    (h0 : s0.size = 1) (h1 : s1.size = 1) (h2 : s2.size = 1) :
    Calls Tryd.prog 68 #[.pointer (some ⟨R, 0, none⟩), .slice (some ⟨b, 0, none⟩) 3 3] w (fun e w' => ∃ s : ByteArray, e = .returned (.string s) ∧ s.size = 1 ∧ Reader w' R A n c (p + 1) ∧ w.grownBy w' (some R)) := by
  have H := Lib.hid h
  have Hb := Lib.hid hb
  have H0 := Lib.hid h0
  have H1 := Lib.hid h1
  have H2 := Lib.hid h2
  have hlt := (Array.getElem?_eq_some_iff.1 hb).1
  clear h hb h0 h1 h2
  go_enter Tryd.func68, Tryd.ntmps68
  go_wp2_with fail
  refine (pick_c R A n c p 3 _ H.out (by omega) (by omega) (by omega)).mono ?_
  rintro e w1 ⟨k, rfl, hk0, hk1, hr1, hg1⟩
  have hb1 : w1.heap[b]? = some (.cells #[.string s0, .string s1, .string s2] 9 (0, 0)) := (hg1.block b hlt (by simp; omega)).trans Hb.out
  have e0 := cell_of_row w1 b 0 _ _ _ hb1
  have e1 := cell_of_row w1 b 1 _ _ _ hb1
  have e2 := cell_of_row w1 b 2 _ _ _ hb1
  simp only [List.getElem?_toArray, List.getElem?_cons_zero, List.getElem?_cons_succ] at e0 e1 e2
  have Hr1 := Lib.hid hr1
  have Hg1 := Lib.hid hg1
  clear hr1 hg1 hb1
  have hk : k = 0 ∨ k = 1 ∨ k = 2 := by omega
  rcases hk with rfl | rfl | rfl
  · go_wp2
    go_ret
    exact ⟨s0, rfl, H0.out, Hr1.out, Hg1.out⟩
  · go_wp2
    go_ret
    exact ⟨s1, rfl, H1.out, Hr1.out, Hg1.out⟩
  · go_wp2
    go_ret
    exact ⟨s2, rfl, H2.out, Hr1.out, Hg1.out⟩

set_option maxRecDepth 100000 in
set_option maxHeartbeats 2000000 in
theorem l92Forecast_c (R : Nat) (A : Option Addr) (n c p most : Nat) (w : World) (h : Reader w R A n c p) (hRw : R < w.heap.size) (hp : p ≤ 20000) (hm : most ≤ 20) :
    Calls Tryd.prog 59 #[.pointer (some ⟨R, 0, none⟩), .int .i64 most] w (RetTxt R A n c p (most + 1) w) := by
  have H := Lib.hid h
  have q0 : IntKind.i64.wrap ((most : Int) + 1) = (most : Int) + 1 := IntWalk.i64_in _ (by omega)
  clear h
  go_enter Tryd.func59, Tryd.ntmps59
  go_wp2_with fail
  refine (pick_c R A n c p ((most : Int) + 1) _ H.out (by omega) (by omega) (by omega)).mono ?_
  rintro e w1 ⟨N, rfl, hN0, hN1, hr1, hg1⟩
  obtain ⟨N, rfl⟩ := Int.eq_ofNat_of_zero_le hN0
  have H1 := Lib.hid hr1
  have Hg1 := Lib.hid hg1
  clear hr1 hg1 q0
  have hN : N ≤ most := by omega
  go_wp2
  go_loopw [5, 7] (fun sv i wr => ∃ (k : Nat) (s : ByteArray), k ≤ N ∧ i = .int .i64 k ∧ sv = .string s ∧ s.size = k ∧ Reader wr R A n c (p + 1 + k) ∧ w.grownBy wr (some R)) (fun _ i _ => N - (intOf i).toNat)
  case atStart => exact ⟨0, ⟨#[]⟩, by omega, rfl, rfl, rfl, H1.out, Hg1.out⟩
  case round =>
    obtain ⟨k, s, hk, rfl, rfl, hsz, hrd, hgk⟩ := hrel
    have Hrd := Lib.hid hrd
    have Hgk := Lib.hid hgk
    have Hsz := Lib.hid hsz
    have hRk := Nat.lt_of_lt_of_le hRw hgk.size
    clear hrd hgk hsz
    obtain hlt | hge := Nat.lt_or_ge k N
    · have g1 : (k : Int) < (N : Int) := by omega
      have hof := fun (s0 s1 s2 : ByteArray) => of_c R A n c (p + 1 + k) wr.heap.size s0 s1 s2 (wr.alloc (.cells #[.string s0, .string s1, .string s2] 9)) (Hrd.out.kept (grown_alloc (World.grownBy.refl wr none) _) (by simp)) (by omega) (heap_alloc_new wr _) hRk
      have Hof := Lib.hid hof
      clear hof
      go_wp2_with fail
      refine (Hof.out _ _ _ rfl rfl rfl).mono ?_
      rintro e w2 ⟨t, rfl, ht, hr2, hg2⟩
      have Hr2 := Lib.hid hr2
      have Hg2 := Lib.hid (grown_thenW (grown_alloc Hgk.out _) hg2)
      have Ht := Lib.hid (show (s ++ t).size = k + 1 by rw [ByteArray.size_append, ht, Hsz.out])
      have c1 : (s.size : Int) ≤ 8388608 := by have := Hsz.out; omega
      have c2 : (t.size : Int) ≤ 8388608 := by omega
      have c3 : ¬ 9223372036854775807 < s.size + t.size := by omega
      clear hr2 hg2 ht
      go_wp2
      go_roundw
      case rel => exact ⟨k + 1, s ++ t, by omega, by go_num, rfl, Ht.out, by have := Hr2.out; rwa [show p + 1 + k + 1 = p + 1 + (k + 1) by omega] at this, Hg2.out⟩
      case measure => simp [intOf]; omega
    · obtain rfl : k = N := by omega
      have g1 : ¬ (k : Int) < (k : Int) := by omega
      go_wp2_with fail
      refine (pick_c R A n c (p + 1 + k) 30 _ Hrd.out (by omega) (by omega) (by omega)).mono ?_
      rintro e w2 ⟨x, rfl, hx0, hx1, hr2, hg2⟩
      have Hr2 := Lib.hid hr2
      have Hg2 := Lib.hid (grown_thenW Hgk.out hg2)
      have hR2 := Nat.lt_of_lt_of_le hRk hg2.size
      clear hr2 hg2
      by_cases hx : x = 0
      · subst hx
        have hof := fun (s0 s1 s2 : ByteArray) => of_c R A n c (p + 1 + k + 1) w2.heap.size s0 s1 s2 (w2.alloc (.cells #[.string s0, .string s1, .string s2] 9)) (Hr2.out.kept (grown_alloc (World.grownBy.refl w2 none) _) (by simp)) (by omega) (heap_alloc_new w2 _) hR2
        have Hof := Lib.hid hof
        clear hof
        go_wp2_with fail
        refine (Hof.out _ _ _ rfl rfl rfl).mono ?_
        rintro e w3 ⟨t, rfl, ht, hr3, hg3⟩
        have Hr3 := Lib.hid hr3
        have Hg3 := Lib.hid (grown_thenW (grown_alloc Hg2.out _) hg3)
        have Ht := Lib.hid (show (s ++ t).size = k + 1 by rw [ByteArray.size_append, ht, Hsz.out])
        have c1 : (s.size : Int) ≤ 8388608 := by have := Hsz.out; omega
        have c2 : (t.size : Int) ≤ 8388608 := by omega
        have c3 : ¬ 9223372036854775807 < s.size + t.size := by omega
        clear hr3 hg3 ht
        go_wp2
        go_ret
        exact ⟨s ++ t, _, rfl, by rw [Ht.out]; omega, Hr3.out, by omega, Hg3.out⟩
      · have g2 : (x == 0) = false := by simp [hx]
        go_wp2
        go_ret
        exact ⟨s, _, rfl, by rw [Hsz.out]; omega, Hr2.out, by omega, Hg2.out⟩

end Go.Proofs.YtodboccadccpfaaDoor
