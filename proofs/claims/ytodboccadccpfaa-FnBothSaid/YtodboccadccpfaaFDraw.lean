/-
  The drawn faults: l91Fault.
-/
import Derived.Test.YtodboccadccpfaaCDrawM
import Derived.Test.YtodboccadccpfaaFltOS
import Derived.Test.YtodboccadccpfaaTwoK
namespace Go.Proofs.Ytodboccadccpfaa
open Go.RowKit

/-- a cable of at most 20 sections and a fault of small numbers -/
def RetFlt (R : Nat) (A : Option Addr) (n c p : Nat) (w : World) (e : Ending) (w' : World) : Prop :=
  ∃ B d zs f q, e = .returned (.tuple #[.slice B (zs : List Sec).length d, .agg #[.int .i64 (f : Flt).m, .int .i64 f.o]]) ∧ zs.length ≤ 20 ∧ OwC 129 w.heap.size w'.heap.size w' (.slice B zs.length d) zs ∧ Reader w' R A n c q ∧ q ≤ p + 300 ∧ w.grownBy w' (some R) ∧ (-1 ≤ f.m ∧ f.m ≤ 1001) ∧ -1 ≤ f.o ∧ f.o ≤ 1001
theorem fourF {j : Nat} (h : (j : Int) < 4) : ∃ x : Int, -1 ≤ x ∧ x ≤ 1001 ∧ (#[Value.int .i64 (-1), Value.int .i64 1000, Value.int .i64 1001, Value.int .i64 0])[j]? = some (.int .i64 x) := by
  obtain rfl | rfl | rfl | rfl : j = 0 ∨ j = 1 ∨ j = 2 ∨ j = 3 := by omega
  · exact ⟨-1, by omega, by omega, rfl⟩
  · exact ⟨1000, by omega, by omega, rfl⟩
  · exact ⟨1001, by omega, by omega, rfl⟩
  · exact ⟨0, by omega, by omega, rfl⟩

set_option maxRecDepth 100000 in
set_option maxHeartbeats 4000000 in
theorem l91Fault_c (R : Nat) (A : Option Addr) (n c p : Nat) (w : World) (h : Reader w R A n c p) (hRw : R < w.heap.size) (hp : p ≤ 30000) :
    Calls Try.prog 72 #[.pointer (some ⟨R, 0, none⟩)] w (RetFlt R A n c p w) := by
  obtain ⟨w0, hw0⟩ : ∃ w0, w.alloc (.cells #[.int .i64 0, .int .i64 0] 44) = w0 := ⟨_, rfl⟩
  have hR : TwoAt 44 w0 w.heap.size 0 0 := by rw [← hw0]; exact TwoAt.new _ w 0 0
  have hg0 : w.grownBy w0 (some R) := by rw [← hw0]; exact grown_alloc (World.grownBy.refl w _) _
  have hr0 : Reader w0 R A n c p := by rw [← hw0]; exact h.kept (World.grownBy_alloc w _ none) (by simp)
  have hs0 : w0.heap.size = w.heap.size + 1 := by rw [← hw0]; simp
  have HR0 := Lib.hid hR
  have HG0 := Lib.hid hg0
  have H0 := Lib.hid hr0
  have Hw0 := Lib.hid hw0
  clear h hR hg0 hr0 hw0
  go_enter Try.func72, Try.ntmps72
  go_wp2_with fail
  rw [Hw0.out]
  refine (l91Mile_c R A n c p _ H0.out (by omega) (by omega)).mono ?_
  rintro e w1 ⟨B, d, zs, x, q, rfl, hzl, hx0, hx1, ho1, hr1, hq, hg1⟩
  have s1 := hg1.size
  have HT1 := Lib.hid (HR0.out.grown hg1 (fun r e => by cases e; omega))
  have HO1 := Lib.hid ho1
  have HR1 := Lib.hid hr1
  have HG1 := Lib.hid (grown_then HG0.out hg1)
  clear ho1 hr1 hg1 H0 HR0 HG0
  go_wp2_with fail
  refine (pick_c R A n c q 40 _ HR1.out (by omega) (by omega) (by omega)).mono ?_
  rintro e w2 ⟨k2, rfl, k20, k21, hr2, hg2⟩
  have s2 := hg2.size
  obtain ⟨W2, hW2⟩ : ∃ W2, w2.alloc (.cells #[.int .i64 x, .int .i64 k2] 44) = W2 := ⟨_, rfl⟩
  have hgA : w2.grownBy W2 none := by rw [← hW2]; exact World.grownBy_alloc w2 _ none
  have sA : W2.heap.size = w2.heap.size + 1 := by rw [← hW2]; simp
  have HF2 := Lib.hid (show TwoAt 44 W2 w2.heap.size x k2 by rw [← hW2]; exact TwoAt.new _ w2 x k2)
  have HT2 := Lib.hid ((HT1.out.grown hg2 (fun r e => by cases e; omega)).grown hgA (by simp))
  have HO2 := Lib.hid ((HO1.out.kept hg2 (fun r e => by cases e; exact .inl (by omega))).kept hgA (by simp))
  have HR2 := Lib.hid (hr2.kept hgA (by simp))
  have HG2 := Lib.hid (grown_new (grown_then HG1.out hg2) hgA (by simp))
  have HW2 := Lib.hid hW2
  clear hr2 hg2 hgA hW2 HT1 HO1 HR1 HG1
  go_wp2_with fail
  rw [HW2.out]
  refine (pick_c R A n c (q + 1) 16 _ HR2.out (by omega) (by omega) (by omega)).mono ?_
  rintro e w3 ⟨k3, rfl, k30, k31, hr3, hg3⟩
  have s3 := hg3.size
  have HF3 := Lib.hid (HF2.out.grown hg3 (fun r e => by cases e; omega))
  have HT3 := Lib.hid (HT2.out.grown hg3 (fun r e => by cases e; omega))
  have HO3 := Lib.hid (HO2.out.kept hg3 (fun r e => by cases e; exact .inl (by omega)))
  have HR3 := Lib.hid hr3
  have HG3 := Lib.hid (grown_then HG2.out hg3)
  clear hr3 hg3 HF2 HT2 HO2 HR2 HG2
  obtain rfl | hk3 := Classical.em (k3 = 0)
  · obtain ⟨W3, hW3⟩ : ∃ W3, w3.alloc (.cells #[.int .i64 (-1), .int .i64 1000, .int .i64 1001, .int .i64 0] 3) = W3 := ⟨_, rfl⟩
    have hgA : w3.grownBy W3 none := by rw [← hW3]; exact World.grownBy_alloc w3 _ none
    have sB : W3.heap.size = w3.heap.size + 1 := by rw [← hW3]; simp
    have row : W3.heap[w3.heap.size]? = some (.cells #[.int .i64 (-1), .int .i64 1000, .int .i64 1001, .int .i64 0] 3 (0, 0)) := by rw [← hW3]; exact heap_alloc_new w3 _
    have HRa := Lib.hid (HR3.out.kept hgA (by simp))
    have HW3 := Lib.hid hW3
    have Row := Lib.hid row
    have HgA := Lib.hid hgA
    clear hW3 row hgA
    go_wp2_with fail
    rw [HW3.out]
    refine (pick_c R A n c (q + 1 + 1) 4 _ HRa.out (by omega) (by omega) (by omega)).mono ?_
    rintro e w4 ⟨k4, rfl, k40, k41, hr4, hg4⟩
    have s4 := hg4.size
    obtain ⟨j, rfl⟩ := Int.eq_ofNat_of_zero_le k40
    obtain ⟨y, hy0, hy1, hy⟩ := fourF k41
    have hcy := (cell_of_row w4 _ j _ _ _ ((hg4.block w3.heap.size (by omega) (by simp; omega)).trans Row.out)).trans hy
    have hF4 := ((HF3.out.grown HgA.out (by simp)).grown hg4 (fun r e => by cases e; omega))
    have c0 := hF4.c0
    have c1 := hF4.c1
    have z1 := hF4.fz 1
    have hgX : w4.grownBy (w4.setCell ⟨w2.heap.size, 1, none⟩ (.int .i64 y)) (some w2.heap.size) := ⟨rfl, rfl, rfl, by simp [World.setCell], fun k _ hne => Below.heap_setCell _ ⟨w2.heap.size, 1, none⟩ _ k (fun e => hne (by rw [e]))⟩
    have HFx := Lib.hid (show TwoAt 44 (w4.setCell ⟨w2.heap.size, 1, none⟩ (.int .i64 y)) w2.heap.size x y from heap_set1 hF4 _)
    have HTx := Lib.hid ((((HT3.out.grown HgA.out (by simp)).grown hg4 (fun r e => by cases e; omega))).grown hgX (fun r e => by cases e; omega))
    have HOx := Lib.hid ((((HO3.out.kept HgA.out (by simp)).kept hg4 (fun r e => by cases e; exact .inl (by omega)))).kept hgX (fun r e => by cases e; exact .inr (by omega)))
    have HRx := Lib.hid (hr4.kept hgX (fun r e => by cases e; omega))
    have HGx := Lib.hid (grown_new (grown_then (grown_new HG3.out HgA.out (by simp)) hg4) hgX (fun r e => by cases e; omega))
    have sX := hgX.size
    clear hr4 hg4 hF4 hgX hy
    have fT := (HTx.out).all x y
    obtain ⟨⟨t0, t1, f0, f1⟩, e0, e1⟩ := fT
    have k0 := (HFx.out).c0
    have k1 := (HFx.out).c1
    have sx := HGx.out.size
    have hgw := two_grown (w4.setCell ⟨w2.heap.size, 1, none⟩ (.int .i64 y)) w.heap.size (.int .i64 x) (.int .i64 y)
    have HRf := Lib.hid (HRx.out.kept hgw (fun r e => by cases e; exact hRw))
    have HOf := Lib.hid (HOx.out.kept hgw (fun r e => by cases e; exact .inl (by omega)))
    have HGf := Lib.hid (grown_new HGx.out hgw (fun r e => by cases e; exact Nat.le_refl _))
    clear hgw
    go_wp2
    go_region
    all_goals
      go_wp2
      exact bodyPost_ret (v := .tuple #[.slice B zs.length d, .agg #[.int .i64 x, .int .i64 y]]) (by simp [results, Try.results72, go_sem, e0, e1]) rfl ⟨B, d, zs, ⟨x, y⟩, _, rfl, hzl, ((HOf.out.kept (grown_drew (World.grownBy.refl _ none)) (by simp)).more (by omega) (by simp [World.setCell]; omega)), HRf.out.kept (grown_drew (World.grownBy.refl _ none)) (by simp), by omega, grown_drew HGf.out, by dsimp only; omega, by dsimp only; omega⟩
  · have b0 : (k3 == 0) = false := by simpa using hk3
    have HFx := HF3
    have HTx := HT3
    have HOx := HO3
    have HRx := HR3
    have HGx := HG3
    have fT := (HTx.out).all x k2
    obtain ⟨⟨t0, t1, f0, f1⟩, e0, e1⟩ := fT
    have k0 := (HFx.out).c0
    have k1 := (HFx.out).c1
    have sx := HGx.out.size
    have hgw := two_grown w3 w.heap.size (.int .i64 x) (.int .i64 k2)
    have HRf := Lib.hid (HRx.out.kept hgw (fun r e => by cases e; exact hRw))
    have HOf := Lib.hid (HOx.out.kept hgw (fun r e => by cases e; exact .inl (by omega)))
    have HGf := Lib.hid (grown_new HGx.out hgw (fun r e => by cases e; exact Nat.le_refl _))
    clear hgw
    go_wp2
    go_region
    all_goals
      go_wp2
      exact bodyPost_ret (v := .tuple #[.slice B zs.length d, .agg #[.int .i64 x, .int .i64 k2]]) (by simp [results, Try.results72, go_sem, e0, e1]) rfl ⟨B, d, zs, ⟨x, k2⟩, _, rfl, hzl, ((HOf.out.kept (grown_drew (World.grownBy.refl _ none)) (by simp)).more (by omega) (by simp [World.setCell]; omega)), HRf.out.kept (grown_drew (World.grownBy.refl _ none)) (by simp), by omega, grown_drew HGf.out, by dsimp only; omega, by dsimp only; omega⟩

end Go.Proofs.Ytodboccadccpfaa
