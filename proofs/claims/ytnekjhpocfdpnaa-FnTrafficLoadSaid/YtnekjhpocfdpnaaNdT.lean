/-
  The drawn nets: DrawTrafficLoad.
-/
import Derived.Test.YtnekjhpocfdpnaaNdB
namespace Go.Proofs.Ytnekjhpocfdpnaa
open Go.RowKit

theorem draw_belowW {w a b : World} {R : Nat} (h : Below w.heap.size w a) (hR : w.heap.size ≤ R) (hg : a.grownBy b (some R)) : Below w.heap.size w b := h.grown hg h.size (fun r e => by cases e; exact hR)
/-- a net and two stations -/
def RetCl (w : World) (e : Ending) (w' : World) : Prop :=
  ∃ (m : Nat), ∃ B d zs, ∃ (f t : Int), e = .returned (.tuple #[.int .i64 (m : Int), .slice B (zs : List Lin).length d, .int .i64 f, .int .i64 t]) ∧ 2 ≤ m ∧ m ≤ 5 ∧ zs.length ≤ 7 ∧ (0 ≤ f ∧ f < (m : Int)) ∧ (-1 ≤ t ∧ t ≤ (m : Int)) ∧ ArgL w' B d zs ∧ Below w.heap.size w w'
set_option maxRecDepth 100000 in
set_option maxHeartbeats 2000000 in
theorem DrawTrafficLoad_c (A : Option Addr) (n c : Nat) (w : World) (hn : n ≤ 9223372036854775807) (hnc : n ≤ c) (hb : Bytes w.heap.size w A n) :
    Calls Try.prog 15 #[.slice A n c] w (RetCl w) := by
  have Hb := Lib.hid hb
  clear hb
  go_enter Try.func15, Try.ntmps15
  go_wp2_with fail
  refine (l6Open_c A n c _ hn hnc Hb.out).mono ?_
  rintro e w0 ⟨n1, c1, rfl, hr0, hb0, hs0⟩
  have H0 := Lib.hid hr0
  have HB0 := Lib.hid hb0
  obtain ⟨R, hR⟩ : ∃ R, w.heap.size = R := ⟨_, rfl⟩
  rw [hR] at H0 hs0
  have hRR : w.heap.size ≤ R := by omega
  clear hr0 hb0
  go_wp2_with fail
  refine (l92Two_c R A n1 c1 0 _ H0.out hs0 (by omega)).mono ?_
  rintro e w1 ⟨m, B, d, zs, f, t, q, rfl, hm2, hm5, hzl, hf, ht, ho1, hr1, hq, hg1⟩
  have Ha := Lib.hid (ho1.arg (by omega) (Nat.le_refl _))
  have HB1 := Lib.hid (draw_belowW HB0.out hRR hg1)
  clear ho1 hr1 hg1 hR
  go_wp2
  refine bodyPost_ret (v := .tuple #[.int .i64 (m : Int), .slice B zs.length d, .int .i64 f, .int .i64 t]) (by simp [results, Try.results15, go_sem]) rfl ?_
  exact ⟨m, B, d, zs, f, t, rfl, hm2, hm5, hzl, hf, ht, Ha.out, HB1.out⟩

end Go.Proofs.Ytnekjhpocfdpnaa
