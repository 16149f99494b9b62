/-
  slices.Grow at nil; slices.Concat of two slices.
-/
import Derived.Test.YtndpdoiomoefpaaPart
import Derived.Lib.AppendZerosOnto
namespace Go.Proofs.Ytndpdoiomoefpaa
open Go.RowKit

set_option maxRecDepth 100000 in
set_option maxHeartbeats 1000000 in
/-- slices.Grow(nil, n): a new, empty slice with room. -/
theorem grow_c (n : Nat) (w : World) (hn : 1 ≤ n) (hl : n ≤ 4194304) :
    Calls Try.prog 111 #[.slice none 0 0, .int .i64 (n : Int)] w fun e w' =>
      ∃ G, e = .returned (.slice (some ⟨w.heap.size, 0, none⟩) 0 G) ∧ w'.ownsRow w.heap.size 3 1 (.slice (some ⟨w.heap.size, 0, none⟩) 0 G) 0 [] ∧ Below w.heap.size w w' := by
  obtain ⟨i0, hi, hz0, hz1, hz2⟩ := info_parts int_info
  have hold : (Builtin.firstCells i0.size 0 (.slice none 0 0)).run Try.prog w.drew = .ok (#[] : Array Value) w.drew := run_firstCells_none w.drew i0.size 0 0 0
  have hrz := Lib.run_append_grow_zeros (P := Try.prog) w 23 3 23 3 i0 (.int .i64 0) .i64 .i64 Try.underlying23 Try.underlying3 hi hz0 none 0 0 [] hold n (by omega) (by omega) (by omega) (by omega) (by rw [hz2]; omega)
    (by rw [hz2]; exact growslice_fits (by omega) (by omega))
  have hGn : n ≤ grownCap w (0 + n) 0 3 := by have := grownCap_ge w (0 + n) 0 3; omega
  obtain ⟨G, hG⟩ : ∃ G, G = grownCap w (0 + n) 0 3 := ⟨_, rfl⟩
  rw [← hG] at hrz hGn
  have hG63 : G ≤ maxLen := by
    have := grownCap_le_maxLen w (0 + n) 0 3 (by unfold maxLen; omega)
    rwa [← hG] at this
  rw [Nat.zero_add] at hrz
  obtain ⟨C, hC⟩ : ∃ C, C = ([].toArray ++ Builtin.zeroCells (Value.cells (.int .i64 0)) n ++ Builtin.zeroCells (Value.cells (.int .i64 0)) (G - n) : Array Value) := ⟨_, rfl⟩
  have hCs : C.size = G * 1 := by rw [hC]; simp [size_zeroCells, Value.cells]; omega
  rw [← hC] at hrz
  have HC := Lib.hid hC
  have HCs := Lib.hid hCs
  have HG := Lib.hid hG
  have hG64 : G ≤ 9223372036854775807 := by unfold maxLen at hG63; omega
  clear hC hCs hG hold
  go_enter Try.func111, Try.ntmps111
  go_wp2_with (at_builtin; refine Lib.wpList_append_run _ rfl _ _ _ _ rfl _ _ rfl rfl _ _ hrz ?_)
  go_ret
  exact ⟨G, rfl, World.ownsRow_made (w.drew) C G (Nat.le_refl _) hG63 HCs.out, (Below.refl _ w).drew.alloc (Nat.le_refl _) _⟩

def sizeTo (m n : Nat) : Nat → Nat
  | 0 => 0
  | 1 => m
  | _ => m + n
def listTo (xs ys : List Int) : Nat → List Int
  | 0 => []
  | 1 => xs
  | _ => xs ++ ys

set_option maxRecDepth 100000 in
set_option maxHeartbeats 2000000 in
/-- slices.Concat of two slices of an element at least. -/
theorem concat_c (g b1 o1 c1 b2 o2 c2 : Nat) (xs ys : List Int) (w : World) (h1 : w.cell? ⟨g, 0, none⟩ = some (.slice (some ⟨b1, o1, none⟩) xs.length c1)) (h2 : w.cell? ⟨g, 1, none⟩ = some (.slice (some ⟨b2, o2, none⟩) ys.length c2)) (hg : g < w.heap.size)
    (ha : Arg w (some ⟨b1, o1, none⟩) c1 xs) (hb : Arg w (some ⟨b2, o2, none⟩) c2 ys) (hx : 1 ≤ xs.length) (hy : 1 ≤ ys.length) (hl : xs.length + ys.length ≤ 2097152) :
    Calls Try.prog 84 #[.slice (some ⟨g, 0, none⟩) 2 2] w (RetS 3 id (xs ++ ys) w) := by
  obtain ⟨i0, hi, hz0, hz1, hz2⟩ := info_parts int_info
  obtain ⟨_, _, e1, _, hb1, hc1⟩ := ha.rd (by omega)
  obtain ⟨_, _, e2, _, hb2, hc2⟩ := hb.rd (by omega)
  injection e1 with e1
  injection e1 with e3 e4 _
  subst e3; subst e4
  injection e2 with e2
  injection e2 with e5 e6 _
  subst e5; subst e6
  have H1 := Lib.hid h1
  have H2 := Lib.hid h2
  have Hx1 := Lib.hid (ints_one xs)
  have Hy1 := Lib.hid (ints_one ys)
  have HcX := Lib.hid hc1
  have HcY := Lib.hid hc2
  have Hlx : Hid ((xs.map (Value.int .i64)).length = xs.length * 1) := by rw [List.length_map, Nat.mul_one]; rfl
  have Hly : Hid ((ys.map (Value.int .i64)).length = ys.length * 1) := by rw [List.length_map, Nat.mul_one]; rfl
  clear h1 h2 ha hb hc1 hc2
  go_enter Try.func84, Try.ntmps84
  go_wp2
  go_loop [3, 11] (fun q i => ∃ k : Nat, k ≤ 2 ∧ i = .int .i64 k ∧ q = .int .i64 (sizeTo xs.length ys.length k : Nat)) (fun _ i => 2 - (intOf i).toNat)
  case atStart => exact ⟨0, by omega, rfl, rfl⟩
  case round =>
    obtain ⟨k, hk, rfl, rfl⟩ := hrel
    obtain rfl | rfl | rfl : k = 0 ∨ k = 1 ∨ k = 2 := by omega
    · have hc := H1.out
      simp only [sizeTo]
      go_wp2
      go_round
      case rel => exact ⟨1, by omega, by simp, by simp⟩
      case measure => simp [intOf]
    · have hc := H2.out
      simp only [sizeTo]
      go_wp2
      go_round
      case rel => exact ⟨2, by omega, by simp, by simp⟩
      case measure => simp [intOf]
    · simp only [sizeTo]
      have Hgrow := Lib.hid (grow_c (xs.length + ys.length) w (by omega) (by omega))
      go_wp2_with (go_at_call 111; refine (Hgrow.out).mono ?_; rintro e w1 ⟨G, rfl, hown, hb⟩)
      have Hown := Lib.hid hown
      have Hb := Lib.hid hb
      clear hown hb
      go_loopw [6, 27] (fun o i wr => ∃ (k : Nat) (v : Value), k ≤ 2 ∧ i = .int .i64 k ∧ v = o ∧ wr.ownsRow w.heap.size 3 1 v (sizeTo xs.length ys.length k) ((listTo xs ys k).map (Value.int .i64)) ∧ Below w.heap.size w wr) (fun _ i _ => 2 - (intOf i).toNat)
      case atStart => exact ⟨0, _, by omega, rfl, rfl, Hown.out, Hb.out⟩
      case round =>
        obtain ⟨k, v, hk, rfl, rfl, hok, hbk⟩ := hrel
        obtain rfl | rfl | rfl : k = 0 ∨ k = 1 ∨ k = 2 := by omega
        · have hc := (hbk.cell (p := ⟨g, 0, none⟩) hg).trans H1.out
          have Hsrc := Lib.hid (src_cells (w := wr) (fun j hj => (hbk.cell (p := ⟨b1, o1 + j, none⟩) hb1).trans (HcX.out j hj)))
          go_wp2_with (at_builtin; refine wpList_append_own _ rfl _ _ 23 rfl w.heap.size 3 i0 (.int .i64 0) 1 8 Try.underlying23 hi hz0 hz1 hz2 rfl (by decide) v 0 [] rfl hok ⟨b1, o1, none⟩ xs.length c1 (xs.map (Value.int .i64)) rfl Hlx.out Hsrc.out Hx1.out (by unfold maxLen; omega) (by omega) hbk.size ?_; intro v' w3 hown3 hg3 _)
          have hb3 : Below w.heap.size w w3 := hbk.grown hg3 hbk.size (fun r e => (hok.lt r e).1)
          rw [Nat.zero_add, List.nil_append] at hown3
          go_roundw
          case rel => exact ⟨1, v', by omega, by simp, rfl, hown3, hb3⟩
          case measure => simp [intOf]
        · have hc := (hbk.cell (p := ⟨g, 1, none⟩) hg).trans H2.out
          have Hsrc := Lib.hid (src_cells (w := wr) (fun j hj => (hbk.cell (p := ⟨b2, o2 + j, none⟩) hb2).trans (HcY.out j hj)))
          go_wp2_with (at_builtin; refine wpList_append_own _ rfl _ _ 23 rfl w.heap.size 3 i0 (.int .i64 0) 1 8 Try.underlying23 hi hz0 hz1 hz2 rfl (by decide) v xs.length (xs.map (Value.int .i64)) rfl hok ⟨b2, o2, none⟩ ys.length c2 (ys.map (Value.int .i64)) rfl Hly.out Hsrc.out Hy1.out (by unfold maxLen; omega) (by omega) hbk.size ?_; intro v' w3 hown3 hg3 _)
          have hb3 : Below w.heap.size w w3 := hbk.grown hg3 hbk.size (fun r e => (hok.lt r e).1)
          rw [← List.map_append] at hown3
          go_roundw
          case rel => exact ⟨2, v', by omega, by simp, rfl, hown3, hb3⟩
          case measure => simp [intOf]
        · go_wp2
          go_ret
          exact RetS.mk (f := id) (by rw [List.length_append]; omega) (by rw [List.length_append]; exact hok) hbk

end Go.Proofs.Ytndpdoiomoefpaa
