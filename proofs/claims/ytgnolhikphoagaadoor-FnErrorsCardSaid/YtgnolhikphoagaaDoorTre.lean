/-
  The tree of codes: how it lies in memory; growBranch and codeTree.
-/
import Derived.Test.YtgnolhikphoagaaDoorSgM
import Derived.Test.YtgnolhikphoagaaDoorMem
import Derived.Test.YtgnolhikphoagaaDoorProg
import Derived.Deep.RegionHeld3
import Derived.IntWalk
namespace Go.Proofs.YtgnolhikphoagaaDoor
open Go.RowKit

/-- A POINTER TO THE BRANCH OF THE NUMBER n, WITH ALL THAT GROWS OUT OF IT (of at most f levels) -/
inductive Tree (w : World) : Nat → Nat → Option Addr → Prop
  | leaf (f n : Nat) (h : 28 ≤ n) : Tree w f n none
  | node (f n b : Nat) (m p : Option Addr) (h : n < 28) (hb : b < w.heap.size) (c0 : w.cell? ⟨b, 0, none⟩ = some (.string (str (letL n))))
      (c1 : w.cell? ⟨b, 1, none⟩ = some (.pointer m)) (c2 : w.cell? ⟨b, 2, none⟩ = some (.pointer p)) (tm : Tree w f (2 * n) m) (tp : Tree w f (2 * n + 1) p) :
      Tree w (f + 1) n (some ⟨b, 0, none⟩)
theorem Tree.go {w w' : World} {f n : Nat} {A : Option Addr} (h : Tree w f n A) (hb : Below w.heap.size w w') : Tree w' f n A := by
  induction h with
  | leaf f n h => exact .leaf f n h
  | node f n b m p h h2 c0 c1 c2 _ _ im ip =>
    exact .node f n b m p h (Nat.lt_of_lt_of_le h2 hb.size) ((hb.cell (p := ⟨b, 0, none⟩) h2).trans c0) ((hb.cell (p := ⟨b, 1, none⟩) h2).trans c1) ((hb.cell (p := ⟨b, 2, none⟩) h2).trans c2) im ip

/-- what growBranch leaves -/
def RetT (f n : Nat) (w : World) (e : Ending) (w' : World) : Prop := ∃ A, e = .returned (.pointer A) ∧ Tree w' f n A ∧ Below w.heap.size w w'

theorem node_mk {f n : Nat} {w2 w3 : World} {A2 A3 : Option Addr} (hn : n < 28) (ht2 : Tree w2 f (2 * n) A2) (ht3 : Tree w3 f (2 * n + 1) A3) (hb3 : Below w2.heap.size w2 w3) :
    Tree (w3.alloc (.cells #[.string (str (letL n)), .pointer A2, .pointer A3] 62)) (f + 1) n (some ⟨w3.heap.size, 0, none⟩) := by
  have ha : Below w3.heap.size w3 (w3.alloc (.cells #[.string (str (letL n)), .pointer A2, .pointer A3] 62)) := (Below.refl _ _).alloc (Nat.le_refl _) _
  have hc : ∀ (j : Nat) v, (#[Value.string (str (letL n)), .pointer A2, .pointer A3] : Array Value)[j]? = some v → (w3.alloc (.cells #[.string (str (letL n)), .pointer A2, .pointer A3] 62)).cell? ⟨w3.heap.size, j, none⟩ = some v :=
    fun j v h => (World.cell?_alloc_at (w := w3) _ 62 w3.heap.size j rfl).trans h
  exact .node f n w3.heap.size A2 A3 hn (by simp) (hc 0 _ rfl) (hc 1 _ rfl) (hc 2 _ rfl) ((ht2.go hb3).go ha) (ht3.go ha)
theorem RetT.mk {f n : Nat} {w w2 w3 : World} {A2 A3 : Option Addr} (hn : n < 28) (ht2 : Tree w2 f (2 * n) A2) (ht3 : Tree w3 f (2 * n + 1) A3) (hb2 : Below w.heap.size w w2) (hb3 : Below w2.heap.size w2 w3) :
    RetT (f + 1) n w (.returned (.pointer (some ⟨w3.heap.size, 0, none⟩))) (w3.alloc (.cells #[.string (str (letL n)), .pointer A2, .pointer A3] 62)) :=
  ⟨_, rfl, node_mk hn ht2 ht3 hb3, (below_step hb2 hb3).alloc (Nat.le_trans hb2.size hb3.size) _⟩

theorem alpha_letter : ∀ k, k < 26 → (⟨#[97, 98, 99, 100, 101, 102, 103, 104, 105, 106, 107, 108, 109, 110, 111, 112, 113, 114, 115, 116, 117, 118, 119, 120, 121, 122]⟩ : ByteArray).extract k (k + 1) = str (letL (k + 2)) := by
  decide +kernel

set_option maxHeartbeats 2000000 in
theorem growBranch_c : ∀ (f n : Nat), 2 ≤ n → n ≤ 63 → 28 ≤ 2 ^ f * n → ∀ w, Calls Tryd.prog 59 #[.int .i64 n] w (RetT f n w) := by
  intro f
  induction f with
  | zero =>
    intro n h2 h63 h28 w
    have g : (26 : Int) ≤ (n : Int) - 2 := by omega
    have hn : 28 ≤ n := by omega
    clear h28
    go_enter Tryd.func59, Tryd.ntmps59
    go_wp2
    go_ret
    exact ⟨none, rfl, .leaf _ _ hn, Below.refl _ _⟩
  | succ f ih =>
    intro n h2 h63 h28 w
    by_cases hn : 28 ≤ n
    · have g : (26 : Int) ≤ (n : Int) - 2 := by omega
      clear h28 ih
      go_enter Tryd.func59, Tryd.ntmps59
      go_wp2
      go_ret
      exact ⟨none, rfl, .leaf _ _ hn, Below.refl _ _⟩
    obtain ⟨k, rfl⟩ : ∃ k, n = k + 2 := ⟨n - 2, by omega⟩
    have hk : k < 26 := by omega
    have hl := alpha_letter k hk
    have hp2 : 28 ≤ 2 ^ f * (2 * (k + 2)) := by rw [Nat.pow_succ, Nat.mul_assoc] at h28; exact h28
    have hp3 : 28 ≤ 2 ^ f * (2 * (k + 2) + 1) := Nat.le_trans hp2 (Nat.mul_le_mul_left _ (by omega))
    have h2' := ih (2 * (k + 2)) (by omega) (by omega) hp2
    have h3' := ih (2 * (k + 2) + 1) (by omega) (by omega) hp3
    have e2 : ((2 * (k + 2) : Nat) : Int) = 2 * ((k : Int) + 2) := by omega
    have e3 : ((2 * (k + 2) + 1 : Nat) : Int) = 2 * ((k : Int) + 2) + 1 := by omega
    rw [e2] at h2'
    rw [e3] at h3'
    have H2 := Lib.hid h2'
    have H3 := Lib.hid h3'
    have HL := Lib.hid hl
    clear hl hp2 hp3 h2' h3' e2 e3 ih h28 hn h2 h63
    have ez : ((k + 2 : Nat) : Int) = (k : Int) + 2 := by omega
    rw [ez]
    clear ez
    have g1 : (k : Int) + 2 - 2 = (k : Int) := by omega
    have g2 : (k : Int) < 26 := by omega
    have g3 : (0 : Int) ≤ (k : Int) := by omega
    have g4 : (0 : Int) ≤ (k : Int) + 1 := by omega
    have g5 : (k : Int) ≤ (k : Int) + 1 := by omega
    have g6 : (k : Int) + 1 ≤ 26 := by omega
    have G1 := Lib.hid g1
    clear g1
    go_enter Tryd.func59, Tryd.ntmps59
    go_wp2
    have ex : (k : Int).toNat = k := by omega
    have ex1 : ((k : Int) + 1).toNat = k + 1 := by omega
    have v1 : IntKind.i64.wrap ((k : Int) + 1) = (k : Int) + 1 := IntWalk.i64_in _ (by omega)
    have v2 : IntKind.i64.wrap (2 * ((k : Int) + 2)) = 2 * ((k : Int) + 2) := IntWalk.i64_in _ (by omega)
    have v3 : IntKind.i64.wrap (2 * ((k : Int) + 2) + 1) = 2 * ((k : Int) + 2) + 1 := IntWalk.i64_in _ (by omega)
    have zc : (⟨#[97, 98, 99, 100, 101, 102, 103, 104, 105, 106, 107, 108, 109, 110, 111, 112, 113, 114, 115, 116, 117, 118, 119, 120, 121, 122]⟩ : ByteArray).size = 26 := rfl
    go_region_with (first
      | (go_at_call 59; (with_reducible refine (H2.out _).mono ?_); rintro e w2 ⟨A2, rfl, ht2, hb2⟩; have HT2 := Lib.hid ht2; have HB2 := Lib.hid hb2; have s2 := hb2.size; clear ht2 hb2)
      | (go_at_call 59; (with_reducible refine (H3.out _).mono ?_); rintro e w3 ⟨A3, rfl, ht3, hb3⟩; have HT3 := Lib.hid ht3; have HB3 := Lib.hid hb3; have s3 := hb3.size; clear ht3 hb3))
    all_goals
      go_wp2
      rw [HL.out]
      go_ret
      exact RetT.mk (by omega) HT2.out HT3.out (below_step (Below.refl _ _).drew HB2.out) HB3.out

set_option maxHeartbeats 1000000 in
theorem codeTree_c (w : World) : Calls Tryd.prog 43 #[] w (RetT 5 1 w) := by
  have H2 := Lib.hid (fun w => growBranch_c 4 2 (by decide) (by decide) (by decide) w)
  have H3 := Lib.hid (fun w => growBranch_c 4 3 (by decide) (by decide) (by decide) w)
  go_enter Tryd.func43, Tryd.ntmps43
  go_wp2_with fail
  refine (H2.out _).mono ?_
  rintro e w2 ⟨A2, rfl, ht2, hb2⟩
  have HT2 := Lib.hid ht2
  have HB2 := Lib.hid hb2
  have s2 := hb2.size
  clear ht2 hb2
  go_wp2_with fail
  refine (H3.out _).mono ?_
  rintro e w3 ⟨A3, rfl, ht3, hb3⟩
  have HT3 := Lib.hid ht3
  have HB3 := Lib.hid hb3
  have s3 := hb3.size
  clear ht3 hb3
  go_wp2
  go_ret
  exact RetT.mk (by decide) HT2.out HT3.out HB2.out HB3.out

end Go.Proofs.YtgnolhikphoagaaDoor
