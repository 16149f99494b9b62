/-
  A plan in its own block; slices.Reverse at ints.
-/
import Derived.Test.YtbcgglkgdjafiaaDoorKeep
import Derived.Test.YtbcgglkgdjafiaaDoorProg
import Derived.RegionTactic
import Derived.BigQuiet
import Derived.Deep.QuietTactic
namespace Go.Proofs.YtbcgglkgdjafiaaDoor
open Go.RowKit

/-- A PLAN IN ITS OWN BLOCK -/
def PlAt (W : World) (b : Nat) (p : List Int) : Prop := W.heap[b]? = some (.cells (p.map (Value.int .i64)).toArray 3 (0, 0))
section
variable {W W' : World} {b : Nat} {p : List Int}
theorem PlAt.lt (h : PlAt W b p) : b < W.heap.size := (Array.getElem?_eq_some_iff.1 h).1
theorem PlAt.cell (h : PlAt W b p) {k : Nat} (hk : k < p.length) : W.cell? ⟨b, k, none⟩ = some (.int .i64 (p[k]?.getD 0)) := by
  have := cell_of_row W b k _ _ _ h
  rw [this]
  simp [hk]
theorem PlAt.frozen (h : PlAt W b p) (o : Nat) : W.frozen? ⟨b, o, none⟩ = false := by simp [World.frozen?, show W.heap[b]? = _ from h]
theorem PlAt.set (h : PlAt W b p) (k : Nat) (x : Int) : PlAt (W.setCell ⟨b, k, none⟩ (.int .i64 x)) b (p.set k x) := by
  obtain ⟨hlt, hk⟩ := Array.getElem?_eq_some_iff.1 h
  show (W.heap.modify b _)[b]? = _
  rw [Array.getElem?_eq_getElem (by rw [Array.size_modify]; exact hlt), Array.getElem_modify_self, hk]
  simp only [Option.some.injEq, List.map_set]
  congr 1
  simp
theorem PlAt.keep {P : Nat → Prop} (h : PlAt W b p) (hk : KeepBut P W W') (hp : ¬ P b) : PlAt W' b p := (hk.block b h.lt hp).trans h
theorem PlAt.drewN (h : PlAt W b p) (n : Nat) : PlAt (W.drewN n) b p := h
theorem PlAt.go (h : PlAt W b p) (hb : Below W.heap.size W W') : PlAt W' b p := (hb.block b h.lt).trans h
theorem PlAt.rd (h : PlAt W b p) : Rd 0 W.heap.size W (some ⟨b, 0, none⟩) p := fun _ => ⟨b, 0, rfl, Nat.zero_le _, h.lt, fun j hj => by rw [Nat.zero_add]; exact h.cell hj⟩
theorem PlAt.arg (h : PlAt W b p) (hl : p.length ≤ 2097152) : Arg W (some ⟨b, 0, none⟩) p.length p := ⟨hl, Nat.le_refl _, by unfold maxLen; omega, h.rd⟩
theorem PlAt.of_own {lo n : Nat} (h : W.ownsRow lo 3 1 (.slice (some ⟨b, 0, none⟩) n n) n (p.map (Value.int .i64))) : PlAt W b p ∧ lo ≤ b := by
  rcases h.2 with ⟨h3, _⟩ | ⟨g, cap, cur, e, hg, hgg, hc, hm, hs, ht⟩
  · cases h3
  · injection e with e1 e2 e3
    injection e1 with e1
    injection e1 with e1
    subst e1; subst e3
    refine ⟨?_, hg⟩
    unfold PlAt
    rw [hgg]
    congr 1
    congr 1
    apply Array.toList_inj.1
    rw [← ht, List.take_of_length_le (by simp; omega)]
end
theorem keep_set (W : World) (b o : Nat) (v : Value) : KeepBut (fun x => x = b) W (W.setCell ⟨b, o, none⟩ v) :=
  ⟨rfl, rfl, rfl, by show W.heap.size ≤ (W.heap.modify b _).size; simp, fun k _ hk => Below.heap_setCell _ _ _ k (fun e => hk (by rw [e]))⟩
theorem KeepBut.drewN {P : Nat → Prop} {a w : World} (h : KeepBut P a w) (n : Nat) : KeepBut P a (w.drewN n) := ⟨h.os, h.tape, h.output, h.size, h.block⟩

/-! ### turned round, pair by pair -/
def revT (z : List Int) (i : Nat) : List Int := (List.range z.length).map fun k => if k < i ∨ z.length ≤ k + i then z[z.length - 1 - k]?.getD 0 else z[k]?.getD 0
theorem revT_len (z : List Int) (i : Nat) : (revT z i).length = z.length := by simp [revT]
theorem revT_at (z : List Int) (i : Nat) {k : Nat} (hk : k < z.length) : (revT z i)[k]?.getD 0 = if k < i ∨ z.length ≤ k + i then z[z.length - 1 - k]?.getD 0 else z[k]?.getD 0 := by
  simp [revT, hk]
theorem revT_zero (z : List Int) : revT z 0 = z := by
  apply List.ext_getElem
  · simp [revT]
  · intro k h1 h2
    simp only [revT, List.getElem_map, List.getElem_range]
    rw [if_neg (by omega), List.getElem?_eq_getElem h2]; rfl
theorem revT_all (z : List Int) {i : Nat} (h : z.length ≤ 2 * i + 1) : revT z i = z.reverse := by
  apply List.ext_getElem
  · simp [revT]
  · intro k h1 h2
    have hk : k < z.length := by simpa [revT] using h1
    simp only [revT, List.getElem_map, List.getElem_range, List.getElem_reverse]
    split
    · rw [List.getElem?_eq_getElem (by omega)]; rfl
    · have : z.length - 1 - k = k := by omega
      simp only [this]
      rw [List.getElem?_eq_getElem hk]; rfl
theorem revT_succ (z : List Int) {i : Nat} (h : 2 * i + 1 < z.length) : revT z (i + 1) = ((revT z i).set i (z[z.length - 1 - i]?.getD 0)).set (z.length - 1 - i) (z[i]?.getD 0) := by
  apply List.ext_getElem
  · simp [revT]
  · intro k h1 h2
    have hk : k < z.length := by simpa [revT] using h1
    simp only [revT, List.getElem_map, List.getElem_range, List.getElem_set]
    by_cases e1 : z.length - 1 - i = k
    · rw [if_pos e1, if_pos (by omega), show z.length - 1 - k = i by omega]
    · rw [if_neg e1]
      by_cases e2 : i = k
      · rw [if_pos e2, if_pos (by omega), e2]
      · rw [if_neg e2]
        by_cases e3 : k < i ∨ z.length ≤ k + i
        · rw [if_pos e3, if_pos (by omega)]
        · rw [if_neg e3, if_neg (by omega)]
theorem set_app (u z : List Int) (i : Nat) (x : Int) : (u ++ z).set (u.length + i) x = u ++ z.set i x := by
  rw [List.set_append_right _ _ (by omega), show u.length + i - u.length = i by omega]

set_option maxHeartbeats 2000000 in
theorem reverse_c (b : Nat) (u z : List Int) (cap : Nat) (W : World) (hz : z.length ≤ 100) (h : PlAt W b (u ++ z)) :
    Calls Tryd.prog 92 #[.slice (some ⟨b, u.length, none⟩) z.length cap] W fun e W' => (∃ v, e = .returned v) ∧ PlAt W' b (u ++ z.reverse) ∧ KeepBut (fun x => x = b) W W' := by
  have H := Lib.hid h
  clear h
  go_enter Tryd.func92, Tryd.ntmps92
  go_wp2
  go_loopw [2, 3] (fun i j wr => ∃ k : Nat, 2 * k ≤ z.length + 1 ∧ i = .int .i64 k ∧ j = .int .i64 ((z.length : Int) - 1 - k) ∧ PlAt wr b (u ++ revT z k) ∧ KeepBut (fun x => x = b) W wr) (fun i _ _ => z.length - (intOf i).toNat)
  case atStart => exact ⟨0, by omega, rfl, by simp, by rw [revT_zero]; exact H.out, KeepBut.refl _ _⟩
  case round =>
    obtain ⟨k, hk, rfl, rfl, hp, hb⟩ := hrel
    by_cases hlt : 2 * k + 1 < z.length
    · obtain ⟨j, hj⟩ : ∃ j : Nat, (z.length : Int) - 1 - k = (j : Int) := ⟨z.length - 1 - k, by omega⟩
      have hj2 : j = z.length - 1 - k := by omega
      have hs := revT_succ z hlt
      have hci := hp.cell (k := u.length + k) (by rw [List.length_append, revT_len]; omega)
      have hcj := hp.cell (k := u.length + j) (by rw [List.length_append, revT_len]; omega)
      rw [List.getElem?_append_right (by omega), show u.length + k - u.length = k by omega, revT_at z k (by omega), if_neg (by omega)] at hci
      rw [List.getElem?_append_right (by omega), show u.length + j - u.length = j by omega, revT_at z k (by omega), if_neg (by omega)] at hcj
      rw [← hj2] at hs
      obtain ⟨x, hx⟩ : ∃ x, z[k]?.getD 0 = x := ⟨_, rfl⟩
      obtain ⟨y, hy⟩ : ∃ y, z[j]?.getD 0 = y := ⟨_, rfl⟩
      rw [hx] at hci hs
      rw [hy] at hcj hs
      have hp2 := (hp.drewN 1).set (u.length + k) y
      rw [set_app] at hp2
      have hp3 := hp2.set (u.length + j) x
      rw [set_app, ← hs] at hp3
      have hfi := hp.frozen (u.length + k)
      have hfj := hp.frozen (u.length + j)
      have hkp := ((hb.drewN 1).trans (keep_set _ b (u.length + k) (.int .i64 y))).trans (keep_set _ b (u.length + j) (.int .i64 x))
      have Hp3 := Lib.hid hp3
      have Hkp := Lib.hid hkp
      rw [hj]
      have Hj := Lib.hid hj
      have g1 : (k : Int) < (j : Int) := by omega
      have g2 : (j : Int) < (z.length : Int) := by omega
      have g3 : (k : Int) < (z.length : Int) := by omega
      have g4 : (0 : Int) ≤ (k : Int) := by omega
      have g5 : (0 : Int) ≤ (j : Int) := by omega
      have g6 : ¬ k = j := by omega
      clear hj hj2 hs hx hy hp hp2 hp3 hkp hb
      go_wp2
      go_region
      all_goals
        go_wp2
        go_roundw
        case rel => exact ⟨k + 1, by omega, by go_num, by have := Hj.out; congr 1; omega, Hp3.out, Hkp.out⟩
        case measure => simp [intOf]; omega
    · have g1 : ¬ (k : Int) < (z.length : Int) - 1 - (k : Int) := by omega
      rw [revT_all z (by omega)] at hp
      go_wp2
      go_end0
      exact ⟨⟨_, rfl⟩, hp, hb⟩

end Go.Proofs.YtbcgglkgdjafiaaDoor
