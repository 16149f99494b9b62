/-
  Stacks: push, pop, top, the first stack on whose top lies what a function value accepts.
-/
import Derived.Test.YtodboccadccpfaaStkA
import Derived.Test.YtodboccadccpfaaTkV
import Derived.Deep.RegionHeld3
import Derived.BigQuiet
namespace Go.Proofs.Ytodboccadccpfaa
open Go.RowKit

set_option maxRecDepth 100000 in
set_option maxHeartbeats 1000000 in
theorem push_c (g k : Nat) (v : Value) (z : List Int) (x : Int) (lo : Nat) (w : World) (hc : w.cell? ⟨g, k, none⟩ = some v) (hf : w.frozen? ⟨g, k, none⟩ = false) (ho : w.ownsRow lo 3 1 v z.length (z.map (Value.int .i64)))
    (hne : v.ownBlock ≠ some g) (hl : z.length ≤ 1000000) (hlo : lo ≤ w.heap.size) (hg : g < w.heap.size) :
    Calls Try.prog 130 #[.pointer (some ⟨g, k, none⟩), .int .i64 x] w fun e w' => (∃ r, e = .returned r) ∧ ∃ w1 v', w' = w1.setCell ⟨g, k, none⟩ v' ∧ w.grownBy w1 v.ownBlock ∧
      w1.ownsRow lo 3 1 v' (z ++ [x]).length ((z ++ [x]).map (Value.int .i64)) ∧ ∀ g, v'.ownBlock = some g → v.ownBlock = some g ∨ w.heap.size ≤ g := by
  obtain ⟨i0, hi, hz0, hz1, hz2⟩ := info_parts int_info
  have Ho := Lib.hid ho
  have Hne := Lib.hid hne
  have Hg := Lib.hid (fun (w9 : World) (h : (w.alloc (.cells #[.int .i64 x] 3)).grownBy w9 v.ownBlock) => And.intro ((h.cell ((World.grownBy_alloc w _ none).cell hc (by simp)) (fun e => hne e.symm))) ((World.frozen?_of_block (h.block g (by simp; omega) (fun e => hne e.symm))).trans ((World.frozen?_of_block (heap_alloc_old w _ hg)).trans hf)))
  clear ho hne
  go_enter Try.func130, Try.ntmps130
  go_wp2_with (at_builtin; refine wpList_append_new _ rfl _ _ 67 rfl lo 3 i0 (.int .i64 0) 1 8 Try.underlying67 hi hz0 hz1 hz2 rfl (by decide) v z.length _ rfl (Ho.out.alloc _) ⟨w.heap.size, 0, none⟩ 1 1 [.int .i64 x] rfl rfl (one_new _ _ _) (by simp [Value.oneCell']) (by unfold maxLen; omega) (by omega) (by simp; omega) ?_; intro v' w1 hown hgr hnew; obtain ⟨g', cap', rfl⟩ := own_succ hown; obtain ⟨hc1, hf1⟩ := Hg.out w1 hgr; have Hown := Lib.hid hown; have Hgr := Lib.hid hgr; have Hnew := Lib.hid hnew; clear hown hgr hnew)
  go_end0
  refine ⟨⟨_, rfl⟩, w1, _, rfl, grown_then (World.grownBy_alloc w _ _) Hgr.out, ?_, fun g2 h2 => ?_⟩
  · have h9 := Hown.out
    rw [List.length_append, List.map_append]
    exact h9
  · rcases Hnew.out g2 h2 with h3 | h3
    · exact .inl h3
    · simp at h3
      exact .inr (by omega)

/-- a pile without what lay on top -/
theorem own_drop {w : World} {lo : Nat} {t : TypeId} {z : List Int} {A : Option Addr} {c : Nat} (h : w.ownsRow lo t 1 (.slice A z.length c) z.length (z.map (Value.int .i64))) (hn : z ≠ []) : w.ownsRow lo t 1 (.slice A z.dropLast.length c) z.dropLast.length (z.dropLast.map (Value.int .i64)) := by
  have hl : z.dropLast.length = z.length - 1 := List.length_dropLast
  have hz : 0 < z.length := List.length_pos_iff.2 hn
  refine ⟨by simp, ?_⟩
  rcases h.2 with ⟨_, h0⟩ | ⟨g, cap, cur, e, hg, hgg, hnc, hcm, hcs, ht⟩
  · omega
  · injection e with e1 e2 e3
    subst e1; subst e3
    refine .inr ⟨g, c, cur, rfl, hg, hgg, by omega, hcm, hcs, ?_⟩
    have e4 : z.dropLast.map (Value.int .i64) = (z.map (Value.int .i64)).take (z.dropLast.length * 1) := by
      rw [← List.map_take, hl, Nat.mul_one, List.dropLast_eq_take]
    rw [e4, ← ht, List.take_take, Nat.min_eq_left (by omega)]

set_option maxRecDepth 100000 in
set_option maxHeartbeats 1000000 in
theorem pop_c (g k : Nat) (A : Option Addr) (c n : Nat) (w : World) (hc : w.cell? ⟨g, k, none⟩ = some (.slice A n c)) (hf : w.frozen? ⟨g, k, none⟩ = false) (hn : 0 < n) (hnc : n ≤ c) (hcm : c ≤ maxLen) (hA : A ≠ none) :
    Calls Try.prog 127 #[.pointer (some ⟨g, k, none⟩)] w fun e w' => (∃ r, e = .returned r) ∧ ∃ m, w' = (w.setCell ⟨g, k, none⟩ (.slice A (n - 1) c)).drewN m := by
  obtain ⟨a, rfl⟩ : ∃ a, A = some a := by cases A with
    | none => exact absurd rfl hA
    | some a => exact ⟨a, rfl⟩
  simp only [maxLen] at hcm
  have g1 : IntKind.i64.wrap ((n : Int) - 1) = (n : Int) - 1 := IntWalk.i64_in _ (by omega)
  obtain ⟨j, rfl⟩ : ∃ j, n = j + 1 := ⟨n - 1, by omega⟩
  have g2 : ((j + 1 : Nat) : Int) - 1 = (j : Int) := by omega
  have g3 : ((j : Int) < 0) = False := eq_false (by omega)
  have g4 : (0 : Int) ≤ (j : Int) := by omega
  have g5 : (j : Int) ≤ (c : Int) := by omega
  go_enter Try.func127, Try.ntmps127
  go_wp2
  go_region
  all_goals
    go_wp2
    go_end0
    exact ⟨⟨_, rfl⟩, 1, rfl⟩

end Go.Proofs.Ytodboccadccpfaa
