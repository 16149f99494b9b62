/-
  slices.Backward at ints and its closure: for every loop body that keeps the list's cells and the closure's box.
-/
import Derived.RangeFuncNested
import Derived.RangeFuncBound
import Derived.RangeFuncCalls
import Derived.RangeFuncLeaves
import Derived.RangeFuncBox
import Derived.Shelf.Abstract
import Derived.Shelf.RegionOpen
import Derived.Sort.QuietTacIn
import Derived.WalkKit
import Derived.OwnWalkIn
import Derived.TacticsInMore
import Derived.LoopNIn
import Derived.LoopIn
import Derived.Test.YthdbbppahloapaaTkM
namespace Go.Proofs.Ythdbbppahloapaa
open Go.RowKit Go.Shelf

attribute [local go_sem] Oper.semAt_some

/-- the first k of N places, from the last one on -/
def bwd (N k : Nat) : List (Fin N) := (List.finRange N).reverse.take k
theorem bwd_zero (N : Nat) : bwd N 0 = [] := by simp [bwd]
theorem bwd_length {N k : Nat} (h : k ≤ N) : (bwd N k).length = k := by simp [bwd]; omega
theorem bwd_succ {N k : Nat} (h : k < N) : bwd N (k + 1) = bwd N k ++ [⟨N - 1 - k, by omega⟩] := by
  unfold bwd
  rw [List.take_succ_eq_append_getElem (by simpa using h)]
  simp [List.getElem_reverse]
/-- what the iterator hands over at the place i -/
def placeOf (zs : List Int) (i : Fin zs.length) : Array Value := #[.int .i64 (i.val : Int), .int .i64 (zs[i.val]?.getD 0)]

/-- WHAT A ROUND KEEPS: whatever lay below n₀, and the closure's box. -/
def KpB (n₀ Bs : Nat) (W W' : World) : Prop := Below n₀ W W' ∧ W'.heap[Bs]? = W.heap[Bs]?
theorem KpB.t {n₀ Bs : Nat} {A B C : World} (h : KpB n₀ Bs A B) (k : KpB n₀ Bs B C) : KpB n₀ Bs A C := ⟨h.1.trans k.1, k.2.trans h.2⟩
theorem KpB.drew {n₀ Bs : Nat} {A B : World} (h : KpB n₀ Bs A B) (n : Nat) : KpB n₀ Bs A (B.drewN n) := ⟨below_drewN h.1 n, h.2⟩
theorem KpB.refl (n₀ Bs : Nat) (W : World) : KpB n₀ Bs W W := ⟨Below.refl _ _, rfl⟩
theorem KpB.b {n₀ Bs : Nat} {w : World} (hn : n₀ ≤ w.heap.size) (hB : Bs < w.heap.size) (W : World) (l : Nat) (o o' : Obj) (hl : w.heap.size ≤ l) (h : W.heap[l]? = some o) (h1 : o.isCells = false) (h2 : o.isWalk = false) : KpB n₀ Bs W (W.putObj l o') :=
  ⟨belowK_b hn W l o o' hl h h1 h2, World.putObj_heap_other (by omega)⟩
theorem KpB.cell {n₀ Bs : Nat} {W W' : World} (h : KpB n₀ Bs W W') : W'.cell? ⟨Bs, 0, none⟩ = W.cell? ⟨Bs, 0, none⟩ := World.cell?_of_block (w := W) h.2

set_option maxRecDepth 100000 in
set_option maxHeartbeats 2000000 in
theorem back1_in (n : Nat) (hn : 1 ≤ n) (l Bs n₀ : Nat) (A : Option Addr) (c : Nat) (zs : List Int) (hl : zs.length ≤ 2097152) (J Jx : List (Fin zs.length) → World → Prop)
    (hY : ∀ pre x W, J pre W → pre.length < zs.length → YieldAt Fence.wide (n - 1) Try.prog l (placeOf zs x) W fun e W' =>
      (e = .returned (.bool true) ∧ J (pre ++ [x]) W' ∧ KpB n₀ Bs W W') ∨ (e = .returned (.bool false) ∧ Jx (pre ++ [x]) W'))
    (W : World) (hBs : W.cell? ⟨Bs, 0, none⟩ = some (.slice A zs.length c)) (hr : Rd 0 n₀ W A zs) (h0 : J [] W) :
    CallsIn Fence.wide n Try.prog 66 #[.func (.yield l) #[] #[], .pointer (some ⟨Bs, 0, none⟩)] W fun e W' => (∃ v, e = .returned v) ∧
      ((∃ ys, ys = bwd zs.length zs.length ∧ J ys W') ∨ (∃ pre, (∃ k, k ≤ zs.length ∧ pre = bwd zs.length k) ∧ Jx pre W')) := by
  refine callsIn_of_wp Try.func66 rfl trivial ?_ rfl
  simp only [Try.ntmps66, List.size_toArray, List.length_cons, List.length_nil, Nat.reduceAdd, Nat.reduceSub, Array.replicate_succ, Array.replicate_zero, List.push_toArray, List.append_toArray, List.nil_append, List.cons_append]
  have q0 : IntKind.i64.wrap ((zs.length : Int) - 1) = (zs.length : Int) - 1 := IntWalk.i64_in _ (by omega)
  gi_wp2
  gi_loopw [3] (fun i wr => ∃ k : Nat, k ≤ zs.length ∧ i = .int .i64 ((zs.length : Int) - 1 - k) ∧ J (bwd zs.length k) wr ∧ KpB n₀ Bs W wr)
    (fun i _ => (intOf i + 1).toNat)
  case atStart => exact ⟨0, Nat.zero_le _, by simp, h0, KpB.refl _ _ _⟩
  case round =>
    obtain ⟨k, hk, rfl, hJs, hnx⟩ := hrel
    have hbx : wr.cell? ⟨Bs, 0, none⟩ = some (.slice A zs.length c) := hnx.cell.trans hBs
    by_cases hlt : k < zs.length
    · have hrw := hr.below hnx.1
      obtain ⟨j, hj⟩ : ∃ j : Nat, (zs.length : Int) - 1 - k = j := ⟨zs.length - 1 - k, by omega⟩
      have hjl : j < zs.length := by omega
      obtain ⟨b, off, rfl, _, _, hc⟩ := hrw.at_ hjl
      have hjk : j = zs.length - 1 - k := by omega
      have Hnx := Lib.hid hnx
      have HBs := Lib.hid hBs
      have Hr := Lib.hid hr
      obtain ⟨fn, tmps, assign, body, hy, hR⟩ := hY _ ⟨j, hjl⟩ wr hJs (by rw [bwd_length hk]; omega)
      have HR := Lib.hid hR
      have hsucc := bwd_succ hlt
      have Hsucc := Lib.hid (show bwd zs.length (k + 1) = bwd zs.length k ++ [⟨j, hjl⟩] by rw [hsucc]; congr 2; exact Fin.ext hjk.symm)
      unfold placeOf at hy
      dsimp only at hy
      obtain ⟨x, hx⟩ : ∃ x, zs[j]?.getD 0 = x := ⟨_, rfl⟩
      rw [hx] at hc hy
      have g0 : (0 : Int) ≤ (j : Int) := by omega
      have g1 : (j : Int) < (zs.length : Int) := by omega
      have q1 : IntKind.i64.wrap ((j : Int) - 1) = (j : Int) - 1 := IntWalk.i64_in _ (by omega)
      rw [hj]
      have Hj := Lib.hid hj
      clear hx hrw hnx hBs hr hY hR hsucc hj hjk hJs q0
      gi_wp2
      refine HR.out.mono ?_
      rintro e W3 (⟨rfl, hJ3, hk3⟩ | ⟨rfl, hJx3⟩)
      · gi_wp2
        go_roundw
        case rel => exact ⟨k + 1, by omega, by have := Hj.out; congr 1; omega, by rw [Hsucc.out]; exact hJ3, Hnx.out.t hk3⟩
        case measure => simp [intOf]
      · gi_wp2
        refine bodyPost_ret (results_none rfl _ _ _) rfl ?_
        exact ⟨⟨_, rfl⟩, .inr ⟨_, ⟨k + 1, by omega, Hsucc.out.symm⟩, hJx3⟩⟩
    · obtain rfl : k = zs.length := by omega
      have HBx := Lib.hid hbx
      have g0 : ¬ ((0 : Int) ≤ (zs.length : Int) - 1 - (zs.length : Int)) := by omega
      gi_wp2
      first
        | (go_end0; exact ⟨⟨_, rfl⟩, .inl ⟨_, rfl, hJs⟩⟩)
        | (go_end0; exact ⟨⟨_, rfl⟩, .inl hJs⟩)

/-- **THE CLOSURE's CONTRACT**: all places, from the last one on; or the first k of these. -/
theorem back_stops (n : Nat) (hn : 1 ≤ n) (Bs n₀ : Nat) (A : Option Addr) (c : Nat) (zs : List Int) (hl : zs.length ≤ 2097152) (w : World) (hBs : Bs < w.heap.size) (hn₀ : n₀ ≤ w.heap.size)
    (hc : w.cell? ⟨Bs, 0, none⟩ = some (.slice A zs.length c)) (hr : Rd 0 n₀ w A zs) :
    SeqStopsK Fence.wide n Try.prog 66 #[.pointer (some ⟨Bs, 0, none⟩)] (fun i : Fin zs.length => #[Value.int .i64 (i.val : Int), Value.int .i64 (zs[i.val]?.getD 0)]) (KpB n₀ Bs) (fun ys => ys = bwd zs.length zs.length)
      (fun pre => ∃ k, k ≤ zs.length ∧ pre = bwd zs.length k) zs.length w := fun l J Jx W hW _ _ hY h0 =>
  back1_in n hn l Bs n₀ A c zs hl J Jx hY W ((hW.cell (p := ⟨Bs, 0, none⟩) hBs).trans hc) (hr.below (hW.mono hn₀)) h0

theorem backward_c (A : Option Addr) (c n : Nat) (w : World) :
    Calls Try.prog 60 #[.slice A n c] w fun e w' => e = .returned (.func (.func 66) #[] #[.pointer (some ⟨w.heap.size, 0, none⟩)]) ∧ w.alloc (.cells #[.slice A n c] 23) = w' := by
  go_enter Try.func60, Try.ntmps60
  go_wp2
  go_ret
  exact ⟨rfl, rfl⟩

/-! ### what a loop over the miles keeps -/
/-- A BODY THAT COLLECTS: the box Bx holds a slice that owns f pre; the closure's box Bs lies as it lay; below n₀ nothing has turned. -/
def Collects {α : Type} (n₀ Bx Bs : Nat) (fl : Value) (w : World) (f : List α → List Int) (pre : List α) (W : World) : Prop :=
  ((∃ v, Boxed W Bx 23 v ∧ W.ownsRow n₀ 3 1 v (f pre).length ((f pre).map (Value.int .i64)) ∧ True) ∧ Boxed W Bs 23 fl) ∧ Below n₀ w W
theorem Collects.own {α : Type} {n₀ Bx Bs : Nat} {fl : Value} {w : World} {f : List α → List Int} {B : Nat} (hn : n₀ ≤ w.heap.size) (hB : n₀ ≤ B) : OwnFrom B (Collects (α := α) n₀ Bx Bs fl w f) :=
  OwnFrom.and (OwnFrom.and (Own.from (holdsRow_own n₀ Bx 23 3 1 (fun pre => (f pre).length) (fun pre => (f pre).map (Value.int .i64)) (fun _ _ => True)) _) (Own.from (boxed_own Bs 23 (fun _ => fl)) _)) (ownFrom_below hn hB)
/-- .. behind the turn of the block for the rounds' deferred calls -/
theorem Collects.done {α : Type} {n₀ Bx Bs : Nat} {fl : Value} {w : World} {f : List α → List Int} {pre : List α} {W : World} (h : Collects n₀ Bx Bs fl w f pre W) (hn : n₀ ≤ w.heap.size) {D : Nat} (hD : w.heap.size ≤ D) (hK : W.heap[D]? = some (.deferred (some []))) :
    ∃ v, W.cell? ⟨Bx, 0, none⟩ = some v ∧ (W.putObj D (.deferred none)).ownsRow n₀ 3 1 v (f pre).length ((f pre).map (Value.int .i64)) ∧ Below n₀ w (W.putObj D (.deferred none)) := by
  obtain ⟨⟨⟨v, hv, hrow, _⟩, hF⟩, hB⟩ := h
  exact ⟨v, hv.cell, ownsRow_putObj hrow (.deferred none) hK rfl, hB.trans (belowK_b (w := w) hn W D _ _ hD hK rfl rfl)⟩

end Go.Proofs.Ythdbbppahloapaa
