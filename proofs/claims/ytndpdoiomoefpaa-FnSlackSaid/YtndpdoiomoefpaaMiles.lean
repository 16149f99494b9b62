/-
  The program's iterator over the miles of a floor: floorMiles and its closure: for every loop body that keeps the floor's cells and the closure's box.
-/
import Derived.RangeFuncNested
import Derived.RangeFuncBound
import Derived.RangeFuncCalls
import Derived.RangeFuncLeaves
import Derived.RangeFuncBox
import Derived.Shelf.Abstract
import Derived.Shelf.RegionOpen
import Derived.Sort.QuietTacIn
import Derived.WalkKit
import Derived.OwnWalkIn
import Derived.TacticsInMore
import Derived.LoopNIn
import Derived.LoopIn
import Derived.Test.YtndpdoiomoefpaaNeed
namespace Go.Proofs.Ytndpdoiomoefpaa
open Go.RowKit Go.Shelf

attribute [local go_sem] Oper.semAt_some

/-- all depths lie in the range -/
def Depths (zs : List Int) : Prop := ∀ j, j < zs.length → 0 ≤ zs[j]?.getD 0 ∧ zs[j]?.getD 0 ≤ 40
theorem Depths.need {zs : List Int} (h : Depths zs) {i : Nat} (hi : i + 1 < zs.length) : 10 ≤ needAt zs i ∧ needAt zs i ≤ 50 := by
  have h1 := h i (by omega)
  have h2 := h (i + 1) hi
  unfold needAt
  omega
theorem validB_depths {zs : List Int} (h : validB zs = true) : Depths zs := (validB_true h).2.2

/-- the first k of N miles -/
def milesTo (N k : Nat) : List (Fin N) := (List.finRange N).take k
theorem milesTo_zero (N : Nat) : milesTo N 0 = [] := by simp [milesTo]
theorem milesTo_succ {N k : Nat} (h : k < N) : milesTo N (k + 1) = milesTo N k ++ [⟨k, h⟩] := by
  unfold milesTo
  rw [List.take_succ_eq_append_getElem (by simpa using h)]
  simp
theorem milesTo_length {N k : Nat} (h : k ≤ N) : (milesTo N k).length = k := by simp [milesTo]; omega
theorem milesTo_map {α : Type} (N k : Nat) (h : k ≤ N) (f : Nat → α) : (milesTo N k).map (fun i => f i.val) = (List.range k).map f := by
  apply List.ext_getElem
  · simp [milesTo_length h]
  · intro i h1 h2
    simp [milesTo]
/-- what the iterator hands over at the mile i -/
def mileOf (zs : List Int) (i : Fin (zs.length - 1)) : Array Value := #[.int .i64 (i.val : Int), .int .i64 (needAt zs i.val)]

/-- WHAT A ROUND KEEPS: whatever lay below n₀, and the closure's box. -/
def KpB (n₀ Bs : Nat) (W W' : World) : Prop := Below n₀ W W' ∧ W'.heap[Bs]? = W.heap[Bs]?
theorem KpB.t {n₀ Bs : Nat} {A B C : World} (h : KpB n₀ Bs A B) (k : KpB n₀ Bs B C) : KpB n₀ Bs A C := ⟨h.1.trans k.1, k.2.trans h.2⟩
theorem KpB.drew {n₀ Bs : Nat} {A B : World} (h : KpB n₀ Bs A B) (n : Nat) : KpB n₀ Bs A (B.drewN n) := ⟨below_drewN h.1 n, h.2⟩
theorem KpB.refl (n₀ Bs : Nat) (W : World) : KpB n₀ Bs W W := ⟨Below.refl _ _, rfl⟩
theorem KpB.b {n₀ Bs : Nat} {w : World} (hn : n₀ ≤ w.heap.size) (hB : Bs < w.heap.size) (W : World) (l : Nat) (o o' : Obj) (hl : w.heap.size ≤ l) (h : W.heap[l]? = some o) (h1 : o.isCells = false) (h2 : o.isWalk = false) : KpB n₀ Bs W (W.putObj l o') :=
  ⟨belowK_b hn W l o o' hl h h1 h2, World.putObj_heap_other (by omega)⟩
theorem KpB.cell {n₀ Bs : Nat} {W W' : World} (h : KpB n₀ Bs W W') : W'.cell? ⟨Bs, 0, none⟩ = W.cell? ⟨Bs, 0, none⟩ := World.cell?_of_block (w := W) h.2

set_option maxRecDepth 100000 in
set_option maxHeartbeats 2000000 in
theorem miles1_in (n : Nat) (hn : 1 ≤ n) (l Bs n₀ : Nat) (A : Option Addr) (c : Nat) (zs : List Int) (hz : 1 ≤ zs.length) (hl : zs.length ≤ 2097152) (hd : Depths zs) (J Jx : List (Fin (zs.length - 1)) → World → Prop) (hJa : ∀ s W n, J s W → J s (W.drewN n))
    (hY : ∀ pre x W, J pre W → pre.length < zs.length - 1 → YieldAt Fence.wide (n - 1) Try.prog l (mileOf zs x) W fun e W' =>
      (e = .returned (.bool true) ∧ J (pre ++ [x]) W' ∧ KpB n₀ Bs W W') ∨ (e = .returned (.bool false) ∧ Jx (pre ++ [x]) W'))
    (W : World) (hBs : W.cell? ⟨Bs, 0, none⟩ = some (.slice A zs.length c)) (hr : Rd 0 n₀ W A zs) (h0 : J [] W) :
    CallsIn Fence.wide n Try.prog 110 #[.func (.yield l) #[] #[], .pointer (some ⟨Bs, 0, none⟩)] W fun e W' => (∃ v, e = .returned v) ∧
      ((∃ ys, ys = milesTo (zs.length - 1) (zs.length - 1) ∧ J ys W') ∨ (∃ pre, (∃ k, k ≤ zs.length - 1 ∧ pre = milesTo (zs.length - 1) k) ∧ Jx pre W')) := by
  refine callsIn_of_wp Try.func110 rfl trivial ?_ rfl
  simp only [Try.ntmps110, List.size_toArray, List.length_cons, List.length_nil, Nat.reduceAdd, Nat.reduceSub, Array.replicate_succ, Array.replicate_zero, List.push_toArray, List.append_toArray, List.nil_append, List.cons_append]
  gi_wp2
  gi_loopw [8] (fun i wr => ∃ k : Nat, k ≤ zs.length - 1 ∧ i = .int .i64 k ∧ J (milesTo (zs.length - 1) k) wr ∧ KpB n₀ Bs W wr)
    (fun i _ => zs.length - (intOf i).toNat)
  case atStart => exact ⟨0, Nat.zero_le _, rfl, h0, KpB.refl _ _ _⟩
  case round =>
    obtain ⟨k, hk, rfl, hJs, hnx⟩ := hrel
    have hbx : wr.cell? ⟨Bs, 0, none⟩ = some (.slice A zs.length c) := hnx.cell.trans hBs
    by_cases hlt : k + 1 < zs.length
    · have hrw := hr.below hnx.1
      obtain ⟨b, off, rfl, _, _, hc⟩ := hrw.at_ (k := k) (by omega)
      obtain ⟨b', off', e, _, _, hc'⟩ := hrw.at_ hlt
      injection e with e
      injection e with e1 e2 e3
      subst e1; subst e2
      have b0 := hd k (by omega)
      have b1 := hd (k + 1) hlt
      obtain ⟨x, hx⟩ : ∃ x, zs[k]?.getD 0 = x := ⟨_, rfl⟩
      obtain ⟨y, hy2⟩ : ∃ y, zs[k + 1]?.getD 0 = y := ⟨_, rfl⟩
      have hna : needAt zs k = 10 + max (y - x) (0 - (y - x)) := by unfold needAt; rw [hx, hy2]
      rw [hx] at b0 hc
      rw [hy2] at b1 hc'
      have Hx := Lib.hid hx
      have Hy2 := Lib.hid hy2
      have Hna := Lib.hid hna
      have Hd := Lib.hid hd
      have Hr := Lib.hid hr
      have HY := Lib.hid hY
      have Hrw := Lib.hid hrw
      have Hnx := Lib.hid hnx
      have HBs := Lib.hid hBs
      have HJ := Lib.hid hJs
      have HJa := Lib.hid hJa
      clear hx hy2 e3 hd hr hY hrw hnx hBs hna hJs hJa
      have g0 : (k : Int) < (zs.length : Int) - 1 := by omega
      have g1 : (k : Int) + 1 < (zs.length : Int) := by omega
      have g2 : (k : Int) < (zs.length : Int) := by omega
      gi_wp2
      have q1 : IntKind.i64.wrap ((k : Int) + 1) = (k : Int) + 1 := IntWalk.i64_in _ (by omega)
      have q2 : (0 : Int) ≤ (k : Int) + 1 := by omega
      have q3 : ((k : Int) + 1).toNat = k + 1 := by omega
      have q4 : IntKind.i64.wrap (y - x) = y - x := IntWalk.i64_in _ (by omega)
      gi_quiet_th (fail)
      clear q1 q2 q3 q4
      obtain ⟨fn, tmps, assign, body, hy, hR⟩ := HY.out _ ⟨k, by omega⟩ (wr.drewN nq) (HJa.out _ _ _ HJ.out) (by rw [milesTo_length hk]; omega)
      have HR := Lib.hid hR
      clear hR
      unfold mileOf at hy
      dsimp only at hy
      by_cases hxy : y < x
      · have hn2 : needAt zs k = 10 + -(y - x) := by rw [Hna.out]; omega
        rw [hn2] at hy
        clear hn2
        gi_wp2
        refine HR.out.mono ?_
        rintro e W3 (⟨rfl, hJ3, hk3⟩ | ⟨rfl, hJx3⟩)
        · gi_wp2
          go_roundw
          case rel => exact ⟨k + 1, by omega, by simp, by rw [milesTo_succ (by omega)]; exact hJ3, (Hnx.out.drew nq).t hk3⟩
          case measure => simp [intOf]; omega
        · gi_wp2
          refine bodyPost_ret (results_none rfl _ _ _) rfl ?_
          exact ⟨⟨_, rfl⟩, .inr ⟨_, ⟨k + 1, by omega, (milesTo_succ (by omega)).symm⟩, hJx3⟩⟩
      · have hn2 : needAt zs k = 10 + (y - x) := by rw [Hna.out]; omega
        rw [hn2] at hy
        clear hn2
        gi_wp2
        refine HR.out.mono ?_
        rintro e W3 (⟨rfl, hJ3, hk3⟩ | ⟨rfl, hJx3⟩)
        · gi_wp2
          go_roundw
          case rel => exact ⟨k + 1, by omega, by simp, by rw [milesTo_succ (by omega)]; exact hJ3, (Hnx.out.drew nq).t hk3⟩
          case measure => simp [intOf]; omega
        · gi_wp2
          refine bodyPost_ret (results_none rfl _ _ _) rfl ?_
          exact ⟨⟨_, rfl⟩, .inr ⟨_, ⟨k + 1, by omega, (milesTo_succ (by omega)).symm⟩, hJx3⟩⟩
    · obtain rfl : k = zs.length - 1 := by omega
      have HBx := Lib.hid hbx
      have g0 : ¬ (((zs.length - 1 : Nat) : Int) < (zs.length : Int) - 1) := by omega
      gi_wp2
      first
        | (go_end0; exact ⟨⟨_, rfl⟩, .inl ⟨_, rfl, hJs⟩⟩)
        | (go_end0; exact ⟨⟨_, rfl⟩, .inl hJs⟩)

/-- **THE CLOSURE's CONTRACT**: all miles, in their order; or the first k. -/
theorem miles_stops (n : Nat) (hn : 1 ≤ n) (Bs n₀ : Nat) (A : Option Addr) (c : Nat) (zs : List Int) (hz : 1 ≤ zs.length) (hl : zs.length ≤ 2097152) (hd : Depths zs) (w : World) (hBs : Bs < w.heap.size) (hn₀ : n₀ ≤ w.heap.size)
    (hc : w.cell? ⟨Bs, 0, none⟩ = some (.slice A zs.length c)) (hr : Rd 0 n₀ w A zs) :
    SeqStopsK Fence.wide n Try.prog 110 #[.pointer (some ⟨Bs, 0, none⟩)] (fun i : Fin (zs.length - 1) => #[Value.int .i64 (i.val : Int), Value.int .i64 (needAt zs i.val)]) (KpB n₀ Bs) (fun ys => ys = milesTo (zs.length - 1) (zs.length - 1))
      (fun pre => ∃ k, k ≤ zs.length - 1 ∧ pre = milesTo (zs.length - 1) k) (zs.length - 1) w := fun l J Jx W hW hJ _ hY h0 =>
  miles1_in n hn l Bs n₀ A c zs hz hl hd J Jx (fun s W' m hs => hJ s W' (W'.drewN m) none hs ⟨rfl, rfl, rfl, Nat.le_refl _, fun _ _ _ => rfl⟩ (fun r e => by cases e)) hY W ((hW.cell (p := ⟨Bs, 0, none⟩) hBs).trans hc) (hr.below (hW.mono hn₀)) h0

set_option maxRecDepth 100000 in
/-- floorMiles boxes the floor and hands back its closure. -/
theorem floorMiles_c (A : Option Addr) (c n : Nat) (w : World) :
    Calls Try.prog 81 #[.slice A n c] w fun e w' => e = .returned (.func (.func 110) #[] #[.pointer (some ⟨w.heap.size, 0, none⟩)]) ∧ w.alloc (.cells #[.slice A n c] 23) = w' := by
  go_enter Try.func81, Try.ntmps81
  go_wp2
  go_ret
  exact ⟨rfl, rfl⟩

/-! ### what a loop over the miles keeps -/
/-- A BODY THAT COLLECTS: the box Bx holds a slice that owns f pre; the closure's box Bs lies as it lay; below n₀ nothing has turned. -/
def Collects {α : Type} (n₀ Bx Bs : Nat) (fl : Value) (w : World) (f : List α → List Int) (pre : List α) (W : World) : Prop :=
  ((∃ v, Boxed W Bx 23 v ∧ W.ownsRow n₀ 3 1 v (f pre).length ((f pre).map (Value.int .i64)) ∧ True) ∧ Boxed W Bs 23 fl) ∧ Below n₀ w W
theorem Collects.own {α : Type} {n₀ Bx Bs : Nat} {fl : Value} {w : World} {f : List α → List Int} {B : Nat} (hn : n₀ ≤ w.heap.size) (hB : n₀ ≤ B) : OwnFrom B (Collects (α := α) n₀ Bx Bs fl w f) :=
  OwnFrom.and (OwnFrom.and (Own.from (holdsRow_own n₀ Bx 23 3 1 (fun pre => (f pre).length) (fun pre => (f pre).map (Value.int .i64)) (fun _ _ => True)) _) (Own.from (boxed_own Bs 23 (fun _ => fl)) _)) (ownFrom_below hn hB)
/-- .. behind the turn of the block for the rounds' deferred calls -/
theorem Collects.done {α : Type} {n₀ Bx Bs : Nat} {fl : Value} {w : World} {f : List α → List Int} {pre : List α} {W : World} (h : Collects n₀ Bx Bs fl w f pre W) (hn : n₀ ≤ w.heap.size) {D : Nat} (hD : w.heap.size ≤ D) (hK : W.heap[D]? = some (.deferred (some []))) :
    ∃ v, W.cell? ⟨Bx, 0, none⟩ = some v ∧ (W.putObj D (.deferred none)).ownsRow n₀ 3 1 v (f pre).length ((f pre).map (Value.int .i64)) ∧ Below n₀ w (W.putObj D (.deferred none)) := by
  obtain ⟨⟨⟨v, hv, hrow, _⟩, hF⟩, hB⟩ := h
  exact ⟨v, hv.cell, ownsRow_putObj hrow (.deferred none) hK rfl, hB.trans (belowK_b (w := w) hn W D _ _ hD hK rfl rfl)⟩
/-- A BODY THAT ADDS UP: the box Bx holds an int. -/
def Sums {α : Type} (n₀ Bx Bs : Nat) (fl : Value) (w : World) (f : List α → Int) (pre : List α) (W : World) : Prop :=
  (Boxed W Bx 3 (.int .i64 (f pre)) ∧ Boxed W Bs 23 fl) ∧ Below n₀ w W
theorem Sums.own {α : Type} {n₀ Bx Bs : Nat} {fl : Value} {w : World} {f : List α → Int} {B : Nat} (hn : n₀ ≤ w.heap.size) (hB : n₀ ≤ B) : OwnFrom B (Sums (α := α) n₀ Bx Bs fl w f) :=
  OwnFrom.and (OwnFrom.and (Own.from (boxed_own Bx 3 (fun pre => .int .i64 (f pre))) _) (Own.from (boxed_own Bs 23 (fun _ => fl)) _)) (ownFrom_below hn hB)

end Go.Proofs.Ytndpdoiomoefpaa
