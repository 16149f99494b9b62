/-
  ChartTurn of both.
-/
import Derived.Test.YtjboamhjfncgdaaRtE
import Derived.Test.YtjboamhjfncgdaaDelK
import Derived.Deep.AppendLies
namespace Go.Proofs.Ytjboamhjfncgdaa
open Go.RowKit

def turnV (R : List Rot) : List Rot := if chartB R then turnL R else []
theorem turnV_no {R : List Rot} (h : chartB R = false) : turnV R = [] := by unfold turnV; rw [h]; rfl
theorem turnV_yes {R : List Rot} (h : chartB R = true) : turnV R = turnL R := by unfold turnV; rw [if_pos h]
theorem turn_succ {R : List Rot} {k : Nat} (h : k < R.length) : turnL (R.take (k + 1)) = turnL (R.take k) ++ [turnR (rotAt R k)] := by
  rw [List.take_succ_eq_append_getElem h, rotAt_lt h]; unfold turnL; rw [List.map_append]; rfl
theorem turn_take_len {R : List Rot} {k : Nat} (h : k ≤ R.length) : (turnL (R.take k)).length = k := by rw [turnL_len]; simp; omega
theorem argK_one2 (w : World) (o : Obj) (s : Rot) (t : TypeId) : ArgK ((w.alloc o).alloc (.cells #[.int .i64 s.a, .int .i64 s.b, .int .i64 s.c, .int .i64 s.d] t)) (some ⟨w.heap.size + 1, 0, none⟩) 1 [s] := by
  have h := argK_one (w.alloc o) s t
  have e : (w.alloc o).heap.size = w.heap.size + 1 := by simp
  rw [e] at h
  exact h
theorem OnK.add {w wr w3 : World} {v v' : Value} {xs : List Rot} {x : Rot} {o o2 : Obj} (h : OnK w wr v xs) (h1 : w3.ownsRow w.heap.size 37 4 v' (xs ++ [x]).length (rotCells (xs ++ [x]))) (h2 : ((wr.alloc o).alloc o2).grownBy w3 v.ownBlock) : OnK w w3 v' (xs ++ [x]) :=
  (h.alloc o).grown h1 h2

set_option maxRecDepth 100000 in
set_option maxHeartbeats 4000000 in
theorem implChartTurn_b (A : Option Addr) (c : Nat) (ss : List Rot) (w : World) (ha : ArgK w A c ss) :
    Calls Try.prog 61 #[.slice A ss.length c] w (RetK 37 (fun v => .tuple #[v, .bool (chartB ss)]) (turnV ss) w) := by
  obtain ⟨i0, hi, hz0, hz1, hz2⟩ := info_parts rotInf
  have HA := Lib.hid ha
  clear ha
  go_enter Try.func61, Try.ntmps61
  go_wp2_with fail
  refine (implChartValid_b _ _ _ _ HA.out).mono ?_
  rintro e w1 ⟨rfl, hb⟩
  have Hb1 := Lib.hid hb
  have hs1 := hb.size
  clear hb
  cases e1 : chartB ss
  · have Hv := Lib.hid (And.intro e1 (turnV_no e1))
    clear e1
    go_wp2
    go_ret2
    rw [Hv.out.1, Hv.out.2]
    exact RetK.nil (f := fun v => .tuple #[v, .bool false]) Hb1.out
  have h8 := chart_len e1
  have Hv := Lib.hid (And.intro e1 (turnV_yes e1))
  clear e1
  go_wp2_with (at_make; refine wpList_make_own _ rfl _ _ 23 rfl w.heap.size 37 i0 _ 4 Try.underlying23 hi hz0 hz1 .i64 .i64 _ ss.length rfl rfl (by omega) (by rw [hz2]; omega) (by unfold maxLen; omega) hs1 ?_; intro w2 hown hg2)
  have HO2 := Lib.hid (show OnK w w2 (.slice (some ⟨w1.heap.size, 0, none⟩) 0 ss.length) [] from ⟨hown, Hb1.out.grown hg2 hs1 (by simp)⟩)
  clear hown hg2
  go_loopw [4, 15] (fun o i wr => ∃ (k : Nat) (v : Value), k ≤ ss.length ∧ i = .int .i64 k ∧ v = o ∧ OnK w wr v (turnL (ss.take k))) (fun _ i _ => ss.length - (intOf i).toNat)
  case atStart => exact ⟨0, _, Nat.zero_le _, rfl, rfl, HO2.out⟩
  case round =>
    obtain ⟨k, v, hk, rfl, rfl, ho⟩ := hrel
    have Ho := Lib.hid ho
    clear ho
    by_cases hlt : k < ss.length
    · have hsu := turn_succ hlt
      have hln := turn_take_len hk
      obtain ⟨b, off, rfl, _, hbw, hc0, hc1, hc2, hc3⟩ := (HA.out.go Ho.out.2).rd.at_ hlt
      obtain ⟨s, hs⟩ : ∃ s, rotAt ss k = s := ⟨_, rfl⟩
      rw [hs] at hc0 hc1 hc2 hc3 hsu
      obtain ⟨X, hX⟩ : ∃ X, turnL (ss.take k) = X := ⟨_, rfl⟩
      rw [hX] at hsu hln Ho
      have Hsu := Lib.hid hsu
      have hXl : X.length ≤ 8 := by omega
      have g3 : (k : Int) < (ss.length : Int) := by omega
      clear hs hX hsu hln
      go_wp2_with (at_builtin; refine wpList_append_rots rfl (.tmp 19) (.tmp 29) 23 rfl w.heap.size 37 i0 (.agg #[.int .i64 0, .int .i64 0, .int .i64 0, .int .i64 0]) Try.underlying23 hi hz0 hz1 hz2 rfl v X rfl ((Ho.out.alloc _).alloc _).1 (some ⟨wr.heap.size + 1, 0, none⟩) 1 [turnR s] rfl (argK_one2 wr _ (turnR s) _) (by simp only [List.length_singleton]; omega) (by have := Ho.out.2.size; simp; omega) ?_; intro v' w9 hown9 hg9; have H9 := Lib.hid (Ho.out.add hown9 hg9); clear hown9 hg9)
      go_roundw
      case rel => exact ⟨k + 1, v', by omega, by go_num, rfl, by rw [Hsu.out]; exact H9.out⟩
      case measure => simp [intOf]; omega
    · obtain rfl : k = ss.length := by omega
      rw [List.take_length] at Ho
      have hln := turnL_len ss
      go_wp2
      go_ret2
      rw [Hv.out.1, Hv.out.2]
      exact RetK.mk (f := fun v => .tuple #[v, .bool true]) (by omega) Ho.out.1 Ho.out.2

set_option maxRecDepth 100000 in
set_option maxHeartbeats 4000000 in
theorem specChartTurn_b (A : Option Addr) (c : Nat) (ss : List Rot) (w : World) (ha : ArgK w A c ss) :
    Calls Try.prog 60 #[.slice A ss.length c] w (RetK 37 (fun v => .tuple #[v, .bool (chartB ss)]) (turnV ss) w) := by
  obtain ⟨i0, hi, hz0, hz1, hz2⟩ := info_parts rotInf
  have hl := ha.len
  have HA := Lib.hid ha
  clear ha
  have O0 := Lib.hid (show OnK w (w.alloc (.cells #[] 37)) (.slice (some ⟨w.heap.size, 0, none⟩) 0 0) [] from ⟨ownK_none w _, belowK_none w _⟩)
  go_enter Try.func60, Try.ntmps60
  go_wp2
  cases e1 : chartB ss
  · have Hv := Lib.hid (And.intro e1 (turnV_no e1))
    clear e1
    go_loopw [4, 5] (fun o i wr => o = .slice (some ⟨w.heap.size, 0, none⟩) 0 0 ∧ i = .int .i64 0 ∧ OnK w wr (.slice (some ⟨w.heap.size, 0, none⟩) 0 0) []) (fun _ _ _ => 0)
    case atStart => exact ⟨rfl, rfl, O0.out⟩
    case round =>
      obtain ⟨rfl, rfl, ho⟩ := hrel
      have Ho := Lib.hid ho
      clear ho
      by_cases hlt : (0 : Int) < (ss.length : Int)
      · go_wp2_with fail
        refine (specChartValid_b _ _ _ _ (HA.out.go Ho.out.2)).mono ?_
        rintro e w2 ⟨rfl, hb2⟩
        rw [Hv.out.1]
        have Ho2 := Lib.hid (Ho.out.go hb2)
        clear hb2
        go_wp2_with fail
        refine (specChartValid_b _ _ _ _ (HA.out.go Ho2.out.2)).mono ?_
        rintro e w3 ⟨rfl, hb3⟩
        have Ho3 := Lib.hid (Ho2.out.go hb3)
        clear hb3
        go_wp2
        go_ret2
        rw [Hv.out.2]
        exact RetK.mk (f := fun v => .tuple #[v, .bool (chartB ss)]) (by simp) Ho3.out.1 Ho3.out.2
      · go_wp2_with fail
        refine (specChartValid_b _ _ _ _ (HA.out.go Ho.out.2)).mono ?_
        rintro e w3 ⟨rfl, hb3⟩
        have Ho3 := Lib.hid (Ho.out.go hb3)
        clear hb3
        go_wp2
        go_ret2
        rw [Hv.out.2]
        exact RetK.mk (f := fun v => .tuple #[v, .bool (chartB ss)]) (by simp) Ho3.out.1 Ho3.out.2
  have h8 := chart_len e1
  have Hv := Lib.hid (And.intro e1 (turnV_yes e1))
  clear e1
  go_loopw [4, 5] (fun o i wr => ∃ (k : Nat) (v : Value), k ≤ ss.length ∧ i = .int .i64 k ∧ v = o ∧ OnK w wr v (turnL (ss.take k))) (fun _ i _ => ss.length - (intOf i).toNat)
  case atStart => exact ⟨0, _, Nat.zero_le _, rfl, rfl, O0.out⟩
  case round =>
    obtain ⟨k, v, hk, rfl, rfl, ho⟩ := hrel
    have Ho := Lib.hid ho
    clear ho
    by_cases hlt : k < ss.length
    · have hsu := turn_succ hlt
      have hln := turn_take_len hk
      have g3 : (k : Int) < (ss.length : Int) := by omega
      go_wp2_with fail
      refine (specChartValid_b _ _ _ _ (HA.out.go Ho.out.2)).mono ?_
      rintro e w2 ⟨rfl, hb2⟩
      rw [Hv.out.1]
      have Ho2 := Lib.hid (Ho.out.go hb2)
      clear hb2 Ho
      obtain ⟨b, off, rfl, _, hbw, hc0, hc1, hc2, hc3⟩ := (HA.out.go Ho2.out.2).rd.at_ hlt
      obtain ⟨s, hs⟩ : ∃ s, rotAt ss k = s := ⟨_, rfl⟩
      rw [hs] at hc0 hc1 hc2 hc3 hsu
      obtain ⟨X, hX⟩ : ∃ X, turnL (ss.take k) = X := ⟨_, rfl⟩
      rw [hX] at hsu hln Ho2
      have Hsu := Lib.hid hsu
      have hXl : X.length ≤ 8 := by omega
      clear hs hX hsu hln
      go_wp2_with (at_builtin; refine wpList_append_rots rfl (.tmp 22) (.tmp 32) 23 rfl w.heap.size 37 i0 (.agg #[.int .i64 0, .int .i64 0, .int .i64 0, .int .i64 0]) Try.underlying23 hi hz0 hz1 hz2 rfl v X rfl ((Ho2.out.alloc _).alloc _).1 (some ⟨w2.heap.size + 1, 0, none⟩) 1 [turnR s] rfl (argK_one2 w2 _ (turnR s) _) (by simp only [List.length_singleton]; omega) (by have := Ho2.out.2.size; simp; omega) ?_; intro v' w9 hown9 hg9; have H9 := Lib.hid (Ho2.out.add hown9 hg9); clear hown9 hg9)
      go_roundw
      case rel => exact ⟨k + 1, v', by omega, by go_num, rfl, by rw [Hsu.out]; exact H9.out⟩
      case measure => simp [intOf]; omega
    · obtain rfl : k = ss.length := by omega
      rw [List.take_length] at Ho
      have hln := turnL_len ss
      go_wp2_with fail
      refine (specChartValid_b _ _ _ _ (HA.out.go Ho.out.2)).mono ?_
      rintro e w3 ⟨rfl, hb3⟩
      have Ho3 := Lib.hid (Ho.out.go hb3)
      clear hb3
      go_wp2
      go_ret2
      rw [Hv.out.2]
      exact RetK.mk (f := fun v => .tuple #[v, .bool (chartB ss)]) (by omega) Ho3.out.1 Ho3.out.2

end Go.Proofs.Ytjboamhjfncgdaa
