/-
  plans of the program: all plans in their order, one behind the other in one block.
-/
import Derived.Test.YtodboccadccpfaaDoorPlS
import Derived.RangeFuncNested
import Derived.RangeFuncBound
import Derived.RangeFuncCalls
import Derived.RangeFuncLeaves
import Derived.RangeFuncBox
import Derived.Shelf.Abstract
import Derived.Shelf.RegionOpen
import Derived.Sort.QuietTacIn
import Derived.Sort.LoopGhostIn
import Derived.OwnWalkIn
import Derived.TacticsInMore
import Derived.LoopNIn
import Derived.LoopIn
namespace Go.Proofs.YtodboccadccpfaaDoor
open Go.RowKit Go.Shelf

attribute [local go_sem] Oper.semAt_some

theorem all_at {N k : Nat} (hN : N ≤ 6) {p : List Int} (h : (allP N)[k]? = some p) : p.length = N ∧ (∀ i, i + 1 < p.length → p[i]?.getD 0 ≠ p[i + 1]?.getD 0) ∧ nextP p = (allP N)[k + 1]? ∧ ordB p = true := by
  obtain ⟨hk, e⟩ := List.getElem?_eq_some_iff.1 h
  obtain ⟨ho, hl⟩ := (allP_mem (n := N) (by omega)).1 (show p ∈ allP N by rw [← e]; exact List.getElem_mem hk)
  refine ⟨hl, fun i hi he => ?_, ?_, ho⟩
  · have := ord_inj ho (by omega) hi he
    omega
  · have hs : allP N = (allP N).take k ++ p :: (allP N).drop (k + 1) := by
      rw [← e, List.getElem_cons_drop, List.take_append_drop]
    rw [plans_next hN hs, List.head?_drop]
theorem all_first {N : Nat} (hN : N ≤ 6) : (allP N)[0]? = some (firstP N) := by
  obtain ⟨t, e⟩ := plans_start hN
  rw [e]; rfl

set_option maxRecDepth 100000 in
set_option maxHeartbeats 2000000 in
theorem plans1_in (n : Nat) (hn : 1 ≤ n) (l Bs N : Nat) (hN : N ≤ 6) (W0 : World) (J : Nat → Nat → World → Prop)
    (hJ : ∀ PB k W W', W0.heap.size ≤ PB → J PB k W → KeepBut (fun x => x = PB) W W' → J PB k W')
    (hY : ∀ PB k p W, W0.heap.size ≤ PB → (allP N)[k]? = some p → J PB k W → PlAt W PB p → YieldAt Fence.wide (n - 1) Tryd.prog l #[.slice (some ⟨PB, 0, none⟩) N N] W fun e W' => e = .returned (.bool true) ∧ J PB (k + 1) W' ∧ PlAt W' PB p)
    (hBs : W0.cell? ⟨Bs, 0, none⟩ = some (.int .i64 N))
    (h0 : ∀ PB W, W0.heap.size ≤ PB → Below W0.heap.size W0 W → PlAt W PB (firstP N) → J PB 0 W) :
    CallsIn Fence.wide n Tryd.prog 52 #[.func (.yield l) #[] #[], .pointer (some ⟨Bs, 0, none⟩)] W0 fun e W' => (∃ v, e = .returned v) ∧ ∃ PB, W0.heap.size ≤ PB ∧ J PB (allP N).length W' := by
  have HJ := Lib.hid hJ
  have HY := Lib.hid hY
  have H0 := Lib.hid h0
  clear hJ hY h0
  refine callsIn_of_wp Tryd.func52 rfl trivial ?_ rfl
  simp only [Tryd.ntmps52, List.size_toArray, List.length_cons, List.length_nil, Nat.reduceAdd, Nat.reduceSub, Array.replicate_succ, Array.replicate_zero, List.push_toArray, List.append_toArray, List.nil_append, List.cons_append]
  gi_wp2_with (first
    | (refine ⟨trivial, ?_⟩; gi_at_call 41; refine (callsIn_wide.2 (firstPlan_c N hN W0)).mono ?_; rintro e w1 ⟨PB, rfl, hPB, hp1, hb1⟩))
  have HS := Lib.hid (show ∃ k p, (allP N)[k]? = some p ∧ (allP N).length ≤ (allP N).length + k ∧ J PB k w1 ∧ PlAt w1 PB p from ⟨0, firstP N, all_first hN, by omega, H0.out PB w1 hPB hb1 hp1, hp1⟩)
  clear hb1 hp1 hBs
  gi_loopg [] (allP N).length (fun g wr => ∃ k p, (allP N)[k]? = some p ∧ (allP N).length ≤ g + k ∧ J PB k wr ∧ PlAt wr PB p)
  case atStart => exact HS.out
  case round =>
    obtain ⟨k, p, hk, hgk, hj, hp⟩ := hrel
    obtain ⟨hpl, hpd, hpn, hpo⟩ := all_at hN hk
    have hkl := (List.getElem?_eq_some_iff.1 hk).1
    obtain ⟨fn, tmps, assign, body, hy, hR⟩ := HY.out PB k p wr hPB hk hj hp
    have HR := Lib.hid hR
    have Hpd := Lib.hid hpd
    have Hpn := Lib.hid hpn
    have Hk := Lib.hid hk
    have Hpl := Lib.hid hpl
    clear hR hpd hpn hpo hk hj hp hpl
    gi_wp2
    refine HR.out.mono ?_
    rintro e W3 ⟨rfl, hj3, hp3⟩
    have Hj3 := Lib.hid hj3
    have hnx := nextPlan_c p PB W3 hp3 (by rw [Hpl.out]; exact hN) Hpd.out
    rw [Hpl.out] at hnx
    have Hnx := Lib.hid hnx
    clear hj3 hp3 hnx
    gi_wp2_with (first
      | (refine ⟨trivial, ?_⟩; gi_at_call 53; refine (callsIn_wide.2 Hnx.out).mono ?_; rintro e W4 ⟨(⟨hnx, rfl, hp4⟩ | ⟨q, hnx, rfl, hp4⟩), hk4⟩))
    · have hend : (allP N).length = k + 1 := by
        have h2 := Hpn.out.symm.trans hnx
        have h3 := List.getElem?_eq_none_iff.1 h2
        omega
      have Hfin := Lib.hid (show ∃ PB, W0.heap.size ≤ PB ∧ J PB (allP N).length W4 from ⟨PB, hPB, by rw [hend]; exact HJ.out PB (k + 1) W3 W4 hPB Hj3.out hk4⟩)
      clear hnx hp4 hk4 hend
      go_end0
      exact ⟨⟨_, rfl⟩, Hfin.out⟩
    · have hk1 : (allP N)[k + 1]? = some q := Hpn.out.symm.trans hnx
      have hj4 := HJ.out PB (k + 1) W3 W4 hPB Hj3.out hk4
      have Hk1 := Lib.hid hk1
      have Hj4 := Lib.hid hj4
      have Hp4 := Lib.hid hp4
      have hkl1 := (List.getElem?_eq_some_iff.1 hk1).1
      clear hnx hp4 hk4 hk1 hj4
      gi_roundg ((allP N).length - (k + 1))
      case rel => exact ⟨k + 1, q, Hk1.out, by omega, Hj4.out, Hp4.out⟩
      case measure => omega

end Go.Proofs.YtodboccadccpfaaDoor
