/-
  CableBack of the program; the chain's method turn.
-/
import Derived.Test.YtndpdoiomoefpaaSects
import Derived.Test.YtndpdoiomoefpaaChainO
import Derived.Test.YtndpdoiomoefpaaCMiles
namespace Go.Proofs.Ytndpdoiomoefpaa
open Go.RowKit

/-- what the round of turn does -/
structure Turn (P : Nat → Prop) (w wr : World) (C : Nat) (ns xs ys : List (Nat × Sec)) : Prop where
  split : ns = xs ++ ys
  back : Seg wr xs.reverse
  ahead : Seg wr ys
  chain : wr.heap[C]? = some (.cells #[nxt ns, nxt ns] 89 (0, 0))
  frm : Frm P w wr
theorem Turn.step {P : Nat → Prop} {w wr : World} {C : Nat} {ns xs ys : List (Nat × Sec)} {x : Nat × Sec} (h0 : Chain P w C ns) (h : Turn P w wr C ns xs (x :: ys)) : Turn P w (wr.setCell ⟨x.1, 3, none⟩ (nxt xs.reverse)) C ns (xs ++ [x]) ys := by
  have hnd := h0.2.2.1
  rw [h.split, List.map_append, List.map_cons, List.nodup_append, List.nodup_cons] at hnd
  have hx1 : ∀ z ∈ xs.reverse, z.1 ≠ x.1 := fun z hz => hnd.2.2 z.1 (List.mem_map.2 ⟨z, List.mem_reverse.1 hz, rfl⟩) x.1 (by simp)
  have hx2 : ∀ z ∈ ys, z.1 ≠ x.1 := fun z hz e => hnd.2.1.1 (by rw [← e]; exact List.mem_map.2 ⟨z, hz, rfl⟩)
  have hxn : x ∈ ns := by rw [h.split]; simp
  refine ⟨by rw [h.split]; simp, ?_, h.ahead.2.far (p := ⟨x.1, 3, none⟩) hx2 _, ?_, h.frm.setCell (p := ⟨x.1, 3, none⟩) (h0.2.2.2.2 x hxn) _⟩
  · rw [List.reverse_append]
    exact ⟨h.ahead.1.set3 _, h.back.far (p := ⟨x.1, 3, none⟩) hx1 _⟩
  · exact (Below.heap_setCell wr ⟨x.1, 3, none⟩ _ C (fun e => h0.ne x hxn e.symm)).trans h.chain
theorem Turn.fin {P : Nat → Prop} {w wr : World} {C : Nat} {ns : List (Nat × Sec)} (h0 : Chain P w C ns) (h : Turn P w wr C ns ns []) : Chain P (wr.setCell ⟨C, 0, none⟩ (nxt ns.reverse)) C ns.reverse ∧ Frm P w (wr.setCell ⟨C, 0, none⟩ (nxt ns.reverse)) := by
  refine ⟨⟨?_, ?_, ?_, h0.2.2.2.1, fun x hx => h0.2.2.2.2 x (List.mem_reverse.1 hx)⟩, h.frm.setCell (p := ⟨C, 0, none⟩) h0.2.2.2.1 _⟩
  · rw [lst, List.reverse_reverse]
    exact heap_set0 h.chain _
  · exact h.back.far (p := ⟨C, 0, none⟩) (fun x hx => h0.ne x (List.mem_reverse.1 hx)) _
  · rw [List.map_reverse]
    exact List.pairwise_reverse.2 (h0.2.2.1.imp (fun h e => h e.symm))

set_option maxRecDepth 100000 in
set_option maxHeartbeats 1000000 in
theorem turn_c (P : Nat → Prop) (C : Nat) (ns : List (Nat × Sec)) (w : World) (h : Chain P w C ns) :
    Calls Try.prog 99 #[.pointer (some ⟨C, 0, none⟩)] w fun e w' => (∃ v, e = .returned v) ∧ Chain P w' C ns.reverse ∧ Frm P w w' := by
  have hc0 := h.c0
  have hc1 := h.c1
  have hf1 := h.fz 1
  obtain ⟨u, hu⟩ := nxt_pointer ns
  obtain ⟨u1, hu1⟩ := lst_pointer ns
  have hT : Turn P w (w.setCell ⟨C, 1, none⟩ (nxt ns)) C ns [] ns := ⟨rfl, trivial, h.seg.far (p := ⟨C, 1, none⟩) (fun x hx => h.ne x hx) _, heap_set1 h.1 _, (Frm.refl P w).setCell (p := ⟨C, 1, none⟩) h.2.2.2.1 _⟩
  rw [hu] at hc0 hT
  rw [hu1] at hc1
  have Hu := Lib.hid hu
  have H := Lib.hid h
  have HT := Lib.hid hT
  clear hu hu1 h hT
  go_enter Try.func99, Try.ntmps99
  go_wp2
  go_loopg [2, 3] ns.length (fun k a l wr => ∃ xs ys : List (Nat × Sec), ys.length = k ∧ l = nxt ys ∧ a = nxt xs.reverse ∧ Turn P w wr C ns xs ys)
  case atStart => exact ⟨[], ns, rfl, Hu.out.symm, rfl, HT.out⟩
  case round =>
    obtain ⟨xs, ys, hk, rfl, rfl, hM⟩ := hrel
    obtain ⟨pu, hpu⟩ := nxt_pointer xs.reverse
    have Hk := Lib.hid hk
    clear hk
    have hcc := hM.chain
    have hd0 : wr.cell? ⟨C, 0, none⟩ = some (nxt ns) := cell_of_row _ _ 0 _ _ _ hcc
    have hdf : wr.frozen? ⟨C, 0, none⟩ = false := by simp [World.frozen?, hcc]
    rw [Hu.out] at hd0
    cases ys with
    | nil =>
      have hns : ns = xs := by simpa using hM.split
      subst hns
      have hfin := hM.fin H.out
      rw [hpu] at hfin ⊢
      rw [nxt_nil]
      have Hfin := Lib.hid hfin
      clear hfin hpu hM hcc
      go_wp2
      go_end0
      exact ⟨⟨_, rfl⟩, Hfin.out⟩
    | cons x ys' =>
      have hl := hM.ahead.1
      have hx3 := hl.c3
      have hxf := hl.fz 3
      obtain ⟨nu, hnu⟩ := nxt_pointer ys'
      have hstep := hM.step H.out
      rw [hpu] at hstep ⊢
      rw [hnu] at hx3
      rw [nxt_cons]
      have Hnu := Lib.hid hnu
      have Hpu := Lib.hid hpu
      have Hstep := Lib.hid hstep
      clear hnu hpu hstep hM hl hcc hd0 hdf
      go_wp2
      go_roundg ys'.length
      case measure => have := Hk.out; simp at this; omega
      case rel => exact ⟨xs ++ [x], ys', rfl, Hnu.out.symm, by rw [List.reverse_append]; rfl, Hstep.out⟩

def backL (ss : List Sec) : List Sec := if cabB ss then ss.reverse else []
theorem backL_no {ss : List Sec} (h : cabB ss = false) : backL ss = [] := by unfold backL; rw [h]; rfl
theorem backL_yes {ss : List Sec} (h : cabB ss = true) : backL ss = ss.reverse := by unfold backL; rw [h]; rfl
theorem cabB_reverse (ss : List Sec) : cabB ss.reverse = cabB ss := by
  unfold cabB allOk
  rw [List.length_reverse, List.all_reverse]
theorem secs_reverse (ns : List (Nat × Sec)) : secs ns.reverse = (secs ns).reverse := by simp [secs]

set_option maxRecDepth 100000 in
set_option maxHeartbeats 1000000 in
theorem implCableBack_b (A : Option Addr) (c : Nat) (ss : List Sec) (w : World) (ha : ArgC w A c ss) :
    Calls Try.prog 50 #[.slice A ss.length c] w (RetC 54 (fun v => .tuple #[v, .bool (cabB ss)]) (backL ss) w) := by
  have HA := Lib.hid ha
  clear ha
  cases hv : cabB ss
  · rw [backL_no hv]
    have Hv := Lib.hid hv
    clear hv
    go_enter Try.func50, Try.ntmps50
    go_wp2_with fail
    refine (chainOf_no A c ss _ HA.out Hv.out).mono ?_
    rintro e w1 ⟨rfl, hb⟩
    have Hb := Lib.hid hb
    clear hb
    go_wp2
    go_ret2
    exact RetC.nil (f := fun v => .tuple #[v, .bool false]) Hb.out
  · have hl := (cab_len hv).2
    have hz : RetC 54 (fun v => .tuple #[v, .bool true]) (backL ss) w = RetC 54 (fun v => .tuple #[v, .bool (cabB ss.reverse)]) (cabL ss.reverse) w := by
      have h2 : cabB ss.reverse = true := by rw [cabB_reverse, hv]
      rw [backL_yes hv, cabL_yes h2, h2]
    rw [hz]
    have Hv := Lib.hid hv
    clear hv hz
    go_enter Try.func50, Try.ntmps50
    go_wp2_with fail
    refine (chainOf_yes A c ss _ HA.out Hv.out).mono ?_
    rintro e w1 ⟨C, ns, rfl, hn, hC, hb⟩
    dsimp only
    have Hb := Lib.hid hb
    have HC := Lib.hid hC
    have Hn := Lib.hid hn
    clear hb hC hn
    go_wp2_with fail
    refine (turn_c _ C ns _ HC.out).mono ?_
    rintro e w2 ⟨⟨v, rfl⟩, hC2, hf⟩
    have HC2 := Lib.hid hC2
    have Hb2 := Lib.hid (Hb.out.trans (hf.below (B := w.heap.size) Hb.out.size (fun k hk hp => by omega)))
    have Hn2 := Lib.hid (show secs ns.reverse = ss.reverse by rw [secs_reverse, Hn.out])
    clear hC2 hf
    go_wp2_with fail
    refine (cable_c _ C _ _ _ HC2.out Hn2.out (by rw [List.length_reverse]; omega)).mono ?_
    rintro e w4 ⟨A1, c1, rfl, ra, ro, rb⟩
    dsimp only
    have Hb4 := Lib.hid (below_step Hb2.out rb)
    have Ra := Lib.hid ra
    have Ro := Lib.hid (ro.more Hb2.out.size (Nat.le_refl _))
    clear ra ro rb
    go_wp2
    go_ret2
    exact ⟨A1, c1, rfl, Ra.out, Ro.out, Hb4.out⟩

end Go.Proofs.Ytndpdoiomoefpaa
