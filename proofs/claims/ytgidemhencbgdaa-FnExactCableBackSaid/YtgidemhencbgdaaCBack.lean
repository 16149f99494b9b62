/-
  CableBack of both; the chain's method turn.
-/
import Derived.Test.YtgidemhencbgdaaCSplice
namespace Go.Proofs.Ytgidemhencbgdaa
open Go.RowKit

/-- what the round of turn does -/
structure Turn (P : Nat → Prop) (w wr : World) (C : Nat) (ns xs ys : List (Nat × Sec)) : Prop where
  split : ns = xs ++ ys
  back : Seg wr xs.reverse
  ahead : Seg wr ys
  chain : wr.heap[C]? = some (.cells #[nxt ns, nxt ns] 56 (0, 0))
  frm : Frm P w wr
theorem Turn.step {P : Nat → Prop} {w wr : World} {C : Nat} {ns xs ys : List (Nat × Sec)} {x : Nat × Sec} (h0 : Chain P w C ns) (h : Turn P w wr C ns xs (x :: ys)) : Turn P w (wr.setCell ⟨x.1, 3, none⟩ (nxt xs.reverse)) C ns (xs ++ [x]) ys := by
  have hnd := h0.2.2.1
  rw [h.split, List.map_append, List.map_cons, List.nodup_append, List.nodup_cons] at hnd
  have hx1 : ∀ z ∈ xs.reverse, z.1 ≠ x.1 := fun z hz => hnd.2.2 z.1 (List.mem_map.2 ⟨z, List.mem_reverse.1 hz, rfl⟩) x.1 (by simp)
  have hx2 : ∀ z ∈ ys, z.1 ≠ x.1 := fun z hz e => hnd.2.1.1 (by rw [← e]; exact List.mem_map.2 ⟨z, hz, rfl⟩)
  have hxn : x ∈ ns := by rw [h.split]; simp
  refine ⟨by rw [h.split]; simp, ?_, h.ahead.2.far (p := ⟨x.1, 3, none⟩) hx2 _, ?_, h.frm.setCell (p := ⟨x.1, 3, none⟩) (h0.2.2.2.2 x hxn) _⟩
  · rw [List.reverse_append]
    exact ⟨h.ahead.1.set3 _, h.back.far (p := ⟨x.1, 3, none⟩) hx1 _⟩
  · exact (Below.heap_setCell wr ⟨x.1, 3, none⟩ _ C (fun e => h0.ne x hxn e.symm)).trans h.chain
theorem Turn.fin {P : Nat → Prop} {w wr : World} {C : Nat} {ns : List (Nat × Sec)} (h0 : Chain P w C ns) (h : Turn P w wr C ns ns []) : Chain P (wr.setCell ⟨C, 0, none⟩ (nxt ns.reverse)) C ns.reverse ∧ Frm P w (wr.setCell ⟨C, 0, none⟩ (nxt ns.reverse)) := by
  refine ⟨⟨?_, ?_, ?_, h0.2.2.2.1, fun x hx => h0.2.2.2.2 x (List.mem_reverse.1 hx)⟩, h.frm.setCell (p := ⟨C, 0, none⟩) h0.2.2.2.1 _⟩
  · rw [lst, List.reverse_reverse]
    exact heap_set0 h.chain _
  · exact h.back.far (p := ⟨C, 0, none⟩) (fun x hx => h0.ne x (List.mem_reverse.1 hx)) _
  · rw [List.map_reverse]
    exact List.pairwise_reverse.2 (h0.2.2.1.imp (fun h e => h e.symm))

set_option maxHeartbeats 1000000 in
theorem turn_c (P : Nat → Prop) (C : Nat) (ns : List (Nat × Sec)) (w : World) (h : Chain P w C ns) :
    Calls Try.prog 61 #[.pointer (some ⟨C, 0, none⟩)] w fun e w' => (∃ v, e = .returned v) ∧ Chain P w' C ns.reverse ∧ Frm P w w' := by
  have hc0 := h.c0
  have hc1 := h.c1
  have hf1 := h.fz 1
  obtain ⟨u, hu⟩ := nxt_pointer ns
  obtain ⟨u1, hu1⟩ := lst_pointer ns
  have hT : Turn P w (w.setCell ⟨C, 1, none⟩ (nxt ns)) C ns [] ns := ⟨rfl, trivial, h.seg.far (p := ⟨C, 1, none⟩) (fun x hx => h.ne x hx) _, heap_set1 h.1 _, (Frm.refl P w).setCell (p := ⟨C, 1, none⟩) h.2.2.2.1 _⟩
  rw [hu] at hc0 hT
  rw [hu1] at hc1
  have Hu := Lib.hid hu
  have H := Lib.hid h
  have HT := Lib.hid hT
  clear hu hu1 h hT
  go_enter Try.func61, Try.ntmps61
  go_wp2
  go_loopg [2, 3] ns.length (fun k a l wr => ∃ xs ys : List (Nat × Sec), ys.length = k ∧ l = nxt ys ∧ a = nxt xs.reverse ∧ Turn P w wr C ns xs ys)
  case atStart => exact ⟨[], ns, rfl, Hu.out.symm, rfl, HT.out⟩
  case round =>
    obtain ⟨xs, ys, hk, rfl, rfl, hM⟩ := hrel
    obtain ⟨pu, hpu⟩ := nxt_pointer xs.reverse
    have Hk := Lib.hid hk
    clear hk
    have hcc := hM.chain
    have hd0 : wr.cell? ⟨C, 0, none⟩ = some (nxt ns) := cell_of_row _ _ 0 _ _ _ hcc
    have hdf : wr.frozen? ⟨C, 0, none⟩ = false := by simp [World.frozen?, hcc]
    rw [Hu.out] at hd0
    cases ys with
    | nil =>
      have hns : ns = xs := by simpa using hM.split
      subst hns
      have hfin := hM.fin H.out
      rw [hpu] at hfin ⊢
      rw [nxt_nil]
      have Hfin := Lib.hid hfin
      clear hfin hpu hM hcc
      go_wp2
      go_end0
      exact ⟨⟨_, rfl⟩, Hfin.out⟩
    | cons x ys' =>
      have hl := hM.ahead.1
      have hx3 := hl.c3
      have hxf := hl.fz 3
      obtain ⟨nu, hnu⟩ := nxt_pointer ys'
      have hstep := hM.step H.out
      rw [hpu] at hstep ⊢
      rw [hnu] at hx3
      rw [nxt_cons]
      have Hnu := Lib.hid hnu
      have Hpu := Lib.hid hpu
      have Hstep := Lib.hid hstep
      clear hnu hpu hstep hM hl hcc hd0 hdf
      go_wp2
      go_roundg ys'.length
      case measure => have := Hk.out; simp at this; omega
      case rel => exact ⟨xs ++ [x], ys', rfl, Hnu.out.symm, by rw [List.reverse_append]; rfl, Hstep.out⟩

def backL (ss : List Sec) : List Sec := if cabB ss then ss.reverse else []
theorem backL_no {ss : List Sec} (h : cabB ss = false) : backL ss = [] := by unfold backL; rw [h]; rfl
theorem backL_yes {ss : List Sec} (h : cabB ss = true) : backL ss = ss.reverse := by unfold backL; rw [h]; rfl
theorem cabB_reverse (ss : List Sec) : cabB ss.reverse = cabB ss := by
  unfold cabB allOk
  rw [List.length_reverse, List.all_reverse]
theorem secs_reverse (ns : List (Nat × Sec)) : secs ns.reverse = (secs ns).reverse := by simp [secs]

set_option maxHeartbeats 1000000 in
theorem implCableBack_b (A : Option Addr) (c : Nat) (ss : List Sec) (w : World) (ha : ArgC w A c ss) :
    Calls Try.prog 42 #[.slice A ss.length c] w (RetC 58 (fun v => .tuple #[v, .bool (cabB ss)]) (backL ss) w) := by
  have HA := Lib.hid ha
  clear ha
  cases hv : cabB ss
  · rw [backL_no hv]
    have Hv := Lib.hid hv
    clear hv
    go_enter Try.func42, Try.ntmps42
    go_wp2_with fail
    refine (chainOf_no A c ss _ HA.out Hv.out).mono ?_
    rintro e w1 ⟨rfl, hb⟩
    have Hb := Lib.hid hb
    clear hb
    go_wp2
    go_ret2
    exact RetC.nil (f := fun v => .tuple #[v, .bool false]) Hb.out
  · have hl := (cab_len hv).2
    have hz : RetC 58 (fun v => .tuple #[v, .bool true]) (backL ss) w = RetC 58 (fun v => .tuple #[v, .bool (cabB ss.reverse)]) (cabL ss.reverse) w := by
      have h2 : cabB ss.reverse = true := by rw [cabB_reverse, hv]
      rw [backL_yes hv, cabL_yes h2, h2]
    rw [hz]
    have Hv := Lib.hid hv
    clear hv hz
    go_enter Try.func42, Try.ntmps42
    go_wp2_with fail
    refine (chainOf_yes A c ss _ HA.out Hv.out).mono ?_
    rintro e w1 ⟨C, ns, rfl, hn, hC, hb⟩
    dsimp only
    have Hb := Lib.hid hb
    have HC := Lib.hid hC
    have Hn := Lib.hid hn
    clear hb hC hn
    go_wp2_with fail
    refine (turn_c _ C ns _ HC.out).mono ?_
    rintro e w2 ⟨⟨v, rfl⟩, hC2, hf⟩
    have HC2 := Lib.hid hC2
    have Hb2 := Lib.hid (Hb.out.trans (hf.below (B := w.heap.size) Hb.out.size (fun k hk hp => by omega)))
    have Hn2 := Lib.hid (show secs ns.reverse = ss.reverse by rw [secs_reverse, Hn.out])
    clear hC2 hf
    go_wp2_with fail
    refine (cable_c _ C _ _ _ HC2.out Hn2.out (by rw [List.length_reverse]; omega)).mono ?_
    rintro e w4 ⟨A1, c1, rfl, ra, ro, rb⟩
    dsimp only
    have Hb4 := Lib.hid (below_step Hb2.out rb)
    have Ra := Lib.hid ra
    have Ro := Lib.hid (ro.more Hb2.out.size (Nat.le_refl _))
    clear ra ro rb
    go_wp2
    go_ret2
    exact ⟨A1, c1, rfl, Ra.out, Ro.out, Hb4.out⟩

/-- the last k, the last one first -/
def revC (ss : List Sec) (k : Nat) : List Sec := (ss.drop (ss.length - k)).reverse
theorem revC_zero (ss : List Sec) : revC ss 0 = [] := by simp [revC]
theorem revC_all (ss : List Sec) : revC ss ss.length = ss.reverse := by simp [revC]
theorem revC_length (ss : List Sec) {k : Nat} (h : k ≤ ss.length) : (revC ss k).length = k := by simp [revC]; omega
theorem revC_succ (ss : List Sec) {k p : Nat} (h : k < ss.length) (hp : ss.length - 1 - k = p) : revC ss (k + 1) = revC ss k ++ [secAt ss p] := by
  unfold revC
  have e : ss.length - (k + 1) = p := by omega
  have e2 : ss.length - k = p + 1 := by omega
  rw [e, e2, drop_at2 (by omega), List.reverse_cons]
where
  drop_at2 {p : Nat} (h : p < ss.length) : ss.drop p = secAt ss p :: ss.drop (p + 1) := by rw [secAt_lt h, List.getElem_cons_drop]

set_option maxHeartbeats 2000000 in
theorem specCableBack_b (A : Option Addr) (c : Nat) (ss : List Sec) (w : World) (ha : ArgC w A c ss) :
    Calls Try.prog 41 #[.slice A ss.length c] w (RetC 58 (fun v => .tuple #[v, .bool (cabB ss)]) (backL ss) w) := by
  obtain ⟨i0, hi, hz0, hz1, hz2⟩ := info_parts section_info
  obtain ⟨N, hN⟩ : ∃ N, N = if cabB ss then ss.length else 0 := ⟨_, rfl⟩
  have hl := ha.len
  have HA := Lib.hid ha
  have HN := Lib.hid hN
  have hNl : N ≤ ss.length := by rw [hN]; split <;> omega
  clear ha hN
  go_enter Try.func41, Try.ntmps41
  go_wp2
  go_loopw [4, 5] (fun o i wr => ∃ (k : Nat) (v : Value), k ≤ N ∧ i = .int .i64 ((ss.length : Int) - 1 - (k : Int)) ∧ v = o ∧ wr.ownsRow w.heap.size 58 3 v k (secCells (revC ss k)) ∧ Below w.heap.size w wr) (fun _ i _ => (intOf i + 1).toNat)
  case atStart => exact ⟨0, _, Nat.zero_le _, by simp, rfl, by rw [revC_zero]; exact World.ownsRow_made w #[] 0 (Nat.le_refl _) (by simp) rfl, (Below.refl _ _).alloc (Nat.le_refl _) _⟩
  case round =>
    obtain ⟨k, v, hk, rfl, rfl, hok, hbk⟩ := hrel
    have Ha := Lib.hid (HA.out.go hbk)
    by_cases hlt : k < N
    · have hv : cabB ss = true := by
        have := HN.out
        cases h : cabB ss
        · rw [h] at this; simp at this; omega
        · rfl
      have Hv := Lib.hid hv
      have h16 := (cab_len hv).2
      clear hv
      obtain ⟨p, hp⟩ : ∃ p, ss.length - 1 - k = p := ⟨_, rfl⟩
      have hpi : (ss.length : Int) - 1 - (k : Int) = (p : Int) := by omega
      have hpl : p < ss.length := by omega
      have Hs := Lib.hid (revC_succ ss (k := k) (by omega) hp)
      have Hpi := Lib.hid hpi
      have Hok := Lib.hid hok
      have Hbk := Lib.hid hbk
      clear hp hok hbk
      rw [hpi]
      clear hpi
      have g1 : (0 : Int) ≤ (p : Int) := by omega
      have g2 : (p : Int) < (ss.length : Int) := by omega
      go_wp2_with fail
      refine (specCableValid_c _ c ss _ Ha.out).mono ?_
      rintro e w2 ⟨rfl, hb2⟩
      rw [Hv.out]
      have hok := own_below Hok.out hb2
      have Hb2 := Lib.hid (Hbk.out.trans (hb2.mono Hbk.out.size))
      obtain ⟨b, off, rfl, _, _, hc0, hc1, hc2⟩ := (Ha.out.go hb2).rd.at_ hpl
      obtain ⟨y, hy⟩ : ∃ y, secAt ss p = y := ⟨_, rfl⟩
      rw [hy] at hc0 hc1 hc2
      have Hy := Lib.hid hy
      clear hy hb2
      go_wp2_with (at_builtin; refine wpList_append_own _ rfl _ _ 23 rfl w.heap.size 58 i0 _ 3 24 Try.underlying23 hi hz0 hz1 hz2 rfl (by decide) v k _ rfl (hok.alloc _) ⟨w2.heap.size, 0, none⟩ 1 1 (secCell y) rfl rfl (secCell_new _ _ _) (secCell_one _) (by unfold maxLen; omega) (by omega) (by have := Hb2.out.size; simp; omega) ?_; intro v' w3 hown3 hg3 _)
      have hb3 : Below w.heap.size w w3 := (Hb2.out.alloc Hb2.out.size _).grown hg3 (by have := Hb2.out.size; simp; omega) (fun r e => (hok.lt r e).1)
      go_roundw
      case rel => exact ⟨k + 1, v', by omega, by have := Hpi.out; simp; omega, rfl, by rw [Hs.out, Hy.out, secCells_snoc]; exact hown3, hb3⟩
      case measure => simp [intOf]
    · obtain rfl : k = N := by omega
      cases hv : cabB ss
      · have hk0 : k = 0 := by
          have := HN.out
          rw [hv] at this
          simpa using this
        subst hk0
        rw [revC_zero] at hok
        have Hfl := Lib.hid (backL_no hv)
        have Hok := Lib.hid hok
        have Hbk := Lib.hid hbk
        have Hv := Lib.hid hv
        clear hv hok hbk
        by_cases h1 : 0 < ss.length
        · have g1 : (0 : Int) ≤ (ss.length : Int) - 1 - ((0 : Nat) : Int) := by omega
          go_wp2_with fail
          refine (specCableValid_c A c ss _ Ha.out).mono ?_
          rintro e w2 ⟨rfl, hb2⟩
          rw [Hv.out]
          have Hok2 := Lib.hid (own_below Hok.out hb2)
          have Hb2 := Lib.hid (Hbk.out.trans (hb2.mono Hbk.out.size))
          have Ha2 := Lib.hid (Ha.out.go hb2)
          clear hb2
          go_wp2_with fail
          refine (specCableValid_c A c ss _ Ha2.out).mono ?_
          rintro e w3 ⟨rfl, hb3⟩
          rw [Hv.out]
          have Hok3 := Lib.hid (own_below Hok2.out hb3)
          have Hb3 := Lib.hid (Hb2.out.trans (hb3.mono Hb2.out.size))
          clear hb3
          go_wp2
          go_ret2
          rw [Hfl.out, Hv.out]
          exact RetC.mk (f := fun v => .tuple #[v, .bool false]) (by simp) Hok3.out Hb3.out
        · have g1 : ¬ ((0 : Int) ≤ (ss.length : Int) - 1 - ((0 : Nat) : Int)) := by omega
          go_wp2_with fail
          refine (specCableValid_c A c ss _ Ha.out).mono ?_
          rintro e w2 ⟨rfl, hb2⟩
          rw [Hv.out]
          have Hok2 := Lib.hid (own_below Hok.out hb2)
          have Hb2 := Lib.hid (Hbk.out.trans (hb2.mono Hbk.out.size))
          clear hb2
          go_wp2
          go_ret2
          rw [Hfl.out, Hv.out]
          exact RetC.mk (f := fun v => .tuple #[v, .bool false]) (by simp) Hok2.out Hb2.out
      · have hk0 : k = ss.length := by
          have := HN.out
          rw [hv] at this
          simpa using this
        subst hk0
        rw [revC_all] at hok
        have Hfl := Lib.hid (backL_yes hv)
        have Hok := Lib.hid hok
        have Hbk := Lib.hid hbk
        have Hv := Lib.hid hv
        clear hv hok hbk
        have g1 : ¬ ((0 : Int) ≤ (ss.length : Int) - 1 - (ss.length : Int)) := by omega
        go_wp2_with fail
        refine (specCableValid_c A c ss _ Ha.out).mono ?_
        rintro e w2 ⟨rfl, hb2⟩
        rw [Hv.out]
        have Hok2 := Lib.hid (own_below Hok.out hb2)
        have Hb2 := Lib.hid (Hbk.out.trans (hb2.mono Hbk.out.size))
        clear hb2
        go_wp2
        go_ret2
        rw [Hfl.out, Hv.out]
        exact RetC.mk (f := fun v => .tuple #[v, .bool true]) (by simpa using hl) (by rw [List.length_reverse]; exact Hok2.out) Hb2.out

end Go.Proofs.Ytgidemhencbgdaa
