/-
  CablePlain of both; the walk of merge.
-/
import Derived.Test.YtndpdoiomoefpaaCMerge
namespace Go.Proofs.Ytndpdoiomoefpaa
open Go.RowKit

set_option maxHeartbeats 4000000 in
set_option maxRecDepth 100000 in
theorem merge_c (P : Nat → Prop) (C : Nat) (ns : List (Nat × Sec)) (w : World) (h : Chain P w C ns) (hg : Good (secs ns)) :
    Calls Try.prog 104 #[.pointer (some ⟨C, 0, none⟩)] w fun e w' => (∃ v, e = .returned v) ∧ (∃ ms, Chain P w' C ms ∧ secs ms = plainL (secs ns)) ∧ Frm P w w' := by
  have hc0 := h.c0
  obtain ⟨u, hu⟩ := nxt_pointer ns
  rw [hu] at hc0
  have Hu := Lib.hid hu
  have HM := Lib.hid (Mrg.start h hg)
  have H := Lib.hid h
  clear hu h hg
  go_enter Try.func104, Try.ntmps104
  go_wp2
  go_loopg [2] ns.length (fun k l wr => ∃ D Y : List (Nat × Sec), Y.length ≤ k ∧ l = nxt Y ∧ Mrg P w wr C ns D Y ∧ MInv (secs ns) D Y)
  case atStart => exact ⟨[], ns, Nat.le_refl _, Hu.out.symm, HM.out, MInv.start ns⟩
  case round =>
    obtain ⟨D, Y, hk, rfl, hM, hI⟩ := hrel
    have HM2 := Lib.hid hM
    have HI := Lib.hid hI
    clear hM hI HM
    cases Y with
    | nil =>
      rw [nxt_nil]
      go_wp2
      go_end0
      exact ⟨⟨_, rfl⟩, ⟨D, HM2.out.fin H.out, HI.out⟩, HM2.out.frm⟩
    | cons x Y' =>
      obtain ⟨b, s⟩ := x
      rw [nxt_cons]
      go_wp2
      obtain ⟨wo, hwo⟩ : ∃ wo : World, wo = wr := ⟨_, rfl⟩
      go_loopg [] Y'.length (fun j wr => ∃ (s : Sec) (Z : List (Nat × Sec)), Z.length ≤ j ∧ Z.length ≤ Y'.length ∧ Mrg P w wr C ns D ((b, s) :: Z) ∧ MInv (secs ns) D ((b, s) :: Z))
      case atStart => exact ⟨s, Y', Nat.le_refl _, Nat.le_refl _, HM2.out, HI.out⟩
      case round =>
        clear HM2 HI
        obtain ⟨s, Z, hk2, hk3, hM, hI⟩ := hrel
        have HM2 := Lib.hid hM
        have HI := Lib.hid hI
        have hl := hM.seg.mid
        have hb0 := hl.c0
        have hb1 := hl.c1
        have hb2 := hl.c2
        have hb3 := hl.c3
        have hbf0 := hl.fz 0
        have hbf3 := hl.fz 3
        clear hM hI hl
        obtain ⟨aC, hcC, _, _⟩ := HM2.out.chain
        have hc1 : wr.cell? ⟨C, 1, none⟩ = some (.pointer aC) := cell_of_row _ _ 1 _ _ _ hcC
        have hcf1 : wr.frozen? ⟨C, 1, none⟩ = false := by simp [World.frozen?, hcC]
        clear hcC
        cases Z with
        | nil =>
          rw [nxt_nil] at hb3
          have HI2 := Lib.hid HI.out.fin
          have HN := Lib.hid (HM2.out.next H.out)
          go_wp2
          go_quiet (fail)
          go_wp2
          go_roundg 0
          case measure => simp at hk; omega
          case rel => exact ⟨D ++ [(b, s)], [], Nat.le_refl _, rfl, HN.out.drewN _, HI2.out⟩
        | cons y Z' =>
          rw [nxt_cons] at hb3
          have hly := HM2.out.seg.tail.2.1
          have hy0 := hly.c0
          have hy1 := hly.c1
          have hy2 := hly.c2
          have hy3 := hly.c3
          obtain ⟨u3, hu3⟩ := nxt_pointer Z'
          rw [hu3] at hy3
          have hgd := HM2.out.good
          rw [secs_append, secs_cons, secs_cons] at hgd
          obtain ⟨t1, t2, t3⟩ := hgd.two
          simp only at t1 t2 t3
          have HT := fun n => (HM2.out.drewN n).take H.out
          rw [hu3] at HT
          have HTT := Lib.hid HT
          have Hu3 := Lib.hid hu3
          have HN := Lib.hid (HM2.out.next H.out)
          clear hly hgd HT hu3
          by_cases e1 : y.2.k = s.k
          · have b1 : (y.2.k == s.k) = true := by simp [e1]
            by_cases e2 : y.2.o = s.o
            · have b2 : (y.2.o == s.o) = true := by simp [e2]
              have HI2 := Lib.hid (HI.out.same e1.symm e2.symm)
              have q1 : IntKind.i64.wrap (s.m + y.2.m) = s.m + y.2.m := IntWalk.i64_in _ (by omega)
              clear e1 e2
              go_wp2
              go_quiet (fail)
              go_wp2
              generalize hW : wr.drewN _ = W
              have HW := Lib.hid hW
              have cb0 : W.cell? ⟨b, 0, none⟩ = some (.int .i64 s.m) := by rw [← hW]; exact hb0
              have cb3 : W.cell? ⟨b, 3, none⟩ = some (.pointer (some ⟨y.1, 0, none⟩)) := by rw [← hW]; exact hb3
              have cy0 : W.cell? ⟨y.1, 0, none⟩ = some (.int .i64 y.2.m) := by rw [← hW]; exact hy0
              have cy3 : W.cell? ⟨y.1, 3, none⟩ = some (.pointer u3) := by rw [← hW]; exact hy3
              have cf0 : W.frozen? ⟨b, 0, none⟩ = false := by rw [← hW]; exact hbf0
              have cf3 : W.frozen? ⟨b, 3, none⟩ = false := by rw [← hW]; exact hbf3
              clear hW hb0 hb1 hb2 hb3 hy0 hy1 hy2 hy3 hbf0 hbf3 hc1 hcf1 b1 b2
              go_still_tail 17, (by kernel_rfl)
              go_wp2
              go_roundg Z'.length
              case measure => simp at hk2; omega
              case rel => exact ⟨⟨s.m + y.2.m, s.k, s.o⟩, Z', Nat.le_refl _, by simp at hk3; omega, by rw [← HW.out]; exact (HTT.out _).drewN 1, HI2.out⟩
            · have b2 : (y.2.o == s.o) = false := by simp [e2]
              have HI2 := Lib.hid (HI.out.stop (fun h => e2 h.2.symm))
              clear e1 e2
              go_wp2
              go_quiet (fail)
              go_wp2
              go_roundg Y'.length
              case measure => simp at hk; omega
              case rel => exact ⟨D ++ [(b, s)], y :: Z', hk3, rfl, HN.out.drewN _, HI2.out⟩
          · have b1 : (y.2.k == s.k) = false := by simp [e1]
            have HI2 := Lib.hid (HI.out.stop (fun h => e1 h.1.symm))
            clear e1
            go_wp2
            go_quiet (fail)
            go_wp2
            go_roundg Y'.length
            case measure => simp at hk; omega
            case rel => exact ⟨D ++ [(b, s)], y :: Z', hk3, rfl, HN.out.drewN _, HI2.out⟩

/-! ### CablePlain -/
def plainX (ss : List Sec) : List Sec := if cabB ss then plainL ss else []
theorem plainX_no {ss : List Sec} (h : cabB ss = false) : plainX ss = [] := by unfold plainX; rw [h]; rfl
theorem plainX_yes {ss : List Sec} (h : cabB ss = true) : plainX ss = plainL ss := by unfold plainX; rw [h]; rfl
theorem cabB_nil : cabB [] = false := rfl
theorem good_cab {ss : List Sec} (h : cabB ss = true) : Good ss := ⟨fun s hs => (cab_small h s hs).1, (cab_miles h).2⟩

set_option maxRecDepth 100000 in
theorem implCablePlain_b (A : Option Addr) (c : Nat) (ss : List Sec) (w : World) (ha : ArgC w A c ss) :
    Calls Try.prog 58 #[.slice A ss.length c] w (RetC 54 (fun v => .tuple #[v, .bool (cabB (plainX ss))]) (cabL (plainX ss)) w) := by
  have HA := Lib.hid ha
  clear ha
  cases hv : cabB ss
  · rw [plainX_no hv, cabB_nil, cabL_no cabB_nil]
    have Hv := Lib.hid hv
    clear hv
    go_enter Try.func58, Try.ntmps58
    go_wp2_with fail
    refine (chainOf_no A c ss _ HA.out Hv.out).mono ?_
    rintro e w1 ⟨rfl, hb⟩
    have Hb := Lib.hid hb
    clear hb
    go_wp2
    go_ret2
    exact RetC.nil (f := fun v => .tuple #[v, .bool false]) Hb.out
  · rw [plainX_yes hv]
    have hl := (cab_len hv).2
    have Hv := Lib.hid hv
    clear hv
    go_enter Try.func58, Try.ntmps58
    go_wp2_with fail
    refine (chainOf_yes A c ss _ HA.out Hv.out).mono ?_
    rintro e w1 ⟨C, ns, rfl, hn, hC, hb⟩
    dsimp only
    have Hb := Lib.hid hb
    have HC := Lib.hid hC
    have Hn := Lib.hid hn
    clear hb hC hn
    go_wp2_with fail
    refine (merge_c _ C ns _ HC.out (by rw [Hn.out]; exact good_cab Hv.out)).mono ?_
    rintro e w2 ⟨⟨v, rfl⟩, ⟨ms, hC2, hms⟩, hf⟩
    have HC2 := Lib.hid hC2
    have Hb2 := Lib.hid (Hb.out.trans (hf.below (B := w.heap.size) Hb.out.size (fun k hk hp => by omega)))
    have Hn2 := Lib.hid (show secs ms = plainL ss by rw [hms, Hn.out])
    clear hC2 hf hms
    go_wp2_with fail
    refine (cable_c _ C ms _ _ HC2.out Hn2.out (by have := plainL_length ss; omega)).mono ?_
    rintro e w4 ⟨A1, c1, rfl, ra, ro, rb⟩
    dsimp only
    have Hb4 := Lib.hid (below_step Hb2.out rb)
    have Ra := Lib.hid ra
    have Ro := Lib.hid (ro.more Hb2.out.size (Nat.le_refl _))
    clear ra ro rb
    go_wp2
    go_ret2
    exact ⟨A1, c1, rfl, Ra.out, Ro.out, Hb4.out⟩

end Go.Proofs.Ytndpdoiomoefpaa
