/-
  The methods sections, cable, join of a chain.
-/
import Derived.Test.YtndpdoiomoefpaaChainR
namespace Go.Proofs.Ytndpdoiomoefpaa
open Go.RowKit

theorem sec_info : (Try.prog.info? 54).map (fun i => (i.zero, i.size, i.bytes)) = some (some (.agg #[.int .i64 0, .int .i64 0, .int .i64 0]), 3, 24) := by kernel_rfl

set_option maxRecDepth 100000 in
set_option maxHeartbeats 2000000 in
theorem sections_c (P : Nat → Prop) (C : Nat) (ns : List (Nat × Sec)) (ss : List Sec) (w : World) (h : Chain P w C ns) (hss : secs ns = ss) (hl : ss.length ≤ 1000) :
    Calls Try.prog 108 #[.pointer (some ⟨C, 0, none⟩)] w (RetC 54 id ss w) := by
  obtain ⟨i0, hi, hz0, hz1, hz2⟩ := info_parts sec_info
  have hc0 := h.c0
  obtain ⟨u, hu⟩ := nxt_pointer ns
  rw [hu] at hc0
  have Hu := Lib.hid hu
  have H := Lib.hid h
  have Hss := Lib.hid hss
  clear hu h hss
  go_enter Try.func108, Try.ntmps108
  go_wp2
  go_loopg [3, 4] ns.length (fun k o l wr => ∃ (xs ys : List (Nat × Sec)) (v : Value), ns = xs ++ ys ∧ ys.length = k ∧ l = nxt ys ∧ v = o ∧ wr.ownsRow w.heap.size 54 3 v xs.length (secCells (secs xs)) ∧ Below w.heap.size w wr)
  case atStart => exact ⟨[], ns, _, rfl, rfl, Hu.out.symm, rfl, World.ownsRow_nil _ _ _ _, Below.refl _ _⟩
  case round =>
    obtain ⟨xs, ys, v, hsp, hk, rfl, rfl, hown, hb⟩ := hrel
    have Hsp := Lib.hid hsp
    have Hk := Lib.hid hk
    cases ys with
    | nil =>
      rw [nxt_nil]
      have Hown := Lib.hid hown
      have Hb := Lib.hid hb
      clear hown hb hsp hk
      go_wp2
      go_ret
      have e1 : secs xs = ss := by rw [← Hss.out, Hsp.out, List.append_nil]
      have e2 : xs.length = ss.length := by rw [← e1, secs_length]
      have e3 := Hown.out
      rw [e1, e2] at e3
      exact RetC.mk (f := id) (by omega) e3 Hb.out
    | cons x ys' =>
      obtain ⟨nx, hv⟩ := nxt_pointer ys'
      have hseg := (H.out.go hb).seg
      rw [Hsp.out] at hseg
      have hm := hseg.mid
      have hm0 := hm.c0
      have hm1 := hm.c1
      have hm2 := hm.c2
      have hm3 := hm.c3
      have hlx := hm.lt
      rw [hv] at hm3
      have Hv := Lib.hid hv
      have hsz := hb.size
      have hkl : xs.length + 1 ≤ ss.length := by rw [← Hss.out, secs_length, Hsp.out]; simp
      have Hown := Lib.hid hown
      have Hb := Lib.hid hb
      clear hv hm hseg hsp hk hown hb
      rw [nxt_cons]
      have hown := Hown.out
      have HN := Lib.hid (fun (w3 : World) (hg : (wr.alloc (.cells #[.int .i64 x.2.m, .int .i64 x.2.k, .int .i64 x.2.o] 54)).grownBy w3 v.ownBlock) => (show w3.cell? ⟨x.1, 3, none⟩ = some (.pointer nx) ∧ Below w.heap.size w w3 by
        have hb3 : Below w.heap.size w w3 := (Hb.out.alloc hsz _).grown hg (by simp; omega) (fun r e => (hown.lt r e).1)
        refine ⟨?_, hb3⟩
        have := (H.out.go hb3).seg
        rw [Hsp.out] at this
        have := this.mid.c3
        rwa [Hv.out] at this))
      go_wp2_with (at_builtin; refine wpList_append_own _ rfl _ _ 45 rfl w.heap.size 54 i0 _ 3 24 Try.underlying45 hi hz0 hz1 hz2 rfl (by decide) v xs.length _ rfl (hown.alloc _) ⟨wr.heap.size, 0, none⟩ 1 1 (secCell x.2) rfl rfl (secCell_new _ _ _) (secCell_one _) (by unfold maxLen; omega) (by omega) (by simp; omega) ?_; intro v' w3 hown3 hg3 _; have hn3 := (HN.out w3 hg3).1)
      have hb3 := (HN.out w3 hg3).2
      have Hown3 := Lib.hid hown3
      have Hb3 := Lib.hid hb3
      go_roundg ys'.length
      case measure => have := Hk.out; simp at this; omega
      case rel => exact ⟨xs ++ [x], ys', v', by rw [Hsp.out]; simp, rfl, Hv.out.symm, rfl, by rw [secs_append, show secs [x] = [x.2] from rfl, secCells_snoc]; simpa using Hown3.out, Hb3.out⟩

/-- a list, if it is a cable -/
def cabL (ss : List Sec) : List Sec := if cabB ss then ss else []
theorem cabL_yes {ss : List Sec} (h : cabB ss = true) : cabL ss = ss := by unfold cabL; rw [h]; rfl
theorem cabL_no {ss : List Sec} (h : cabB ss = false) : cabL ss = [] := by unfold cabL; rw [h]; rfl

set_option maxRecDepth 100000 in
set_option maxHeartbeats 1000000 in
theorem cable_c (P : Nat → Prop) (C : Nat) (ns : List (Nat × Sec)) (ss : List Sec) (w : World) (h : Chain P w C ns) (hss : secs ns = ss) (hl : ss.length ≤ 1000) :
    Calls Try.prog 100 #[.pointer (some ⟨C, 0, none⟩)] w (RetC 54 (fun v => .tuple #[v, .bool (cabB ss)]) (cabL ss) w) := by
  have H := Lib.hid h
  have Hss := Lib.hid hss
  clear h hss
  go_enter Try.func100, Try.ntmps100
  go_wp2_with fail
  refine (sections_c P C ns ss _ H.out Hss.out hl).mono ?_
  rintro e w1 ⟨A, c, rfl, ha, ho, hb⟩
  dsimp only [id]
  have Ha := Lib.hid ha
  have Ho := Lib.hid ho
  have Hb := Lib.hid hb
  clear ha ho hb
  go_wp2_with fail
  refine (implCableValid_c A c ss _ Ha.out).mono ?_
  rintro e w2 ⟨rfl, hb⟩
  have Hb2 := Lib.hid hb
  clear hb
  cases hv : cabB ss
  · have Hv := Lib.hid hv
    clear hv
    go_wp2
    go_ret2
    rw [cabL_no Hv.out, Hv.out]
    exact RetC.nil (f := fun v => .tuple #[v, .bool false]) (below_step Hb.out Hb2.out)
  · have Hv := Lib.hid hv
    clear hv
    go_wp2
    go_ret2
    rw [cabL_yes Hv.out, Hv.out]
    exact ⟨A, c, rfl, Ha.out.go Hb2.out, (Ho.out.go Hb2.out (Nat.le_refl _)).more (Nat.le_refl _) Hb2.out.size, below_step Hb.out Hb2.out⟩

end Go.Proofs.Ytndpdoiomoefpaa
