/-
  The methods part, sections, cable, join of a chain.
-/
import Derived.Test.YtodboccadccpfaaChainR
import Derived.RegionTactic
namespace Go.Proofs.Ytodboccadccpfaa
open Go.RowKit

set_option maxRecDepth 100000 in
set_option maxHeartbeats 1000000 in
theorem part_c (P : Nat → Prop) (C : Nat) (ns : List (Nat × Sec)) (ss : List Sec) (f t : Int) (w : World) (h : Chain P w C ns) (hss : secs ns = ss) (hs : small 1000 ss) (hl : ss.length ≤ 1000)
    (hf0 : 0 ≤ f) (hf1 : f ≤ 1000000) (ht0 : 0 ≤ t) (ht1 : t ≤ 1000000) :
    Calls Try.prog 132 #[.pointer (some ⟨C, 0, none⟩), .int .i64 f, .int .i64 t] w (RetChain id (partL ss f t) w) := by
  have hc0 := h.c0
  obtain ⟨u, hu⟩ := nxt_pointer ns
  rw [hu] at hc0
  have Hu := Lib.hid hu
  have H := Lib.hid h
  have hCl := h.lt
  have Hss := Lib.hid hss
  have Hs := Lib.hid hs
  have hD := Chain.new (P := fun k => w.heap.size ≤ k) w (Nat.le_refl _)
  obtain ⟨D, hDD⟩ : ∃ D, w.heap.size = D := ⟨_, rfl⟩
  have hb2 := (Below.refl w.heap.size w).alloc (Nat.le_refl _) (.cells #[.pointer none, .pointer none] 135)
  rw [hDD] at hD hb2 hCl
  have hfz : D = w.heap.size := hDD.symm
  have Hfz := Lib.hid hfz
  clear hu h hss hs hfz
  go_enter Try.func132, Try.ntmps132
  go_wp2
  clear hDD
  go_loopg [8, 9] ns.length (fun k q l wr => ∃ xs ys ms : List (Nat × Sec), ns = xs ++ ys ∧ ys.length = k ∧ l = nxt ys ∧ q = .int .i64 (milesL (secs xs)) ∧ secs ms = partL (secs xs) f t ∧ Chain (fun k => D ≤ k) wr D ms ∧ Below D w wr)
  case atStart => exact ⟨[], ns, [], rfl, rfl, Hu.out.symm, rfl, rfl, hD, hb2⟩
  case round =>
    clear hD hb2
    obtain ⟨xs, ys, ms, hsp, hk, rfl, rfl, hms, hD, hb⟩ := hrel
    have Hsp := Lib.hid hsp
    have Hk := Lib.hid hk
    have Hms := Lib.hid hms
    have HD := Lib.hid hD
    have Hb := Lib.hid hb
    clear hsp hk hms hD hb
    cases ys with
    | nil =>
      rw [nxt_nil]
      go_wp2
      go_ret
      have e1 : secs xs = ss := by rw [← Hss.out, Hsp.out, List.append_nil]
      refine ⟨D, ms, rfl, by rw [Hms.out, e1], ?_, ?_⟩
      · rw [← Hfz.out]; exact HD.out
      · rw [← Hfz.out]; exact Hb.out
    | cons x ys' =>
      obtain ⟨v, hv⟩ := nxt_pointer ys'
      have hseg := (H.out.kept (Q := fun k => D ≤ k) (Frm.of_below Hb.out (fun k _ hn => by omega)) (fun k hk _ hq => by have := Hfz.out; omega)).seg
      rw [Hsp.out] at hseg
      have hm := hseg.mid
      have hm0 := hm.c0
      have hm1 := hm.c1
      have hm2 := hm.c2
      have hm3 := hm.c3
      rw [hv] at hm3
      have he := split_secs Hsp.out Hss.out
      have hb := miles_part (by rw [← he]; exact Hs.out) (by rw [← he]; exact hl)
      obtain ⟨b1, b2, b3, b4⟩ := hb
      have Hv := Lib.hid hv
      clear hv hm hseg he
      rw [nxt_cons]
      have hsn : secs (xs ++ [x]) = secs xs ++ [x.2] := by rw [secs_append]; rfl
      have Hsn := Lib.hid hsn
      clear hsn
      have HR := Lib.hid (Hb.out.size)
      by_cases c3 : 0 < min t (milesL (secs xs) + x.2.m) - max f (milesL (secs xs))
      · have Hp := Lib.hid (show pieceL f t (milesL (secs xs)) x.2 = [⟨min t (milesL (secs xs) + x.2.m) - max f (milesL (secs xs)), x.2.k, x.2.o⟩] by unfold pieceL; rw [if_pos c3])
        by_cases c1 : t < milesL (secs xs) + x.2.m <;> by_cases c2 : milesL (secs xs) < f
        all_goals
          go_wp2
          go_still_tail 13, (by kernel_rfl)
          go_wp2_with fail
          refine (add_c (fun k => D ≤ k) D ms ⟨_, x.2.k, x.2.o⟩ _ (HD.out.drewN 1) (by intro k hk; have := HR.out; have := Hfz.out; simp at hk; omega)).mono ?_
          rintro e w2 ⟨⟨v2, rfl⟩, ⟨N, hC2⟩, hf⟩
          have HC2 := Lib.hid hC2
          have Hb2 := Lib.hid ((below_drewN Hb.out 1).trans (hf.below (B := D) (by have := HR.out; have := Hfz.out; simp; omega) (fun k hk hp => by omega)))
          clear hC2 hf
          have hseg2 := (H.out.kept (Q := fun k => D ≤ k) (Frm.of_below Hb2.out (fun k _ hn => by omega)) (fun k hk _ hq => by have := Hfz.out; omega)).seg
          rw [Hsp.out] at hseg2
          have hn3 := hseg2.mid.c3
          rw [Hv.out] at hn3
          clear hseg2 hm0 hm1 hm2 hm3
          go_wp2
          go_roundg ys'.length
          case measure => have := Hk.out; simp at this; omega
          case rel =>
            refine ⟨xs ++ [x], ys', _, by rw [Hsp.out]; simp, rfl, Hv.out.symm, by rw [Hsn.out, milesL_snoc], ?_, HC2.out, Hb2.out⟩
            rw [Hsn.out, partL_snoc, Hp.out, secs_snoc, Hms.out]
            congr 2
            refine Sec.ext_ ?_ rfl rfl
            dsimp only
            omega
      · have Hp := Lib.hid (show pieceL f t (milesL (secs xs)) x.2 = [] by unfold pieceL; rw [if_neg c3])
        by_cases c1 : t < milesL (secs xs) + x.2.m <;> by_cases c2 : milesL (secs xs) < f
        all_goals
          go_wp2
          go_roundg ys'.length
          case measure => have := Hk.out; simp at this; omega
          case rel => exact ⟨xs ++ [x], ys', ms, by rw [Hsp.out]; simp, rfl, Hv.out.symm, by rw [Hsn.out, milesL_snoc], by rw [Hsn.out, partL_snoc, Hp.out, List.append_nil, Hms.out], HD.out, Hb.out⟩

end Go.Proofs.Ytodboccadccpfaa
