/-
  PlanEnds and PlanLoss of both.
-/
import Derived.Test.YtodboccadccpfaaDoorPlV
import Derived.Test.YtodboccadccpfaaDoorFcC
import Derived.Test.YtodboccadccpfaaDoorMade
import Derived.StillTailTactics
import Derived.RegionTactic
namespace Go.Proofs.YtodboccadccpfaaDoor
open Go.RowKit

theorem ends_no {L : List UInt8} {J : List Jbs} {p : List Int} (h : planB L J p = false) : endsL L J p = [] := by unfold endsL; rw [h]; rfl
theorem ends_yes {L : List UInt8} {J : List Jbs} {p : List Int} (h : planB L J p = true) : endsL L J p = endT L J p p.length := by unfold endsL; rw [if_pos h]
theorem dyV_wk {L : List UInt8} {J : List Jbs} {p : List Int} (h : planB L J p = true) {k : Nat} (hk : k ≤ p.length) : dyV L (wkT J p k) = dyI L (wkT J p k) := by
  obtain ⟨h1, h2, h3⟩ := planB_true.1 h
  obtain ⟨h4, h5, h6⟩ := timeB_true.1 h1
  have h7 := wkT_bd h5 p k
  have h8 := wkT_le h hk
  rw [dyV_yes h4 (inB_true.2 ⟨h7.1, h8.2⟩)]
  rfl
/-- what a walk over a plan asks at a place -/
theorem plan_at {L : List UInt8} {J : List Jbs} {p : List Int} (h : planB L J p = true) {k : Nat} (hk : k < p.length) : ∃ q : Nat, p[k]?.getD 0 = (q : Int) ∧ q < J.length ∧ endT L J p (k + 1) = (endT L J p k).set q (dyV L (wkT J p (k + 1))) ∧ wkT J p (k + 1) = wkT J p k + (jbsAt J q).d ∧ 0 ≤ wkT J p k ∧ wkT J p k ≤ 54 ∧ 0 ≤ (jbsAt J q).d ∧ (jbsAt J q).d ≤ 9 := by
  obtain ⟨h1, h2, h3⟩ := planB_true.1 h
  obtain ⟨h4, h5, h6⟩ := timeB_true.1 h1
  have hx := ord_at h2 hk
  have h7 := wkT_bd h5 p k
  have h8 := wkT_le h (Nat.le_of_lt hk)
  have h9 := daysJ_bd h5
  obtain ⟨q, hq⟩ := Int.eq_ofNat_of_zero_le hx.1
  refine ⟨q, hq, by omega, ?_, ?_, by omega, by omega, ?_⟩
  · rw [dyV_wk h (by omega), endT, hq, Int.toNat_natCast]
  · rw [wkT]; unfold jbP; rw [hq, Int.toNat_natCast]
  · have := jbB_any h5 q; omega
theorem plan_len {L : List UInt8} {J : List Jbs} {p : List Int} (h : planB L J p = true) : p.length = J.length ∧ J.length ≤ 6 := by
  obtain ⟨h1, _, h3⟩ := planB_true.1 h
  exact ⟨h3, (jbB_true.1 (timeB_true.1 h1).2.1).1⟩
theorem ends_len6 (L : List UInt8) (J : List Jbs) (p : List Int) : (endsL L J p).length ≤ 6 := by
  cases h : planB L J p with
  | false => rw [ends_no h]; simp
  | true => rw [ends_yes h, endT_len]; exact (plan_len h).2
theorem plInfo : (Tryd.prog.info? 3).map (fun i => (i.zero, i.size, i.bytes)) = some (some (.int .i64 0), 1, 8) := by kernel_rfl

set_option maxRecDepth 100000 in
set_option maxHeartbeats 2000000 in
theorem implPlanEnds_b (s : ByteArray) (A : Option Addr) (c : Nat) (J : List Jbs) (A2 : Option Addr) (c2 : Nat) (p : List Int) (w : World) (hs : s.size ≤ 2097152) (ha : ArgJ w A c J) (hp : Arg w A2 c2 p) (hT : Tab w) :
    Calls Tryd.prog 16 #[.string s, .slice A J.length c, .slice A2 p.length c2] w (RetS 3 (fun v => .tuple #[v, .bool (planB (byL s) J p)]) (endsL (byL s) J p) w) := by
  have hjl := ha.len
  have HA := Lib.hid ha
  have HP := Lib.hid hp
  have HT := Lib.hid hT
  obtain ⟨i0, hi, hz0, hz1, hz2⟩ := info_parts plInfo
  have HMI := Lib.hid (made_ints J.length)
  clear ha hp hT
  go_enter Tryd.func16, Tryd.ntmps16
  go_wp2_with fail
  refine (implPlanValid_b s A c J A2 c2 p _ hs HA.out HP.out).mono ?_
  rintro e w1 ⟨rfl, hb1⟩
  have Hb1 := Lib.hid hb1
  have Hs1 := Lib.hid hb1.size
  clear hb1
  cases hv : planB (byL s) J p
  · have Hn := Lib.hid (ends_no hv)
    have Hv := Lib.hid hv
    clear hv
    go_wp2
    go_ret2
    rw [Hv.out, Hn.out]
    exact RetS.nil (f := fun v => .tuple #[v, .bool false]) Hb1.out
  have Hy := Lib.hid (ends_yes hv)
  have Hv := Lib.hid hv
  have Hat := Lib.hid (fun (k : Nat) (hk : k < p.length) => plan_at hv hk)
  obtain ⟨hpj, h6⟩ := plan_len hv
  have Hpj := Lib.hid hpj
  have hp6 : p.length ≤ 6 := by omega
  have hpj2 : p.length ≤ J.length := by omega
  have hpj3 : J.length ≤ p.length := by omega
  clear hv hpj
  go_wp2_with (at_make; refine wpList_make_full _ rfl (.tmp 18) (.tmp 18) 24 rfl w.heap.size 3 i0 (.int .i64 0) 1 Tryd.underlying24 hi hz0 hz1 .i64 .i64 _ _ J.length rfl rfl rfl rfl (by rw [hz2]; omega) (by unfold maxLen; omega) Hs1.out ?_; intro w2 hown hg2)
  rw [HMI.out] at hown
  have HB2 := Lib.hid (Hb1.out.grown hg2 Hs1.out (by simp))
  have HO := Lib.hid hown
  obtain ⟨B, hB⟩ : ∃ B, w1.heap.size = B := ⟨_, rfl⟩
  have hwB : w.heap.size ≤ B := by have := Hs1.out; omega
  rw [hB] at HO ⊢
  clear hown hg2 hB
  go_wp2
  go_loopw [9, 22] (fun q i wr => ∃ k : Nat, k ≤ p.length ∧ i = .int .i64 k ∧ q = .int .i64 (wkT J p k) ∧ wr.ownsRow w.heap.size 3 1 (.slice (some ⟨B, 0, none⟩) J.length J.length) J.length ((endT (byL s) J p k).map (Value.int .i64)) ∧ Below w.heap.size w wr) (fun _ i _ => p.length - (intOf i).toNat)
  case atStart => exact ⟨0, Nat.zero_le _, rfl, rfl, HO.out, HB2.out⟩
  case round =>
    obtain ⟨k, hk, rfl, rfl, hok, hb⟩ := hrel
    by_cases hlt : k < p.length
    · obtain ⟨q, hq, hqj, hend, hwk, b1, b2, b3, b4⟩ := Hat.out k hlt
      obtain ⟨b, off, rfl, _, hbw, hc0⟩ := (HP.out.go hb).rd.at_ hlt
      obtain ⟨b', off', rfl, _, hbw', hd0, hd1⟩ := (HA.out.go hb).rd.at_ hqj
      rw [hq] at hc0
      have Hst := Lib.hid (fun (wr : World) (h : wr.ownsRow w.heap.size 3 1 (.slice (some ⟨B, 0, none⟩) J.length J.length) J.length ((endT (byL s) J p k).map (Value.int .i64))) (v : Int) => h.stored q (.int .i64 v))
      have hlen := endT_len (byL s) J p k
      have hda := implForecastDay_q s (wkT J p (k + 1))
      rw [hwk] at hda hend
      obtain ⟨x, hx⟩ : ∃ x, wkT J p k = x := ⟨_, rfl⟩
      obtain ⟨y, hy⟩ : ∃ y, jbsAt J q = y := ⟨_, rfl⟩
      obtain ⟨E, hE⟩ : ∃ E, endT (byL s) J p k = E := ⟨_, rfl⟩
      rw [hx] at hda hend b1 b2 hwk ⊢
      rw [hy] at hda hend b3 b4 hd0 hd1 hwk
      rw [hE] at Hst hend hlen hok
      obtain ⟨v, hv⟩ : ∃ v, dyV (byL s) (x + y.d) = v := ⟨_, rfl⟩
      rw [hv] at hda hend
      have Hwk := Lib.hid hwk
      have Hend := Lib.hid hend
      have Hda := Lib.hid (fun (n : Nat) => hda (wr.drewN n) ((HT.out.go hb).drewN n))
      have hda0 := hda wr (HT.out.go hb)
      have Hda0 := Lib.hid hda0
      have hck := hok.cellAt q (by omega)
      have hfk := hok.frozenAt q
      obtain ⟨u, hu⟩ : ∃ u, E[q]? = some u := ⟨E[q]'(by omega), List.getElem?_eq_getElem _⟩
      rw [List.getElem?_map, hu] at hck
      simp only [Option.map_some] at hck
      clear hu
      have Hok := Lib.hid hok
      have Hb := Lib.hid hb
      have g1 : (k : Int) < (p.length : Int) := by omega
      have g3 : (q : Int) < (J.length : Int) := by omega
      have g4 : (0 : Int) ≤ (q : Int) := by omega
      clear hend hwk hda hda0 hok hb hq hx hy hE hv hlen
      go_wp2_with fail
      refine Hda0.out.mono ?_
      rintro e w3 ⟨rfl, n, rfl⟩
      have hok3 : (wr.drewN n).ownsRow w.heap.size 3 1 (.slice (some ⟨B, 0, none⟩) J.length J.length) J.length (E.map (Value.int .i64)) := Hok.out
      have hst3 := Hst.out _ hok3 v
      rw [← List.map_set, ← Hend.out] at hst3
      have Hst3 := Lib.hid hst3
      clear hok3 hst3
      go_wp2
      go_roundw
      case rel => exact ⟨k + 1, by omega, by go_num, by rw [Hwk.out], Hst3.out.1, (below_drewN Hb.out n).setCell (p := ⟨B, q, none⟩) hwB _⟩
      case measure => simp [intOf]; omega
    · obtain rfl : k = p.length := by omega
      have HK := Lib.hid hok
      have Hb := Lib.hid hb
      have Hl := Lib.hid (endT_len (byL s) J p p.length)
      clear hok hb
      go_wp2
      go_ret2
      rw [Hv.out, Hy.out]
      exact RetS.mk (f := fun v => .tuple #[v, .bool true]) (by rw [Hl.out]; omega) (by rw [Hl.out]; exact HK.out) Hb.out

theorem RetS.blank {t : TypeId} {f : Value → Value} {w w1 : World} (hb : Below w.heap.size w w1) : RetS t f [] w (.returned (f (.slice (some ⟨w1.heap.size, 0, none⟩) 0 0))) (w1.alloc (.cells #[] t)) := by
  exact RetS.mk (by simp) (World.ownsRow_made w1 #[] 0 hb.size (by simp [maxLen]) rfl) (hb.alloc hb.size _)

set_option maxRecDepth 100000 in
set_option maxHeartbeats 2000000 in
theorem specPlanEnds_b (s : ByteArray) (A : Option Addr) (c : Nat) (J : List Jbs) (A2 : Option Addr) (c2 : Nat) (p : List Int) (w : World) (hs : s.size ≤ 2097152) (ha : ArgJ w A c J) (hp : Arg w A2 c2 p) :
    Calls Tryd.prog 17 #[.string s, .slice A J.length c, .slice A2 p.length c2] w (RetS 3 (fun v => .tuple #[v, .bool (planB (byL s) J p)]) (endsL (byL s) J p) w) := by
  have hjl := ha.len
  have HA := Lib.hid ha
  have HP := Lib.hid hp
  obtain ⟨i0, hi, hz0, hz1, hz2⟩ := info_parts plInfo
  have HMI := Lib.hid (made_ints J.length)
  clear ha hp
  go_enter Tryd.func17, Tryd.ntmps17
  go_wp2_with fail
  refine (specPlanValid_b s A c J A2 c2 p _ hs HA.out HP.out).mono ?_
  rintro e w1 ⟨rfl, hb1⟩
  have Hb1 := Lib.hid hb1
  have Hs1 := Lib.hid hb1.size
  clear hb1
  cases hv : planB (byL s) J p
  · have Hn := Lib.hid (ends_no hv)
    have Hv := Lib.hid hv
    clear hv
    go_wp2
    go_ret2
    rw [Hv.out, Hn.out]
    exact RetS.blank (f := fun v => .tuple #[v, .bool false]) Hb1.out
  have Hy := Lib.hid (ends_yes hv)
  have Hv := Lib.hid hv
  have Hat := Lib.hid (fun (k : Nat) (hk : k < p.length) => plan_at hv hk)
  obtain ⟨hpj, h6⟩ := plan_len hv
  have hp6 : p.length ≤ 6 := by omega
  have hpj2 : p.length ≤ J.length := by omega
  have hpj3 : J.length ≤ p.length := by omega
  clear hv hpj
  go_wp2_with (at_make; refine wpList_make_full _ rfl (.tmp 18) (.tmp 18) 24 rfl w.heap.size 3 i0 (.int .i64 0) 1 Tryd.underlying24 hi hz0 hz1 .i64 .i64 _ _ J.length rfl rfl rfl rfl (by rw [hz2]; omega) (by unfold maxLen; omega) Hs1.out ?_; intro w2 hown hg2)
  rw [HMI.out] at hown
  have HB2 := Lib.hid (Hb1.out.grown hg2 Hs1.out (by simp))
  have HO := Lib.hid hown
  obtain ⟨B, hB⟩ : ∃ B, w1.heap.size = B := ⟨_, rfl⟩
  have hwB : w.heap.size ≤ B := by have := Hs1.out; omega
  rw [hB] at HO ⊢
  clear hown hg2 hB
  go_wp2
  go_loopw [9, 10] (fun q i wr => ∃ k : Nat, k ≤ p.length ∧ i = .int .i64 k ∧ q = .int .i64 (wkT J p k) ∧ wr.ownsRow w.heap.size 3 1 (.slice (some ⟨B, 0, none⟩) J.length J.length) J.length ((endT (byL s) J p k).map (Value.int .i64)) ∧ Below w.heap.size w wr) (fun _ i _ => p.length - (intOf i).toNat)
  case atStart => exact ⟨0, Nat.zero_le _, rfl, rfl, HO.out, HB2.out⟩
  case round =>
    obtain ⟨k, hk, rfl, rfl, hok, hb⟩ := hrel
    by_cases hlt : k < p.length
    · obtain ⟨q, hq, hqj, hend, hwk, b1, b2, b3, b4⟩ := Hat.out k hlt
      obtain ⟨b, off, rfl, _, hbw, hc0⟩ := (HP.out.go hb).rd.at_ hlt
      obtain ⟨b', off', rfl, _, hbw', hd0, hd1⟩ := (HA.out.go hb).rd.at_ hqj
      rw [hq] at hc0
      have Hst := Lib.hid (fun (wr : World) (h : wr.ownsRow w.heap.size 3 1 (.slice (some ⟨B, 0, none⟩) J.length J.length) J.length ((endT (byL s) J p k).map (Value.int .i64))) (v : Int) => h.stored q (.int .i64 v))
      have hlen := endT_len (byL s) J p k
      have hda := specForecastDay_c s hs (wkT J p (k + 1))
      rw [hwk] at hda hend
      obtain ⟨x, hx⟩ : ∃ x, wkT J p k = x := ⟨_, rfl⟩
      obtain ⟨y, hy⟩ : ∃ y, jbsAt J q = y := ⟨_, rfl⟩
      obtain ⟨E, hE⟩ : ∃ E, endT (byL s) J p k = E := ⟨_, rfl⟩
      rw [hx] at hda hend b1 b2 hwk ⊢
      rw [hy] at hda hend b3 b4 hd0 hd1 hwk
      rw [hE] at Hst hend hlen hok
      obtain ⟨v, hv⟩ : ∃ v, dyV (byL s) (x + y.d) = v := ⟨_, rfl⟩
      rw [hv] at hda hend
      have Hwk := Lib.hid hwk
      have Hend := Lib.hid hend
      have Hda := Lib.hid (fun (W : World) => (hda W).mono (fun e w' (h : e = .returned (.int .i64 v) ∧ W = w') => (show e = .returned (.int .i64 v) ∧ w' = W from ⟨h.1, h.2.symm⟩)))
      have hck := hok.cellAt q (by omega)
      have hfk := hok.frozenAt q
      obtain ⟨u, hu⟩ : ∃ u, E[q]? = some u := ⟨E[q]'(by omega), List.getElem?_eq_getElem _⟩
      rw [List.getElem?_map, hu] at hck
      simp only [Option.map_some] at hck
      clear hu
      have hok3 : wr.drew.ownsRow w.heap.size 3 1 (.slice (some ⟨B, 0, none⟩) J.length J.length) J.length (E.map (Value.int .i64)) := hok
      have hst3 := Hst.out _ hok3 v
      rw [← List.map_set, ← Hend.out] at hst3
      have Hst3 := Lib.hid hst3
      have Hb := Lib.hid hb
      have g1 : (k : Int) < (p.length : Int) := by omega
      have g3 : (q : Int) < (J.length : Int) := by omega
      have g4 : (0 : Int) ≤ (q : Int) := by omega
      have g5 : (0 : Int) ≤ (k : Int) := by omega
      clear hend hwk hda hok hb hq hx hy hE hv hlen hok3 hst3
      go_wp2
      refine wp_region_still_tail 8 (by kernel_rfl) (by kernel_rfl) ?_
      simp only [List.take_succ_cons, List.take_zero, List.drop_succ_cons, List.drop_zero]
      repeat (first | still_step | still_call (Hda.out _))
      try refine wpStill_nil ?_
      go_wp2
      go_roundw
      case rel => exact ⟨k + 1, by omega, by go_num, by rw [Hwk.out], Hst3.out.1, (below_drewN Hb.out 1).setCell (p := ⟨B, q, none⟩) hwB _⟩
      case measure => simp [intOf]; omega
    · obtain rfl : k = p.length := by omega
      have HK := Lib.hid hok
      have Hb := Lib.hid hb
      have Hl := Lib.hid (endT_len (byL s) J p p.length)
      clear hok hb
      go_wp2
      go_ret2
      rw [Hv.out, Hy.out]
      exact RetS.mk (f := fun v => .tuple #[v, .bool true]) (by rw [Hl.out]; omega) (by rw [Hl.out]; exact HK.out) Hb.out

end Go.Proofs.YtodboccadccpfaaDoor
