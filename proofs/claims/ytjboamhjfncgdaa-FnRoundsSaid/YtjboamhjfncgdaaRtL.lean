/-
  LiftValid of the program. (Written by a program of mine, gen9l.py.)
-/
import Derived.Test.YtjboamhjfncgdaaRtA
import Derived.Test.YtjboamhjfncgdaaRtO
namespace Go.Proofs.Ytjboamhjfncgdaa
open Go.RowKit

theorem left_lt (R : List Rot) (L : List Int) : ∀ i ∈ leftN R L, i < R.length := fun _ hi => (leftN_mem.1 hi).1
theorem take_step {O : List Int} {j : Nat} (h : j < O.length) : O.take (j + 1) = O.take j ++ [O[j]?.getD 0] := by rw [List.take_succ_eq_append_getElem h]; simp [h]
/-- an int's cell, in whatever world behind -/
theorem argI_at {w : World} {A : Option Addr} {c : Nat} {zs : List Int} (ha : Arg w A c zs) {k : Nat} (hk : k < zs.length) : ∃ b off, A = some ⟨b, off, none⟩ ∧ ∀ W, Below w.heap.size w W → W.cell? ⟨b, off + k, none⟩ = some (.int .i64 (zs[k]?.getD 0)) := by
  obtain ⟨b, off, e, _, hb, hc⟩ := ha.rd.at_ hk
  exact ⟨b, off, e, fun W h => (h.cell (p := ⟨b, off + k, none⟩) hb).trans hc⟩

set_option maxRecDepth 100000 in
set_option maxHeartbeats 4000000 in
theorem implLiftValid_b (A : Option Addr) (c : Nat) (ss : List Rot) (B : Option Addr) (d : Nat) (O : List Int) (w : World) (ha : ArgK w A c ss) (hb : Arg w B d O) :
    Calls Try.prog 30 #[.slice A ss.length c, .slice B O.length d] w (RetB (.bool (liftB ss O)) w) := by
  have hl := hb.len
  have HA := Lib.hid ha
  have HB := Lib.hid hb
  clear ha hb
  go_enter Try.func30, Try.ntmps30
  go_wp2_with fail
  refine (implChartValid_b _ _ _ _ HA.out).mono ?_
  rintro e w1 ⟨rfl, hb⟩
  have Hb1 := Lib.hid hb
  clear hb
  cases e1 : chartB ss
  · have Hv := Lib.hid (lift_no (O := O) e1)
    clear e1
    go_wp2
    go_ret
    exact ⟨by rw [Hv.out] <;> rfl, Hb1.out⟩
  have h8 := chart_len e1
  have Hch := Lib.hid e1
  clear e1
  have HF := Lib.hid (fun w ha => routesFrom_c A c ss h8 ss.length 0 (by omega) w ha)
  rw [show ((0 : Nat) : Int) = 0 from rfl, ← leftN_nil] at HF
  unfold restV at HF
  go_wp2_with fail
  refine (HF.out _ (HA.out.go Hb1.out)).mono ?_
  rintro e w2 ⟨rfl, hb⟩
  have Hb2 := Lib.hid (below_step Hb1.out hb)
  clear hb HF
  go_wp2
  go_loopw [5, 15] (fun x i wr => ∃ j : Nat, j ≤ O.length ∧ i = .int .i64 j ∧ x = .iface (tyR (leftN ss (O.take j))) (pay ss (leftN ss (O.take j))) ∧ liftTo ss O j ∧ Below w.heap.size w wr) (fun _ i _ => O.length - (intOf i).toNat)
  case atStart => exact ⟨0, Nat.zero_le _, rfl, rfl, liftTo_zero _ _, Hb2.out⟩
  case round =>
    obtain ⟨j, hj, rfl, rfl, ho, hb⟩ := hrel
    have Ho := Lib.hid ho
    have Hb := Lib.hid hb
    clear ho hb
    by_cases hlt : j < O.length
    · obtain ⟨b, off, rfl, hat⟩ := argI_at HB.out hlt
      have hc0 := hat _ Hb.out
      have hts := take_step hlt
      have hyes := fun h => liftTo_succ Ho.out (j := j) h
      have hno := fun h => lift_not (R := ss) hlt h
      have hfm := freeAt_mem ss (O.take j) (O[j]?.getD 0)
      rw [← freeL_left] at hfm
      obtain ⟨x, hx⟩ : ∃ x, O[j]?.getD 0 = x := ⟨_, rfl⟩
      rw [hx] at hc0 hts hyes hno hfm
      have hmore := leftN_more ss (O.take j) [x]
      rw [← hts] at hmore
      obtain ⟨l, hll⟩ : ∃ l, leftN ss (O.take j) = l := ⟨_, rfl⟩
      have hin : ∀ i ∈ l, RtIn (rotAt ss i) := chart_all Hch.out (by rw [← hll]; exact left_lt _ _)
      have hl8 : l.length ≤ 8 := by rw [← hll]; exact Nat.le_trans (leftN_len _ _) h8
      rw [hll] at hmore hfm
      obtain ⟨M, hM⟩ : ∃ M, leftN ss (O.take (j + 1)) = M := ⟨_, rfl⟩
      rw [hM] at hmore
      have hm := fun w => fr_meth ss l w
      have hk := fun args w => fr_call l args w
      have hn := fun w => wi_meth ss l w
      have hq := fun args w => wi_call l args w
      have HFr := Lib.hid (fun w => free_c ss l hin hl8 w)
      have HWi := Lib.hid (fun A c zs w ha => without_c ss l A c zs w ha)
      obtain ⟨T, hT⟩ : ∃ T, tyR l = T := ⟨_, rfl⟩
      obtain ⟨V, hV⟩ : ∃ V, pay ss l = V := ⟨_, rfl⟩
      obtain ⟨g, hg⟩ : ∃ g, frF l = g := ⟨_, rfl⟩
      obtain ⟨g', hg'⟩ : ∃ g, wiF l = g := ⟨_, rfl⟩
      rw [hT, hV, hg] at hm
      rw [hg] at hk
      rw [hT, hV, hg'] at hn
      rw [hg'] at hq
      rw [hV, hg] at HFr
      rw [hV, hg'] at HWi
      rw [hll, hT, hV]
      unfold restV at HWi
      obtain ⟨F, hF⟩ : ∃ F, freeL ss l = F := ⟨_, rfl⟩
      rw [hF] at HFr hfm
      obtain ⟨bb, hbb⟩ : ∃ bb, freeAt ss (O.take j) x = bb := ⟨_, rfl⟩
      rw [hbb] at hfm hyes hno
      have Hyes := Lib.hid hyes
      have Hno := Lib.hid hno
      have Hmore := Lib.hid hmore
      have Hfm := Lib.hid hfm
      have HM := Lib.hid hM
      have g3 : (j : Int) < (O.length : Int) := by omega
      clear hat hts hx hll hin hl8 hmore hM hT hV hg hg' hF hbb hyes hno hfm
      go_wp2_with fail
      refine (HFr.out _).mono ?_
      rintro e w3 ⟨A3, c3, rfl, ra3, _, rb3⟩
      dsimp only [id]
      have Hb3 := Lib.hid (below_step Hb.out rb3)
      have Hc := Lib.hid (contains_c A3 c3 (ints F) x w3 ra3)
      clear ra3 rb3 hc0
      go_wp2_with fail
      refine Hc.out.mono ?_
      rintro e w4 ⟨rfl, hb4⟩
      rw [Hfm.out]
      have Hb4 := Lib.hid (below_step Hb3.out hb4)
      clear hb4 Hc Hfm
      cases bb
      · have Hv := Lib.hid (Hno.out rfl)
        go_wp2
        go_ret
        exact ⟨by rw [Hv.out] <;> rfl, Hb4.out⟩
      have Hn := Lib.hid (Hyes.out rfl)
      have HW := Lib.hid (HWi.out (some ⟨w4.heap.size, 0, none⟩) 1 [x] (w4.alloc (.cells #[.int .i64 x] 3)) (arg_one w4 x _))
      rw [Hmore.out] at HW
      clear Hyes Hno HWi HFr Hmore
      go_wp2_with fail
      refine HW.out.mono ?_
      rintro e w5 ⟨rfl, hb5⟩
      have Hb5 := Lib.hid (below_step (Hb4.out.alloc Hb4.out.size (.cells #[.int .i64 x] 3)) hb5)
      clear hb5 HW
      go_wp2
      go_roundw
      case rel => exact ⟨j + 1, by omega, by go_num, by rw [HM.out], Hn.out, Hb5.out⟩
      case measure => simp [intOf]; omega
    · obtain rfl : j = O.length := by omega
      have Hv := Lib.hid (lift_all Hch.out Ho.out)
      by_cases hln : O.length = ss.length
      · have g1 : ((O.length : Int) == (ss.length : Int)) = true := by rw [beq_iff_eq]; omega
        have g2 : ((O.length : Int) = (ss.length : Int)) = True := eq_true (by omega)
        have Hd := Lib.hid (decide_eq_true hln)
        clear hln
        go_wp2
        go_ret
        exact ⟨by rw [Hv.out, Hd.out] <;> rfl, Hb.out⟩
      · have g1 : ((O.length : Int) == (ss.length : Int)) = false := by rw [beq_eq_false_iff_ne]; omega
        have g2 : ((O.length : Int) = (ss.length : Int)) = False := eq_false (by omega)
        have Hd := Lib.hid (decide_eq_false hln)
        clear hln
        go_wp2
        go_ret
        exact ⟨by rw [Hv.out, Hd.out] <;> rfl, Hb.out⟩

end Go.Proofs.Ytjboamhjfncgdaa
