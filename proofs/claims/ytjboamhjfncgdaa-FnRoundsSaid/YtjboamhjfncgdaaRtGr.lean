/-
  LiftRounds of the model.
-/
import Derived.Test.YtjboamhjfncgdaaRtGs
namespace Go.Proofs.Ytjboamhjfncgdaa
open Go.RowKit

/-- those below k that can be lifted -/
def freeTo (R : List Rot) (L : List Int) (k : Nat) : List Nat := (List.range k).filter (freeB R L)
theorem freeTo_yes {R : List Rot} {L : List Int} {k : Nat} (h : freeB R L k = true) : freeTo R L (k + 1) = freeTo R L k ++ [k] := by
  unfold freeTo; rw [List.range_succ, List.filter_append]; simp [h]
theorem freeTo_no {R : List Rot} {L : List Int} {k : Nat} (h : freeB R L k = false) : freeTo R L (k + 1) = freeTo R L k := by
  unfold freeTo; rw [List.range_succ, List.filter_append]; simp [h]
theorem freeTo_len (R : List Rot) (L : List Int) (k : Nat) : (freeTo R L k).length ≤ k := Nat.le_trans (List.length_filter_le _ _) (by simp)
theorem OnI.add {w wr w3 : World} {v v' : Value} {l m : List Nat} (h : OnI w wr v l) (h1 : w3.ownsRow w.heap.size 3 1 v' (ints l ++ ints m).length ((ints l ++ ints m).map (Value.int .i64))) (h2 : wr.grownBy w3 v.ownBlock) : OnI w w3 v' (l ++ m) :=
  ⟨by rw [ints_append]; exact h1, h.2.grown h2 h.2.size (fun k e => (h.1.lt k e).1)⟩
theorem rds_len {R : List Rot} {L : List Int} {t : Nat} (h : RdsInv R L t) : L.length ≤ R.length := by have := h.le; omega

set_option maxRecDepth 100000 in
set_option maxHeartbeats 4000000 in
theorem specLiftRounds_b (A : Option Addr) (c : Nat) (ss : List Rot) (w : World) (ha : ArgK w A c ss) :
    Calls Try.prog 55 #[.slice A ss.length c] w (RetB (.int .i64 (rdsV ss)) w) := by
  obtain ⟨i0, hi, hz0, hz1, hz2⟩ := info_parts intInf
  have hl := ha.len
  have HA := Lib.hid ha
  clear ha
  go_enter Try.func55, Try.ntmps55
  go_wp2_with fail
  refine (specChartValid_b _ _ _ _ HA.out).mono ?_
  rintro e w1 ⟨rfl, hb⟩
  have Hb1 := Lib.hid hb
  clear hb
  cases e1 : chartB ss
  · have Hv := Lib.hid (rdsV_no e1)
    clear e1
    go_wp2
    go_ret
    exact ⟨by rw [Hv.out] <;> rfl, Hb1.out⟩
  have h8 := chart_len e1
  have Hch := Lib.hid e1
  have Hv := Lib.hid (rdsV_yes e1)
  clear e1
  have O1 := Lib.hid (OnI.start w w1 Hb1.out)
  go_wp2
  go_loopw [3, 4] (fun o x wr => ∃ (t : Nat) (v : Value) (l : List Nat), v = o ∧ x = .int .i64 t ∧ RdsInv ss (ints l) t ∧ OnI w wr v l) (fun o _ _ => ss.length - lenOf o)
  case atStart => exact ⟨0, _, [], rfl, rfl, RdsInv.start ss, O1.out⟩
  case round =>
    obtain ⟨t, v, l, rfl, rfl, hr, ho⟩ := hrel
    have hll := rds_len hr
    have htl := hr.tl
    obtain ⟨B, d, rfl, hab⟩ := ho.form (by omega)
    have hnx := fun h => RdsInv.next h8 hr h
    have hall := fun h => RdsInv.all hr h
    have hpos : (ints l).length < ss.length → 1 ≤ (freeN ss (ints l)).length := fun h => List.length_pos_iff.2 (free_some (fun e => by have := hr.le; rw [e] at this; simp at this; omega))
    obtain ⟨L, hL⟩ : ∃ L, ints l = L := ⟨_, rfl⟩
    obtain ⟨k, hk⟩ : ∃ k, L.length = k := ⟨_, rfl⟩
    rw [hL] at hll htl hnx hall hab hpos ⊢
    rw [hk] at hll htl hnx hall hpos ⊢
    have Ho := Lib.hid ho
    have HAb := Lib.hid hab
    have Hpos := Lib.hid hpos
    have Hk := Lib.hid hk
    have HL := Lib.hid hL
    have Hnx := Lib.hid hnx
    have Hall := Lib.hid hall
    clear ho hab hk hL hnx hall hpos hr
    by_cases hlt : k < ss.length
    · have g1 : (k : Int) < (ss.length : Int) := by omega
      have HFr := Lib.hid (fun W (j : Nat) (hj : j < ss.length) ha hb => l9Free_c A c ss B d L j W Hch.out hj ha hb)
      rw [Hk.out] at HFr
      obtain ⟨wo, hwo⟩ : ∃ wo, wo = wr := ⟨_, rfl⟩
      subst hwo
      have O2 := Lib.hid (OnI.start wo wo (Below.refl _ _))
      go_wp2
      go_loopw [5, 6] (fun o i w2 => ∃ (j : Nat) (v2 : Value), j ≤ ss.length ∧ v2 = o ∧ i = .int .i64 j ∧ OnI wo w2 v2 (freeTo ss L j)) (fun _ i _ => ss.length - (intOf i).toNat)
      case atStart => exact ⟨0, _, Nat.zero_le _, rfl, rfl, O2.out⟩
      case round =>
        obtain ⟨j, v2, hj, rfl, rfl, ho2⟩ := hrel
        have Ho2 := Lib.hid ho2
        clear ho2 O2
        by_cases hjl : j < ss.length
        · have g2 : (j : Int) < (ss.length : Int) := by omega
          have hlen := freeTo_len ss L j
          have hy := fun h => freeTo_yes (R := ss) (L := L) (k := j) h
          have hn := fun h => freeTo_no (R := ss) (L := L) (k := j) h
          obtain ⟨F, hF⟩ : ∃ F, freeTo ss L j = F := ⟨_, rfl⟩
          obtain ⟨F2, hF2⟩ : ∃ F2, freeTo ss L (j + 1) = F2 := ⟨_, rfl⟩
          rw [hF] at Ho2 hlen hy hn
          rw [hF2] at hy hn
          have Hy := Lib.hid hy
          have Hn := Lib.hid hn
          have HF2 := Lib.hid hF2
          have hil := ints_length F
          have hfl8 : (ints F).length ≤ 8 := by omega
          clear hF hF2 hy hn hil
          go_wp2_with fail
          refine (HFr.out _ j hjl (HA.out.go (below_step Ho.out.2 Ho2.out.2)) (HAb.out.go Ho2.out.2)).mono ?_
          rintro e w4 ⟨rfl, hb4⟩
          have Ho4 := Lib.hid (Ho2.out.go hb4)
          clear hb4
          cases hfb : freeB ss L j
          · have hz := Hn.out hfb
            clear hfb
            go_wp2
            go_roundw
            case rel => exact ⟨j + 1, v2, by omega, rfl, by go_num, by rw [HF2.out, hz]; exact Ho4.out⟩
            case measure => simp [intOf]; omega
          · have hz := Hy.out hfb
            clear hfb
            go_wp2_with (at_builtin; refine wpList_append_ints rfl (.tmp 27) (.tmp 29) 25 rfl wo.heap.size 3 i0 (.int .i64 0) Try.underlying25 hi hz0 hz1 hz2 rfl v2 (ints F) rfl (Ho4.out.1.alloc _) (some ⟨w4.heap.size, 0, none⟩) 1 [(j : Int)] rfl (arg_one w4 _ _) (by simp only [List.length_singleton]; omega) (by have := Ho4.out.2.size; simp; omega) ?_; intro v' w9 hown9 hg9; have H9 := Lib.hid (Ho4.out.snoc hown9 hg9); clear hown9 hg9)
            go_roundw
            case rel => exact ⟨j + 1, v', by omega, rfl, by go_num, by rw [HF2.out, hz]; exact H9.out⟩
            case measure => simp [intOf]; omega
        · obtain rfl : j = ss.length := by omega
          have Ho3 := Lib.hid (show OnI wo wr v2 (freeN ss L) from Ho2.out)
          have hlen := freeN_len ss L
          have hnx := Hnx.out hlt
          have hp1 := Hpos.out hlt
          have hil := ints_length (freeN ss L)
          obtain ⟨F, hF⟩ : ∃ F, freeN ss L = F := ⟨_, rfl⟩
          rw [hF] at Ho3 hlen hnx hil hp1
          obtain ⟨B3, d3, rfl, hab3⟩ := Ho3.out.form (by omega)
          have HAb3 := Lib.hid hab3
          have Hw := Lib.hid (Ho.out.go Ho3.out.2)
          have hfl8 : (ints F).length ≤ 8 := by omega
          have hp2 : 1 ≤ (ints F).length := by omega
          have hnl := rds_len hnx
          rw [List.length_append, Hk.out] at hnl
          have Hown := Lib.hid (show wr.ownsRow w.heap.size 3 1 (.slice B k d) L.length (L.map (Value.int .i64)) by have := Hw.out.1; rw [HL.out, Hk.out] at this; rw [Hk.out]; exact this)
          have hL8 : L.length ≤ 8 := by rw [Hk.out]; omega
          have q1 : IntKind.i64.wrap ((t : Int) + 1) = (t : Int) + 1 := IntWalk.i64_in _ (by omega)
          have Hnx2 := Lib.hid (show RdsInv ss (ints (l ++ F)) (t + 1) by rw [ints_append, HL.out]; exact hnx)
          clear hF hab3 hnx hil
          go_wp2_with (at_builtin; refine wpList_append_ints rfl (.tmp 31) (.tmp 32) 25 rfl w.heap.size 3 i0 (.int .i64 0) Try.underlying25 hi hz0 hz1 hz2 rfl (.slice B k d) L rfl Hown.out B3 d3 (ints F) rfl HAb3.out (by omega) Hw.out.2.size ?_; intro v' w9 hown9 hg9; have H9 := Lib.hid (show OnI w w9 v' (l ++ F) from OnI.add (v := .slice B k d) (by have := Hw.out; rw [HL.out, Hk.out] at this; exact this) (by rw [HL.out]; exact hown9) hg9); clear hown9 hg9)
          have hv9 := own_len H9.out.1
          rw [ints_append, HL.out, List.length_append, Hk.out] at hv9
          go_roundw
          case rel => exact ⟨t + 1, v', l ++ F, rfl, by go_num, Hnx2.out, H9.out⟩
          case measure => rw [hv9]; simp [lenOf]; omega
    · obtain rfl : k = ss.length := by omega
      have ht := Hall.out (Nat.le_refl _)
      have Ht := Lib.hid ht
      clear ht
      go_wp2
      go_ret
      exact ⟨by rw [Hv.out, ← Ht.out] <;> rfl, Ho.out.2⟩

end Go.Proofs.Ytjboamhjfncgdaa
