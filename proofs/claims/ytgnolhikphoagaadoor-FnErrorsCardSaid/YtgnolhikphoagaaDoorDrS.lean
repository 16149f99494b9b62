/-
  l8Drift and SignalDrift of the model.
-/
import Derived.Test.YtgnolhikphoagaaDoorVaS
import Derived.Test.YtgnolhikphoagaaDoorSgW
import Derived.Test.YtgnolhikphoagaaDoorBase0
import Derived.Test.YtgnolhikphoagaaDoorStkA
import Derived.Laws.AppendOwn
import Derived.OwnWalk
namespace Go.Proofs.YtgnolhikphoagaaDoor
open Go.RowKit

/-- what a function that hands back a part of a new slice leaves -/
def RetA (f : Value → Value) (zs : List Int) (w : World) (e : Ending) (w' : World) : Prop :=
  ∃ A c, e = .returned (f (.slice A zs.length c)) ∧ Held w.heap.size w'.heap.size w' A c zs ∧ Below w.heap.size w w'

theorem own_one (w : World) (t : TypeId) (x : Value) : (w.alloc (.cells #[x] t)).ownsRow w.heap.size t 1 (.slice (some ⟨w.heap.size, 0, none⟩) 1 1) 1 [x] :=
  ⟨rfl, .inr ⟨w.heap.size, 1, #[x], rfl, Nat.le_refl _, heap_alloc_new w _, Nat.le_refl _, by simp [maxLen], rfl, rfl⟩⟩
theorem int43 (b : UInt8) : (((b.toNat : Int) == 43) = true ↔ b.toNat = 43) := by rw [beq_iff_eq]; omega
theorem int45 (b : UInt8) : (((b.toNat : Int) == 45) = true ↔ b.toNat = 45) := by rw [beq_iff_eq]; omega

set_option maxHeartbeats 2000000 in
theorem l8Drift_b (s : ByteArray) (w : World) (hs : s.size ≤ 80) : Calls Tryd.prog 52 #[.string s] w (RetS 3 id (dr0 (byL s) s.size) w) := by
  obtain ⟨i0, hi, hz0, hz1, hz2⟩ := info_parts int_info
  have Hi := Lib.hid (And.intro hi (And.intro hz0 (And.intro hz1 hz2)))
  clear hi hz0 hz1 hz2
  go_enter Tryd.func52, Tryd.ntmps52
  go_wp2
  go_loopw [3, 4, 5] (fun o d i wr => ∃ (k : Nat) (v : Value), k ≤ s.size ∧ i = .int .i64 k ∧ d = .int .i64 (driV ((byL s).take k)) ∧ v = o ∧ wr.ownsRow w.heap.size 3 1 v (k + 1) ((dr0 (byL s) k).map (Value.int .i64)) ∧ Below w.heap.size w wr) (fun _ _ i _ => s.size - (intOf i).toNat)
  case atStart => exact ⟨0, _, Nat.zero_le _, rfl, rfl, rfl, own_one w _ _, (Below.refl _ _).alloc (Nat.le_refl _) _⟩
  case round =>
    obtain ⟨k, v, hk, rfl, rfl, rfl, hown, hbk⟩ := hrel
    have hok := hown
    have Hbk := Lib.hid hbk
    have hbs := hbk.size
    clear hown hbk
    by_cases hlt : k < s.size
    · have ht := byL_take s k hlt
      have hsn := driV_snoc ((byL s).take k) s[k]
      rw [← ht] at hsn
      have hdl := driV_le ((byL s).take k)
      have hll : ((byL s).take k).length ≤ k := List.length_take_le _ _
      have hds := dr0_succ (byL s) k
      obtain ⟨b, hb⟩ : ∃ b : UInt8, s[k] = b := ⟨_, rfl⟩
      rw [hb] at hsn
      obtain ⟨d, hd⟩ : ∃ d, driV ((byL s).take k) = d := ⟨_, rfl⟩
      rw [hd] at hsn hdl
      rw [hd]
      have Hds := Lib.hid hds
      have Hsn := Lib.hid hsn
      have Hok := Lib.hid hok
      have d0 : -80 ≤ d := by omega
      have d1 : d ≤ 80 := by omega
      have g1 : (k : Int) < (s.size : Int) := by omega
      clear ht hdl hll hds hsn hd hok
      by_cases e1 : b.toNat = 43
      · have f1 : ((b.toNat : Int) == 43) = true := (int43 b).2 e1
        have hv : driV ((byL s).take (k + 1)) = d + 1 := by rw [Hsn.out, if_pos e1]
        have Hv := Lib.hid hv
        clear hv e1
        obtain ⟨hi, hz0, hz1, hz2⟩ := Hi.out
        have hok := Hok.out
        go_wp2_with (at_builtin; refine wpList_append_own _ rfl _ _ 31 rfl w.heap.size 3 i0 (.int .i64 0) 1 8 Tryd.underlying31 hi hz0 hz1 hz2 rfl (by decide) v (k + 1) _ rfl (hok.alloc _) ⟨wr.heap.size, 0, none⟩ 1 1 [.int .i64 (d + 1)] rfl rfl (one_new _ _ _) (by simp [Value.oneCell']) (by unfold maxLen; omega) (by omega) (by simp; omega) ?_; intro v' w3 hown3 hg3 _)
        have hb3 : Below w.heap.size w w3 := (Hbk.out.alloc hbs _).grown hg3 (by simp; omega) (fun r e => (hok.lt r e).1)
        have Hb3 := Lib.hid hb3
        have Hown3 := Lib.hid hown3
        clear hb3 hown3 hg3 hok hi hz0 hz1 hz2
        go_roundw
        case rel => exact ⟨k + 1, v', by omega, by go_num, by rw [Hv.out], rfl, by rw [Hds.out, Hv.out, List.map_append]; exact Hown3.out, Hb3.out⟩
        case measure => simp [intOf]; omega
      · have f1 : ((b.toNat : Int) == 43) = false := Bool.eq_false_iff.2 (fun h => e1 ((int43 b).1 h))
        by_cases e2 : b.toNat = 45
        · have f2 : ((b.toNat : Int) == 45) = true := (int45 b).2 e2
          have hv : driV ((byL s).take (k + 1)) = d - 1 := by rw [Hsn.out, if_neg e1, if_pos e2]; omega
          have Hv := Lib.hid hv
          clear hv e1 e2
          obtain ⟨hi, hz0, hz1, hz2⟩ := Hi.out
          have hok := Hok.out
          go_wp2_with (at_builtin; refine wpList_append_own _ rfl _ _ 31 rfl w.heap.size 3 i0 (.int .i64 0) 1 8 Tryd.underlying31 hi hz0 hz1 hz2 rfl (by decide) v (k + 1) _ rfl (hok.alloc _) ⟨wr.heap.size, 0, none⟩ 1 1 [.int .i64 (d - 1)] rfl rfl (one_new _ _ _) (by simp [Value.oneCell']) (by unfold maxLen; omega) (by omega) (by simp; omega) ?_; intro v' w3 hown3 hg3 _)
          have hb3 : Below w.heap.size w w3 := (Hbk.out.alloc hbs _).grown hg3 (by simp; omega) (fun r e => (hok.lt r e).1)
          have Hb3 := Lib.hid hb3
          have Hown3 := Lib.hid hown3
          clear hb3 hown3 hg3 hok hi hz0 hz1 hz2
          go_roundw
          case rel => exact ⟨k + 1, v', by omega, by go_num, by rw [Hv.out], rfl, by rw [Hds.out, Hv.out, List.map_append]; exact Hown3.out, Hb3.out⟩
          case measure => simp [intOf]; omega
        · have f2 : ((b.toNat : Int) == 45) = false := Bool.eq_false_iff.2 (fun h => e2 ((int45 b).1 h))
          have hv : driV ((byL s).take (k + 1)) = d := by rw [Hsn.out, if_neg e1, if_neg e2]; omega
          have Hv := Lib.hid hv
          clear hv e1 e2
          obtain ⟨hi, hz0, hz1, hz2⟩ := Hi.out
          have hok := Hok.out
          go_wp2_with (at_builtin; refine wpList_append_own _ rfl _ _ 31 rfl w.heap.size 3 i0 (.int .i64 0) 1 8 Tryd.underlying31 hi hz0 hz1 hz2 rfl (by decide) v (k + 1) _ rfl (hok.alloc _) ⟨wr.heap.size, 0, none⟩ 1 1 [.int .i64 d] rfl rfl (one_new _ _ _) (by simp [Value.oneCell']) (by unfold maxLen; omega) (by omega) (by simp; omega) ?_; intro v' w3 hown3 hg3 _)
          have hb3 : Below w.heap.size w w3 := (Hbk.out.alloc hbs _).grown hg3 (by simp; omega) (fun r e => (hok.lt r e).1)
          have Hb3 := Lib.hid hb3
          have Hown3 := Lib.hid hown3
          clear hb3 hown3 hg3 hok hi hz0 hz1 hz2
          go_roundw
          case rel => exact ⟨k + 1, v', by omega, by go_num, by rw [Hv.out], rfl, by rw [Hds.out, Hv.out, List.map_append]; exact Hown3.out, Hb3.out⟩
          case measure => simp [intOf]; omega
    · obtain rfl : k = s.size := by omega
      have Hok := Lib.hid hok
      clear hok
      go_wp2
      go_ret
      exact RetS.mk (f := id) (by rw [dr0_len]; omega) (by rw [dr0_len]; exact Hok.out) Hbk.out

theorem dr0_tail (l : List UInt8) : dr0 l l.length = 0 :: driT l l.length := rfl

set_option maxHeartbeats 1000000 in
theorem specSignalDrift_b (s : ByteArray) (w : World) (hs : s.size ≤ 1048576) : Calls Tryd.prog 22 #[.string s] w (RetA (fun v => .tuple #[v, .bool (sigB (byL s))]) (driL (byL s)) w) := by
  have HS := Lib.hid (fun w => specSignalValid_c s w (by omega))
  cases h1 : sigB (byL s)
  · have HV := Lib.hid (driL_no h1)
    rw [h1] at HS
    clear h1
    go_enter Tryd.func22, Tryd.ntmps22
    go_wp2_with fail
    refine (HS.out _).mono ?_
    rintro e w1 ⟨rfl, rfl⟩
    go_wp2
    go_ret2
    rw [HV.out]
    exact ⟨some ⟨w.heap.size, 0, none⟩, 0, rfl, ⟨Rd.nil, Nat.le_refl _, by simp, by simp, by simp⟩, (Below.refl _ _).alloc (Nat.le_refl _) _⟩
  · have h80 := sigB_len h1
    have HD := Lib.hid (fun w => l8Drift_b s w h80)
    have HV := Lib.hid (driL_yes h1)
    rw [h1] at HS
    clear h1
    go_enter Tryd.func22, Tryd.ntmps22
    go_wp2_with fail
    refine (HS.out _).mono ?_
    rintro e w1 ⟨rfl, rfl⟩
    go_wp2_with fail
    refine (HD.out _).mono ?_
    rintro e w2 ⟨A, c, rfl, ha, ho, hb⟩
    obtain ⟨b, off, rfl, hb1, hb2, hc⟩ := (ho.held (Nat.le_refl _) ha.len).1 (by rw [dr0_len]; omega)
    have hcl := ha.2.1
    rw [dr0_len] at hcl
    have hcm := ha.2.2.1
    have hl := dr0_len (byL s) s.size
    rw [hl]
    have Hc := Lib.hid hc
    have Hb := Lib.hid hb
    have Hm := Lib.hid hcm
    clear hc hb ha ho hcm hl
    have g1 : (1 : Int) ≤ (s.size : Int) + 1 := by omega
    have g2 : (s.size : Int) + 1 ≤ (c : Int) := by omega
    have g3 : (1 : Int) ≤ (c : Int) := by omega
    have held : ∀ o k, (0 < s.size → o = off + 1) → s.size ≤ k → k ≤ maxLen → Held w.heap.size w2.heap.size w2 (some ⟨b, o, none⟩) k (driT (byL s) s.size) := by
      intro o k ho hk1 hk2
      refine ⟨fun hp => ?_, Nat.le_refl _, by rw [driT_len]; omega, by rw [driT_len]; exact hk1, hk2⟩
      rw [driT_len] at hp
      refine ⟨b, o, rfl, hb1, hb2, fun j hj => ?_⟩
      rw [driT_len] at hj
      have := Hc.out (j + 1) (by rw [dr0_len]; omega)
      rw [ho hp, show off + 1 + j = off + (j + 1) by omega, this]
      rfl
    have Held' := Lib.hid held
    have hV : driL (byL s) = driT (byL s) s.size := by rw [HV.out, byL_len]
    have HV2 := Lib.hid hV
    have hll := driT_len (byL s) s.size
    have Hll := Lib.hid hll
    clear held hV hll
    by_cases hc1 : c = 1
    · have h0 : s.size = 0 := by omega
      have H0 := Lib.hid h0
      subst hc1
      clear h0
      go_wp2
      go_ret2
      rw [HV2.out]
      refine ⟨some ⟨b, off, none⟩, 0, ?_, Held'.out off 0 (fun h => by have := H0.out; omega) (by have := H0.out; omega) (by simp), Hb.out⟩
      rw [Hll.out]
      simp [H0.out]
    · have g4 : ¬ (c : Int) = 1 := by omega
      have g5 : ¬ (1 : Int) = (c : Int) := by omega
      go_wp2
      go_ret2
      rw [HV2.out]
      refine ⟨some ⟨b, off + 1, none⟩, c - 1, ?_, Held'.out _ _ (fun h => rfl) (by omega) (by have := Hm.out; omega), Hb.out⟩
      rw [Hll.out]
      simp

end Go.Proofs.YtgnolhikphoagaaDoor
