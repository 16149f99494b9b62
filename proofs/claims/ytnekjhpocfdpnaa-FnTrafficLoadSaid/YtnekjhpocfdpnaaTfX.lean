/-
  TrafficLoad and TrafficMost of the program.
-/
import Derived.Test.YtnekjhpocfdpnaaTfL
import Derived.Test.YtnekjhpocfdpnaaTfA
import Derived.Test.YtnekjhpocfdpnaaTfT
import Derived.Test.YtnekjhpocfdpnaaTfR
import Derived.Deep.LoopGhost
import Derived.Test.YtnekjhpocfdpnaaMade
import Derived.Test.YtnekjhpocfdpnaaTfC
namespace Go.Proofs.Ytnekjhpocfdpnaa
open Go.RowKit Go.Maps

set_option maxRecDepth 100000 in
set_option maxHeartbeats 4000000 in
theorem implTrafficLoad_b (n : Int) (A : Option Addr) (c : Nat) (ss : List Lin) (f t : Int) (w : World) (ha : ArgL w A c ss) :
    Calls Try.prog 16 #[.int .i64 n, .slice A ss.length c, .int .i64 f, .int .i64 t] w (RetS 3 (fun v => .tuple #[v, .bool (endB n ss f t)]) (TLv n ss f t) w) := by
  have hl := ha.len
  have HA := Lib.hid ha
  obtain ⟨i0, hi, hz0, hz1, hz2⟩ := info_parts int_info
  clear ha
  go_enter Try.func16, Try.ntmps16
  go_wp2_with fail
  refine (ends_c _ _ _ _ _ _ _ HA.out).mono ?_
  rintro e w1 ⟨rfl, hb1⟩
  have Hb1 := Lib.hid hb1
  have HA1 := Lib.hid (HA.out.go hb1)
  clear hb1
  cases e1 : endB n ss f t
  · have N := Lib.hid (TLv_no e1)
    have E1 := Lib.hid e1
    clear e1
    go_wp2
    go_ret2
    rw [N.out, E1.out]
    exact RetS.nil (f := fun v => .tuple #[v, .bool false]) Hb1.out
  have E1 := Lib.hid e1
  have hT := TLv_yes e1
  have HT := Lib.hid hT
  have hn := (endB_true.1 e1).1
  have h10 := (netB_true.1 hn).2.1
  have Hn := Lib.hid hn
  have hlen := TL_len e1
  have Hlen := Lib.hid hlen
  obtain ⟨m, rfl, hm, hf, ht, hft⟩ := ends_nat e1
  have Hstep : Hid (∀ (F : Nat) (M : List Int), flowP ss f t M → wayV ss m f t M ≠ [] → flowP ss f t (addC ss M f (wayV ss m f t M).tail) ∧ outV ss (addC ss M f (wayV ss m f t M).tail) f = outV ss M f + 1) := Lib.hid (fun _ M hM hw => by
    have := flow_add e1 hM (by rw [Int.toNat_natCast]; exact hw)
    rwa [Int.toNat_natCast] at this)
  have Hway : Hid (∀ M, chB ss M = true → wayV ss m f t M = [] ∨ ∃ s, wayV ss m f t M = f :: s ∧ wlkP ss M f s ∧ lst f s = t ∧ Ch (fr ss M) m f s ∧ s.length ≤ m) := Lib.hid (fun M hM => way_walk hn hM hm.2 hf ht)
  have HTL : Hid (trL ss m f t 200 (ld0 ss) = TL (m : Int) ss f t) := Lib.hid (by unfold TL; rw [Int.toNat_natCast])
  have Hfl0 := Lib.hid (flow_zero (f := f) (t := t) hn)
  clear e1 hT hn hlen
  obtain ⟨fn, rfl⟩ : ∃ fn : Nat, f = (fn : Int) := ⟨f.toNat, by omega⟩
  have hfm : fn < m := by omega
  have hmi := made_ints ss.length
  have HMI := Lib.hid hmi
  clear hmi
  go_wp2_with (at_make; refine wpList_make_full _ rfl (.tmp 19) (.tmp 19) 24 rfl w1.heap.size 3 i0 (.int .i64 0) 1 Try.underlying24 hi hz0 hz1 .i64 .i64 _ _ ss.length rfl rfl rfl rfl (by rw [hz2]; omega) (by unfold maxLen; omega) (Nat.le_refl _) ?_; intro w2 hown hg2)
  rw [HMI.out] at hown
  have hown2 : w2.ownsRow w1.heap.size 3 1 (.slice (some ⟨w1.heap.size, 0, none⟩) (ld0 ss).length ss.length) (ld0 ss).length ((ld0 ss).map (Value.int .i64)) := by
    unfold ld0
    rw [List.length_replicate]; exact hown
  have hld : (ld0 ss).length = ss.length := by simp [ld0]
  have hb2 : Below w1.heap.size w1 w2 := (Below.refl _ _).grown hg2 (Nat.le_refl _) (by simp)
  have Hb2 := Lib.hid (below_step Hb1.out hb2)
  have HA2 := Lib.hid (HA1.out.go hb2)
  have Harg := Lib.hid ((Ow.of_own hown2).arg (by omega) (Nat.le_refl _))
  have Hld := Lib.hid hld
  clear hown hown2 hg2 hb2 hld HMI
  obtain ⟨Z, hZ⟩ : ∃ Z, ld0 ss = Z := ⟨_, rfl⟩
  have hcall := usageOf_c (some ⟨w1.heap.size, 0, none⟩) ss.length (ld0 ss) w2 Harg.out (fun k hk => by have := ch9 Hn.out Hfl0.out.1 k hk; omega)
  rw [Hld.out, hZ] at hcall
  have Hcall := Lib.hid hcall
  have HZ := Lib.hid hZ
  clear hcall hZ
  go_wp2_with fail
  refine Hcall.out.mono ?_
  rintro e w3 ⟨Bu, rfl, hBu, hu, hb3⟩
  rw [← HZ.out] at hu
  have Hb3 := Lib.hid (below_step Hb2.out hb3)
  have HA3 := Lib.hid (HA2.out.go hb3)
  have HHA := Lib.hid (HA.out.held)
  have HU := Lib.hid hu
  have hBu2 : w.heap.size ≤ Bu := by have := Hb2.out.size; omega
  clear hu hb3
  go_wp2
  go_loopg [] 200 (fun F wr => ∃ M, Usg wr Bu M ∧ flowP ss fn t M ∧ trL ss m fn t F M = TL (m : Int) ss fn t ∧ 200 ≤ (F : Int) + outV ss M fn ∧ Below w.heap.size w wr)
  case atStart => exact ⟨ld0 ss, HU.out, Hfl0.out, HTL.out, by unfold ld0; rw [outV_zero]; omega, Hb3.out⟩
  case round =>
    obtain ⟨M, hu, hfl, htr, hF, hb⟩ := hrel
    have HU4 := Lib.hid hu
    have Hfl := Lib.hid hfl
    have Htr := Lib.hid htr
    have HF := Lib.hid hF
    have Hb := Lib.hid hb
    have hMl := (chB_true.1 hfl.1).1
    have HMl := Lib.hid hMl
    clear hu hfl htr hF hb hMl
    go_wp2_with fail
    refine (freeWay_c m fn A c Bu ss M t _ (HA.out.go Hb.out) HU4.out Hn.out Hfl.out.1 hfm).mono ?_
    rintro e w4 ⟨W0, d, rfl, hh, hb4⟩
    have Hb4 := Lib.hid (below_step Hb.out hb4)
    have HU5 := Lib.hid (HU4.out.go hb4)
    have Hh := Lib.hid hh
    have Hsz := Lib.hid Hb.out.size
    have hBl := HU4.out.lt
    clear hb4 hh
    rcases Hway.out M Hfl.out.1 with hw0 | ⟨s, hs, hwk, hlst, _, hsm⟩
    · have Hfin : Hid (TL (m : Int) ss fn t = M) := Lib.hid (by rw [← Htr.out, trL_no hw0])
      have g1 : (((wayV ss m fn t M).length : Int) == 0) = true := by rw [hw0]; rfl
      clear hw0
      go_wp2_with fail
      refine (told_c Bu M _ HU5.out (by have := HMl.out; omega)).mono ?_
      rintro e w5 ⟨A5, c5, rfl, ha5, ho5, hb5⟩
      dsimp only [id]
      have Ha5 := Lib.hid ha5
      have Ho5 := Lib.hid ho5
      have Hb5 := Lib.hid (below_step Hb4.out hb5)
      have hsz5 := Hb4.out.size
      have Hsz5 := Lib.hid hsz5
      clear ha5 ho5 hb5 hsz5
      go_wp2
      go_ret2
      rw [HT.out, Hfin.out, E1.out]
      exact ⟨A5, c5, rfl, Ha5.out, Ho5.out.more Hsz5.out (Nat.le_refl _), Hb5.out⟩
    · have hne : wayV ss m fn t M ≠ [] := by rw [hs]; simp
      have hs1 : 1 ≤ s.length := by
        cases s with
        | nil => exact absurd hlst hft
        | cons y r => simp
      have Hst := Lib.hid (Hstep.out 0 M Hfl.out hne)
      have htl : (wayV ss m fn t M).tail = s := by rw [hs]; rfl
      have Hnx : Hid (∀ F, trL ss m fn t (F + 1) M = trL ss m fn t F (addC ss M fn s)) := Lib.hid (fun F => by rw [trL_yes hne, htl])
      have Htl := Lib.hid htl
      have g1 : (((wayV ss m fn t M).length : Int) == 0) = false := by rw [hs]; simp; omega
      rw [hs] at g1 ⊢
      have Hh2 : Hid (Held wr.heap.size w4.heap.size w4 W0 d (fn :: s)) := Lib.hid (by have := Hh.out; rwa [hs] at this)
      have Hwk := Lib.hid hwk
      clear hne hs hwk hlst htl Hh
      go_wp2_with fail
      refine (addWay_c (m : Int) A W0 c d Bu wr.heap.size w4.heap.size 0 w.heap.size ss M s fn _ (HHA.out.go Hb4.out) Hh2.out (.inl hBl) (.inr hBu2) HU5.out Hn.out Hfl.out.1 Hwk.out hs1 (by omega)).mono ?_
      rintro e w5 ⟨⟨v5, rfl⟩, hu5, hg5⟩
      have HU6 := Lib.hid hu5
      have Hb5 := Lib.hid (Hb4.out.grown hg5 Hb4.out.size (fun r e => by injection e with e; omega))
      clear hu5 hg5
      have hbd := outV_bd Hn.out Hst.out.1.1 fn
      rw [Htl.out] at hbd
      have hFp : ∃ F', gk = F' + 1 := ⟨gk - 1, by
        have h1 := HF.out
        have h2 := outV_bd Hn.out Hfl.out.1 fn
        omega⟩
      obtain ⟨F', rfl⟩ := hFp
      have Hgo : Hid (trL ss m fn t F' (addC ss M fn s) = TL (m : Int) ss fn t ∧ 200 ≤ (F' : Int) + outV ss (addC ss M fn s) fn ∧ flowP ss fn t (addC ss M fn s)) := Lib.hid (by
        have h1 := Hst.out
        rw [Htl.out] at h1
        have h2 := HF.out
        exact ⟨by rw [← Hnx.out]; exact Htr.out, by rw [h1.2]; omega, h1.1⟩)
      clear hbd
      go_wp2
      go_roundg F'
      case rel => exact ⟨_, HU6.out, Hgo.out.2.2, Hgo.out.1, Hgo.out.2.1, Hb5.out⟩
      case measure => omega

set_option maxRecDepth 100000 in
set_option maxHeartbeats 1000000 in
theorem implTrafficMost_b (n : Int) (A : Option Addr) (c : Nat) (ss : List Lin) (f t : Int) (w : World) (ha : ArgL w A c ss) :
    Calls Try.prog 13 #[.int .i64 n, .slice A ss.length c, .int .i64 f, .int .i64 t] w (RetB (.int .i64 (mostV n ss f t)) w) := by
  have HA := Lib.hid ha
  clear ha
  go_enter Try.func13, Try.ntmps13
  go_wp2_with fail
  refine (implTrafficLoad_b _ _ _ _ _ _ _ HA.out).mono ?_
  rintro e w1 ⟨A1, c1, rfl, ha1, _, hb1⟩
  dsimp only
  have Hb1 := Lib.hid hb1
  have HA1 := Lib.hid (HA.out.go hb1)
  have Ha1 := Lib.hid ha1
  clear hb1 ha1
  cases e1 : endB n ss f t
  · have N : Hid (mostV n ss f t = -1) := Lib.hid (by unfold mostV; rw [e1]; rfl)
    clear e1
    go_wp2
    go_ret
    exact ⟨by rw [N.out] <;> rfl, Hb1.out⟩
  · have N : Hid (trafV n ss f t (TLv n ss f t) = mostV n ss f t) := Lib.hid (by rw [TLv_yes e1]; exact mostV_traf e1)
    clear e1
    go_wp2_with fail
    refine (implLoadTraffic_b _ _ _ _ _ _ _ _ _ _ HA1.out Ha1.out).mono ?_
    rintro e w2 ⟨rfl, hb2⟩
    rw [N.out]
    have Hb2 := Lib.hid (below_step Hb1.out hb2)
    clear hb2
    go_wp2
    go_ret
    exact ⟨rfl, Hb2.out⟩

end Go.Proofs.Ytnekjhpocfdpnaa
