/-
  CutLeast of the program.
-/
import Derived.Test.YtnekjhpocfdpnaaTfJ0
import Derived.Test.YtnekjhpocfdpnaaTfK
namespace Go.Proofs.Ytnekjhpocfdpnaa
open Go.RowKit

set_option maxRecDepth 100000 in
set_option maxHeartbeats 4000000 in
theorem implCutLeast_b (n : Int) (A : Option Addr) (c : Nat) (ss : List Lin) (f t : Int) (w : World) (ha : ArgL w A c ss) :
    Calls Try.prog 19 #[.int .i64 n, .slice A ss.length c, .int .i64 f, .int .i64 t] w (RetS 3 (fun v => .tuple #[v, .bool (endB n ss f t)]) (lcV n ss f t) w) := by
  have HA := Lib.hid ha
  clear ha
  go_enter Try.func19, Try.ntmps19
  go_wp2_with fail
  refine (ends_c _ _ _ _ _ _ _ HA.out).mono ?_
  rintro e w1 ⟨rfl, hb1⟩
  have Hb1 := Lib.hid hb1
  have HA1 := Lib.hid (HA.out.go hb1)
  clear hb1
  cases e1 : endB n ss f t
  · have N := Lib.hid (lcV_no e1)
    have E1 := Lib.hid e1
    clear e1
    go_wp2
    go_ret2
    rw [N.out, E1.out]
    exact RetS.nil (f := fun v => .tuple #[v, .bool false]) Hb1.out
  obtain ⟨x, hx⟩ := lc_some e1
  have Hval := Lib.hid (lcV_bst e1 hx)
  have E1 := Lib.hid e1
  obtain ⟨m, rfl, hm, hf, ht, _⟩ := ends_nat e1
  rw [Int.toNat_natCast] at hx
  have Hx := Lib.hid hx
  have hM : (2 : Nat) ^ m ≤ 64 := Nat.pow_le_pow_right (i := m) (j := 6) (show 0 < 2 by decide) hm.2
  have hM2 : ((2 : Int) ^ m) = ((2 ^ m : Nat) : Int) := by simp
  obtain ⟨M, hMd⟩ : ∃ M, 2 ^ m = M := ⟨_, rfl⟩
  rw [hMd] at hM hM2 Hx
  have HMd := Lib.hid hMd
  obtain ⟨w2, hw2⟩ : ∃ w2, w2 = w1.alloc (.cells #[.slice none 0 0, .int .i64 0, .bool false] 60) := ⟨_, rfl⟩
  have hb2 : Below w1.heap.size w1 w2 := by rw [hw2]; exact (Below.refl _ _).alloc (Nat.le_refl _) _
  have hch : ChAt w2 w1.heap.size (.slice none 0 0) 0 false := by rw [hw2]; exact heap_alloc_new w1 _
  have hbest : BestAt (cutV (m : Int) ss f t) w.heap.size w1.heap.size w1.heap.size (lcTo (m : Int) ss f t m 0) w2 := ⟨_, _, _, hch, KeptB.start _ _ _ _ _ _⟩
  have hsz := Hb1.out.size
  have Hb2 := Lib.hid hb2
  have Hbest := Lib.hid hbest
  rw [hw2] at Hb2 Hbest
  clear hx hMd hb2 hch hbest hw2 e1
  go_wp2
  go_loopw [22] (fun i wr => ∃ k rb : Nat, k ≤ M ∧ i = .int .i64 k ∧ BestAt (cutV (m : Int) ss f t) w.heap.size w1.heap.size rb (lcTo (m : Int) ss f t m k) wr ∧ Below w1.heap.size w1 wr) (fun i _ => M - (intOf i).toNat)
  case atStart => exact ⟨0, _, Nat.zero_le _, rfl, Hbest.out, Hb2.out⟩
  case round =>
    obtain ⟨k, rb, hk, rfl, hbt, hbk⟩ := hrel
    have Hbt := Lib.hid hbt
    have Hbk := Lib.hid hbk
    clear hbt hbk
    by_cases hlt : k < M
    · have hk64 : k < 64 := by omega
      have g1 : (k : Int) < (M : Int) := by omega
      go_wp2_with fail
      refine (binary_c k m hm.2 hk64 _).mono ?_
      rintro e w3 ⟨b3, rfl, hb3, hp3, hw3⟩
      have hk3 : KeepBut (fun _ => False) wr w3 := KeepBut.of_below hw3
      have hslt : w1.heap.size < wr.heap.size := by obtain ⟨_, _, _, h1, _⟩ := Hbt.out; exact h1.lt
      have Hbt3 := Lib.hid ((Hbt.out.next hb3).keep hk3 (by simp) (by omega))
      have Hp3 := Lib.hid hp3
      have Hbk3 := Lib.hid (below_step Hbk.out hw3)
      have hb3w : wr.heap.size ≤ w3.heap.size := hw3.size
      have hdl := digs_len m k
      have hcall := implCutOf_b (m : Int) f t A (some ⟨b3, 0, none⟩) c m ss (digs m k) w3 (HA1.out.go Hbk3.out) (by have h := hp3.arg (by omega); rw [hdl] at h; exact h)
      rw [hdl] at hcall
      have Hcall := Lib.hid hcall
      have hdl10 : (digs m k).length ≤ 10 := by omega
      have hoff := fun (W : World) h1 h2 => offerP_c (cutV (m : Int) ss f t) w.heap.size w1.heap.size b3 (lcTo (m : Int) ss f t m k) (digs m k) W h1 h2 (by omega) (by omega) hdl10
      rw [hdl] at hoff
      have Hoff := Lib.hid hoff
      have hyes := fun h => lcTo_yes (n := (m : Int)) (N := ss) (f := f) (t := t) (m := m) (k := k) h
      have hno := fun h => lcTo_no (n := (m : Int)) (N := ss) (f := f) (t := t) (m := m) (k := k) h
      obtain ⟨cv, hcv⟩ : ∃ cv, cutV (m : Int) ss f t (digs m k) = cv := ⟨_, rfl⟩
      have hbd := cutV_bd (m : Int) ss f t (digs m k)
      rw [hcv] at Hcall Hoff hyes hno hbd
      have Hyes := Lib.hid hyes
      have Hno := Lib.hid hno
      clear hk3 hp3 hw3 hcall hoff hyes hno hcv hdl hdl10
      go_wp2_with fail
      refine Hcall.out.mono ?_
      rintro e w4 ⟨rfl, hw4⟩
      have hk4 : KeepBut (fun _ => False) w3 w4 := KeepBut.of_below hw4
      have Hbt4 := Lib.hid (Hbt3.out.keep hk4 (by simp) (by omega))
      have Hp4 := Lib.hid (Hp3.out.keep hk4 (by simp))
      have Hbk4 := Lib.hid (below_step Hbk3.out hw4)
      clear hk4 hw4
      by_cases h0 : 0 ≤ cv
      · have Hy := Lib.hid (Hyes.out h0)
        have Ho4 := Lib.hid (Hoff.out w4 Hbt4.out Hp4.out)
        go_wp2_with fail
        refine Ho4.out.mono ?_
        rintro e w5 ⟨⟨v5, rfl⟩, hb5, hp5, hk5⟩
        have Hb5 := Lib.hid hb5
        have Hbk5 := Lib.hid (Hbk4.out.trans (hk5.below (B := w1.heap.size) (fun x hx => by omega) (by have := Hbk4.out.size; omega)))
        clear hb5 hp5 hk5
        go_wp2
        go_roundw
        case rel => exact ⟨k + 1, b3, by omega, by go_num, by rw [Hy.out]; exact Hb5.out, Hbk5.out⟩
        case measure => simp [intOf]; omega
      · have Hn := Lib.hid (Hno.out (by omega))
        go_wp2
        go_roundw
        case rel => exact ⟨k + 1, b3, by omega, by go_num, by rw [Hn.out]; exact Hbt4.out, Hbk4.out⟩
        case measure => simp [intOf]; omega
    · obtain rfl : k = M := by omega
      obtain ⟨sv, cost, fd, hch, hkp⟩ := Hbt.out
      have e0 := hch.c0
      have e2 := hch.c2
      unfold KeptB at hkp
      rw [Hx.out] at hkp
      obtain ⟨rfl, rfl, hl10, ho, hg⟩ := hkp
      obtain ⟨A2, c2, rfl, _, _, _⟩ := ho.form
      have hbw := below_step Hb1.out Hbk.out
      have Hfin := Lib.hid (show ∀ nq, RetS 3 (fun v => .tuple #[v, .bool true]) x w (.returned (.tuple #[.slice A2 x.length c2, .bool true])) (wr.drewN nq) from fun nq => ⟨A2, c2, rfl, ho.arg (by omega) (Nat.le_refl _), ho, below_drewN hbw nq⟩)
      clear ho hg hch hbw
      go_wp2
      go_quiet (fail)
      go_wp2
      go_ret2
      rw [Hval.out, E1.out]
      exact Hfin.out nq
end Go.Proofs.Ytnekjhpocfdpnaa
