/-
  BreakRange of the model.
-/
import Derived.Test.YtgnemkflojohdaaBreak
import Derived.Test.YtgnemkflojohdaaFltOS
import Derived.Test.YtgnemkflojohdaaBreakM
namespace Go.Proofs.Ytgnemkflojohdaa
open Go.RowKit

def sgL (o : Option (Nat × Nat)) : Int := o.elim (-1) (fun x => (x.1 : Int))
def sgH (o : Option (Nat × Nat)) : Int := o.elim (-1) (fun x => (x.2 : Int))
theorem inB_shift (a r e : Int) : inB a r (r + e) = inB (a - r) 0 e := by
  unfold inB
  congr 1 <;> exact decide_eq_decide.2 (by omega)
theorem ohmsI_rN {ss : List Sec} (h : cabB ss = true) {k : Nat} (hk : k ≤ mN ss) : ohmsI ss (k : Int) = rN ss k := by
  have h2 := (mN_bd h 0).2.2
  exact ohmsI_in h (inB_true.2 (by omega))
theorem milesI_mN {ss : List Sec} (h : cabB ss = true) : milesI ss = (mN ss : Int) := by rw [milesI_yes h, (mN_bd h 0).2.2]
set_option maxRecDepth 100000 in
set_option maxHeartbeats 1000000 in
theorem specBreakRange_b (A : Option Addr) (c : Nat) (ss : List Sec) (a e : Int) (w : World) (ha : ArgC w A c ss) (ha2 : a ≤ 9223372036854775807) :
    Calls Try.prog 45 #[.slice A ss.length c, .int .i64 a, .int .i64 e] w (RetB (rangeV ss a e) w) := by
  have HA := Lib.hid ha
  clear ha
  cases hc : cabB ss
  · have Hv := Lib.hid (rangeV_no (ss := ss) (a := a) (e := e) (by rw [hc]; rfl))
    have Hc := Lib.hid hc
    clear hc
    go_enter Try.func45, Try.ntmps45
    go_wp2_with fail
    refine (specCableValid_c A c ss _ HA.out).mono ?_
    rintro e9 w1 ⟨rfl, hb1⟩
    rw [Hc.out]
    have Hb1 := Lib.hid hb1
    clear hb1
    go_wp2
    go_ret3
    exact ⟨by rw [Hv.out]; rfl, Hb1.out⟩
  have Hc := Lib.hid hc
  by_cases h0 : a < 0
  · have Hv := Lib.hid (rangeV_no (ss := ss) (a := a) (e := e) (by simp [hc]; intro; omega))
    clear hc
    go_enter Try.func45, Try.ntmps45
    go_wp2_with fail
    refine (specCableValid_c A c ss _ HA.out).mono ?_
    rintro e9 w1 ⟨rfl, hb1⟩
    rw [Hc.out]
    have Hb1 := Lib.hid hb1
    clear hb1
    go_wp2
    go_ret3
    exact ⟨by rw [Hv.out]; rfl, Hb1.out⟩
  cases hi : inB e 0 1000
  · have Hv := Lib.hid (rangeV_no (ss := ss) (a := a) (e := e) (by rw [hi]; simp))
    have Hi := Lib.hid hi
    clear hc hi
    go_enter Try.func45, Try.ntmps45
    go_wp2_with fail
    refine (specCableValid_c A c ss _ HA.out).mono ?_
    rintro e9 w1 ⟨rfl, hb1⟩
    rw [Hc.out]
    have Hb1 := Lib.hid hb1
    clear hb1
    go_wp2_with fail
    refine (l6In_c _ _ _ _).mono ?_
    rintro e9 w2 ⟨rfl, rfl⟩
    rw [Hi.out]
    go_wp2
    go_ret3
    exact ⟨by rw [Hv.out]; rfl, Hb1.out⟩
  · have Ho := Lib.hid (rangeO_yes hc (show 0 ≤ a by omega) hi)
    have Hi := Lib.hid hi
    have hi2 := inB_true.1 hi
    have hm := mN_bd hc 0
    have hm1 := milesI_mN hc
    have Hm1 := Lib.hid hm1
    obtain ⟨M, hM⟩ : ∃ M, mN ss = M := ⟨_, rfl⟩
    rw [hM] at hm Ho Hm1
    have HM := Lib.hid hM
    obtain ⟨_, hm4, _⟩ := hm
    clear hc hi hm1 hM
    go_enter Try.func45, Try.ntmps45
    go_wp2_with fail
    refine (specCableValid_c A c ss _ HA.out).mono ?_
    rintro e9 w1 ⟨rfl, hb1⟩
    rw [Hc.out]
    have HA1 := Lib.hid (HA.out.go hb1)
    have Hb1 := Lib.hid hb1
    clear hb1
    go_wp2_with fail
    refine (l6In_c _ _ _ _).mono ?_
    rintro e9 w2 ⟨rfl, rfl⟩
    rw [Hi.out]
    go_wp2
    go_loopw [9, 10, 11] (fun lo hi mi wr => ∃ k : Nat, k ≤ M + 1 ∧ mi = .int .i64 k ∧ lo = .int .i64 (sgL (rgTo (rN ss) a e k)) ∧ hi = .int .i64 (sgH (rgTo (rN ss) a e k)) ∧ Below w.heap.size w wr ∧ ArgC wr A c ss) (fun _ _ mi _ => M + 1 - (intOf mi).toNat)
    case atStart => exact ⟨0, Nat.zero_le _, rfl, rfl, rfl, Hb1.out, HA1.out⟩
    case round =>
      obtain ⟨k, hk, rfl, rfl, rfl, hb, hA⟩ := hrel
      have Hb := Lib.hid hb
      have HAr := Lib.hid hA
      clear hb hA
      obtain ⟨o, hoo⟩ : ∃ o, rgTo (rN ss) a e k = o := ⟨_, rfl⟩
      rw [hoo]
      have Hoo := Lib.hid hoo
      clear hoo
      by_cases hlt : k ≤ M
      · have hr := rN_bd Hc.out k
        have hri := ohmsI_rN Hc.out (show k ≤ mN ss by rw [HM.out]; exact hlt)
        obtain ⟨r, hrr⟩ : ∃ r, rN ss k = r := ⟨_, rfl⟩
        have Hbd := Lib.hid (fun x (h : o = some x) => rgTo_bd (Hoo.out.trans h))
        rw [hrr] at hr hri
        have Hri := Lib.hid hri
        have Hrr := Lib.hid hrr
        have g1 : (k : Int) ≤ (M : Int) := by omega
        clear hri hrr
        go_wp2_with fail
        refine (specCableMiles_b A c ss _ HAr.out).mono ?_
        rintro e9 w3 ⟨rfl, hb3⟩
        rw [Hm1.out]
        have Hb3 := Lib.hid (below_step Hb.out hb3)
        have HA3 := Lib.hid (HAr.out.go hb3)
        clear hb3
        go_wp2_with fail
        refine (specCableOhms_b A c ss (k : Int) _ HA3.out).mono ?_
        rintro e9 w4 ⟨rfl, hb4⟩
        rw [Hri.out]
        have Hb4 := Lib.hid (below_step Hb3.out hb4)
        have HA4 := Lib.hid (HA3.out.go hb4)
        clear hb4
        go_wp2_with fail
        refine (l6In_c _ _ _ _).mono ?_
        rintro e9 w5 ⟨rfl, rfl⟩
        rw [inB_shift]
        cases hin : inB (a - r) 0 e
        · have Hn := Lib.hid (show rgTo (rN ss) a e (k + 1) = o by rw [rgTo_no (by rw [Hrr.out]; exact hin), Hoo.out])
          clear hin
          go_wp2
          go_roundw
          case rel => exact ⟨k + 1, by omega, by go_num, by rw [Hn.out], by rw [Hn.out], Hb4.out, HA4.out⟩
          case measure => simp [intOf]; omega
        · have Hn := Lib.hid (show rgTo (rN ss) a e (k + 1) = some (o.elim k (·.1), k) by rw [rgTo_yes (by rw [Hrr.out]; exact hin), Hoo.out])
          clear hin
          cases o with
          | none =>
            have g2 : sgL none = -1 := rfl
            rw [g2]
            go_wp2
            go_roundw
            case rel => exact ⟨k + 1, by omega, by go_num, by rw [Hn.out]; rfl, by rw [Hn.out]; rfl, Hb4.out, HA4.out⟩
            case measure => simp [intOf]; omega
          | some x =>
            have g2 : sgL (some x) = (x.1 : Int) := rfl
            rw [g2]
            have g3 : ¬ ((x.1 : Nat) : Int) < 0 := by omega
            go_wp2
            go_roundw
            case rel => exact ⟨k + 1, by omega, by go_num, by rw [Hn.out]; rfl, by rw [Hn.out]; rfl, Hb4.out, HA4.out⟩
            case measure => simp [intOf]; omega
      · obtain rfl : k = M + 1 := by omega
        have g1 : ¬ ((M + 1 : Nat) : Int) ≤ (M : Int) := by omega
        have Hv := Lib.hid (show rangeV ss a e = .tuple #[.int .i64 (rgL o), .int .i64 (rgH o), .bool o.isSome] by unfold rangeV; rw [Ho.out, Hoo.out])
        go_wp2_with fail
        refine (specCableMiles_b A c ss _ HAr.out).mono ?_
        rintro e9 w3 ⟨rfl, hb3⟩
        rw [Hm1.out]
        have Hb3 := Lib.hid (below_step Hb.out hb3)
        clear hb3
        cases o with
        | none =>
          have g2 : sgL none = -1 := rfl
          rw [g2]
          go_wp2
          go_ret3
          exact ⟨by rw [Hv.out]; rfl, Hb3.out⟩
        | some x =>
          have g2 : sgL (some x) = (x.1 : Int) := rfl
          have g4 : sgH (some x) = (x.2 : Int) := rfl
          rw [g2, g4]
          have g3 : ¬ ((x.1 : Nat) : Int) < 0 := by omega
          go_wp2
          go_ret3
          exact ⟨by rw [Hv.out]; rfl, Hb3.out⟩

end Go.Proofs.Ytgnemkflojohdaa
