/-
  CableMiles, CableOhms and CableAll of both.
-/
import Derived.Test.YtodboccadccpfaaPartC
namespace Go.Proofs.Ytodboccadccpfaa
open Go.RowKit

def milesI (ss : List Sec) : Int := if cabB ss then milesL ss else -1
def ohmsI (ss : List Sec) (x : Int) : Int := if cabB ss && inB x 0 (milesL ss) then ohmsTo ss x else -1
def allI (ss : List Sec) : Int := if cabB ss then ohmsL ss else -1
theorem milesI_yes {ss : List Sec} (h : cabB ss = true) : milesI ss = milesL ss := by unfold milesI; rw [h]; rfl
theorem milesI_no {ss : List Sec} (h : cabB ss = false) : milesI ss = -1 := by unfold milesI; rw [h]; rfl
theorem allI_yes {ss : List Sec} (h : cabB ss = true) : allI ss = ohmsL ss := by unfold allI; rw [h]; rfl
theorem allI_no {ss : List Sec} (h : cabB ss = false) : allI ss = -1 := by unfold allI; rw [h]; rfl
theorem ohmsI_no {ss : List Sec} (h : cabB ss = false) (x : Int) : ohmsI ss x = -1 := by unfold ohmsI; rw [h]; rfl
theorem ohmsI_out {ss : List Sec} {x : Int} (h : inB x 0 (milesL ss) = false) : ohmsI ss x = -1 := by unfold ohmsI; rw [h]; simp
theorem ohmsI_in {ss : List Sec} {x : Int} (h : cabB ss = true) (h2 : inB x 0 (milesL ss) = true) : ohmsI ss x = ohmsTo ss x := by unfold ohmsI; rw [h, h2]; rfl
theorem inB_none (x : Int) : inB x 0 (-1) = false := by rw [inB_false]; omega

/-- what is known of a cable -/
theorem cab_small {ss : List Sec} (h : cabB ss = true) : small 50 ss := small_of_ok (cabB_true.1 h).2
theorem small_mono {A B : Int} {ss : List Sec} (h : small A ss) (hAB : A ≤ B) : small B ss := fun s hs => by have := h s hs; omega
theorem cab_len {ss : List Sec} (h : cabB ss = true) : 1 ≤ ss.length ∧ ss.length ≤ 8 := (cabB_true.1 h).1
theorem cab_miles {ss : List Sec} (h : cabB ss = true) : 1 ≤ milesL ss ∧ milesL ss ≤ 400 := by
  have h1 := cab_len h
  have h2 := milesL_bd (cab_small h)
  refine ⟨?_, by omega⟩
  obtain ⟨s, r, rfl⟩ : ∃ s r, ss = s :: r := by
    cases ss with
    | nil => simp at h1
    | cons s r => exact ⟨s, r, rfl⟩
  have h3 := secOk_true.1 ((cabB_true.1 h).2 s (by simp))
  have h4 := milesL_bd (cab_small h).tail
  rw [milesL_cons]
  omega
theorem cab_ohms {ss : List Sec} (h : cabB ss = true) : 0 ≤ ohmsL ss ∧ ohmsL ss ≤ 8000 := by
  have h1 := cab_len h
  have h2 := ohmsL_bd (cab_small h)
  omega
theorem secAt_mem {ss : List Sec} {k : Nat} (h : k < ss.length) : secAt ss k ∈ ss := by rw [secAt_lt h]; exact List.getElem_mem h
theorem take_succ_at {ss : List Sec} {k : Nat} (h : k < ss.length) : ss.take (k + 1) = ss.take k ++ [secAt ss k] := by rw [secAt_lt h, take_snoc ss h]
theorem small_take {B : Int} {ss : List Sec} (h : small B ss) (k : Nat) : small B (ss.take k) := fun s hs => h s (List.mem_of_mem_take hs)

set_option maxRecDepth 100000 in
theorem implCableMiles_b (A : Option Addr) (c : Nat) (ss : List Sec) (w : World) (ha : ArgC w A c ss) :
    Calls Try.prog 24 #[.slice A ss.length c] w (RetB (.int .i64 (milesI ss)) w) := by
  have HA := Lib.hid ha
  clear ha
  cases hv : cabB ss
  · have Hv := Lib.hid hv
    clear hv
    go_enter Try.func24, Try.ntmps24
    go_wp2_with fail
    refine (chainOf_no A c ss _ HA.out Hv.out).mono ?_
    rintro e w1 ⟨rfl, hb⟩
    have Hb := Lib.hid hb
    clear hb
    go_wp2
    go_ret
    exact ⟨by rw [milesI_no Hv.out]; rfl, Hb.out⟩
  · have Hv := Lib.hid hv
    clear hv
    go_enter Try.func24, Try.ntmps24
    go_wp2_with fail
    refine (chainOf_yes A c ss _ HA.out Hv.out).mono ?_
    rintro e w1 ⟨C, ns, rfl, hn, hC, hb⟩
    dsimp only
    have Hb := Lib.hid hb
    have HC := Lib.hid hC
    have Hn := Lib.hid hn
    clear hb hC hn
    go_wp2_with fail
    refine (miles_c _ C ns ss _ HC.out Hn.out (small_mono (cab_small Hv.out) (by omega)) (by have := cab_len Hv.out; omega)).mono ?_
    rintro e w2 ⟨rfl, rfl⟩
    go_wp2
    go_ret
    exact ⟨by rw [milesI_yes Hv.out]; rfl, Hb.out⟩

set_option maxRecDepth 100000 in
set_option maxHeartbeats 1000000 in
theorem specCableMiles_b (A : Option Addr) (c : Nat) (ss : List Sec) (w : World) (ha : ArgC w A c ss) :
    Calls Try.prog 65 #[.slice A ss.length c] w (RetB (.int .i64 (milesI ss)) w) := by
  have HA := Lib.hid ha
  clear ha
  cases hv : cabB ss
  · have Hv := Lib.hid hv
    clear hv
    go_enter Try.func65, Try.ntmps65
    go_wp2_with fail
    refine (specCableValid_c A c ss _ HA.out).mono ?_
    rintro e w1 ⟨rfl, hb⟩
    rw [Hv.out]
    have Hb := Lib.hid hb
    clear hb
    go_wp2
    go_ret
    exact ⟨by rw [milesI_no Hv.out]; rfl, Hb.out⟩
  · have Hv := Lib.hid hv
    have hl := (cab_len hv).2
    clear hv
    go_enter Try.func65, Try.ntmps65
    go_wp2_with fail
    refine (specCableValid_c A c ss _ HA.out).mono ?_
    rintro e w1 ⟨rfl, hb⟩
    rw [Hv.out]
    have Hb := Lib.hid hb
    have HA1 := Lib.hid (HA.out.go hb)
    clear hb
    go_wp2
    go_loop [3, 4] (fun q i => ∃ k : Nat, k ≤ ss.length ∧ i = .int .i64 k ∧ q = .int .i64 (milesL (ss.take k))) (fun _ i => ss.length - (intOf i).toNat)
    case atStart => exact ⟨0, Nat.zero_le _, rfl, rfl⟩
    case round =>
      obtain ⟨k, hk, rfl, rfl⟩ := hrel
      by_cases hlt : k < ss.length
      · obtain ⟨b, off, rfl, _, _, hc0, hc1, hc2⟩ := HA1.out.rd.at_ hlt
        have b1 := milesL_bd (small_take (cab_small Hv.out) k)
        have b2 := cab_small Hv.out _ (secAt_mem hlt)
        have b3 : (ss.take k).length ≤ 8 := by simp; omega
        have Ht := Lib.hid (take_succ_at hlt)
        obtain ⟨s, hs⟩ : ∃ s, secAt ss k = s := ⟨_, rfl⟩
        rw [hs] at hc0 hc1 hc2 b2 Ht
        obtain ⟨b4, b5⟩ := b1
        obtain ⟨b6, b7, _⟩ := b2
        have b8 : milesL (ss.take k) ≤ 400 := by omega
        have g1 : (k : Int) < (ss.length : Int) := by omega
        clear hs b5 b3
        go_wp2
        go_round
        case rel => exact ⟨k + 1, by omega, by go_num, by rw [Ht.out, milesL_snoc]⟩
        case measure => simp [intOf]; omega
      · obtain rfl : k = ss.length := by omega
        go_wp2
        go_ret
        exact ⟨by rw [milesI_yes Hv.out]; rfl, Hb.out⟩

set_option maxRecDepth 100000 in
set_option maxHeartbeats 1000000 in
theorem implCableOhms_b (A : Option Addr) (c : Nat) (ss : List Sec) (x : Int) (w : World) (ha : ArgC w A c ss) :
    Calls Try.prog 108 #[.slice A ss.length c, .int .i64 x] w (RetB (.int .i64 (ohmsI ss x)) w) := by
  have HA := Lib.hid ha
  clear ha
  cases hv : cabB ss
  · have Hv := Lib.hid hv
    clear hv
    go_enter Try.func108, Try.ntmps108
    go_wp2_with fail
    refine (chainOf_no A c ss _ HA.out Hv.out).mono ?_
    rintro e w1 ⟨rfl, hb⟩
    have Hb := Lib.hid hb
    clear hb
    go_wp2
    go_ret
    exact ⟨by rw [ohmsI_no Hv.out]; rfl, Hb.out⟩
  · have Hv := Lib.hid hv
    have hl := (cab_len hv).2
    have hm := (cab_miles hv).2
    clear hv
    go_enter Try.func108, Try.ntmps108
    go_wp2_with fail
    refine (chainOf_yes A c ss _ HA.out Hv.out).mono ?_
    rintro e w1 ⟨C, ns, rfl, hn, hC, hb⟩
    dsimp only
    have Hb := Lib.hid hb
    have HC := Lib.hid hC
    have Hn := Lib.hid hn
    clear hb hC hn
    go_wp2_with fail
    refine (miles_c _ C ns ss _ HC.out Hn.out (small_mono (cab_small Hv.out) (by omega)) (by omega)).mono ?_
    rintro e w2 ⟨rfl, rfl⟩
    go_wp2_with fail
    refine (inRange_c _ _ _ _).mono ?_
    rintro e w2 ⟨rfl, rfl⟩
    cases hx : inB x 0 (milesL ss)
    · have Hx := Lib.hid hx
      clear hx
      go_wp2
      go_ret
      exact ⟨by rw [ohmsI_out Hx.out]; rfl, Hb.out⟩
    · have Hx := Lib.hid hx
      have hx0 := (inB_true.1 hx).1
      have hx1 := (inB_true.1 hx).2
      clear hx
      go_wp2_with fail
      refine (part_c _ C ns ss 0 x _ HC.out Hn.out (small_mono (cab_small Hv.out) (by omega)) (by omega) (by omega) (by omega) (by omega) (by omega)).mono ?_
      rintro e w3 ⟨D, ms, rfl, hms, hD, hb3⟩
      dsimp only [id]
      have Hb3 := Lib.hid (below_step Hb.out hb3)
      have HD := Lib.hid hD
      have Hms := Lib.hid hms
      clear hb3 hD hms
      go_wp2_with fail
      refine (ohms_c _ D ms _ _ HD.out Hms.out (small_mono (partL_small (cab_small Hv.out) _ _) (by omega)) (by have := partL_length ss 0 x; omega)).mono ?_
      rintro e w4 ⟨rfl, hb4⟩
      have Hb4 := Lib.hid (below_step Hb3.out hb4)
      clear hb4
      go_wp2
      go_ret
      exact ⟨by rw [ohmsI_in Hv.out Hx.out, ← ohmsTo_eq (cab_small Hv.out) hx0]; rfl, Hb4.out⟩

set_option maxRecDepth 100000 in
theorem implCableAll_b (A : Option Addr) (c : Nat) (ss : List Sec) (w : World) (ha : ArgC w A c ss) :
    Calls Try.prog 104 #[.slice A ss.length c] w (RetB (.int .i64 (allI ss)) w) := by
  have HA := Lib.hid ha
  clear ha
  cases hv : cabB ss
  · have Hv := Lib.hid hv
    clear hv
    go_enter Try.func104, Try.ntmps104
    go_wp2_with fail
    refine (chainOf_no A c ss _ HA.out Hv.out).mono ?_
    rintro e w1 ⟨rfl, hb⟩
    have Hb := Lib.hid hb
    clear hb
    go_wp2
    go_ret
    exact ⟨by rw [allI_no Hv.out]; rfl, Hb.out⟩
  · have Hv := Lib.hid hv
    clear hv
    go_enter Try.func104, Try.ntmps104
    go_wp2_with fail
    refine (chainOf_yes A c ss _ HA.out Hv.out).mono ?_
    rintro e w1 ⟨C, ns, rfl, hn, hC, hb⟩
    dsimp only
    have Hb := Lib.hid hb
    have HC := Lib.hid hC
    have Hn := Lib.hid hn
    clear hb hC hn
    go_wp2_with fail
    refine (ohms_c _ C ns ss _ HC.out Hn.out (small_mono (cab_small Hv.out) (by omega)) (by have := cab_len Hv.out; omega)).mono ?_
    rintro e w2 ⟨rfl, hb2⟩
    have Hb2 := Lib.hid (below_step Hb.out hb2)
    clear hb2
    go_wp2
    go_ret
    exact ⟨by rw [allI_yes Hv.out]; rfl, Hb2.out⟩

set_option maxRecDepth 100000 in
set_option maxHeartbeats 1000000 in
theorem specCableOhms_b (A : Option Addr) (c : Nat) (ss : List Sec) (x : Int) (w : World) (ha : ArgC w A c ss) :
    Calls Try.prog 66 #[.slice A ss.length c, .int .i64 x] w (RetB (.int .i64 (ohmsI ss x)) w) := by
  have HA := Lib.hid ha
  clear ha
  cases hi : inB x 0 (milesI ss)
  · have hno : ohmsI ss x = -1 := by
      cases hv : cabB ss
      · exact ohmsI_no hv x
      · rw [milesI_yes hv] at hi
        exact ohmsI_out hi
    have Hno := Lib.hid hno
    have Hi := Lib.hid hi
    clear hi hno
    go_enter Try.func66, Try.ntmps66
    go_wp2_with fail
    refine (specCableMiles_b A c ss _ HA.out).mono ?_
    rintro e w1 ⟨rfl, hb⟩
    have Hb := Lib.hid hb
    clear hb
    go_wp2_with fail
    refine (l6In_c _ _ _ _).mono ?_
    rintro e w2 ⟨rfl, rfl⟩
    rw [Hi.out]
    go_wp2
    go_ret
    exact ⟨by rw [Hno.out]; rfl, Hb.out⟩
  · have hv : cabB ss = true := by
      cases hv : cabB ss
      · rw [milesI_no hv, inB_none] at hi; cases hi
      · rfl
    have Hv := Lib.hid hv
    have hl := (cab_len hv).2
    have hm := (cab_miles hv).2
    have hx := hi
    rw [milesI_yes hv] at hx
    have Hx := Lib.hid hx
    have hx0 := (inB_true.1 hx).1
    have hx1 := (inB_true.1 hx).2
    have Hi := Lib.hid hi
    clear hi hx hv
    go_enter Try.func66, Try.ntmps66
    go_wp2_with fail
    refine (specCableMiles_b A c ss _ HA.out).mono ?_
    rintro e w1 ⟨rfl, hb⟩
    have Hb := Lib.hid hb
    have HA1 := Lib.hid (HA.out.go hb)
    clear hb
    go_wp2_with fail
    refine (l6In_c _ _ _ _).mono ?_
    rintro e w2 ⟨rfl, rfl⟩
    rw [Hi.out]
    go_wp2
    go_loopw [1, 5, 6] (fun m q i wr => ∃ (k n : Nat), k ≤ ss.length ∧ i = .int .i64 k ∧ q = .int .i64 (ohmsTo (ss.take k) x) ∧ m = .int .i64 (restTo (ss.take k) x) ∧ wr = w1.drewN n) (fun _ _ i _ => ss.length - (intOf i).toNat)
    case atStart => exact ⟨0, 0, Nat.zero_le _, rfl, rfl, by rw [List.take_zero, restTo_nil hx0], rfl⟩
    case round =>
      obtain ⟨k, n, hk, rfl, rfl, rfl, rfl⟩ := hrel
      by_cases hlt : k < ss.length
      · obtain ⟨b, off, rfl, _, _, hc0, hc1, hc2⟩ := (HA1.out.go (below_drewN (Below.refl _ _) n)).rd.at_ hlt
        have hsk : small 50 (ss.take (k + 1)) := small_take (cab_small Hv.out) _
        rw [take_succ_at hlt] at hsk
        have b2 := hsk.right.head
        have b1 := ohmsTo_bd hsk.left x hx0
        have b3 : (ss.take k).length ≤ 8 := by simp; omega
        have b4 : 0 ≤ restTo (ss.take k) x ∧ restTo (ss.take k) x ≤ 400 := by
          have := milesL_bd hsk.left
          unfold restTo
          omega
        have Hso := Lib.hid (ohmsTo_snoc hsk hx0)
        have Hsr := Lib.hid (restTo_snoc hsk x)
        have Ht := Lib.hid (take_succ_at hlt)
        obtain ⟨s, hs⟩ : ∃ s, secAt ss k = s := ⟨_, rfl⟩
        rw [hs] at hc0 hc1 hc2 b2 Ht Hso Hsr
        obtain ⟨q, hq⟩ : ∃ q, ohmsTo (ss.take k) x = q := ⟨_, rfl⟩
        obtain ⟨r, hr⟩ : ∃ r, restTo (ss.take k) x = r := ⟨_, rfl⟩
        rw [hq] at b1 Hso ⊢
        rw [hr] at b4 Hso Hsr ⊢
        obtain ⟨b5, b6⟩ := b1
        obtain ⟨b7, b8⟩ := b4
        obtain ⟨p0, p1, p2, p3⟩ := b2
        have b9 : q ≤ 8000 := by omega
        have g1 : (k : Int) < (ss.length : Int) := by omega
        clear hs hq hr hsk b6 b3
        by_cases hc : s.m < r
        · have e1 : min r s.m = s.m := by omega
          rw [e1] at Hso Hsr
          have pr := prod_bd p0 p1 p2 p3
          have q1 : IntKind.i64.wrap (s.m * s.o) = s.m * s.o := IntWalk.i64_in _ (by omega)
          have q2 : IntKind.i64.wrap (q + s.m * s.o) = q + s.m * s.o := IntWalk.i64_in _ (by omega)
          clear e1
          go_wp2
          go_roundw
          case rel => exact ⟨k + 1, _, by omega, by go_num, by rw [Ht.out, Hso.out], by rw [Ht.out, Hsr.out], by first | exact World.drewN_drewN _ _ _ | rfl⟩
          case measure => simp [intOf]; omega
        · have e1 : min r s.m = r := by omega
          rw [e1] at Hso Hsr
          have pr := prod_bd b7 (show r ≤ 50 by omega) p2 p3
          have q1 : IntKind.i64.wrap (r * s.o) = r * s.o := IntWalk.i64_in _ (by omega)
          have q2 : IntKind.i64.wrap (q + r * s.o) = q + r * s.o := IntWalk.i64_in _ (by omega)
          clear e1
          go_wp2
          go_roundw
          case rel => exact ⟨k + 1, _, by omega, by go_num, by rw [Ht.out, Hso.out], by rw [Ht.out, Hsr.out]; go_num, by first | exact World.drewN_drewN _ _ _ | rfl⟩
          case measure => simp [intOf]; omega
      · obtain rfl : k = ss.length := by omega
        go_wp2
        go_ret
        exact ⟨by rw [ohmsI_in Hv.out Hx.out, List.take_length]; rfl, Hb.out.mono (Nat.le_refl _) |> fun h => below_drewN h n⟩

end Go.Proofs.Ytodboccadccpfaa
