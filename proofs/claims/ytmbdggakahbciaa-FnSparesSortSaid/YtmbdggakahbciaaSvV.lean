/-
  ServeValid of both.
-/
import Derived.Test.YtmbdggakahbciaaSvC
import Derived.Test.YtmbdggakahbciaaKeep
import Derived.Deep.RegionHeld3
import Derived.BigQuiet
namespace Go.Proofs.Ytmbdggakahbciaa
open Go.RowKit

theorem Rd.take {lo hi : Nat} {W : World} {A : Option Addr} {zs : List Int} (h : Rd lo hi W A zs) (k : Nat) : Rd lo hi W A (zs.take k) := fun hn => by
  have h1 : (zs.take k).length ≤ zs.length := by simp; omega
  obtain ⟨b, off, e, h2, h3, hc⟩ := h (by omega)
  refine ⟨b, off, e, h2, h3, fun j hj => ?_⟩
  rw [hc j (by omega), List.getElem?_take_of_lt (by simp at hj; omega)]
theorem Arg.take {w : World} {A : Option Addr} {c : Nat} {zs : List Int} (h : Arg w A c zs) (k : Nat) : Arg w A c (zs.take k) := by
  have h1 : (zs.take k).length ≤ zs.length := by simp; omega
  exact ⟨by have := h.1; omega, by have := h.2.1; omega, h.2.2.1, h.2.2.2.take k⟩
theorem take_len {zs : List Int} {k : Nat} (h : k ≤ zs.length) : (zs.take k).length = k := by simp; omega

set_option maxHeartbeats 2000000 in
theorem implServeValid_b (A0 : Option Addr) (c0 : Nat) (z0 : List Spr) (A1 : Option Addr) (c1 : Nat) (z1 : List Spr) (A2 : Option Addr) (c2 : Nat) (z2 : List Int) (w : World) (h0 : ArgZ w A0 c0 z0) (h1 : ArgZ w A1 c1 z1) (h2 : Arg w A2 c2 z2) :
    Calls Try.prog 20 #[.slice A0 z0.length c0, .slice A1 z1.length c1, .slice A2 z2.length c2] w (RetB (.bool (servB z0 z1 z2)) w) := by
  have hl0 := h0.len
  have hl1 := h1.len
  have hl2 := h2.len
  have hcap := h2.2.1
  have hcm := h2.2.2.1
  have H0 := Lib.hid h0
  have H1 := Lib.hid h1
  have H2 := Lib.hid h2
  clear h0 h1 h2
  go_enter Try.func20, Try.ntmps20
  go_wp2_with fail
  refine (sparesAndNeeds_c A0 c0 z0 A1 c1 z1 _ H0.out H1.out).mono ?_
  rintro e w1 ⟨rfl, hb1⟩
  have Hb1 := Lib.hid hb1
  replace H0 := Lib.hid (H0.out.go hb1)
  replace H1 := Lib.hid (H1.out.go hb1)
  replace H2 := Lib.hid (H2.out.go hb1)
  clear hb1
  cases hv : bothB z0 z1
  · have Hv := Lib.hid hv
    clear hv
    go_wp2
    go_ret
    exact ⟨by rw [servB_both Hv.out]; rfl, Hb1.out⟩
  have Hv := Lib.hid hv
  clear hv
  by_cases hlen : z2.length = z1.length
  · have g0 : (z2.length : Int) = (z1.length : Int) := by omega
    go_wp2
    go_loopw [22] (fun i wr => ∃ k : Nat, k ≤ z2.length ∧ i = .int .i64 k ∧ servTo z0 z1 z2 k ∧ Below w1.heap.size w1 wr) (fun i _ => z2.length - (intOf i).toNat)
    case atStart => exact ⟨0, Nat.zero_le _, rfl, servTo_zero _ _ _, Below.refl _ _⟩
    case round =>
      obtain ⟨k, hk, rfl, ho, hb⟩ := hrel
      have Ho := Lib.hid ho
      have Hb := Lib.hid hb
      clear ho hb
      by_cases hlt : k < z2.length
      · have a0 := H0.out.go Hb.out
        have a1 := H1.out.go Hb.out
        have a2 := H2.out.go Hb.out
        obtain ⟨b, off, rfl, _, hbw, hc0⟩ := a2.rd.at_ hlt
        have Hno := Lib.hid (servB_no (L := z0) (Nd := z1) hlt)
        have Hyes := Lib.hid (servTo_succ Ho.out)
        obtain ⟨y, hy⟩ : ∃ y, z2[k]?.getD 0 = y := ⟨_, rfl⟩
        rw [hy] at hc0 Hno Hyes
        have g1 : (k : Int) < (z2.length : Int) := by omega
        have Hnext := Lib.hid (fun (j : Nat) (W : World) (hb : Below wr.heap.size wr W) (hj : j < z0.length) => servesNext_c A0 c0 z0 A1 c1 z1 (some ⟨b, off, none⟩) c2 (z2.take k) j W (a0.go hb) (a1.go hb) ((a2.go hb).take k) hj (by rw [take_len hk]; omega))
        rw [take_len hk] at Hnext
        clear hy a0 a1 a2
        go_wp2_with fail
        refine (inRange_c _ _ _ _).mono ?_
        rintro e w' ⟨rfl, rfl⟩
        cases e1 : inB y 0 ((z0.length : Int) - 1)
        · have Hn := Lib.hid (Hno.out (fun h => by have := inB_false.1 e1; omega))
          clear e1
          go_wp2
          go_ret
          exact ⟨by rw [Hn.out]; rfl, below_step Hb1.out Hb.out⟩
        have hy := inB_true.1 e1
        obtain ⟨j, rfl⟩ := Int.eq_ofNat_of_zero_le hy.1
        have hj : j < z0.length := by omega
        have E1 := Lib.hid e1
        clear e1
        go_wp2_with fail
        refine (Hnext.out j _ (Below.refl _ _) hj).mono ?_
        rintro e w2 ⟨rfl, hb2⟩
        have Hb2 := Lib.hid hb2
        clear hb2
        cases e2 : sf z0 z1 (z2.take k) (j : Int)
        · have Hn := Lib.hid (Hno.out (fun h => by rw [e2] at h; cases h.2))
          clear e2
          go_wp2
          go_ret
          exact ⟨by rw [Hn.out]; rfl, below_step (below_step Hb1.out Hb.out) Hb2.out⟩
        have Hn := Lib.hid (Hyes.out ⟨hy.1, by omega⟩ e2)
        clear e2
        go_wp2
        go_roundw
        case rel => exact ⟨k + 1, by omega, by go_num, Hn.out, below_step Hb.out Hb2.out⟩
        case measure => simp [intOf]; omega
      · obtain rfl : k = z2.length := by omega
        go_wp2
        go_ret
        exact ⟨by rw [servB_yes Hv.out hlen Ho.out]; rfl, below_step Hb1.out Hb.out⟩
  · have g0 : ¬ (z2.length : Int) = (z1.length : Int) := by omega
    go_wp2
    go_ret
    exact ⟨by rw [servB_len hlen]; rfl, Hb1.out⟩

set_option maxHeartbeats 2000000 in
theorem specServeValid_b (A0 : Option Addr) (c0 : Nat) (z0 : List Spr) (A1 : Option Addr) (c1 : Nat) (z1 : List Spr) (A2 : Option Addr) (c2 : Nat) (z2 : List Int) (w : World) (h0 : ArgZ w A0 c0 z0) (h1 : ArgZ w A1 c1 z1) (h2 : Arg w A2 c2 z2) :
    Calls Try.prog 21 #[.slice A0 z0.length c0, .slice A1 z1.length c1, .slice A2 z2.length c2] w (RetB (.bool (servB z0 z1 z2)) w) := by
  have hl0 := h0.len
  have hl1 := h1.len
  have hl2 := h2.len
  have hcap := h2.2.1
  have hcm := h2.2.2.1
  have H0 := Lib.hid h0
  have H1 := Lib.hid h1
  have H2 := Lib.hid h2
  clear h0 h1 h2
  go_enter Try.func21, Try.ntmps21
  go_wp2_with fail
  refine (l4Both_c A0 c0 z0 A1 c1 z1 _ H0.out H1.out).mono ?_
  rintro e w1 ⟨rfl, hb1⟩
  have Hb1 := Lib.hid hb1
  replace H0 := Lib.hid (H0.out.go hb1)
  replace H1 := Lib.hid (H1.out.go hb1)
  replace H2 := Lib.hid (H2.out.go hb1)
  clear hb1
  cases hv : bothB z0 z1
  · have Hv := Lib.hid hv
    clear hv
    go_wp2
    go_ret
    exact ⟨by rw [servB_both Hv.out]; rfl, Hb1.out⟩
  have Hv := Lib.hid hv
  clear hv
  by_cases hlen : z2.length = z1.length
  · have g0 : (z2.length : Int) = (z1.length : Int) := by omega
    go_wp2
    go_loopw [7] (fun i wr => ∃ k : Nat, k ≤ z2.length ∧ i = .int .i64 k ∧ servTo z0 z1 z2 k ∧ Below w1.heap.size w1 wr) (fun i _ => z2.length - (intOf i).toNat)
    case atStart => exact ⟨0, Nat.zero_le _, rfl, servTo_zero _ _ _, Below.refl _ _⟩
    case round =>
      obtain ⟨k, hk, rfl, ho, hb⟩ := hrel
      have Ho := Lib.hid ho
      have Hb := Lib.hid hb
      clear ho hb
      by_cases hlt : k < z2.length
      · have a0 := H0.out.go Hb.out
        have a1 := H1.out.go Hb.out
        have a2 := H2.out.go Hb.out
        obtain ⟨b, off, rfl, _, hbw, hc0⟩ := a2.rd.at_ hlt
        obtain ⟨b1, off1, rfl, _, hbw1, hd0, hd1⟩ := a1.rd.at_ (show k < z1.length by omega)
        have Hno := Lib.hid (servB_no (L := z0) (Nd := z1) hlt)
        have Hyes := Lib.hid (servTo_succ Ho.out)
        have htk := take_len hk
        have Hsf := Lib.hid (fun (j : Nat) => (show sf z0 z1 (z2.take k) (j : Int) = (srvB (sprAt z0 j) (sprAt z1 k) && !(decide ((j : Int) ∈ z2.take k))) by unfold sf; rw [Int.toNat_natCast, htk]))
        have Hhas := Lib.hid (fun (x : Int) (W : World) (hb : Below wr.heap.size wr W) => l4Has_c (some ⟨b, off, none⟩) c2 (z2.take k) x W ((a2.go hb).take k))
        rw [htk] at Hhas
        obtain ⟨y, hy⟩ : ∃ y, z2[k]?.getD 0 = y := ⟨_, rfl⟩
        obtain ⟨d, hd⟩ : ∃ d, sprAt z1 k = d := ⟨_, rfl⟩
        rw [hy] at hc0 Hno Hyes
        rw [hd] at hd0 hd1 Hsf
        have g1 : (k : Int) < (z2.length : Int) := by omega
        have g2 : (k : Int) < (z1.length : Int) := by omega
        have g4 : (0 : Int) ≤ (k : Int) := by omega
        have g5 : (k : Int) ≤ (c2 : Int) := by omega
        have g6 : (k : Int) ≤ (z1.length : Int) := by omega
        have Hwr := Lib.hid (show IntKind.i64.wrap ((z0.length : Int) - 1) = (z0.length : Int) - 1 from IntWalk.i64_in _ (by omega))
        have Hdr := Lib.hid (below_drewN (Below.refl wr.heap.size wr) 1)
        clear hy hd htk a2 a1
        cases e1 : inB y 0 ((z0.length : Int) - 1)
        · have Hn := Lib.hid (Hno.out (fun h => by have := inB_false.1 e1; omega))
          have E1 := Lib.hid e1
          clear e1
          go_wp2
          go_quiet (first
            | (go_at_call 50; refine Calls.quiet_of_same (v := .bool false) ((l6In_c _ _ _ _).mono ?_); rintro e w' ⟨rfl, rfl⟩; exact ⟨by first | rw [E1.out] | rw [Hwr.out, E1.out], rfl⟩)
            | fail)
          all_goals
            go_wp2
            go_ret
            exact ⟨by rw [Hn.out]; rfl, below_step Hb1.out (below_drewN Hb.out nq)⟩
        have hy := inB_true.1 e1
        obtain ⟨j, rfl⟩ := Int.eq_ofNat_of_zero_le hy.1
        have hj : j < z0.length := by omega
        have g3 : (j : Int) < (z0.length : Int) := by omega
        obtain ⟨b0, off0, rfl, _, hbw0, he0, he1⟩ := a0.rd.at_ hj
        have hsfj := Hsf.out j
        obtain ⟨s, hs⟩ : ∃ s, sprAt z0 j = s := ⟨_, rfl⟩
        rw [hs] at he0 he1 hsfj
        have E1 := Lib.hid e1
        have pk1 := And.intro hc0 (And.intro hd0 (And.intro hd1 (And.intro he0 he1)))
        have Hpk := Lib.hid (fun (w2 : World) (h : Below wr.drew.heap.size wr.drew w2) => And.intro (below_cell (x := ⟨b, off + k, none⟩) h hbw hc0) (And.intro (below_cell (x := ⟨b1, off1 + k * 2, none⟩) h hbw1 hd0) (And.intro (below_cell (x := ⟨b1, off1 + k * 2 + 1, none⟩) h hbw1 hd1) (And.intro (below_cell (x := ⟨b0, off0 + j * 2, none⟩) h hbw0 he0) (below_cell (x := ⟨b0, off0 + j * 2 + 1, none⟩) h hbw0 he1)))))
        clear e1 hs a0
        by_cases hm : (j : Int) ∈ z2.take k
        · have Hm := Lib.hid (decide_eq_true hm)
          rw [decide_eq_true hm] at hsfj
          have Hn := Lib.hid (Hno.out (fun h => by rw [hsfj] at h; simp at h))
          clear hm hsfj
          go_wp2
          go_quiet (first
            | (go_at_call 50; refine Calls.quiet_of_same (v := .bool true) ((l6In_c _ _ _ _).mono ?_); rintro e w' ⟨rfl, rfl⟩; exact ⟨by first | rw [E1.out] | rw [Hwr.out, E1.out], rfl⟩)
            | (go_at_call 55; refine Calls.quiet_of_same (v := .bool true) ((Hhas.out _ _ (below_drewN (Below.refl _ _) _)).mono ?_); rintro e w' ⟨rfl, rfl⟩; exact ⟨by rw [Hm.out], rfl⟩)
            | fail)
          all_goals
            go_wp2
            go_ret
            exact ⟨by rw [Hn.out]; rfl, below_step Hb1.out (below_drewN Hb.out nq)⟩
        · have Hm := Lib.hid (decide_eq_false hm)
          rw [decide_eq_false hm, Bool.not_false, Bool.and_true] at hsfj
          clear hm
          cases e2 : srvB s d
          · have Hn := Lib.hid (Hno.out (fun h => by rw [hsfj, e2] at h; simp at h))
            have E2 := Lib.hid e2
            clear e2 hsfj
            go_wp2
            go_region_held3 (fun w9 => w9.cell? ⟨b, off + k, none⟩ = some (.int .i64 j) ∧ w9.cell? ⟨b1, off1 + k * 2, none⟩ = some (.int .i64 d.m) ∧ w9.cell? ⟨b1, off1 + k * 2 + 1, none⟩ = some (.int .i64 d.k) ∧ w9.cell? ⟨b0, off0 + j * 2, none⟩ = some (.int .i64 s.m) ∧ w9.cell? ⟨b0, off0 + j * 2 + 1, none⟩ = some (.int .i64 s.k)) (first | exact pk2 | exact pk1)
              (first
              | (go_at_call 50; refine (l6In_c _ _ _ _).mono ?_; rintro e w' ⟨rfl, rfl⟩; rw [Hwr.out, E1.out])
              | (go_at_call 55; refine (Hhas.out _ _ Hdr.out).mono ?_; rintro e w' ⟨rfl, rfl⟩; rw [Hm.out])
              | (go_at_call 56; refine (l4Serves_c s d _).mono ?_; rintro e w2 ⟨rfl, hb2⟩; rw [E2.out]; have pk2 := Hpk.out _ hb2; have Hb2 := Lib.hid hb2; clear hb2)
              | fail)
            all_goals
              go_wp2
              go_ret
              exact ⟨by rw [Hn.out]; rfl, below_step Hb1.out (below_step (below_drewN Hb.out 1) Hb2.out)⟩
          · have Hn := Lib.hid (Hyes.out ⟨hy.1, by omega⟩ (by rw [hsfj, e2]))
            have E2 := Lib.hid e2
            clear e2 hsfj
            go_wp2
            go_region_held3 (fun w9 => w9.cell? ⟨b, off + k, none⟩ = some (.int .i64 j) ∧ w9.cell? ⟨b1, off1 + k * 2, none⟩ = some (.int .i64 d.m) ∧ w9.cell? ⟨b1, off1 + k * 2 + 1, none⟩ = some (.int .i64 d.k) ∧ w9.cell? ⟨b0, off0 + j * 2, none⟩ = some (.int .i64 s.m) ∧ w9.cell? ⟨b0, off0 + j * 2 + 1, none⟩ = some (.int .i64 s.k)) (first | exact pk2 | exact pk1)
              (first
              | (go_at_call 50; refine (l6In_c _ _ _ _).mono ?_; rintro e w' ⟨rfl, rfl⟩; rw [Hwr.out, E1.out])
              | (go_at_call 55; refine (Hhas.out _ _ Hdr.out).mono ?_; rintro e w' ⟨rfl, rfl⟩; rw [Hm.out])
              | (go_at_call 56; refine (l4Serves_c s d _).mono ?_; rintro e w2 ⟨rfl, hb2⟩; rw [E2.out]; have pk2 := Hpk.out _ hb2; have Hb2 := Lib.hid hb2; clear hb2)
              | fail)
            all_goals
              go_wp2
              go_roundw
              case rel => exact ⟨k + 1, by omega, by go_num, Hn.out, below_step (below_drewN Hb.out 1) Hb2.out⟩
              case measure => simp [intOf]; omega
      · obtain rfl : k = z2.length := by omega
        go_wp2
        go_ret
        exact ⟨by rw [servB_yes Hv.out hlen Ho.out]; rfl, below_step Hb1.out Hb.out⟩
  · have g0 : ¬ (z2.length : Int) = (z1.length : Int) := by omega
    go_wp2
    go_ret
    exact ⟨by rw [servB_len hlen]; rfl, Hb1.out⟩

end Go.Proofs.Ytmbdggakahbciaa
