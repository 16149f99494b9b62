/-
  The model's l5Longest and OrdersLongest.
-/
import Derived.Test.YtciahmccafcllaaLonI
import Derived.Test.YtciahmccafcllaaStwS
namespace Go.Proofs.Ytciahmccafcllaa
open Go.RowKit

/-- the rows of the last d coils -/
def rowsD (L : List Int) (d : Nat) : List Int := (List.range L.length).map fun i => if L.length - d ≤ i then (rowL L i : Int) else 0
theorem rowsD_len (L : List Int) (d : Nat) : (rowsD L d).length = L.length := by simp [rowsD]
theorem rowsD_zero (L : List Int) : rowsD L 0 = List.replicate L.length 0 := by
  unfold rowsD
  apply List.ext_getElem (by simp)
  intro k h1 h2
  have : k < L.length := by simpa using h1
  simp
  omega
theorem rowsD_all (L : List Int) : rowsD L L.length = rowsL L := by
  unfold rowsD rowsL
  exact List.map_congr_left fun i _ => by rw [if_pos (by omega)]
theorem rowsD_at (L : List Int) (d : Nat) {j : Nat} (hj : j < L.length) : (rowsD L d)[j]?.getD 0 = if L.length - d ≤ j then (rowL L j : Int) else 0 := by
  unfold rowsD
  rw [List.getElem?_map, List.getElem?_range hj]
  rfl
theorem rowsD_succ (L : List Int) {d i : Nat} (hi : i + 1 + d = L.length) : rowsD L (d + 1) = (rowsD L d).set i (1 + (mxR L (rowL L) i L.length : Int)) := by
  apply List.ext_getElem (by simp [rowsD])
  intro k h1 h2
  have hk : k < L.length := by simpa [rowsD] using h1
  rw [List.getElem_set]
  simp only [rowsD, List.getElem_map, List.getElem_range]
  by_cases e : i = k
  · subst e
    rw [if_pos rfl, if_pos (by omega), rowL_eq hk]
    omega
  · rw [if_neg e]
    by_cases h3 : L.length - d ≤ k
    · rw [if_pos h3, if_pos (by omega)]
    · rw [if_neg h3, if_neg (by omega)]
theorem mxR_bd {L : List Int} (h : ordB L = true) (i : Nat) : ∀ k, k ≤ L.length → mxR L (rowL L) i k ≤ 10
  | 0, _ => Nat.zero_le _
  | k + 1, hk => by
    have h1 := mxR_bd h i k (by omega)
    have h2 := row_le h (i := k) (by omega)
    have h3 := cnt_le L
    have h4 := ord_len h
    rw [mxR]
    split <;> omega

set_option maxHeartbeats 4000000 in
theorem l5Longest_b (A0 : Option Addr) (c0 : Nat) (z0 : List Int) (w : World) (h0 : Arg w A0 c0 z0) (hv : ordB z0 = true) :
    Calls Try.prog 61 #[.slice A0 z0.length c0] w (RetS 3 id (rowsL z0) w) := by
  have h10 := ord_len hv
  have H0 := Lib.hid h0
  have Hv := Lib.hid hv
  obtain ⟨i0, hi, hz0, hz1, hz2⟩ := info_parts int_info
  have HMI := Lib.hid (made_ints z0.length)
  have q0 : IntKind.i64.wrap ((z0.length : Int) - 1) = (z0.length : Int) - 1 := IntWalk.i64_in _ (by omega)
  clear h0 hv
  go_enter Try.func61, Try.ntmps61
  go_wp2_with (at_make; refine wpList_make_full _ rfl (.tmp 7) (.tmp 7) 23 rfl w.heap.size 3 i0 (.int .i64 0) 1 Try.underlying23 hi hz0 hz1 .i64 .i64 _ _ z0.length rfl rfl rfl rfl (by rw [hz2]; omega) (by unfold maxLen; omega) (Nat.le_refl _) ?_; intro w2 hown hg2)
  rw [HMI.out, ← rowsD_zero z0] at hown
  have HB2 := Lib.hid ((Below.refl w.heap.size w).grown hg2 (Nat.le_refl _) (by simp))
  have HO := Lib.hid hown
  obtain ⟨B, hB⟩ : ∃ B, w.heap.size = B := ⟨_, rfl⟩
  have hBw : B ≤ w.heap.size := by omega
  have hwB : w.heap.size ≤ B := by omega
  rw [hB] at HO ⊢
  have HBe := Lib.hid hB
  clear hown hg2 hB q0
  go_loopw [4] (fun i wr => ∃ d : Nat, d ≤ z0.length ∧ i = .int .i64 ((z0.length : Int) - 1 - d) ∧ wr.ownsRow B 3 1 (.slice (some ⟨B, 0, none⟩) z0.length z0.length) z0.length ((rowsD z0 d).map (Value.int .i64)) ∧ Below w.heap.size w wr) (fun i _ => (intOf i + 1).toNat)
  case atStart => exact ⟨0, Nat.zero_le _, by simp, HO.out, HB2.out⟩
  case round =>
    obtain ⟨d, hd, rfl, hok, hb⟩ := hrel
    obtain ⟨W0, hW0⟩ : ∃ W0, W0 = wr := ⟨_, rfl⟩
    subst hW0
    by_cases hlt : d < z0.length
    · obtain ⟨i, hii⟩ : ∃ i : Nat, (z0.length : Int) - 1 - d = i := ⟨z0.length - 1 - d, by omega⟩
      have hil : i < z0.length := by omega
      obtain ⟨b, off, rfl, _, hbw, hc0⟩ := H0.out.rd.at_ hil
      have Hsucc := Lib.hid (rowsD_succ z0 (d := d) (i := i) (by omega))
      have hlen := rowsD_len z0 d
      have hst := hok.stored i (.int .i64 1)
      have hci := hok.cellAt i (by omega)
      have hfi := hok.frozenAt i
      rw [List.getElem?_map, List.getElem?_eq_getElem (by rw [hlen]; exact hil)] at hci
      simp only [Option.map_some] at hci
      replace hci : ∃ v0 : Int, W0.cell? ⟨B, i, none⟩ = some (.int .i64 v0) := ⟨_, hci⟩
      obtain ⟨v0, hci⟩ := hci
      rw [← List.map_set] at hst
      have Hst := Lib.hid hst.1
      have Hb := Lib.hid (hb.setCell (p := ⟨B, i, none⟩) hwB (.int .i64 1))
      have Hlen := Lib.hid hlen
      have Hdat := Lib.hid (fun j => rowsD_at z0 d (j := j))
      obtain ⟨C, hC⟩ : ∃ C, rowsD z0 d = C := ⟨_, rfl⟩
      rw [hC] at Hst Hsucc Hlen Hdat
      have q1 : IntKind.i64.wrap ((i : Int) + 1) = (i : Int) + 1 := IntWalk.i64_in _ (by omega)
      have q2 : IntKind.i64.wrap ((i : Int) - 1) = (i : Int) - 1 := IntWalk.i64_in _ (by omega)
      have g1 : (i : Int) < (z0.length : Int) := by omega
      have g2 : (0 : Int) ≤ (i : Int) := by omega
      rw [hii]
      have Hii := Lib.hid hii
      clear hst hok hb hlen hC hii
      go_wp2
      go_loopw [5] (fun k9 wr => ∃ k : Nat, i + 1 ≤ k ∧ k ≤ z0.length ∧ k9 = .int .i64 k ∧ wr.ownsRow B 3 1 (.slice (some ⟨B, 0, none⟩) z0.length z0.length) z0.length ((C.set i (1 + (mxR z0 (rowL z0) i k : Int))).map (Value.int .i64)) ∧ Below w.heap.size w wr) (fun k9 _ => z0.length - (intOf k9).toNat)
      case atStart => exact ⟨i + 1, Nat.le_refl _, by omega, by go_num, by rw [mxR_low _ _ _ _ (Nat.le_refl _)]; exact Hst.out, Hb.out⟩
      case round =>
        obtain ⟨k, hk1, hk, rfl, hok, hb⟩ := hrel
        have hub := mxR_bd Hv.out i k hk
        by_cases hkl : k < z0.length
        · obtain ⟨b', off', e, _, hbw2, hd0⟩ := H0.out.rd.at_ hkl
          injection e with e
          injection e with e1 e2
          subst e1
          subst e2
          have hc1 := (hb.cell (p := ⟨b, off + i, none⟩) hbw).trans hc0
          have hd1 := (hb.cell (p := ⟨b, off + k, none⟩) hbw2).trans hd0
          have hs9 : mxR z0 (rowL z0) i (k + 1) = if i < k ∧ z0[i]?.getD 0 < z0[k]?.getD 0 then max (mxR z0 (rowL z0) i k) (rowL z0 k) else mxR z0 (rowL z0) i k := rfl
          have hrk := row_le Hv.out hkl
          have hcnt := cnt_le z0
          have hdk := Hdat.out k hkl
          have hDl : ¬ (z0.length - d ≤ i) := by have := Hii.out; omega
          rw [if_pos (by have := Hii.out; omega)] at hdk
          have hlk : k < C.length := by rw [Hlen.out]; exact hkl
          have hlx : i < C.length := by rw [Hlen.out]; exact hil
          have hck := hok.cellAt k (by omega)
          have hcx := hok.cellAt i (by omega)
          have hfx := hok.frozenAt i
          rw [List.getElem?_map, List.getElem?_set_ne (by omega), List.getElem?_eq_getElem hlk] at hck
          rw [List.getElem?_map, List.getElem?_set_self hlx] at hcx
          simp only [Option.map_some] at hck hcx
          rw [← getD_at hlk, hdk] at hck
          obtain ⟨x, hx⟩ : ∃ x, z0[i]?.getD 0 = x := ⟨_, rfl⟩
          obtain ⟨y, hy⟩ : ∃ y, z0[k]?.getD 0 = y := ⟨_, rfl⟩
          obtain ⟨u, hu⟩ : ∃ u, mxR z0 (rowL z0) i k = u := ⟨_, rfl⟩
          obtain ⟨r, hr⟩ : ∃ r, rowL z0 k = r := ⟨_, rfl⟩
          rw [hx] at hc1 hs9
          rw [hy] at hd1 hs9
          rw [hu] at hs9 hcx hok hub
          rw [hr] at hs9 hck hrk
          have Hok := Lib.hid hok
          have Hb2 := Lib.hid hb
          have Hs9 := Lib.hid hs9
          have g3 : (k : Int) < (z0.length : Int) := by omega
          have g4 : (0 : Int) ≤ (k : Int) := by omega
          have q3 : IntKind.i64.wrap ((1 : Int) + (r : Int)) = (1 : Int) + (r : Int) := IntWalk.i64_in _ (by omega)
          clear hok hb hx hy hu hr hs9 hc0 hd0 hdk hci hfi
          by_cases hxy : x < y
          · have hd2 : decide (x < y) = true := decide_eq_true hxy
            have hm : mxR z0 (rowL z0) i (k + 1) = max u r := by rw [Hs9.out, if_pos ⟨by omega, hxy⟩]
            have Hm := Lib.hid hm
            have Hw8 := Lib.hid (fun (n : Nat) => And.intro (own_below Hok.out (below_drewN (Below.refl _ wr) n)) (below_drewN Hb2.out n))
            clear hm hxy
            go_wp2
            go_quiet (fail)
            obtain ⟨hok8, hb8⟩ := Hw8.out nq
            have hck8 : (wr.drewN nq).cell? ⟨B, k, none⟩ = some (.int .i64 r) := hck
            have hcx8 : (wr.drewN nq).cell? ⟨B, i, none⟩ = some (.int .i64 (1 + (u : Int))) := hcx
            have hfx8 : (wr.drewN nq).frozen? ⟨B, i, none⟩ = false := hfx
            obtain ⟨W8, hW8⟩ : ∃ W8, wr.drewN nq = W8 := ⟨_, rfl⟩
            rw [hW8] at hok8 hb8 hck8 hcx8 hfx8 ⊢
            clear hW8
            by_cases hur : u < r
            · have gm : ((1 : Int) + (u : Int) < (1 : Int) + (r : Int)) = True := eq_true (by omega)
              have hst := hok8.stored i (.int .i64 ((1 : Int) + (r : Int)))
              rw [← List.map_set, List.set_set] at hst
              have Hst8 := Lib.hid hst.1
              have Hb8 := Lib.hid hb8
              clear hst hok8 hb8
              go_wp2
              go_region
              all_goals
                go_wp2
                go_roundw
                case rel => exact ⟨k + 1, by omega, by omega, by go_num, by rw [Hm.out, show max u r = r by omega]; exact Hst8.out, below_drewN (Hb8.out.setCell (p := ⟨B, i, none⟩) hwB _) 1⟩
                case measure => simp [intOf]; omega
            · have gm : ((1 : Int) + (u : Int) < (1 : Int) + (r : Int)) = False := eq_false (by omega)
              have hst := hok8.stored i (.int .i64 ((1 : Int) + (u : Int)))
              rw [← List.map_set, List.set_set] at hst
              have Hst8 := Lib.hid hst.1
              have Hb8 := Lib.hid hb8
              clear hst hok8 hb8
              go_wp2
              go_region
              all_goals
                go_wp2
                go_roundw
                case rel => exact ⟨k + 1, by omega, by omega, by go_num, by rw [Hm.out, show max u r = u by omega]; exact Hst8.out, below_drewN (Hb8.out.setCell (p := ⟨B, i, none⟩) hwB _) 1⟩
                case measure => simp [intOf]; omega
          · have hd2 : decide (x < y) = false := decide_eq_false hxy
            have Hm := Lib.hid (show mxR z0 (rowL z0) i (k + 1) = u by rw [Hs9.out, if_neg (fun h => hxy h.2)])
            have Hw8 := Lib.hid (fun (n : Nat) => And.intro (own_below Hok.out (below_drewN (Below.refl _ wr) n)) (below_drewN Hb2.out n))
            clear hxy
            go_wp2
            go_quiet (fail)
            all_goals
              go_wp2
              go_roundw
              case rel => exact ⟨k + 1, by omega, by omega, by go_num, by rw [Hm.out]; exact (Hw8.out nq).1, (Hw8.out nq).2⟩
              case measure => simp [intOf]; omega
        · obtain rfl : k = z0.length := by omega
          rw [← Hsucc.out] at hok
          have Hok := Lib.hid hok
          have Hb2 := Lib.hid hb
          clear hok hb
          go_wp2
          go_roundw
          case rel => exact ⟨d + 1, by omega, by have := Hii.out; congr 1; omega, Hok.out, Hb2.out⟩
          case measure => simp [intOf]
    · obtain rfl : d = z0.length := by omega
      rw [rowsD_all] at hok
      have Hok := Lib.hid hok
      have Hb := Lib.hid hb
      have g0 : ¬ ((0 : Int) ≤ (z0.length : Int) - 1 - (z0.length : Int)) := by omega
      clear hok hb
      go_wp2
      go_ret
      exact RetS.mk (f := id) (by rw [rowsL_len]; omega) (by rw [rowsL_len]; exact OwnsRow.more Hok.out hwB) Hb.out

end Go.Proofs.Ytciahmccafcllaa
