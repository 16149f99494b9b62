/-
  The model's StowageValid and StowageOut.
-/
import Derived.Test.YthdbbppahloapaaOutI
import Derived.Test.YthdbbppahloapaaTkA
import Derived.Test.YthdbbppahloapaaStwS
import Derived.Test.YthdbbppahloapaaBase0
namespace Go.Proofs.Ythdbbppahloapaa
open Go.RowKit

/-- the first i coils agree with those ahead of them in their tanks -/
def stowTo (L T : List Int) (i : Nat) : Prop := ∀ j, j < i → (0 ≤ T[j]?.getD 0 ∧ T[j]?.getD 0 ≤ 4) ∧ ∀ k, k < j → T[j]?.getD 0 = T[k]?.getD 0 → agrB L j k = true
theorem stowTo_zero (L T : List Int) : stowTo L T 0 := fun j hj => absurd hj (by omega)
theorem stowTo_succ {L T : List Int} {i : Nat} (h : stowTo L T i) (h1 : 0 ≤ T[i]?.getD 0 ∧ T[i]?.getD 0 ≤ 4) (h2 : ∀ k, k < i → T[i]?.getD 0 = T[k]?.getD 0 → agrB L i k = true) : stowTo L T (i + 1) := fun j hj => by
  rcases Nat.lt_or_ge j i with h3 | h3
  · exact h j h3
  · obtain rfl : j = i := by omega
    exact ⟨h1, h2⟩
theorem stow_all {L T : List Int} (ho : ordB L = true) (hl : T.length = L.length) (h : stowTo L T L.length) : stowB L T = true :=
  stowB_true.2 ⟨baseB_true.2 ⟨ho, hl, fun j hj => (h j hj).1⟩, fun i hi k hk e => by
    have h2 := (h i hi).2 k hk e
    rw [agrB_gt ho hk hi] at h2
    simpa using h2⟩
theorem stow_not1 {L T : List Int} {i : Nat} (hi : i < L.length) (h : inB (T[i]?.getD 0) 0 4 = false) : stowB L T = false := by
  rw [Bool.eq_false_iff]
  intro hs
  have := stow_at hs hi
  rw [inB_false] at h
  omega
theorem stow_not2 {L T : List Int} (ho : ordB L = true) {i k : Nat} (hi : i < L.length) (hk : k < i) (e : T[i]?.getD 0 = T[k]?.getD 0) (h : agrB L i k = false) : stowB L T = false := by
  rw [Bool.eq_false_iff]
  intro hs
  have h2 := (stowB_true.1 hs).2 i hi k hk e
  rw [agrB_gt ho hk hi] at h
  simp at h
  omega

set_option maxHeartbeats 2000000 in
theorem specStowageValid_b (A0 : Option Addr) (c0 : Nat) (z0 : List Int) (A1 : Option Addr) (c1 : Nat) (z1 : List Int) (w : World) (h0 : Arg w A0 c0 z0) (h1 : Arg w A1 c1 z1) :
    Calls Try.prog 12 #[.slice A0 z0.length c0, .slice A1 z1.length c1] w (RetB (.bool (stowB z0 z1)) w) := by
  have hl0 := h0.len
  have hl1 := h1.len
  have H0 := Lib.hid h0
  have H1 := Lib.hid h1
  clear h0 h1
  go_enter Try.func12, Try.ntmps12
  go_wp2_with fail
  refine (specOrdersValid_b A0 c0 z0 _ H0.out).mono ?_
  rintro e w1 ⟨rfl, hb1⟩
  have Hb1 := Lib.hid hb1
  replace H0 := Lib.hid (H0.out.go hb1)
  replace H1 := Lib.hid (H1.out.go hb1)
  clear hb1
  cases hv : ordB z0
  · have Hn := Lib.hid (stow_no (base_no1 (T := z1) hv))
    clear hv
    go_wp2
    go_ret
    exact ⟨by rw [Hn.out]; rfl, Hb1.out⟩
  have Hv := Lib.hid hv
  have h10 := ord_len hv
  clear hv
  by_cases hlen : z1.length = z0.length
  · have g0 : (z1.length : Int) = (z0.length : Int) := by omega
    have Hlen := Lib.hid hlen
    clear hlen
    go_wp2
    go_loopw [5] (fun i wr => ∃ k : Nat, k ≤ z0.length ∧ i = .int .i64 k ∧ stowTo z0 z1 k ∧ Below w1.heap.size w1 wr) (fun i _ => z0.length - (intOf i).toNat)
    case atStart => exact ⟨0, Nat.zero_le _, rfl, stowTo_zero _ _, Below.refl _ _⟩
    case round =>
      obtain ⟨k, hk, rfl, ho, hb⟩ := hrel
      obtain ⟨W0, hW0⟩ : ∃ W0, W0 = wr := ⟨_, rfl⟩
      subst hW0
      have Ho := Lib.hid ho
      have Hb := Lib.hid hb
      clear ho hb
      by_cases hlt : k < z0.length
      · obtain ⟨b, off, rfl, _, hbw, hc0⟩ := (H1.out.go Hb.out).rd.at_ (show k < z1.length by rw [Hlen.out]; exact hlt)
        have Hn1 := Lib.hid (stow_not1 (L := z0) (T := z1) hlt)
        have Hn2 := Lib.hid (fun j => stow_not2 (T := z1) Hv.out (k := j) hlt)
        have Hyes := Lib.hid (stowTo_succ (i := k) Ho.out)
        obtain ⟨y, hy⟩ : ∃ y, z1[k]?.getD 0 = y := ⟨_, rfl⟩
        rw [hy] at hc0 Hn1 Hn2 Hyes
        have g1 : (k : Int) < (z1.length : Int) := by have := Hlen.out; omega
        have g9 : (0 : Int) ≤ (k : Int) := by omega
        clear hy
        go_wp2_with fail
        refine (l6In_c _ _ _ _).mono ?_
        rintro e w' ⟨rfl, rfl⟩
        cases hin : inB y 0 4
        · have Hn := Lib.hid (Hn1.out hin)
          clear hin
          go_wp2
          go_ret
          exact ⟨by rw [Hn.out]; rfl, below_step Hb1.out Hb.out⟩
        have Hin := Lib.hid (inB_true.1 hin)
        clear hin
        go_wp2
        go_loopw [6] (fun i wr => ∃ j : Nat, j ≤ k ∧ i = .int .i64 j ∧ (∀ m, m < j → y = z1[m]?.getD 0 → agrB z0 k m = true) ∧ ∃ n, wr = W0.drewN n) (fun i _ => k - (intOf i).toNat)
        case atStart => exact ⟨0, Nat.zero_le _, rfl, fun m hm => absurd hm (by omega), 0, rfl⟩
        case round =>
          obtain ⟨j, hj, rfl, ho2, hw⟩ := hrel
          have Ho2 := Lib.hid ho2
          have hbq : Below W0.heap.size W0 wr := by obtain ⟨m, rfl⟩ := hw; exact below_drewN (Below.refl _ _) m
          have Hw := Lib.hid (fun (n : Nat) => (show ∃ m, wr.drewN n = W0.drewN m by obtain ⟨m, rfl⟩ := hw; exact ⟨m + n, World.drewN_drewN _ _ _⟩))
          have Hq := Lib.hid hbq
          have hc1 := (hbq.cell (p := ⟨b, off + k, none⟩) hbw).trans hc0
          have a0 := H0.out.go (below_step Hb.out hbq)
          have Hag := Lib.hid (fun (W : World) (h : Below wr.heap.size wr W) (j : Nat) => specOrdersAgree_q A0 c0 z0 (k : Int) (j : Int) W (a0.go h))
          clear ho2 hw
          by_cases hjk : j < k
          · obtain ⟨b', off', e, _, hbw2, hd0⟩ := (H1.out.go (below_step Hb.out hbq)).rd.at_ (show j < z1.length by have := Hlen.out; omega)
            injection e with e
            injection e with e1 e2
            subst e1
            subst e2
            have Hno := Lib.hid (Hn2.out j hjk)
            have Hsucc := Lib.hid (fun (h : y = z1[j]?.getD 0 → agrB z0 k j = true) m (hm : m < j + 1) => (show y = z1[m]?.getD 0 → agrB z0 k m = true from by
              rcases Nat.lt_or_ge m j with h1 | h1
              · exact Ho2.out m h1
              · obtain rfl : m = j := by omega
                exact h))
            obtain ⟨x, hx⟩ : ∃ x, z1[j]?.getD 0 = x := ⟨_, rfl⟩
            rw [hx] at hd0 Hno Hsucc
            have g2 : (j : Int) < (k : Int) := by omega
            have g3 : (j : Int) < (z1.length : Int) := by have := Hlen.out; omega
            have g4 : (0 : Int) ≤ (j : Int) := by omega
            have g5 : (j : Int) < (z0.length : Int) := by omega
            clear hx a0 hbq
            by_cases hyx : y = x
            · have hd : (y == x) = true := beq_iff_eq.2 hyx
              cases ha : agrB z0 k j
              · have Hn := Lib.hid (Hno.out hyx ha)
                have Ha := Lib.hid ha
                clear ha hyx
                go_wp2
                go_quiet (first | (go_at_call 40; exact Calls.quiet_of (v := .bool false) ((Hag.out _ (below_drewN (Below.refl _ _) _) j).mono (fun e w' h => by rw [Ha.out] at h; exact h))) | fail)
                all_goals
                  go_wp2
                  go_ret
                  exact ⟨by rw [Hn.out]; rfl, below_step Hb1.out (below_step Hb.out (below_drewN Hq.out nq))⟩
              · have Hn := Lib.hid (Hsucc.out (fun _ => ha))
                have Ha := Lib.hid ha
                clear ha hyx
                go_wp2
                go_quiet (first | (go_at_call 40; exact Calls.quiet_of (v := .bool true) ((Hag.out _ (below_drewN (Below.refl _ _) _) j).mono (fun e w' h => by rw [Ha.out] at h; exact h))) | fail)
                all_goals
                  go_wp2
                  go_roundw
                  case rel => exact ⟨j + 1, by omega, by go_num, Hn.out, Hw.out nq⟩
                  case measure => simp [intOf]; omega
            · have hd : (y == x) = false := beq_eq_false_iff_ne.2 hyx
              have Hn := Lib.hid (Hsucc.out (fun h => absurd h hyx))
              clear hyx
              go_wp2
              go_quiet (fail)
              all_goals
                go_wp2
                go_roundw
                case rel => exact ⟨j + 1, by omega, by go_num, Hn.out, Hw.out nq⟩
                case measure => simp [intOf]; omega
          · obtain rfl : j = k := by omega
            have Hn := Lib.hid (Hyes.out Hin.out Ho2.out)
            clear a0 hbq
            go_wp2
            go_roundw
            case rel => exact ⟨j + 1, by omega, by go_num, Hn.out, below_step Hb.out Hq.out⟩
            case measure => simp [intOf]; omega
      · obtain rfl : k = z0.length := by omega
        have Hy := Lib.hid (stow_all Hv.out Hlen.out Ho.out)
        go_wp2
        go_ret
        exact ⟨by rw [Hy.out]; rfl, below_step Hb1.out Hb.out⟩
  · have g0 : ¬ (z1.length : Int) = (z0.length : Int) := by omega
    have Hn := Lib.hid (stow_no (base_no2 (L := z0) (T := z1) hlen))
    go_wp2
    go_ret
    exact ⟨by rw [Hn.out]; rfl, Hb1.out⟩

end Go.Proofs.Ythdbbppahloapaa
