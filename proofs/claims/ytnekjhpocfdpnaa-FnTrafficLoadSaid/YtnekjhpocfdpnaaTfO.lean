/-
  What goes out of a station, LoadValid and LoadTraffic of the model; enoughChannels of the program.
-/
import Derived.Test.YtnekjhpocfdpnaaTfF
namespace Go.Proofs.Ytnekjhpocfdpnaa
open Go.RowKit

theorem outK_val {N : List Lin} {L : List Int} {s : Int} {k : Nat} (v1 v2 : Bool) (h1 : ((linAt N k).a == s) = v1) (h2 : ((linAt N k).b == s) = v2) : outK N L s k = (if v1 then ldAt L k else 0) - (if v2 then ldAt L k else 0) := by
  unfold outK
  have e1 := beq_d h1
  have e2 := beq_d h2
  congr 1
  · cases v1
    · rw [if_neg (of_decide_eq_false e1)]; rfl
    · rw [if_pos (of_decide_eq_true e1)]; rfl
  · cases v2
    · rw [if_neg (of_decide_eq_false e2)]; rfl
    · rw [if_pos (of_decide_eq_true e2)]; rfl

set_option maxRecDepth 100000 in
set_option maxHeartbeats 2000000 in
theorem l7Out_c (n : Int) (A B : Option Addr) (c d : Nat) (ss : List Lin) (L : List Int) (st : Int) (w : World) (ha : ArgL w A c ss) (hb : Arg w B d L) (hn : netB n ss = true) (hc : chB ss L = true) :
    Calls Try.prog 27 #[.slice A ss.length c, .slice B L.length d, .int .i64 st] w fun e w' => e = .returned (.int .i64 (outV ss L st)) ∧ w = w' := by
  have hl := ha.len
  have hll := (chB_true.1 hc).1
  have h10 := (netB_true.1 hn).2.1
  have h9 : ∀ k, k < ss.length → (linAt ss k).c ≤ 9 := fun k hk => (netB_at hn hk).2.2
  have hbd := outT_bd hc h9 st
  have hk9 : ∀ k, k < ss.length → -9 ≤ ldAt L k ∧ ldAt L k ≤ 9 := fun k hk => by
    have h1 := (chB_true.1 hc).2 k hk
    have h2 := h9 k hk
    omega
  have Hbd := Lib.hid hbd
  have Hk9 := Lib.hid hk9
  have Hll := Lib.hid hll
  have HA := Lib.hid ha
  have HB := Lib.hid hb
  clear ha hb hbd hll hc hn h9 hk9
  go_enter Try.func27, Try.ntmps27
  go_wp2
  go_loop [7, 8] (fun q i => ∃ k : Nat, k ≤ ss.length ∧ i = .int .i64 k ∧ q = .int .i64 (outT ss L st k)) (fun _ i => ss.length - (intOf i).toNat)
  case atStart => exact ⟨0, Nat.zero_le _, rfl, rfl⟩
  case round =>
    obtain ⟨k, hk, rfl, rfl⟩ := hrel
    by_cases hlt : k < ss.length
    · have hlt2 : k < L.length := by have := Hll.out; omega
      obtain ⟨b1, off1, rfl, _, hb1, hc0, hc1, hc2⟩ := HA.out.rd.at_ hlt
      obtain ⟨b2, off2, rfl, _, hb2, hd⟩ := HB.out.rd.at_ hlt2
      have hT : outT ss L st (k + 1) = outT ss L st k + outK ss L st k := rfl
      have hv := fun v1 v2 h1 h2 => outK_val (L := L) (k := k) (N := ss) (s := st) v1 v2 h1 h2
      have h1 := Hk9.out k hlt
      have h2 := Hbd.out k (by omega)
      rw [show L[k]?.getD 0 = ldAt L k from rfl] at hd
      obtain ⟨s, hs⟩ : ∃ s, linAt ss k = s := ⟨_, rfl⟩
      obtain ⟨l, hlk⟩ : ∃ l, ldAt L k = l := ⟨_, rfl⟩
      obtain ⟨T, hTT⟩ : ∃ T, outT ss L st k = T := ⟨_, rfl⟩
      rw [hs] at hc0 hc1 hc2 hv
      rw [hlk] at hd h1 hv
      rw [hTT] at hT h2 ⊢
      have HT := Lib.hid hT
      have HV := Lib.hid hv
      clear hs hlk hTT hT hv
      have g3 : (k : Int) < (ss.length : Int) := by omega
      have g4 : (k : Int) < (L.length : Int) := by omega
      have g5 : -200 ≤ T ∧ T ≤ 200 := by omega
      obtain ⟨g6, g7⟩ := g5
      obtain ⟨g8, g9⟩ := h1
      clear h2
      cases x1 : (s.a == st) <;> cases x2 : (s.b == st)
      · have N := Lib.hid (HT.out.trans (congrArg (T + ·) (HV.out _ _ x1 x2)))
        go_wp2
        go_round
        case rel => exact ⟨k + 1, by omega, by go_num, by rw [N.out]; simp⟩
        case measure => simp [intOf]; omega
      · have N := Lib.hid (HT.out.trans (congrArg (T + ·) (HV.out _ _ x1 x2)))
        go_wp2
        go_round
        case rel => exact ⟨k + 1, by omega, by go_num, by rw [N.out]; simp; omega⟩
        case measure => simp [intOf]; omega
      · have N := Lib.hid (HT.out.trans (congrArg (T + ·) (HV.out _ _ x1 x2)))
        go_wp2
        go_round
        case rel => exact ⟨k + 1, by omega, by go_num, by rw [N.out]; simp⟩
        case measure => simp [intOf]; omega
      · have N := Lib.hid (HT.out.trans (congrArg (T + ·) (HV.out _ _ x1 x2)))
        go_wp2
        go_round
        case rel => exact ⟨k + 1, by omega, by go_num, by rw [N.out]; simp⟩
        case measure => simp [intOf]; omega
    · obtain rfl : k = ss.length := by omega
      go_wp2
      go_ret
      exact ⟨rfl, rfl⟩

/-- the first k numbers are in range -/
def chTo (N : List Lin) (L : List Int) (k : Nat) : Prop := ∀ i, i < k → lnB N L i = true
theorem chTo_zero (N : List Lin) (L : List Int) : chTo N L 0 := fun i h => by omega
theorem chTo_succ {N : List Lin} {L : List Int} {k : Nat} (h : chTo N L k) (hk : lnB N L k = true) : chTo N L (k + 1) := fun i hi => by
  rcases (by omega : i < k ∨ i = k) with h1 | rfl
  · exact h i h1
  · exact hk
theorem chTo_all {N : List Lin} {L : List Int} (hl : L.length = N.length) (h : chTo N L N.length) : chB N L = true := by
  unfold chB
  rw [decide_eq_true hl, Bool.true_and, List.all_eq_true]
  exact fun k hk => h k (List.mem_range.1 hk)
theorem chTo_not {N : List Lin} {L : List Int} {k : Nat} (hk : k < N.length) (h : lnB N L k = false) : chB N L = false := by
  cases e : chB N L
  · rfl
  · unfold chB at e
    rw [Bool.and_eq_true, List.all_eq_true] at e
    rw [e.2 k (List.mem_range.2 hk)] at h; cases h
theorem ch_len {N : List Lin} {L : List Int} (h : ¬ L.length = N.length) : chB N L = false := by unfold chB; rw [decide_eq_false h]; rfl

set_option maxRecDepth 100000 in
set_option maxHeartbeats 2000000 in
theorem enough_c (n : Int) (A B : Option Addr) (c d : Nat) (ss : List Lin) (L : List Int) (w : World) (ha : ArgL w A c ss) (hb : Arg w B d L) (hn : netB n ss = true) :
    Calls Try.prog 29 #[.slice A ss.length c, .slice B L.length d] w (RetB (.bool (chB ss L)) w) := by
  have hl := ha.len
  have hl2 := hb.len
  have h9 : ∀ k, k < ss.length → 1 ≤ (linAt ss k).c ∧ (linAt ss k).c ≤ 9 := fun k hk => (netB_at hn hk).2
  have H9 := Lib.hid h9
  have HA := Lib.hid ha
  have HB := Lib.hid hb
  clear ha hb hn h9
  by_cases hll : L.length = ss.length
  · have g1 : ((L.length : Int) != (ss.length : Int)) = false := by simp [hll]
    have Hll := Lib.hid hll
    clear hll
    go_enter Try.func29, Try.ntmps29
    go_wp2
    go_loopw [14] (fun i wr => ∃ k : Nat, k ≤ ss.length ∧ chTo ss L k ∧ i = .int .i64 k ∧ Below w.heap.size w wr) (fun i _ => ss.length - (intOf i).toNat)
    case atStart => exact ⟨0, Nat.zero_le _, chTo_zero _ _, rfl, Below.refl _ _⟩
    case round =>
      obtain ⟨k, hk, ho, rfl, hb⟩ := hrel
      have Ho := Lib.hid ho
      have Hb := Lib.hid hb
      clear ho hb
      by_cases hlt : k < ss.length
      · have hlt2 : k < L.length := by have := Hll.out; omega
        obtain ⟨b1, off1, rfl, _, hb1, hc0, hc1, hc2⟩ := (HA.out.go Hb.out).rd.at_ hlt
        obtain ⟨b2, off2, rfl, _, hb2, hd⟩ := (HB.out.go Hb.out).rd.at_ hlt2
        have hyes := fun h => chTo_succ Ho.out h
        have hno := fun h => chTo_not (L := L) hlt h
        have hF : lnB ss L k = inB (ldAt L k) (-(linAt ss k).c) (linAt ss k).c := rfl
        have h1 := H9.out k hlt
        rw [show L[k]?.getD 0 = ldAt L k from rfl] at hd
        obtain ⟨s, hs⟩ : ∃ s, linAt ss k = s := ⟨_, rfl⟩
        obtain ⟨l, hlk⟩ : ∃ l, ldAt L k = l := ⟨_, rfl⟩
        rw [hs] at hc0 hc1 hc2 hF h1
        rw [hlk] at hd hF
        have Hyes := Lib.hid hyes
        have Hno := Lib.hid hno
        have HF := Lib.hid hF
        clear hs hlk hyes hno hF
        obtain ⟨g5, g6⟩ := h1
        have g3 : (k : Int) < (ss.length : Int) := by omega
        have g4 : (k : Int) < (L.length : Int) := by omega
        cases e1 : inB l (-s.c) s.c
        · have N := Lib.hid (Hno.out (HF.out.trans e1))
          have E1 := Lib.hid e1
          clear e1
          go_wp2
          go_quiet ((go_at_call 45; refine Calls.quiet_of_same (v := .bool false) ((inRange_c _ _ _ _).mono ?_); rintro e w' ⟨rfl, rfl⟩; exact ⟨by rw [E1.out], rfl⟩))
          go_wp2
          go_ret
          exact ⟨by rw [N.out] <;> rfl, below_drewN (Hb.out.alloc Hb.out.size _) _⟩
        · have N := Lib.hid (Hyes.out (HF.out.trans e1))
          have E1 := Lib.hid e1
          clear e1
          go_wp2
          go_quiet ((go_at_call 45; refine Calls.quiet_of_same (v := .bool true) ((inRange_c _ _ _ _).mono ?_); rintro e w' ⟨rfl, rfl⟩; exact ⟨by rw [E1.out], rfl⟩))
          go_wp2
          go_roundw
          case rel => exact ⟨k + 1, by omega, N.out, by go_num, below_drewN (Hb.out.alloc Hb.out.size _) _⟩
          case measure => simp [intOf]; omega
      · obtain rfl : k = ss.length := by omega
        have N := Lib.hid (chTo_all Hll.out Ho.out)
        go_wp2
        go_ret
        exact ⟨by rw [N.out] <;> rfl, Hb.out⟩
  · have g1 : ((L.length : Int) != (ss.length : Int)) = true := by simp; omega
    have N := Lib.hid (ch_len hll)
    clear hll
    go_enter Try.func29, Try.ntmps29
    go_wp2
    go_ret
    exact ⟨by rw [N.out] <;> rfl, Below.refl _ _⟩

end Go.Proofs.Ytnekjhpocfdpnaa
