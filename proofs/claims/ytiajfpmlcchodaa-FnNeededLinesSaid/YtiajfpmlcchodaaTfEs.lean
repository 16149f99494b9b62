/-
  l7Less, NetWeakest, NetNeeded of the model.
-/
import Derived.Test.YtiajfpmlcchodaaTfE0
import Derived.Test.YtiajfpmlcchodaaTfZ
import Derived.Test.YtiajfpmlcchodaaApI0
namespace Go.Proofs.Ytiajfpmlcchodaa
open Go.RowKit

set_option maxHeartbeats 2000000 in
theorem l7Less_c (n : Int) (A : Option Addr) (c : Nat) (ss : List Lin) (f t : Int) (k : Nat) (w : World) (ha : ArgL w A c ss) (he : endB n ss f t = true) (hk : k < ss.length) :
    Calls Try.prog 52 #[.int .i64 n, .slice A ss.length c, .int .i64 f, .int .i64 t, .int .i64 k] w (RetB (.int .i64 (mostV n ss f t - at0 (lfL n ss f t) k)) w) := by
  have hcall := specNetWithout_b n A c ss (k : Int) w ha
  obtain ⟨hy1, hy2⟩ := wo_yes (endB_true.1 he).1 hk
  rw [hy1, hy2] at hcall
  have HA := Lib.hid ha
  have Hcall := Lib.hid hcall
  have hm := most_bd n ss f t
  have hat := lf_at he hk
  have hlb := most_bd n (dropN ss k) f t
  have H1 := fun (W : World) (h : ArgL W A c ss) => specTrafficMost_b n A c ss f t W h
  have H2 := fun (A2 : Option Addr) (c2 : Nat) (W : World) (h : ArgL W A2 c2 (dropN ss k)) => specTrafficMost_b n A2 c2 (dropN ss k) f t W h
  rw [hat]
  obtain ⟨M, hM⟩ : ∃ M, mostV n ss f t = M := ⟨_, rfl⟩
  obtain ⟨y, hy⟩ : ∃ y, mostV n (dropN ss k) f t = y := ⟨_, rfl⟩
  rw [hM] at hm H1 ⊢
  rw [hy] at hlb H2 ⊢
  have K1 := Lib.hid H1
  have K2 := Lib.hid H2
  have q1 : IntKind.i64.wrap (M - y) = M - y := IntWalk.i64_in _ (by omega)
  clear ha hcall hy1 hy2 hat H1 H2 hM hy
  go_enter Try.func52, Try.ntmps52
  go_wp2_with fail
  refine Hcall.out.mono ?_
  rintro e w1 ⟨A1, c1, rfl, ra1, _, rb1⟩
  have Ra := Lib.hid ra1
  have Rb := Lib.hid rb1
  clear ra1 rb1
  dsimp only
  go_wp2_with fail
  refine (K1.out _ (HA.out.go Rb.out)).mono ?_
  rintro e w2 ⟨rfl, hb2⟩
  have Hb2 := Lib.hid (below_step Rb.out hb2)
  have Ra2 := Lib.hid (Ra.out.go hb2)
  clear hb2
  go_wp2_with fail
  refine (K2.out _ _ _ Ra2.out).mono ?_
  rintro e w3 ⟨rfl, hb3⟩
  have Hb3 := Lib.hid (below_step Hb2.out hb3)
  clear hb3
  go_wp2
  go_ret
  exact ⟨rfl, Hb3.out⟩

set_option maxRecDepth 100000 in
set_option maxHeartbeats 4000000 in
theorem specNetWeakest_b (n : Int) (A : Option Addr) (c : Nat) (ss : List Lin) (f t : Int) (w : World) (ha : ArgL w A c ss) :
    Calls Try.prog 20 #[.int .i64 n, .slice A ss.length c, .int .i64 f, .int .i64 t] w (RetB (.tuple #[.int .i64 (wkI n ss f t : Int), .bool (wkB n ss f t)]) w) := by
  have hl := ha.len
  have HA := Lib.hid ha
  clear ha
  go_enter Try.func20, Try.ntmps20
  go_wp2_with fail
  refine (l7Two_c _ _ _ _ _ _ _ HA.out).mono ?_
  rintro e w1 ⟨rfl, hb1⟩
  have Hb1 := Lib.hid hb1
  clear hb1
  cases e1 : endB n ss f t
  · have N : Hid (wkI n ss f t = 0 ∧ wkB n ss f t = false) := Lib.hid ⟨by unfold wkI; rw [lf_no e1]; rfl, by unfold wkB; rw [lf_no e1]; rfl⟩
    clear e1
    go_wp2
    go_ret2
    exact ⟨by rw [N.out.1, N.out.2] <;> rfl, Hb1.out⟩
  have E1 := Lib.hid e1
  have hlf := lf_len e1
  have hI : wkI n ss f t = leastTo (lfL n ss f t) ss.length := by unfold wkI; rw [hlf]
  have hB : wkB n ss f t = decide (0 < ss.length) := by unfold wkB; rw [hlf]
  have Hless := Lib.hid (fun (k : Nat) (W : World) (h : ArgL W A c ss) hk => l7Less_c n A c ss f t k W h e1 hk)
  have HI := Lib.hid hI
  have HB := Lib.hid hB
  clear e1 hlf hI hB
  by_cases h0 : ss.length = 0
  · have hb0 : ((ss.length : Int) == 0) = true := by rw [h0]; rfl
    have N : Hid (wkI n ss f t = 0 ∧ wkB n ss f t = false) := Lib.hid ⟨by rw [HI.out, h0]; rfl, by rw [HB.out, h0]; rfl⟩
    clear h0
    go_wp2
    go_ret2
    exact ⟨by rw [N.out.1, N.out.2] <;> rfl, Hb1.out⟩
  have hb0 : ((ss.length : Int) == 0) = false := by rw [beq_eq_false_iff_ne]; omega
  have N : Hid (wkI n ss f t = leastTo (lfL n ss f t) ss.length ∧ wkB n ss f t = true) := Lib.hid ⟨HI.out, by rw [HB.out]; exact decide_eq_true (by omega)⟩
  obtain ⟨zs, hz⟩ : ∃ zs, lfL n ss f t = zs := ⟨_, rfl⟩
  obtain ⟨M, hM⟩ : ∃ M, mostV n ss f t = M := ⟨_, rfl⟩
  rw [hz] at N Hless
  rw [hM] at Hless
  clear hz hM
  go_wp2
  go_loopw [10, 11] (fun p i wr => ∃ k : Nat, k ≤ ss.length ∧ i = .int .i64 k ∧ p = .int .i64 (leastTo zs k) ∧ Below w.heap.size w wr) (fun _ i _ => ss.length - (intOf i).toNat)
  case atStart => exact ⟨0, Nat.zero_le _, rfl, rfl, Hb1.out⟩
  case round =>
    obtain ⟨k, hk, rfl, rfl, hb⟩ := hrel
    have Hb := Lib.hid hb
    clear hb
    by_cases hlt : k < ss.length
    · have hp : leastTo zs k < ss.length := by
        rcases Nat.eq_zero_or_pos k with rfl | h
        · show (0 : Nat) < _; omega
        · have := (leastTo_prop zs k h).1; omega
      have Hs := Lib.hid (show leastTo zs (k + 1) = if at0 zs k < at0 zs (leastTo zs k) then k else leastTo zs k from rfl)
      have L1 := Lib.hid (fun (W : World) (h : Below w.heap.size w W) => Hless.out k W (HA.out.go h) hlt)
      have L2 := Lib.hid (fun (W : World) (h : Below w.heap.size w W) => Hless.out (leastTo zs k) W (HA.out.go h) hp)
      obtain ⟨p, hpp⟩ : ∃ p, leastTo zs k = p := ⟨_, rfl⟩
      rw [hpp] at hp Hs L2 ⊢
      obtain ⟨y, hy⟩ : ∃ y, at0 zs k = y := ⟨_, rfl⟩
      obtain ⟨z, hz⟩ : ∃ z, at0 zs p = z := ⟨_, rfl⟩
      rw [hy] at Hs L1
      rw [hz] at Hs L2
      have g1 : (k : Int) < (ss.length : Int) := by omega
      clear hpp hy hz
      go_wp2_with fail
      refine (L1.out _ Hb.out).mono ?_
      rintro e w2 ⟨rfl, hb2⟩
      have Hb2 := Lib.hid (below_step Hb.out hb2)
      clear hb2
      go_wp2_with fail
      refine (L2.out _ Hb2.out).mono ?_
      rintro e w3 ⟨rfl, hb3⟩
      have Hb3 := Lib.hid (below_step Hb2.out hb3)
      clear hb3
      by_cases hc : y < z
      · have g2 : M - z < M - y := by omega
        have T : Hid (leastTo zs (k + 1) = k) := Lib.hid (by rw [Hs.out, if_pos hc])
        go_wp2
        go_roundw
        case rel => exact ⟨k + 1, by omega, by go_num, by rw [T.out], Hb3.out⟩
        case measure => simp [intOf]; omega
      · have g2 : ¬ M - z < M - y := by omega
        have T : Hid (leastTo zs (k + 1) = p) := Lib.hid (by rw [Hs.out, if_neg hc])
        go_wp2
        go_roundw
        case rel => exact ⟨k + 1, by omega, by go_num, by rw [T.out], Hb3.out⟩
        case measure => simp [intOf]; omega
    · obtain rfl : k = ss.length := by omega
      go_wp2
      go_ret2
      exact ⟨by rw [N.out.1, N.out.2] <;> rfl, Hb.out⟩

set_option maxRecDepth 100000 in
set_option maxHeartbeats 4000000 in
theorem specNetNeeded_b (n : Int) (A : Option Addr) (c : Nat) (ss : List Lin) (f t : Int) (w : World) (ha : ArgL w A c ss) :
    Calls Try.prog 24 #[.int .i64 n, .slice A ss.length c, .int .i64 f, .int .i64 t] w (RetS 3 id (ndV n ss f t) w) := by
  obtain ⟨i0, hi, hz0, hz1, hz2⟩ := info_parts intInf
  have hl := ha.len
  have HA := Lib.hid ha
  clear ha
  have hV : ndV n ss f t = ndTo (lfL n ss f t) (mostV n ss f t) (lfL n ss f t).length := rfl
  have hno := fun h => lf_no (n := n) (N := ss) (f := f) (t := t) h
  have hyes := fun h => lf_len (n := n) (N := ss) (f := f) (t := t) h
  have hless := fun (k : Nat) (W : World) (h : ArgL W A c ss) he hk => l7Less_c n A c ss f t k W h he hk
  obtain ⟨zs, hz⟩ : ∃ zs, lfL n ss f t = zs := ⟨_, rfl⟩
  obtain ⟨M, hM⟩ : ∃ M, mostV n ss f t = M := ⟨_, rfl⟩
  rw [hz] at hV hno hyes hless
  rw [hM] at hV hless
  have HV := Lib.hid hV
  have Hno := Lib.hid hno
  have Hyes := Lib.hid hyes
  have Hless := Lib.hid hless
  clear hV hno hyes hless hz hM
  go_enter Try.func24, Try.ntmps24
  go_wp2
  go_loopw [9, 10] (fun lv i wr => ∃ (k : Nat) (xs : List Int) (sv : Value), k ≤ ss.length ∧ (0 < k → endB n ss f t = true) ∧ i = .int .i64 k ∧ lv = sv ∧ xs = ndTo zs M k ∧ wr.ownsRow w.heap.size 3 1 sv xs.length (xs.map (Value.int .i64)) ∧ Below w.heap.size w wr) (fun _ i _ => ss.length - (intOf i).toNat)
  case atStart => exact ⟨0, [], _, Nat.zero_le _, fun h => absurd h (by omega), rfl, rfl, rfl, own_none w _, below_none w _⟩
  case round =>
    obtain ⟨k, xs, sv, hk, hke, rfl, rfl, hx, ho, hb⟩ := hrel
    have hxl : xs.length ≤ k := by rw [hx]; exact ndTo_len _ _ _
    have Hx := Lib.hid hx
    have Ho := Lib.hid ho
    have Hb := Lib.hid hb
    have hwsz := hb.size
    have Hke := Lib.hid hke
    clear hx ho hb hke
    by_cases hlt : k < ss.length
    · have g1 : (k : Int) < (ss.length : Int) := by omega
      go_wp2_with fail
      refine (l7Two_c _ _ _ _ _ _ _ (HA.out.go Hb.out)).mono ?_
      rintro e w1 ⟨rfl, hb1⟩
      have Ho1 := Lib.hid (own_below Ho.out hb1)
      have Hb1 := Lib.hid (below_step Hb.out hb1)
      clear hb1
      cases e1 : endB n ss f t
      · have h0 : k = 0 := by
          rcases Nat.eq_zero_or_pos k with h | h
          · exact h
          · have := Hke.out h; rw [e1] at this; cases this
        have T : Hid (ndV n ss f t = xs) := Lib.hid (by rw [HV.out, Hno.out e1, Hx.out, h0]; rfl)
        clear e1
        go_wp2
        go_ret
        rw [T.out]
        exact RetS.mk (f := id) (by omega) Ho1.out Hb1.out
      · have Hs := Lib.hid (show ndTo zs M (k + 1) = if at0 zs k < M then ndTo zs M k ++ [(k : Int)] else ndTo zs M k from rfl)
        have L1 := Lib.hid (Hless.out k w1 (HA.out.go Hb1.out) e1 hlt)
        have E1 := Lib.hid e1
        obtain ⟨y, hy⟩ : ∃ y, at0 zs k = y := ⟨_, rfl⟩
        rw [hy] at Hs L1
        clear hy e1
        go_wp2_with fail
        refine L1.out.mono ?_
        rintro e w2 ⟨rfl, hb2⟩
        have Ho2 := Lib.hid (own_below Ho1.out hb2)
        have Hb2 := Lib.hid (below_step Hb1.out hb2)
        have hsz2 := Hb2.out.size
        clear hb2
        by_cases hc : y < M
        · have g2 : 0 < M - y := by omega
          have T : Hid (ndTo zs M (k + 1) = ndTo zs M k ++ [(k : Int)]) := Lib.hid (by rw [Hs.out, if_pos hc])
          go_wp2_with (at_builtin; refine wpList_append_ints rfl (.tmp 32) (.tmp 34) 27 rfl w.heap.size 3 i0 (.int .i64 0) Try.underlying27 hi hz0 hz1 hz2 rfl _ xs rfl (Ho2.out.alloc _) (some ⟨_, 0, none⟩) 1 [(k : Int)] rfl (arg_one _ (k : Int) _) (by simp; omega) (by simp; omega) ?_; intro v' w5 hown5 hg5; have H5 := Lib.hid hown5; have Hb5 := Lib.hid ((Hb2.out.alloc hsz2 _).grown hg5 (by simp; omega) (fun g e => (Ho2.out.lt g e).1)); clear hown5 hg5)
          go_roundw
          case rel => exact ⟨k + 1, _, _, by omega, fun _ => E1.out, by go_num, rfl, by rw [T.out, Hx.out], H5.out, Hb5.out⟩
          case measure => simp [intOf]; omega
        · have g2 : ¬ 0 < M - y := by omega
          have T : Hid (ndTo zs M (k + 1) = ndTo zs M k) := Lib.hid (by rw [Hs.out, if_neg hc])
          go_wp2
          go_roundw
          case rel => exact ⟨k + 1, xs, _, by omega, fun _ => E1.out, by go_num, rfl, by rw [T.out, Hx.out], Ho2.out, Hb2.out⟩
          case measure => simp [intOf]; omega
    · obtain rfl : k = ss.length := by omega
      have T : Hid (ndV n ss f t = xs) := Lib.hid (by
        cases e1 : endB n ss f t
        · have h0 : ss.length = 0 := by
            rcases Nat.eq_zero_or_pos ss.length with h | h
            · exact h
            · have := Hke.out h; rw [e1] at this; cases this
          rw [HV.out, Hno.out e1, Hx.out, h0]; rfl
        · rw [HV.out, Hyes.out e1, Hx.out])
      go_wp2
      go_ret
      rw [T.out]
      exact RetS.mk (f := id) (by omega) Ho.out Hb.out
end Go.Proofs.Ytiajfpmlcchodaa
