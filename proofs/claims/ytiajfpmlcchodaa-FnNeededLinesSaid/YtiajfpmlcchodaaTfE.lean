/-
  trafficsLeft, slices.Min, slices.Index; NetWeakest, NetNeeded of the program.
-/
import Derived.Test.YtiajfpmlcchodaaTfE0
import Derived.Test.YtiajfpmlcchodaaTfX
import Derived.Test.YtiajfpmlcchodaaApI0
namespace Go.Proofs.Ytiajfpmlcchodaa
open Go.RowKit

set_option maxRecDepth 100000 in
set_option maxHeartbeats 4000000 in
theorem trafficsLeft_c (n : Int) (A : Option Addr) (c : Nat) (ss : List Lin) (f t : Int) (w : World) (ha : ArgL w A c ss) :
    Calls Try.prog 49 #[.int .i64 n, .slice A ss.length c, .int .i64 f, .int .i64 t] w (RetS 3 id (lfL n ss f t) w) := by
  obtain ⟨i0, hi, hz0, hz1, hz2⟩ := info_parts intInf
  have hl := ha.len
  have HA := Lib.hid ha
  clear ha
  go_enter Try.func49, Try.ntmps49
  go_wp2_with fail
  refine (ends_c _ _ _ _ _ _ _ HA.out).mono ?_
  rintro e w1 ⟨rfl, hb1⟩
  have Hb1 := Lib.hid hb1
  have HA1 := Lib.hid (HA.out.go hb1)
  clear hb1
  cases e1 : endB n ss f t
  · have N := Lib.hid (lf_no e1)
    clear e1
    go_wp2
    go_ret
    rw [N.out]
    exact RetS.nil (f := id) Hb1.out
  have E1 := Lib.hid e1
  have N := Lib.hid (lf_yes e1)
  have h10 := (netB_true.1 (endB_true.1 e1).1).2.1
  have Hn := Lib.hid (endB_true.1 e1).1
  clear e1
  have Hs1 := Lib.hid Hb1.out.size
  go_wp2_with (at_make; refine wpList_make_own _ rfl _ _ 27 rfl w.heap.size 3 i0 (.int .i64 0) 1 Try.underlying27 hi hz0 hz1 .i64 .i64 _ ss.length rfl rfl (by omega) (by rw [hz2]; omega) (by unfold maxLen; omega) Hs1.out ?_; intro w2 hown hg2)
  have hb2 := Hb1.out.grown hg2 Hs1.out (by simp)
  have HB2 := Lib.hid hb2
  have HO2 := Lib.hid hown
  clear hown hg2 hb2
  go_loopw [9, 24] (fun lv i wr => ∃ (k : Nat) (xs : List Int) (sv : Value), k ≤ ss.length ∧ i = .int .i64 k ∧ lv = sv ∧ xs = lfTo n ss f t k ∧ wr.ownsRow w.heap.size 3 1 sv xs.length (xs.map (Value.int .i64)) ∧ Below w.heap.size w wr) (fun _ i _ => ss.length - (intOf i).toNat)
  case atStart => exact ⟨0, [], _, Nat.zero_le _, rfl, rfl, rfl, HO2.out, HB2.out⟩
  case round =>
    obtain ⟨k, xs, sv, hk, rfl, rfl, hx, ho, hb⟩ := hrel
    have Hx := Lib.hid hx
    have Ho := Lib.hid ho
    have Hb := Lib.hid hb
    have Ha := Lib.hid (HA.out.go hb)
    have hxl : xs.length = k := by rw [hx, lfTo_len]
    have hwsz := hb.size
    clear hx ho hb
    by_cases hlt : k < ss.length
    · have g1 : (k : Int) < (ss.length : Int) := by omega
      have hcall := implNetWithout_b n A c ss (k : Int) wr Ha.out
      obtain ⟨hy1, hy2⟩ := wo_yes Hn.out hlt
      rw [hy1, hy2] at hcall
      have Hcall := Lib.hid hcall
      have Hs := Lib.hid (lfTo_succ (n := n) (N := ss) (f := f) (t := t) k)
      clear hcall hy1 hy2
      go_wp2_with fail
      refine Hcall.out.mono ?_
      rintro e w3 ⟨A3, c3, rfl, ra3, ro3, rb3⟩
      have Ra3 := Lib.hid ra3
      have Hb3 := Lib.hid rb3
      have hw3 := rb3.size
      clear ra3 ro3 rb3
      dsimp only
      go_wp2_with fail
      refine (implTrafficMost_b n A3 c3 (dropN ss k) f t _ Ra3.out).mono ?_
      rintro e w4 ⟨rfl, hb4⟩
      have hb34 := below_step Hb3.out hb4
      have Ho4 := Lib.hid (own_below Ho.out hb34)
      have Hb4 := Lib.hid (below_step Hb.out hb34)
      obtain ⟨y, hy⟩ : ∃ y, mostV n (dropN ss k) f t = y := ⟨_, rfl⟩
      rw [hy] at Hs
      have hsz4 := Hb4.out.size
      rw [hy]
      clear hb4 hb34 hy
      go_wp2_with (at_builtin; refine wpList_append_ints rfl (.tmp 34) (.tmp 40) 27 rfl w.heap.size 3 i0 (.int .i64 0) Try.underlying27 hi hz0 hz1 hz2 rfl u9 xs rfl (Ho4.out.alloc _) (some ⟨_, 0, none⟩) 1 [y] rfl (arg_one _ y _) (by simp; omega) (by simp; omega) ?_; intro v' w5 hown5 hg5; have H5 := Lib.hid hown5; have Hb5 := Lib.hid ((Hb4.out.alloc hsz4 _).grown hg5 (by simp; omega) (fun g e => (Ho4.out.lt g e).1)); clear hown5 hg5)
      go_roundw
      case rel => exact ⟨k + 1, _, _, by omega, by go_num, rfl, by rw [Hs.out, Hx.out], H5.out, Hb5.out⟩
      case measure => simp [intOf]; omega
    · obtain rfl : k = ss.length := by omega
      go_wp2
      go_ret
      rw [N.out, ← Hx.out]
      exact RetS.mk (f := id) (by omega) Ho.out Hb.out

set_option maxHeartbeats 400000 in
theorem min_c (A : Option Addr) (c : Nat) (zs : List Int) (w : World) (ha : Arg w A c zs) (hn : 1 ≤ zs.length) :
    Calls Try.prog 51 #[.slice A zs.length c] w fun e w' => e = .returned (.int .i64 (at0 zs (leastTo zs zs.length))) ∧ w = w' := by
  obtain ⟨hl, _, _, hr⟩ := ha
  have h1 : at0 zs (leastTo zs 1) = at0 zs 0 := by simp [leastTo]
  obtain ⟨b, off, rfl, _, _, hc0⟩ := hr.at_ (k := 0) (by omega)
  have e0 : zs[0]?.getD 0 = at0 zs 0 := rfl
  rw [e0] at hc0
  rw [Nat.add_zero] at hc0
  have H1 := Lib.hid h1
  have hlt0 : (0 : Int) < (zs.length : Int) := by omega
  have hge : ¬ ((zs.length : Int) < 1) := by omega
  clear h1 e0
  go_enter Try.func51, Try.ntmps51
  go_wp2
  go_loop [3, 4] (fun m i => ∃ k : Nat, 1 ≤ k ∧ k ≤ zs.length ∧ i = .int .i64 k ∧ m = .int .i64 (at0 zs (leastTo zs k))) (fun _ i => zs.length - (intOf i).toNat)
  case atStart => exact ⟨1, by omega, by omega, rfl, by rw [H1.out]⟩
  case round =>
    obtain ⟨k, hk1, hk, rfl, rfl⟩ := hrel
    by_cases hlt : k < zs.length
    · obtain ⟨b', off', e, _, _, hc⟩ := hr.at_ hlt
      injection e with e
      injection e with e1 e2 e3
      subst e1; subst e2
      have e0 : zs[k]?.getD 0 = at0 zs k := rfl
      rw [e0] at hc
      have Hr := Lib.hid hr
      have Hs := Lib.hid (leastTo_succ_at zs k)
      clear hr e0 e3
      by_cases hle : at0 zs k < at0 zs (leastTo zs k)
      · have hf : at0 zs (leastTo zs (k + 1)) = at0 zs k := by rw [Hs.out, if_pos hle]
        have Hf := Lib.hid hf
        have g2 : ¬ at0 zs (leastTo zs k) ≤ at0 zs k := by omega
        clear hf
        go_wp2
        go_round
        case rel => exact ⟨k + 1, by omega, by omega, by go_num, by rw [Hf.out]; congr 1; omega⟩
        case measure => simp [intOf]; omega
      · have hf : at0 zs (leastTo zs (k + 1)) = at0 zs (leastTo zs k) := by rw [Hs.out, if_neg hle]
        have Hf := Lib.hid hf
        have g2 : at0 zs (leastTo zs k) ≤ at0 zs k := by omega
        clear hf
        go_wp2
        go_round
        case rel => exact ⟨k + 1, by omega, by omega, by go_num, by rw [Hf.out]; congr 1; omega⟩
        case measure => simp [intOf]; omega
    · obtain rfl : k = zs.length := by omega
      go_wp2
      go_ret
      exact ⟨rfl, rfl⟩

set_option maxHeartbeats 400000 in
theorem index_c (A : Option Addr) (c : Nat) (zs : List Int) (p : Nat) (w : World) (ha : Arg w A c zs) (hp : p < zs.length) (hfirst : ∀ j, j < p → at0 zs p < at0 zs j) :
    Calls Try.prog 50 #[.slice A zs.length c, .int .i64 (at0 zs p)] w fun e w' => e = .returned (.int .i64 p) ∧ w = w' := by
  obtain ⟨hl, _, _, hr⟩ := ha
  have Hf := Lib.hid hfirst
  clear hfirst
  go_enter Try.func50, Try.ntmps50
  go_wp2
  go_loop [8] (fun i => ∃ k : Nat, k ≤ p ∧ i = .int .i64 k) (fun i => zs.length - (intOf i).toNat)
  case atStart => exact ⟨0, by omega, rfl⟩
  case round =>
    obtain ⟨k, hk, rfl⟩ := hrel
    have hlt : k < zs.length := by omega
    obtain ⟨b, off, rfl, _, _, hc⟩ := hr.at_ hlt
    have e0 : zs[k]?.getD 0 = at0 zs k := rfl
    rw [e0] at hc
    have Hr := Lib.hid hr
    clear hr e0
    by_cases hkp : k = p
    · subst hkp
      have hb : (at0 zs k == at0 zs k) = true := by simp
      go_wp2
      go_ret
      exact ⟨rfl, rfl⟩
    · have hlt2 := Hf.out k (by omega)
      have hb : (at0 zs p == at0 zs k) = false := by rw [beq_eq_false_iff_ne]; omega
      go_wp2
      go_round
      case rel => exact ⟨k + 1, by omega, by go_num⟩
      case measure => simp [intOf]; omega

set_option maxHeartbeats 2000000 in
theorem implNetWeakest_b (n : Int) (A : Option Addr) (c : Nat) (ss : List Lin) (f t : Int) (w : World) (ha : ArgL w A c ss) :
    Calls Try.prog 19 #[.int .i64 n, .slice A ss.length c, .int .i64 f, .int .i64 t] w (RetB (.tuple #[.int .i64 (wkI n ss f t : Int), .bool (wkB n ss f t)]) w) := by
  have HA := Lib.hid ha
  have h10 := lf_le (n := n) (N := ss) (f := f) (t := t)
  have hI : wkI n ss f t = leastTo (lfL n ss f t) (lfL n ss f t).length := rfl
  have hB : wkB n ss f t = decide (0 < (lfL n ss f t).length) := rfl
  have hcall := trafficsLeft_c n A c ss f t w ha
  obtain ⟨zs, hz⟩ : ∃ zs, lfL n ss f t = zs := ⟨_, rfl⟩
  rw [hz] at h10 hI hB hcall
  have HI := Lib.hid hI
  have HB := Lib.hid hB
  have Hc := Lib.hid hcall
  clear ha hI hB hcall hz
  go_enter Try.func19, Try.ntmps19
  go_wp2_with fail
  refine Hc.out.mono ?_
  rintro e w1 ⟨A1, c1, rfl, ra1, _, rb1⟩
  dsimp only [id]
  have Ra := Lib.hid ra1
  have Rb := Lib.hid rb1
  clear ra1 rb1
  by_cases h0 : zs.length = 0
  · have hb0 : ((zs.length : Int) == 0) = true := by rw [h0]; rfl
    have N : Hid (wkI n ss f t = 0 ∧ wkB n ss f t = false) := Lib.hid ⟨by rw [HI.out, h0]; rfl, by rw [HB.out, h0]; rfl⟩
    clear h0
    go_wp2
    go_ret2
    exact ⟨by rw [N.out.1, N.out.2] <;> rfl, Rb.out⟩
  · have hb0 : ((zs.length : Int) == 0) = false := by rw [beq_eq_false_iff_ne]; omega
    have hp := leastTo_prop zs zs.length (by omega)
    have N : Hid (wkI n ss f t = leastTo zs zs.length ∧ wkB n ss f t = true) := Lib.hid ⟨HI.out, by rw [HB.out]; exact decide_eq_true (by omega)⟩
    have Hidx := Lib.hid (index_c A1 c1 zs (leastTo zs zs.length) w1 Ra.out hp.1 hp.2.2)
    have Hmin := Lib.hid (min_c A1 c1 zs w1 Ra.out (by omega))
    obtain ⟨p, hpp⟩ : ∃ p, leastTo zs zs.length = p := ⟨_, rfl⟩
    rw [hpp] at N Hidx Hmin
    obtain ⟨v, hv⟩ : ∃ v, at0 zs p = v := ⟨_, rfl⟩
    rw [hv] at Hidx Hmin
    clear hp hpp hv
    go_wp2_with fail
    refine Hmin.out.mono ?_
    rintro e w2 ⟨rfl, rfl⟩
    go_wp2_with fail
    refine Hidx.out.mono ?_
    rintro e w2 ⟨rfl, rfl⟩
    go_wp2
    go_ret2
    exact ⟨by rw [N.out.1, N.out.2] <;> rfl, Rb.out⟩

set_option maxRecDepth 100000 in
set_option maxHeartbeats 4000000 in
theorem implNetNeeded_b (n : Int) (A : Option Addr) (c : Nat) (ss : List Lin) (f t : Int) (w : World) (ha : ArgL w A c ss) :
    Calls Try.prog 21 #[.int .i64 n, .slice A ss.length c, .int .i64 f, .int .i64 t] w (RetS 3 id (ndV n ss f t) w) := by
  obtain ⟨i0, hi, hz0, hz1, hz2⟩ := info_parts intInf
  have HA := Lib.hid ha
  have h10 := lf_le (n := n) (N := ss) (f := f) (t := t)
  have hV : ndV n ss f t = ndTo (lfL n ss f t) (mostV n ss f t) (lfL n ss f t).length := rfl
  have hmost := implTrafficMost_b n A c ss f t w ha
  have hcall := fun (W : World) (h : ArgL W A c ss) => trafficsLeft_c n A c ss f t W h
  obtain ⟨zs, hz⟩ : ∃ zs, lfL n ss f t = zs := ⟨_, rfl⟩
  obtain ⟨M, hM⟩ : ∃ M, mostV n ss f t = M := ⟨_, rfl⟩
  rw [hz] at h10 hV hcall
  rw [hM] at hmost hV
  have HV := Lib.hid hV
  have Hc := Lib.hid hcall
  have Hm := Lib.hid hmost
  clear ha hV hcall hz hmost hM
  go_enter Try.func21, Try.ntmps21
  go_wp2_with fail
  refine Hm.out.mono ?_
  rintro e w1 ⟨rfl, hb1⟩
  have Hb1 := Lib.hid hb1
  clear hb1
  go_wp2_with fail
  refine (Hc.out _ (HA.out.go Hb1.out)).mono ?_
  rintro e w2 ⟨A2, c2, rfl, ra2, ro2, rb2⟩
  dsimp only [id]
  have Ra := Lib.hid (ro2.held (Nat.le_refl _) ra2.len)
  have Hb2 := Lib.hid (below_step Hb1.out rb2)
  have hsz2 := Hb2.out.size
  have hsz1 := Hb1.out.size
  clear ra2 ro2 rb2
  go_wp2
  go_loopw [10, 24] (fun lv i wr => ∃ (k : Nat) (xs : List Int) (sv : Value), k ≤ zs.length ∧ i = .int .i64 k ∧ lv = sv ∧ xs = ndTo zs M k ∧ wr.ownsRow w2.heap.size 3 1 sv xs.length (xs.map (Value.int .i64)) ∧ Below w2.heap.size w2 wr) (fun _ i _ => zs.length - (intOf i).toNat)
  case atStart => exact ⟨0, [], _, Nat.zero_le _, rfl, rfl, rfl, World.ownsRow_nil _ _ _ _, Below.refl _ _⟩
  case round =>
    obtain ⟨k, xs, sv, hk, rfl, rfl, hx, ho, hb⟩ := hrel
    have hxl : xs.length ≤ k := by rw [hx]; exact ndTo_len _ _ _
    have Hx := Lib.hid hx
    have Ho := Lib.hid ho
    have Hb := Lib.hid hb
    have hwsz := hb.size
    have hra := (Ra.out.go (hb.mono (Nat.le_refl _))).arg
    clear hx ho hb
    by_cases hlt : k < zs.length
    · obtain ⟨b, off, rfl, _, _, hc⟩ := hra.rd.at_ hlt
      have e0 : zs[k]?.getD 0 = at0 zs k := rfl
      rw [e0] at hc
      have Hs := Lib.hid (show ndTo zs M (k + 1) = if at0 zs k < M then ndTo zs M k ++ [(k : Int)] else ndTo zs M k from rfl)
      obtain ⟨y, hy⟩ : ∃ y, at0 zs k = y := ⟨_, rfl⟩
      rw [hy] at hc Hs
      have g1 : (k : Int) < (zs.length : Int) := by omega
      clear e0 hy hra
      by_cases hlm : y < M
      · have N : Hid (ndTo zs M (k + 1) = ndTo zs M k ++ [(k : Int)]) := Lib.hid (by rw [Hs.out, if_pos hlm])
        go_wp2_with (at_builtin; refine wpList_append_ints rfl (.tmp 32) (.tmp 34) 27 rfl w2.heap.size 3 i0 (.int .i64 0) Try.underlying27 hi hz0 hz1 hz2 rfl _ xs rfl (Ho.out.alloc _) (some ⟨_, 0, none⟩) 1 [(k : Int)] rfl (arg_one _ (k : Int) _) (by simp; omega) (by simp; omega) ?_; intro v' w5 hown5 hg5; have H5 := Lib.hid hown5; have Hb5 := Lib.hid ((Hb.out.alloc hwsz _).grown hg5 (by simp; omega) (fun g e => (Ho.out.lt g e).1)); clear hown5 hg5)
        go_roundw
        case rel => exact ⟨k + 1, _, _, by omega, by go_num, rfl, by rw [N.out, Hx.out], H5.out, Hb5.out⟩
        case measure => simp [intOf]; omega
      · have N : Hid (ndTo zs M (k + 1) = ndTo zs M k) := Lib.hid (by rw [Hs.out, if_neg hlm])
        go_wp2
        go_roundw
        case rel => exact ⟨k + 1, xs, _, by omega, by go_num, rfl, by rw [N.out, Hx.out], Ho.out, Hb.out⟩
        case measure => simp [intOf]; omega
    · obtain rfl : k = zs.length := by omega
      clear hra
      go_wp2
      go_ret
      rw [HV.out, ← Hx.out]
      exact RetS.mk (f := id) (by omega) (OwnsRow.more Ho.out hsz2) (Hb2.out.trans (Hb.out.mono hsz2))
end Go.Proofs.Ytiajfpmlcchodaa
