/-
  PlanRate of the model.
-/
import Derived.Test.YtodboccadccpfaaDoorPbM
import Derived.Test.YtodboccadccpfaaDoorPlV
import Derived.Test.YtodboccadccpfaaDoorApI0
import Derived.Test.YtodboccadccpfaaDoorTkH0
namespace Go.Proofs.YtodboccadccpfaaDoor
open Go.RowKit

theorem Arg.dropI {w : World} {b off c : Nat} {zs : List Int} (h : Arg w (some ⟨b, off, none⟩) c zs) (k : Nat) : Arg w (some ⟨b, off + k, none⟩) (c - k) (zs.drop k) := by
  have h1 : (zs.drop k).length = zs.length - k := by simp
  refine ⟨by have := h.1; omega, by have := h.2.1; omega, by have := h.2.2.1; omega, fun hn => ?_⟩
  obtain ⟨b', off', e, l1, l2, l3⟩ := h.rd (by omega)
  injection e with e
  injection e with e1 e2 _
  subst e1; subst e2
  refine ⟨b, off + k, rfl, l1, l2, fun j hj => ?_⟩
  have := l3 (k + j) (by omega)
  rw [List.getElem?_drop, ← this]
  congr 2
  omega

theorem Arg.dropJ {w : World} {b off c : Nat} {zs : List Int} (h : Arg w (some ⟨b, off, none⟩) c zs) (hc : zs.length ≤ c) (k : Nat) : Arg w (some ⟨b, off + (if c = k then 0 else k), none⟩) (c - k) (zs.drop k) := by
  by_cases e : c = k
  · rw [if_pos e, List.drop_eq_nil_of_le (by omega)]
    exact ⟨by simp, by simp, by have := h.2.2.1; omega, Rd.nil⟩
  · rw [if_neg e]
    exact h.dropI k

set_option maxRecDepth 100000 in
set_option maxHeartbeats 2000000 in
theorem l6rAhead_c (A : Option Addr) (c : Nat) (J : List Jbs) (hJ : jbB J = true) (x k : Nat) (w : World) (ha : ArgJ w A c J) (hxk : x < k) (hk : k < J.length) :
    Calls Tryd.prog 45 #[.slice A J.length c, .int .i64 x, .int .i64 k] w (RetB (.bool (rgB J x k)) w) := by
  have hjl := ha.len
  have hx : x < J.length := by omega
  obtain ⟨b, off, rfl, _, _, hx0, hx1⟩ := ha.rd.at_ hx
  obtain ⟨b', off', e, _, _, hy0, hy1⟩ := ha.rd.at_ hk
  injection e with e
  injection e with e1 e2 _
  subst e1; subst e2
  have dx := jbB_at hJ hx
  have dy := jbB_at hJ hk
  have hv : rgB J (x : Int) (k : Int) = decide ((jbsAt J k).g * (jbsAt J x).d ≤ (jbsAt J x).g * (jbsAt J k).d) := by unfold rgB; rw [Int.toNat_natCast, Int.toNat_natCast]
  have m1 := mul_bd (a := (jbsAt J k).g) (b := (jbsAt J x).d) (m := 9) (n := 9) (by omega) (by omega) (by omega) (by omega)
  have m2 := mul_bd (a := (jbsAt J x).g) (b := (jbsAt J k).d) (m := 9) (n := 9) (by omega) (by omega) (by omega) (by omega)
  obtain ⟨sx, hsx⟩ : ∃ s, jbsAt J x = s := ⟨_, rfl⟩
  obtain ⟨sy, hsy⟩ : ∃ s, jbsAt J k = s := ⟨_, rfl⟩
  rw [hsx] at hx0 hx1 hv m1 m2
  rw [hsy] at hy0 hy1 hv m1 m2
  obtain ⟨u, hu⟩ : ∃ u, sy.g * sx.d = u := ⟨_, rfl⟩
  obtain ⟨v, hv2⟩ : ∃ v, sx.g * sy.d = v := ⟨_, rfl⟩
  have q1 : IntKind.i64.wrap (sy.g * sx.d) = u := by rw [← hu]; exact IntWalk.i64_in _ (by omega)
  have q2 : IntKind.i64.wrap (sx.g * sy.d) = v := by rw [← hv2]; exact IntWalk.i64_in _ (by omega)
  rw [hu, hv2] at hv
  have Hv := Lib.hid hv
  have g1 : (x : Int) < (J.length : Int) := by omega
  have g2 : (k : Int) < (J.length : Int) := by omega
  have g3 : (x : Int) < (k : Int) := by omega
  clear ha hsx hsy hu hv2 hv
  go_enter Tryd.func45, Tryd.ntmps45
  go_wp2
  go_quiet (fail)
  go_wp2
  go_quiet (fail)
  by_cases x1 : u < v
  · have x1d : decide (u < v) = true := decide_eq_true x1
    have Hd := Lib.hid (show decide (u ≤ v) = true from decide_eq_true (by omega))
    go_wp2
    go_ret
    exact ⟨by rw [Hv.out, Hd.out]; rfl, below_drewN (Below.refl _ _) _⟩
  · have x1d : decide (u < v) = false := decide_eq_false x1
    by_cases x2 : v = u
    · have Hd := Lib.hid (show decide (u ≤ v) = true from decide_eq_true (by omega))
      have x2b : (v == u) = true := by simp [x2]
      go_wp2
      go_ret
      exact ⟨by rw [Hv.out, Hd.out]; rfl, below_drewN (Below.refl _ _) _⟩
    · have Hd := Lib.hid (show decide (u ≤ v) = false from decide_eq_false (by omega))
      have x2b : (v == u) = false := by simp [x2]
      go_wp2
      go_ret
      exact ⟨by rw [Hv.out, Hd.out]; rfl, below_drewN (Below.refl _ _) _⟩

set_option maxRecDepth 100000 in
set_option maxHeartbeats 4000000 in
theorem specPlanRate_b (s : ByteArray) (A : Option Addr) (c : Nat) (J : List Jbs) (w : World) (hs : s.size ≤ 2097152) (ha : ArgJ w A c J) :
    Calls Tryd.prog 22 #[.string s, .slice A J.length c] w (RetS 3 (fun v => .tuple #[v, .bool (timeB (byL s) J)]) (rateL (byL s) J) w) := by
  obtain ⟨i0, hi, hz0, hz1, hz2⟩ := info_parts intInf
  have hbn := below_none w 3
  have hown := own_none w 3
  have HA := Lib.hid (ha.go hbn)
  have Hok := Lib.hid (l6rOk_c s hs A c J _ (ha.go hbn))
  have Hbn := Lib.hid hbn
  have Hown := Lib.hid hown
  have hjl := ha.len
  clear ha hbn hown
  cases ht : timeB (byL s) J
  · have Hn := Lib.hid (rateL_no ht)
    have Ht := Lib.hid ht
    clear ht
    go_enter Tryd.func22, Tryd.ntmps22
    go_wp2_with fail
    refine Hok.out.mono ?_
    rintro e w1 ⟨rfl, rfl⟩
    rw [Ht.out]
    go_wp2
    go_ret2
    rw [Hn.out]
    exact RetS.mk (f := fun v => .tuple #[v, .bool false]) (by simp) Hown.out Hbn.out
  obtain ⟨_, hJ, _⟩ := timeB_true.1 ht
  have hj6 := (jbB_true.1 hJ).1
  have Hy := Lib.hid (rateL_yes ht)
  have Ht := Lib.hid ht
  have HJ := Lib.hid hJ
  clear ht hJ
  go_enter Tryd.func22, Tryd.ntmps22
  go_wp2_with fail
  refine Hok.out.mono ?_
  rintro e w1 ⟨rfl, rfl⟩
  rw [Ht.out]
  go_wp2
  obtain ⟨w1, hw1⟩ : ∃ w1, w.alloc (.cells #[] 3) = w1 := ⟨_, rfl⟩
  rw [hw1] at HA Hown Hbn
  rw [hw1]
  have Hst := Lib.hid (show ∃ b off c9, Value.slice (some ⟨w.heap.size, 0, none⟩) 0 0 = .slice (some ⟨b, off, none⟩) 0 c9 ∧ Ow 3 w.heap.size w1.heap.size w1 (.slice (some ⟨b, off, none⟩) 0 c9) [] from ⟨_, _, _, rfl, Ow.of_own Hown.out⟩)
  clear Hok hw1
  go_loopw [6, 7] (fun ov kv wr => ∃ (k b off c9 : Nat), k ≤ J.length ∧ kv = .int .i64 k ∧ ov = .slice (some ⟨b, off, none⟩) k c9 ∧ Ow 3 w.heap.size wr.heap.size wr (.slice (some ⟨b, off, none⟩) k c9) (rateT J k) ∧ Below w.heap.size w wr ∧ Below w1.heap.size w1 wr) (fun _ kv _ => J.length - (intOf kv).toNat)
  case atStart =>
    obtain ⟨b, off, c9, e, ho⟩ := Hst.out
    exact ⟨0, b, off, c9, Nat.zero_le _, rfl, e, ho, Hbn.out, Below.refl _ _⟩
  case round =>
    obtain ⟨k, b, off, c9, hk, rfl, rfl, ho, hb, hbw⟩ := hrel
    obtain ⟨W0, hW0⟩ : ∃ W0, W0 = wr := ⟨_, rfl⟩
    subst hW0
    have hln := rateT_len J k
    obtain ⟨A9, c8, e, hc8, hcm, _⟩ := ho.form
    injection e with e1 e2 e3
    subst e1; subst e3
    clear e2
    rw [hln] at hc8
    have ho2 : Ow 3 w.heap.size W0.heap.size W0 (.slice (some ⟨b, off, none⟩) (rateT J k).length c9) (rateT J k) := by rw [hln]; exact ho
    have harg := ho2.arg (by omega) (Nat.le_refl _)
    by_cases hlt : k < J.length
    case neg =>
      obtain rfl : k = J.length := by omega
      have g00 : ¬ (J.length : Int) < (J.length : Int) := by omega
      have Hfin := Lib.hid (show RetS 3 (fun v => .tuple #[v, .bool true]) (rateL (byL s) J) w (.returned (.tuple #[.slice (some ⟨b, off, none⟩) J.length c9, .bool true])) W0 from ⟨some ⟨b, off, none⟩, c9, by rw [Hy.out, hln], by rw [Hy.out]; exact harg, by rw [Hy.out]; exact ho2, hb⟩)
      clear ho ho2 hb hbw harg hln
      go_wp2
      go_ret2
      exact Hfin.out
    case pos =>
      have g00 : (k : Int) < (J.length : Int) := by omega
      have Hbd := Lib.hid (fun (j : Nat) (h : j < k) => rateT_at J h)
      have Hon := Lib.hid (fun (j : Nat) h1 h2 => left_on (J := J) (k := k) (j := j) h1 h2)
      have Hl1 := Lib.hid (rateT_len J (k + 1))
      obtain ⟨l, hl⟩ : ∃ l, rateT J k = l := ⟨_, rfl⟩
      rw [hl] at Hbd Hon ho harg hln
      have Harg := Lib.hid harg
      have Hb := Lib.hid hb
      have Hbw := Lib.hid hbw
      clear ho ho2 hb hbw harg hl Hst
      go_wp2
      go_loopw [8] (fun jv wr => ∃ j : Nat, j ≤ k ∧ jv = .int .i64 j ∧ (∀ a, a < j → rgB J (l[a]?.getD 0) (k : Int) = true) ∧ Below W0.heap.size W0 wr) (fun jv _ => k - (intOf jv).toNat)
      case atStart => exact ⟨0, Nat.zero_le _, rfl, fun a h => by omega, Below.refl _ _⟩
      case round =>
        obtain ⟨j, hj, rfl, hp, hbj⟩ := hrel
        have Hp := Lib.hid hp
        have Hbj := Lib.hid hbj
        have a2 := Harg.out.go hbj
        clear hp hbj
        by_cases hjk : j < k
        case neg =>
          have g2 : ¬ (j : Int) < (k : Int) := by omega
          have g3 : decide ((j : Int) < (k : Int)) = false := decide_eq_false g2
          have hsp := Hon.out j Hp.out (fun h => by omega)
          obtain ⟨X1, hX1⟩ : ∃ X, l.take j = X := ⟨_, rfl⟩
          obtain ⟨X2, hX2⟩ : ∃ X, l.drop j = X := ⟨_, rfl⟩
          have hx1 : X1.length = j := by rw [← hX1]; simp; omega
          have hx2 : X2.length = k - j := by rw [← hX2]; simp; omega
          have hA1 := (a2).take j
          have hA2 := (a2).dropJ (by omega) j
          rw [hX1] at hsp hA1
          rw [hX2] at hsp hA2
          have HA1 := Lib.hid hA1
          have HA2 := Lib.hid hA2
          have Hsp := Lib.hid hsp
          have g4 : (j : Int) ≤ (k : Int) := by omega
          have g5 : (j : Int) ≤ (c9 : Int) := by omega
          have g6 : j ≤ k := by omega
          have g7 : j ≤ c9 := by omega
          have g8 : (0 : Int) ≤ (j : Int) := by omega
          have g9 : (k : Int) ≤ (c9 : Int) := by omega
          have g10 : k ≤ c9 := by omega
          clear hA1 hA2 hX1 hX2 hsp a2
          go_wp2_with (at_builtin; first
            | (refine wpList_append_ints rfl (.tmp 37) (.tmp 40) 24 rfl wr.heap.size 3 i0 (.int .i64 0) Tryd.underlying24 hi hz0 hz1 hz2 rfl (.slice (some ⟨wr.heap.size, 0, none⟩) 0 0) [] rfl (own_none wr _) (some ⟨b, off, none⟩) c9 X1 (by rw [hx1]; rfl) (HA1.out.go (below_none wr _)) (by simp; omega) (by simp) ?_; intro v1 w3 hown3 hg3; have H3 := Lib.hid (next1 hown3 hg3); clear hown3 hg3)
            | (refine wpList_append_ints rfl (.tmp 42) (.tmp 44) 24 rfl wr.heap.size 3 i0 (.int .i64 0) Tryd.underlying24 hi hz0 hz1 hz2 rfl v1 X1 rfl (H3.out.1.alloc _) (some ⟨w3.heap.size, 0, none⟩) 1 [(k : Int)] rfl (arg_one w3 (k : Int) _) (by simp; omega) (by simp; have := H3.out.2.size; omega) ?_; intro v2 w4 hown4 hg4; have H4 := Lib.hid (And.intro hown4 ((H3.out.2.alloc H3.out.2.size _).grown hg4 (by simp; have := H3.out.2.size; omega) (fun q e => (H3.out.1.lt q e).1))); clear hown4 hg4)
            | (refine wpList_append_ints rfl (.tmp 46) (.tmp 49) 24 rfl wr.heap.size 3 i0 (.int .i64 0) Tryd.underlying24 hi hz0 hz1 hz2 rfl v2 (X1 ++ [(k : Int)]) rfl H4.out.1 (some ⟨b, off + (if c9 = j then 0 else j), none⟩) (c9 - j) X2 (by by_cases hcj : c9 = j <;> first | (simp [Act.eval, hx2, hcj]; done) | (exfalso; omega)) (HA2.out.go H4.out.2) (by simp; omega) H4.out.2.size ?_; intro v3 w5 hown5 hg5; have H5 := Lib.hid (And.intro hown5 (H4.out.2.grown hg5 H4.out.2.size (fun q e => (H4.out.1.lt q e).1))); clear hown5 hg5))
          have hl1 := Hl1.out
          have ho5 := Ow.of_own H5.out.1
          rw [← Hsp.out] at ho5
          obtain ⟨A5, c5, rfl, hca, hcb, hrd⟩ := ho5.form
          obtain ⟨b5, off5, rfl, _, _, _⟩ := hrd.at_ (k := 0) (by omega)
          have hch := below_step Hbj.out H5.out.2
          have Hch := Lib.hid hch
          have Hov := Lib.hid (show Ow 3 w.heap.size w5.heap.size w5 (.slice (some ⟨b5, off5, none⟩) (k + 1) c5) (rateT J (k + 1)) by
            rw [hl1] at ho5
            exact ho5.more (below_step (below_step Hb.out Hbj.out) (Below.refl _ _)).size (Nat.le_refl _))
          clear ho5 hrd hch hl1
          go_wp2
          go_roundw
          case rel => exact ⟨k + 1, b5, off5, c5, by omega, by go_num, by rw [Hl1.out], Hov.out, below_step Hb.out Hch.out, below_step Hbw.out Hch.out⟩
          case measure => simp [intOf]; omega
        case pos =>
          have g2 : (j : Int) < (k : Int) := by omega
          have hjl2 : j < l.length := by omega
          obtain ⟨b', off', e, _, _, hc0⟩ := a2.rd.at_ hjl2
          injection e with e
          injection e with e1 e2 _
          subst e1; subst e2
          obtain ⟨hx0, hxk⟩ := Hbd.out j hjk
          have hp1 := fun (h : rgB J (l[j]?.getD 0) (k : Int) = true) (a : Nat) (ha : a < j + 1) => (show rgB J (l[a]?.getD 0) (k : Int) = true by
            rcases Decidable.em (a = j) with e | e
            · rw [e]; exact h
            · exact Hp.out a (by omega))
          have hfl := fun (h : rgB J (l[j]?.getD 0) (k : Int) = false) (_ : j < k) => h
          obtain ⟨x, hx⟩ : ∃ x : Nat, l[j]?.getD 0 = (x : Int) := ⟨(l[j]?.getD 0).toNat, by omega⟩
          rw [hx] at hc0 hxk
          have hah := l6rAhead_c A c J HJ.out x k wr (HA.out.go (below_step Hbw.out Hbj.out)) (by omega) hlt
          cases hr : rgB J (x : Int) (k : Int)
          case true =>
            rw [hr] at hah
            have Hah := Lib.hid hah
            have Hp1 := Lib.hid (hp1 (by rw [hx]; exact hr))
            clear hah hp1 hfl hr hx hx0 hxk a2
            go_wp2_with fail
            refine Hah.out.mono ?_
            rintro e w2 ⟨rfl, hb2⟩
            have Hb2 := Lib.hid hb2
            clear hb2
            go_wp2
            go_roundw
            case rel => exact ⟨j + 1, by omega, by go_num, Hp1.out, below_step Hbj.out Hb2.out⟩
            case measure => simp [intOf]; omega
          case false =>
            rw [hr] at hah
            have Hah := Lib.hid hah
            have Hfl := Lib.hid (hfl (by rw [hx]; exact hr))
            clear hah hp1 hfl hr hx hx0 hxk a2
            go_wp2_with fail
            refine Hah.out.mono ?_
            rintro e w2 ⟨rfl, hb2⟩
            have Hb2 := Lib.hid hb2
            have a2 := Harg.out.go (below_step Hbj.out hb2)
            clear hb2
            have hsp := Hon.out j Hp.out (Hfl.out)
            obtain ⟨X1, hX1⟩ : ∃ X, l.take j = X := ⟨_, rfl⟩
            obtain ⟨X2, hX2⟩ : ∃ X, l.drop j = X := ⟨_, rfl⟩
            have hx1 : X1.length = j := by rw [← hX1]; simp; omega
            have hx2 : X2.length = k - j := by rw [← hX2]; simp; omega
            have hA1 := (a2).take j
            have hA2 := (a2).dropJ (by omega) j
            rw [hX1] at hsp hA1
            rw [hX2] at hsp hA2
            have HA1 := Lib.hid hA1
            have HA2 := Lib.hid hA2
            have Hsp := Lib.hid hsp
            have g4 : (j : Int) ≤ (k : Int) := by omega
            have g5 : (j : Int) ≤ (c9 : Int) := by omega
            have g6 : j ≤ k := by omega
            have g7 : j ≤ c9 := by omega
            have g8 : (0 : Int) ≤ (j : Int) := by omega
            have g9 : (k : Int) ≤ (c9 : Int) := by omega
            have g10 : k ≤ c9 := by omega
            clear hA1 hA2 hX1 hX2 hsp a2
            go_wp2_with (at_builtin; first
              | (refine wpList_append_ints rfl (.tmp 37) (.tmp 40) 24 rfl w2.heap.size 3 i0 (.int .i64 0) Tryd.underlying24 hi hz0 hz1 hz2 rfl (.slice (some ⟨w2.heap.size, 0, none⟩) 0 0) [] rfl (own_none w2 _) (some ⟨b, off, none⟩) c9 X1 (by rw [hx1]; rfl) (HA1.out.go (below_none w2 _)) (by simp; omega) (by simp) ?_; intro v1 w3 hown3 hg3; have H3 := Lib.hid (next1 hown3 hg3); clear hown3 hg3)
              | (refine wpList_append_ints rfl (.tmp 42) (.tmp 44) 24 rfl w2.heap.size 3 i0 (.int .i64 0) Tryd.underlying24 hi hz0 hz1 hz2 rfl v1 X1 rfl (H3.out.1.alloc _) (some ⟨w3.heap.size, 0, none⟩) 1 [(k : Int)] rfl (arg_one w3 (k : Int) _) (by simp; omega) (by simp; have := H3.out.2.size; omega) ?_; intro v2 w4 hown4 hg4; have H4 := Lib.hid (And.intro hown4 ((H3.out.2.alloc H3.out.2.size _).grown hg4 (by simp; have := H3.out.2.size; omega) (fun q e => (H3.out.1.lt q e).1))); clear hown4 hg4)
              | (refine wpList_append_ints rfl (.tmp 46) (.tmp 49) 24 rfl w2.heap.size 3 i0 (.int .i64 0) Tryd.underlying24 hi hz0 hz1 hz2 rfl v2 (X1 ++ [(k : Int)]) rfl H4.out.1 (some ⟨b, off + (if c9 = j then 0 else j), none⟩) (c9 - j) X2 (by by_cases hcj : c9 = j <;> first | (simp [Act.eval, hx2, hcj]; done) | (exfalso; omega)) (HA2.out.go H4.out.2) (by simp; omega) H4.out.2.size ?_; intro v3 w5 hown5 hg5; have H5 := Lib.hid (And.intro hown5 (H4.out.2.grown hg5 H4.out.2.size (fun q e => (H4.out.1.lt q e).1))); clear hown5 hg5))
            have hl1 := Hl1.out
            have ho5 := Ow.of_own H5.out.1
            rw [← Hsp.out] at ho5
            obtain ⟨A5, c5, rfl, hca, hcb, hrd⟩ := ho5.form
            obtain ⟨b5, off5, rfl, _, _, _⟩ := hrd.at_ (k := 0) (by omega)
            have hch := below_step Hbj.out (below_step Hb2.out H5.out.2)
            have Hch := Lib.hid hch
            have Hov := Lib.hid (show Ow 3 w.heap.size w5.heap.size w5 (.slice (some ⟨b5, off5, none⟩) (k + 1) c5) (rateT J (k + 1)) by
              rw [hl1] at ho5
              exact ho5.more (below_step (below_step Hb.out Hbj.out) Hb2.out).size (Nat.le_refl _))
            clear ho5 hrd hch hl1
            go_wp2
            go_roundw
            case rel => exact ⟨k + 1, b5, off5, c5, by omega, by go_num, by rw [Hl1.out], Hov.out, below_step Hb.out Hch.out, below_step Hbw.out Hch.out⟩
            case measure => simp [intOf]; omega

end Go.Proofs.YtodboccadccpfaaDoor
