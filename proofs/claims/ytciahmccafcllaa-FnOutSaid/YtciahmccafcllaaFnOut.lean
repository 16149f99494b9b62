/-
  The law FnOut: what is paid out, and the other ship's stowage. For all codes it answers true. No condition.
-/
import Derived.Test.YtciahmccafcllaaODrawS
import Derived.Test.YtciahmccafcllaaBackOf
import Derived.Test.YtciahmccafcllaaTkL
import Derived.Test.YtciahmccafcllaaOutI
import Derived.Test.YtciahmccafcllaaOutS
import Derived.Test.YtciahmccafcllaaSame
import Derived.Test.YtciahmccafcllaaRowB
import Derived.Test.YtciahmccafcllaaFac
import Derived.Deep.QuietTactic
import Derived.BigQuiet
namespace Go.Proofs.Ytciahmccafcllaa
open Go.ChangeShapes Go.WideShapes Go.ChangeAt Go.RowKit

set_option maxHeartbeats 4000000 in
theorem fnOut_in (A : Option Addr) (n c : Nat) (w : World) (hl : n ≤ 1048576) (hnc : n ≤ c) (hb : Bytes w.heap.size w A n) :
    Calls Try.prog 6 #[.slice A n c] w (RetB (.bool true) w) := by
  have Hb := Lib.hid hb
  clear hb
  go_enter Try.func6, Try.ntmps6
  go_wp2_with fail
  refine (DrawStowageOut_c A n c _ (by omega) hnc Hb.out).mono ?_
  rintro e w1 ⟨B, d, L, C, d2, T, rfl, hzl, hzt, hA, hA2, hB⟩
  have Ha := Lib.hid hA
  have Hc := Lib.hid hA2
  have Bt := Lib.hid hB
  clear hA hA2 hB Hb
  obtain ⟨K, hK⟩ : ∃ K, outS L T = K := ⟨_, rfl⟩
  have HK := Lib.hid hK
  go_wp2_with fail
  refine (implStowageOut_b B d L C d2 T _ Ha.out Hc.out).mono ?_
  rintro e w2 ⟨B5, d5, rfl, ra5, ro5, rb2⟩
  dsimp only
  rw [hK] at ra5 ⊢
  replace Ha := Lib.hid (Ha.out.go rb2)
  replace Hc := Lib.hid (Hc.out.go rb2)
  replace Bt := Lib.hid (below_step Bt.out rb2)
  have K2 := Lib.hid ra5
  clear ra5 ro5 rb2
  go_wp2_with fail
  refine (specStowageOut_b B d L C d2 T _ Ha.out Hc.out).mono ?_
  rintro e w3 ⟨B6, d6, rfl, ra6, ro6, rb3⟩
  dsimp only
  rw [hK] at ra6 ⊢
  replace Ha := Lib.hid (Ha.out.go rb3)
  replace Hc := Lib.hid (Hc.out.go rb3)
  replace Bt := Lib.hid (below_step Bt.out rb3)
  replace K2 := Lib.hid (K2.out.go rb3)
  have K3 := Lib.hid ra6
  clear ra6 ro6 rb3 hK
  cases hv : stowB L T
  · clear hv
    go_wp2_with fail
    refine (sameInts_c B5 B6 d5 d6 K K _ K2.out K3.out).mono ?_
    rintro e w4 ⟨rfl, m, rfl⟩
    rw [decide_eq_true (rfl : K = K)]
    have B4 := Lib.hid (below_drewN Bt.out m)
    have K4 := Lib.hid (K2.out.go (below_drewN (Below.refl w3.heap.size w3) m))
    have K5 := Lib.hid (K3.out.go (below_drewN (Below.refl w3.heap.size w3) m))
    go_wp2_with fail
    refine (sameInts_c B5 B6 d5 d6 K K _ K4.out K5.out).mono ?_
    rintro e w5 ⟨rfl, m2, rfl⟩
    rw [decide_eq_true (rfl : K = K)]
    have B5 := Lib.hid (below_drewN B4.out m2)
    rw [World.drewN_drewN] at B5
    go_wp2
    go_ret
    exact ⟨rfl, B5.out⟩
  have hKo : K = outL L T L.length := by rw [← HK.out, outS_yes hv]
  have HKl := Lib.hid (show K.length = L.length by rw [hKo, outL_len])
  have HTl := Lib.hid (stow_len hv)
  have Hord := Lib.hid (stow_ord hv)
  have h10 := ord_len (stow_ord hv)
  have HAt := Lib.hid (show ∀ i, i < L.length → K[(L[i]?.getD 0).toNat]?.getD 0 = T[i]?.getD 0 by rw [hKo]; exact fun i hi => outL_at (stow_ord hv) hi)
  have HLt := Lib.hid (fun i (hi : i < L.length) => ord_at (stow_ord hv) hi)
  have Hbs := Lib.hid (show stowB (backL L) K.reverse = true by rw [hKo]; exact back_stow hv)
  clear hv hKo HK
  go_wp2_with fail
  refine (sameInts_c B5 B6 d5 d6 K K _ K2.out K3.out).mono ?_
  rintro e w4 ⟨rfl, m, rfl⟩
  rw [decide_eq_true (rfl : K = K)]
  replace Ha := Lib.hid (Ha.out.go (below_drewN (Below.refl w3.heap.size w3) m))
  replace Hc := Lib.hid (Hc.out.go (below_drewN (Below.refl w3.heap.size w3) m))
  replace K2 := Lib.hid (K2.out.go (below_drewN (Below.refl w3.heap.size w3) m))
  replace Bt := Lib.hid (below_drewN Bt.out m)
  obtain ⟨W, hW⟩ : ∃ W, w3.drewN m = W := ⟨_, rfl⟩
  rw [hW] at Ha Hc K2 Bt ⊢
  clear hW K3
  go_wp2
  go_loopw [9] (fun i wr => ∃ k : Nat, k ≤ L.length ∧ i = .int .i64 k ∧ Below W.heap.size W wr) (fun i _ => L.length - (intOf i).toNat)
  case atStart => exact ⟨0, Nat.zero_le _, rfl, Below.refl _ _⟩
  case round =>
    obtain ⟨i, hi, rfl, hb1⟩ := hrel
    have Hb1 := Lib.hid hb1
    clear hb1
    by_cases hlt : i < L.length
    · have g1 : (i : Int) < (L.length : Int) := by omega
      have g2 : (i : Int) < (T.length : Int) := by have := HTl.out; omega
      obtain ⟨p0, p1⟩ := HLt.out i hlt
      have pat := HAt.out i hlt
      obtain ⟨b, off, rfl, _, _, hc0⟩ := (Ha.out.go Hb1.out).rd.at_ hlt
      obtain ⟨p, hp⟩ := Int.eq_ofNat_of_zero_le p0
      rw [hp] at hc0 p1 pat
      rw [Int.toNat_natCast] at pat
      obtain ⟨b5, off5, rfl, _, _, hc1⟩ := (K2.out.go Hb1.out).rd.at_ (show p < K.length by have := HKl.out; omega)
      obtain ⟨b2, off2, rfl, _, _, hc2⟩ := (Hc.out.go Hb1.out).rd.at_ (show i < T.length by have := HTl.out; omega)
      obtain ⟨y, hy⟩ : ∃ y, T[i]?.getD 0 = y := ⟨_, rfl⟩
      rw [pat, hy] at hc1
      rw [hy] at hc2
      have g3 : (p : Int) < (K.length : Int) := by have := HKl.out; omega
      have g4 : (0 : Int) ≤ (p : Int) := by omega
      have g5 : (0 : Int) ≤ (i : Int) := by omega
      clear p0 p1 pat hp hy
      go_wp2
      go_quiet (fail)
      have Hb2 := Lib.hid (below_drewN Hb1.out nq)
      go_wp2
      go_roundw
      case rel => exact ⟨i + 1, by omega, by go_num, Hb2.out⟩
      case measure => simp [intOf]; omega
    · obtain rfl : i = L.length := by omega
      have e1 : ((K.length : Int) == (L.length : Int)) = true := beq_iff_eq.2 (by have := HKl.out; omega)
      go_wp2_with fail
      refine (implOrdersBack_b B d L _ (Ha.out.go Hb1.out)).mono ?_
      rintro e w5 ⟨B7, d7, rfl, ra7, ro7, rb5⟩
      dsimp only
      rw [Hord.out]
      have hbk : bkR L = backL L := bk_yes Hord.out
      obtain ⟨M, hM⟩ : ∃ M, backL L = M := ⟨_, rfl⟩
      rw [hbk, hM] at ra7 ⊢
      rw [hM] at Hbs
      have M5 := Lib.hid ra7
      have K5 := Lib.hid ((K2.out.go Hb1.out).go rb5)
      have B5' := Lib.hid (below_step (below_step Bt.out Hb1.out) rb5)
      clear ra7 ro7 rb5 hbk hM
      go_wp2_with fail
      refine (backOf_c B5 d5 K _ K5.out).mono ?_
      rintro e w6 ⟨B8, d8, rfl, ra8, ro8, rb6⟩
      dsimp only [id]
      obtain ⟨V, hV⟩ : ∃ V, K.reverse = V := ⟨_, rfl⟩
      rw [hV] at ra8 Hbs ⊢
      have V6 := Lib.hid ra8
      have M6 := Lib.hid (M5.out.go rb6)
      have B6' := Lib.hid (below_step B5'.out rb6)
      clear ra8 ro8 rb6 hV
      go_wp2_with fail
      refine (implStowageValid_b B7 d7 M B8 d8 V _ M6.out V6.out).mono ?_
      rintro e w7 ⟨rfl, rb7⟩
      rw [Hbs.out]
      have B7' := Lib.hid (below_step B6'.out rb7)
      clear rb7
      go_wp2
      go_ret
      exact ⟨rfl, B7'.out⟩

theorem fnOut_walk (A0 : Option Addr) (n0 c0 : Nat) (w : World) (hb0 : Byt0 w A0 n0 c0) :
    Calls Try.prog 6 #[.slice A0 n0 c0] w (RetB (.bool true) w) := by
  by_cases hl0 : 1048576 < n0
  · clear hb0
    go_enter Try.func6, Try.ntmps6
    go_wp2
    go_ret
    exact ⟨rfl, Below.refl _ _⟩
  exact fnOut_in A0 n0 c0 w (by omega) hb0.1 hb0.2.2

set_option maxRecDepth 100000 in
theorem fnOut_lifted (os : Os) (started : os.Started) (H : Type) (enc : TypeId × Value → H) :
    ReturnsInHanded {} Try.checked os 6 .any (Rows.fnOutSpec.pre6 enc Try.prog Try.f6 Rows.fnOutRow.domain false) (Rows.fnOutSpec.post enc Try.prog Try.f6 false true false false) := by
  refine returnsInHanded_of_change (C := Try.checked) row_own started (by kernel_rfl) Try.func6
    (ChangeSpec.witness6 (enc := enc) (C := Try.checked) false ⟨#[], #[.slice none 0 0], []⟩ 8 (by kernel_rfl) (by kernel_rfl) (by kernel_rfl) (by kernel_rfl)) ?_
  intro W base args ds gs before hval0 hW hcnd _
  have hval : ∀ (j : Nat) t v, Try.f6.params[j]? = some t → args[j]? = some v → Value.okWide Try.prog W .any base t v := hval0
  have hW' := hW
  obtain ⟨p, q, hA0, hV, rfl, _, _⟩ := hW
  have hA : DataW.TrodAll enc Try.prog W 0 (fun _ => true) true Try.f6.params.toList args.toList ds p := hA0
  rw [Try.params6] at hA hval
  obtain ⟨v0, vs0, d0, ds0, p0, q0, hargs, rfl, rfl, h0, r0⟩ := trodAll_cons hA
  obtain ⟨rfl, rfl, rfl⟩ := trodAll_nil r0
  obtain rfl : args = #[v0] := by cases args; simp_all
  obtain ⟨rfl, rfl⟩ := trodVars_none hV
  have hlt0 : ∀ x ∈ p0, x.block < W.heap.size := fun x hx => by exact hW'.lt x (by simp [hx])
  obtain ⟨A0, n0, c0, rfl, hb0⟩ := open_bytes (hval 0 22 v0 rfl rfl) h0 hlt0
  clear hA0 hval0
  refine (fnOut_walk A0 n0 c0 W hb0).mono fun e W' ⟨he, hb⟩ => ?_
  subst he
  exact ⟨_, rfl, _, _, _, [], _, [], hW', (trodAll_cons_mk (shut_bool Try.underlying4 _) trodAll_mk0), (trodAll_cons_mk (read_again_bytes h0 hlt0 hb) trodAll_mk0), rfl, hb.frame _, fun h => by cases h⟩

set_option maxRecDepth 100000 in
theorem fnOut_closed : joinedFacts Try.prog 6 Try.f6 Rows.fnOutSpec Rows.fnOutRow = true := by
  unfold joinedFacts
  repeat' (with_reducible apply facAnd)
  all_goals first | (with_reducible exact facEnter) | (with_reducible exact facLaid) | (with_reducible exact facMaps) | (with_reducible exact facStops) | (with_reducible exact facKnobs) | (with_reducible exact facHeard) | (rw [facLifts]; as_aux_lemma => kernel_rfl) | (rw [facMake]; as_aux_lemma => kernel_rfl) | (as_aux_lemma => kernel_rfl)

/-- THE STATEMENT -/
theorem fnOut_holds : Rows.FnOutSaid :=
  OpenClaim.holds_of_wide 6 Try.f6 rfl rfl rfl rfl rfl rfl rfl ⟨rfl, rfl, rfl, rfl, rfl⟩ rfl rfl rfl rfl rfl (by kernel_rfl) Try.func6 fnOut_closed
    (of_decide_eq_true (by kernel_rfl)) (by unfold Func.isWrapper; first | (rw [if_pos (by decide +kernel)]; kernel_rfl) | (rw [if_neg (by decide +kernel)]; exact ⟨rfl, rfl⟩))
    (fun os started H enc _ => fnOut_lifted os started H enc)
#print axioms fnOut_holds
end Go.Proofs.Ytciahmccafcllaa
