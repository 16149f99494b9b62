/-
  The law FnDrop: what is left agrees as it did. For all codes it answers true. No condition.
-/
import Derived.Test.YthdbbppahloapaaODrawB
import Derived.Test.YthdbbppahloapaaTkD
import Derived.Test.YthdbbppahloapaaTkA
import Derived.Test.YthdbbppahloapaaDrp
import Derived.Test.YthdbbppahloapaaSame
import Derived.Test.YthdbbppahloapaaRowB
import Derived.Test.YthdbbppahloapaaFac
namespace Go.Proofs.Ythdbbppahloapaa
open Go.ChangeShapes Go.WideShapes Go.ChangeAt Go.RowKit

set_option maxHeartbeats 4000000 in
theorem fnDrop_in (A : Option Addr) (n c : Nat) (w : World) (hl : n ≤ 1048576) (hnc : n ≤ c) (hb : Bytes w.heap.size w A n) :
    Calls Try.prog 8 #[.slice A n c] w (RetB (.bool true) w) := by
  have Hb := Lib.hid hb
  clear hb
  go_enter Try.func8, Try.ntmps8
  go_wp2_with fail
  refine (DrawOrdersDrop_c A n c _ (by omega) hnc Hb.out).mono ?_
  rintro e w1 ⟨B, d, L, x, rfl, hzl, hA, hB⟩
  have Ha := Lib.hid hA
  have Bt := Lib.hid hB
  clear hA hB Hb
  obtain ⟨K, hK⟩ : ∃ K, drpR L x = K := ⟨_, rfl⟩
  have HK := Lib.hid hK
  go_wp2_with fail
  refine (implOrdersDrop_b B d L x _ Ha.out).mono ?_
  rintro e w2 ⟨B5, d5, rfl, ra5, ro5, rb2⟩
  dsimp only
  rw [hK] at ra5 ⊢
  replace Ha := Lib.hid (Ha.out.go rb2)
  replace Bt := Lib.hid (below_step Bt.out rb2)
  have K2 := Lib.hid ra5
  clear ra5 ro5 rb2
  go_wp2_with fail
  refine (specOrdersDrop_b B d L x _ Ha.out).mono ?_
  rintro e w3 ⟨B6, d6, rfl, ra6, ro6, rb3⟩
  dsimp only
  rw [hK] at ra6 ⊢
  replace Ha := Lib.hid (Ha.out.go rb3)
  replace Bt := Lib.hid (below_step Bt.out rb3)
  replace K2 := Lib.hid (K2.out.go rb3)
  have K3 := Lib.hid ra6
  clear ra6 ro6 rb3 hK
  cases hv : dropB L x
  · clear hv
    go_wp2_with fail
    refine (sameInts_c B5 B6 d5 d6 K K _ K2.out K3.out).mono ?_
    rintro e w4 ⟨rfl, m, rfl⟩
    rw [decide_eq_true (rfl : K = K)]
    have B4 := Lib.hid (below_drewN Bt.out m)
    have K4 := Lib.hid (K2.out.go (below_drewN (Below.refl w3.heap.size w3) m))
    have K5 := Lib.hid (K3.out.go (below_drewN (Below.refl w3.heap.size w3) m))
    go_wp2_with fail
    refine (sameInts_c B5 B6 d5 d6 K K _ K4.out K5.out).mono ?_
    rintro e w5 ⟨rfl, m2, rfl⟩
    rw [decide_eq_true (rfl : K = K)]
    have B5 := Lib.hid (below_drewN B4.out m2)
    rw [World.drewN_drewN] at B5
    go_wp2
    go_ret
    exact ⟨rfl, B5.out⟩
  have hd := hv
  unfold dropB at hd
  rw [Bool.and_eq_true] at hd
  obtain ⟨ho, hin⟩ := hd
  have hb1 := inB_true.1 hin
  obtain ⟨i, rfl⟩ := Int.eq_ofNat_of_zero_le hb1.1
  have hi : i < L.length := by omega
  have h10 := ord_len ho
  have hKo : K = dropL L i := by rw [← HK.out, (drp_yes ho hin).2]
  have HKl := Lib.hid (show K.length = L.length - 1 by rw [hKo, dropL_len hi])
  have Hko := Lib.hid (show ordB K = true by rw [hKo]; exact drop_ord ho hi)
  have HAg := Lib.hid (show ∀ a b : Nat, b < a → a < K.length → agrB K (a : Int) (b : Int) = agrB L (shiftN i a : Nat) (shiftN i b : Nat) by rw [hKo, dropL_len hi]; exact fun a b hab ha => drop_agr ho hi ha hab)
  have hk10 : K.length ≤ 10 := by rw [HKl.out]; omega
  clear hv ho hin hb1 hKo HK
  go_wp2_with fail
  refine (sameInts_c B5 B6 d5 d6 K K _ K2.out K3.out).mono ?_
  rintro e w4 ⟨rfl, m, rfl⟩
  rw [decide_eq_true (rfl : K = K)]
  replace Ha := Lib.hid (Ha.out.go (below_drewN (Below.refl w3.heap.size w3) m))
  replace K2 := Lib.hid (K2.out.go (below_drewN (Below.refl w3.heap.size w3) m))
  replace Bt := Lib.hid (below_drewN Bt.out m)
  obtain ⟨W, hW⟩ : ∃ W, w3.drewN m = W := ⟨_, rfl⟩
  rw [hW] at Ha K2 Bt ⊢
  clear hW K3
  go_wp2
  go_loopw [9] (fun s wr => ∃ a : Nat, a ≤ K.length ∧ s = .int .i64 a ∧ Below W.heap.size W wr) (fun s _ => K.length - (intOf s).toNat)
  case atStart => exact ⟨0, Nat.zero_le _, rfl, Below.refl _ _⟩
  case round =>
    obtain ⟨a, ha, rfl, hb1⟩ := hrel
    have Hb1 := Lib.hid hb1
    clear hb1
    by_cases hlt : a < K.length
    · have g1 : (a : Int) < (K.length : Int) := by omega
      go_wp2
      go_loopw [10] (fun s wq => ∃ b : Nat, b ≤ a ∧ s = .int .i64 b ∧ Below W.heap.size W wq) (fun s _ => a - (intOf s).toNat)
      case atStart => exact ⟨0, Nat.zero_le _, rfl, Hb1.out⟩
      case round =>
        obtain ⟨b, hb, rfl, hb2⟩ := hrel
        have Hb2 := Lib.hid hb2
        clear hb2
        have qa : IntKind.i64.wrap ((a : Int) + 1) = (a : Int) + 1 := IntWalk.i64_in _ (by omega)
        have qb : IntKind.i64.wrap ((b : Int) + 1) = (b : Int) + 1 := IntWalk.i64_in _ (by omega)
        by_cases hbn : ¬ b < a
        · obtain rfl : b = a := by omega
          go_wp2
          go_roundw
          case rel => exact ⟨b + 1, by omega, by go_num, Hb2.out⟩
          case measure => simp [intOf]; omega
        have hba : b < a := by omega
        clear hbn
        have g2 : (b : Int) < (a : Int) := by omega
        rcases (show (a < i ∧ b < i) ∨ (¬ a < i ∧ b < i) ∨ (¬ a < i ∧ ¬ b < i) by omega) with ⟨c1, c2⟩ | ⟨c1, c2⟩ | ⟨c1, c2⟩
        · have e1 : agrB K (a : Int) (b : Int) = agrB L (a : Int) (b : Int) := by
            rw [HAg.out a b hba hlt]
            unfold shiftN
            rw [if_pos (by omega), if_pos (by omega)]
          have E1 := Lib.hid e1
          obtain ⟨z, hz⟩ : ∃ z, agrB L (a : Int) (b : Int) = z := ⟨_, rfl⟩
          have HZ := Lib.hid hz
          rw [hz] at E1
          have ga : ((i : Int) ≤ (a : Int)) = False := eq_false (by omega)
          have gb : ((i : Int) ≤ (b : Int)) = False := eq_false (by omega)
          clear e1 hz
          go_wp2_with fail
          refine (implOrdersAgree_b B5 d5 K (a : Int) (b : Int) _ (K2.out.go Hb2.out)).mono ?_
          rintro e w5 ⟨rfl, rb5⟩
          rw [E1.out]
          have A5 := Lib.hid ((Ha.out.go Hb2.out).go rb5)
          have B5' := Lib.hid (below_step Hb2.out rb5)
          clear rb5
          go_wp2_with fail
          refine (implOrdersAgree_b B d L (a : Int) (b : Int) _ A5.out).mono ?_
          rintro e w6 ⟨rfl, rb6⟩
          rw [HZ.out]
          have B6' := Lib.hid (below_step B5'.out rb6)
          clear rb6
          cases z
          · go_wp2
            go_roundw
            case rel => exact ⟨b + 1, by omega, by go_num, B6'.out⟩
            case measure => simp [intOf]; omega
          · go_wp2
            go_roundw
            case rel => exact ⟨b + 1, by omega, by go_num, B6'.out⟩
            case measure => simp [intOf]; omega
        · have e1 : agrB K (a : Int) (b : Int) = agrB L ((a : Int) + 1) (b : Int) := by
            rw [HAg.out a b hba hlt]
            unfold shiftN
            rw [if_neg (by omega), if_pos (by omega)]
            rfl
          have E1 := Lib.hid e1
          obtain ⟨z, hz⟩ : ∃ z, agrB L ((a : Int) + 1) (b : Int) = z := ⟨_, rfl⟩
          have HZ := Lib.hid hz
          rw [hz] at E1
          have ga : ((i : Int) ≤ (a : Int)) = True := eq_true (by omega)
          have gb : ((i : Int) ≤ (b : Int)) = False := eq_false (by omega)
          clear e1 hz
          go_wp2_with fail
          refine (implOrdersAgree_b B5 d5 K (a : Int) (b : Int) _ (K2.out.go Hb2.out)).mono ?_
          rintro e w5 ⟨rfl, rb5⟩
          rw [E1.out]
          have A5 := Lib.hid ((Ha.out.go Hb2.out).go rb5)
          have B5' := Lib.hid (below_step Hb2.out rb5)
          clear rb5
          go_wp2_with fail
          refine (implOrdersAgree_b B d L ((a : Int) + 1) (b : Int) _ A5.out).mono ?_
          rintro e w6 ⟨rfl, rb6⟩
          rw [HZ.out]
          have B6' := Lib.hid (below_step B5'.out rb6)
          clear rb6
          cases z
          · go_wp2
            go_roundw
            case rel => exact ⟨b + 1, by omega, by go_num, B6'.out⟩
            case measure => simp [intOf]; omega
          · go_wp2
            go_roundw
            case rel => exact ⟨b + 1, by omega, by go_num, B6'.out⟩
            case measure => simp [intOf]; omega
        · have e1 : agrB K (a : Int) (b : Int) = agrB L ((a : Int) + 1) ((b : Int) + 1) := by
            rw [HAg.out a b hba hlt]
            unfold shiftN
            rw [if_neg (by omega), if_neg (by omega)]
            rfl
          have E1 := Lib.hid e1
          obtain ⟨z, hz⟩ : ∃ z, agrB L ((a : Int) + 1) ((b : Int) + 1) = z := ⟨_, rfl⟩
          have HZ := Lib.hid hz
          rw [hz] at E1
          have ga : ((i : Int) ≤ (a : Int)) = True := eq_true (by omega)
          have gb : ((i : Int) ≤ (b : Int)) = True := eq_true (by omega)
          clear e1 hz
          go_wp2_with fail
          refine (implOrdersAgree_b B5 d5 K (a : Int) (b : Int) _ (K2.out.go Hb2.out)).mono ?_
          rintro e w5 ⟨rfl, rb5⟩
          rw [E1.out]
          have A5 := Lib.hid ((Ha.out.go Hb2.out).go rb5)
          have B5' := Lib.hid (below_step Hb2.out rb5)
          clear rb5
          go_wp2_with fail
          refine (implOrdersAgree_b B d L ((a : Int) + 1) ((b : Int) + 1) _ A5.out).mono ?_
          rintro e w6 ⟨rfl, rb6⟩
          rw [HZ.out]
          have B6' := Lib.hid (below_step B5'.out rb6)
          clear rb6
          cases z
          · go_wp2
            go_roundw
            case rel => exact ⟨b + 1, by omega, by go_num, B6'.out⟩
            case measure => simp [intOf]; omega
          · go_wp2
            go_roundw
            case rel => exact ⟨b + 1, by omega, by go_num, B6'.out⟩
            case measure => simp [intOf]; omega
    · obtain rfl : a = K.length := by omega
      have q1 : IntKind.i64.wrap ((L.length : Int) - 1) = (L.length : Int) - 1 := IntWalk.i64_in _ (by omega)
      have e1 : ((K.length : Int) == (L.length : Int) - 1) = true := beq_iff_eq.2 (by have := HKl.out; omega)
      go_wp2_with fail
      refine (implOrdersValid_b B5 d5 K _ (K2.out.go Hb1.out)).mono ?_
      rintro e w5 ⟨rfl, rb5⟩
      rw [Hko.out]
      have B7 := Lib.hid (below_step (below_step Bt.out Hb1.out) rb5)
      clear rb5
      go_wp2
      go_ret
      exact ⟨rfl, B7.out⟩

theorem fnDrop_walk (A0 : Option Addr) (n0 c0 : Nat) (w : World) (hb0 : Byt0 w A0 n0 c0) :
    Calls Try.prog 8 #[.slice A0 n0 c0] w (RetB (.bool true) w) := by
  by_cases hl0 : 1048576 < n0
  · clear hb0
    go_enter Try.func8, Try.ntmps8
    go_wp2
    go_ret
    exact ⟨rfl, Below.refl _ _⟩
  exact fnDrop_in A0 n0 c0 w (by omega) hb0.1 hb0.2.2

set_option maxRecDepth 100000 in
theorem fnDrop_lifted (os : Os) (started : os.Started) (H : Type) (enc : TypeId × Value → H) :
    ReturnsInHanded {} Try.checked os 8 .any (Rows.fnDropSpec.pre6 enc Try.prog Try.f8 Rows.fnDropRow.domain false) (Rows.fnDropSpec.post enc Try.prog Try.f8 false true false false) := by
  refine returnsInHanded_of_change (C := Try.checked) row_own started (by kernel_rfl) Try.func8
    (ChangeSpec.witness6 (enc := enc) (C := Try.checked) false ⟨#[], #[.slice none 0 0], []⟩ 8 (by kernel_rfl) (by kernel_rfl) (by kernel_rfl) (by kernel_rfl)) ?_
  intro W base args ds gs before hval0 hW hcnd _
  have hval : ∀ (j : Nat) t v, Try.f8.params[j]? = some t → args[j]? = some v → Value.okWide Try.prog W .any base t v := hval0
  have hW' := hW
  obtain ⟨p, q, hA0, hV, rfl, _, _⟩ := hW
  have hA : DataW.TrodAll enc Try.prog W 0 (fun _ => true) true Try.f8.params.toList args.toList ds p := hA0
  rw [Try.params8] at hA hval
  obtain ⟨v0, vs0, d0, ds0, p0, q0, hargs, rfl, rfl, h0, r0⟩ := trodAll_cons hA
  obtain ⟨rfl, rfl, rfl⟩ := trodAll_nil r0
  obtain rfl : args = #[v0] := by cases args; simp_all
  obtain ⟨rfl, rfl⟩ := trodVars_none hV
  have hlt0 : ∀ x ∈ p0, x.block < W.heap.size := fun x hx => by exact hW'.lt x (by simp [hx])
  obtain ⟨A0, n0, c0, rfl, hb0⟩ := open_bytes (hval 0 22 v0 rfl rfl) h0 hlt0
  clear hA0 hval0
  refine (fnDrop_walk A0 n0 c0 W hb0).mono fun e W' ⟨he, hb⟩ => ?_
  subst he
  exact ⟨_, rfl, _, _, _, [], _, [], hW', (trodAll_cons_mk (shut_bool Try.underlying4 _) trodAll_mk0), (trodAll_cons_mk (read_again_bytes h0 hlt0 hb) trodAll_mk0), rfl, hb.frame _, fun h => by cases h⟩

set_option maxRecDepth 100000 in
theorem fnDrop_closed : joinedFacts Try.prog 8 Try.f8 Rows.fnDropSpec Rows.fnDropRow = true := by
  unfold joinedFacts
  repeat' (with_reducible apply facAnd)
  all_goals first | (with_reducible exact facEnter) | (with_reducible exact facLaid) | (with_reducible exact facMaps) | (with_reducible exact facStops) | (with_reducible exact facKnobs) | (with_reducible exact facHeard) | (rw [facLifts]; as_aux_lemma => kernel_rfl) | (rw [facMake]; as_aux_lemma => kernel_rfl) | (as_aux_lemma => kernel_rfl)

/-- THE STATEMENT -/
theorem fnDrop_holds : Rows.FnDropSaid :=
  OpenClaim.holds_of_wide 8 Try.f8 rfl rfl rfl rfl rfl rfl rfl ⟨rfl, rfl, rfl, rfl, rfl⟩ rfl rfl rfl rfl rfl (by kernel_rfl) Try.func8 fnDrop_closed
    (of_decide_eq_true (by kernel_rfl)) (by unfold Func.isWrapper; first | (rw [if_pos (by decide +kernel)]; kernel_rfl) | (rw [if_neg (by decide +kernel)]; exact ⟨rfl, rfl⟩))
    (fun os started H enc _ => fnDrop_lifted os started H enc)
#print axioms fnDrop_holds
end Go.Proofs.Ythdbbppahloapaa
