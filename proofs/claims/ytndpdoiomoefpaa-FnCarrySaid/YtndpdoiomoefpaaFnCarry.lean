/-
  The law FnCarry: what is on board is paid out. For all codes it answers true. No condition.
-/
import Derived.Test.YtndpdoiomoefpaaFac
import Derived.Test.YtndpdoiomoefpaaRowB
import Derived.Test.YtndpdoiomoefpaaLw
import Derived.Test.YtndpdoiomoefpaaSame
import Derived.Test.YtndpdoiomoefpaaDrw1
import Derived.Test.YtndpdoiomoefpaaFPaySlack
import Derived.Test.YtndpdoiomoefpaaFPayHangs
import Derived.Test.YtndpdoiomoefpaaFPayCarry
import Derived.Test.YtndpdoiomoefpaaFlK
import Derived.Test.YtndpdoiomoefpaaSumO
namespace Go.Proofs.Ytndpdoiomoefpaa
open Go.ChangeShapes Go.WideShapes Go.ChangeAt Go.RowKit

set_option maxRecDepth 100000 in
set_option maxHeartbeats 4000000 in
theorem fnCarry_in (A0 : Option Addr) (n0 c0 : Nat) (w : World) (hl0 : n0 ≤ 1048576) (hc0 : n0 ≤ c0) (hb0 : Bytes w.heap.size w A0 n0) :
    Calls Try.prog 9 #[.slice A0 n0 c0] w (RetB (.bool true) w) := by
  have Hb := Lib.hid hb0
  clear hb0
  go_enter Try.func9, Try.ntmps9
  go_wp2_with fail
  refine (DrawPayCarry_c A0 n0 c0 _ (by omega) hc0 Hb.out).mono ?_
  rintro e w1 ⟨B, d, zs, x, rfl, hzl, hx0, hx1, hA, hB⟩
  have Ha := Lib.hid hA
  have Bt := Lib.hid hB
  clear hB Hb hA
  dsimp only
  go_wp2_with fail
  refine (implPayCarry_b B d zs x _ Ha.out).mono ?_
  rintro e w2 ⟨B1, d1, rfl, ra, _, hb2⟩
  replace Ha := Lib.hid (Ha.out.go hb2)
  replace Bt := Lib.hid (below_step Bt.out hb2)
  have H1 := Lib.hid ra
  clear ra hb2
  dsimp only [id]
  go_wp2_with fail
  refine (specPayCarry_b B d zs x _ Ha.out).mono ?_
  rintro e w3 ⟨B2, d2, rfl, ra, _, hb3⟩
  replace Ha := Lib.hid (Ha.out.go hb3)
  replace H1 := Lib.hid (H1.out.go hb3)
  replace Bt := Lib.hid (below_step Bt.out hb3)
  have H2 := Lib.hid ra
  clear ra hb3
  dsimp only [id]
  cases hv : carryB zs x
  · clear hv
    go_wp2_with fail
    refine (sameInts_c _ _ _ _ _ _ _ H1.out H2.out).mono ?_
    rintro e w4 ⟨rfl, q4, hq4⟩
    rw [decide_eq_true rfl]
    have hb4 := below_of_drew hq4
    clear hq4
    replace Ha := Lib.hid (Ha.out.go hb4)
    replace H1 := Lib.hid (H1.out.go hb4)
    replace H2 := Lib.hid (H2.out.go hb4)
    replace Bt := Lib.hid (below_step Bt.out hb4)
    clear hb4
    go_wp2_with fail
    refine (sameInts_c _ _ _ _ _ _ _ H1.out H2.out).mono ?_
    rintro e w5 ⟨rfl, q5, hq5⟩
    rw [decide_eq_true rfl]
    have hb5 := below_of_drew hq5
    clear hq5
    replace Ha := Lib.hid (Ha.out.go hb5)
    replace H1 := Lib.hid (H1.out.go hb5)
    replace H2 := Lib.hid (H2.out.go hb5)
    replace Bt := Lib.hid (below_step Bt.out hb5)
    clear hb5
    go_wp2
    go_ret
    exact ⟨rfl, Bt.out⟩
  go_wp2_with fail
  refine (sameInts_c _ _ _ _ _ _ _ H1.out H2.out).mono ?_
  rintro e w6 ⟨rfl, q6, hq6⟩
  rw [decide_eq_true rfl]
  have hb6 := below_of_drew hq6
  clear hq6
  replace Ha := Lib.hid (Ha.out.go hb6)
  replace H1 := Lib.hid (H1.out.go hb6)
  replace H2 := Lib.hid (H2.out.go hb6)
  replace Bt := Lib.hid (below_step Bt.out hb6)
  clear hb6
  clear H2
  obtain ⟨hvv, x0, x1⟩ := carryB_true hv
  have vz := validB_true hvv
  have hz2 := vz.1
  have hz16 := vz.2.1
  obtain ⟨p1, p2, p3⟩ := carry_paid hv
  obtain ⟨p, c1, c2, c3⟩ := carry_hangs hv
  have hsm := pay_small p1
  have hsmb := hsm.sum
  have hlen := (payB_true p1).2.1
  have hlb := lenI_bd hvv (x := 0) (y := (zs.length : Int) - 1) (by omega) (by omega) (by omega)
  obtain ⟨K, hK⟩ : ∃ K, payCarryL zs x = K := ⟨_, rfl⟩
  rw [hK] at H1 p1 p2 p3 c1 c2 c3 hsm hsmb hlen ⊢
  obtain ⟨G, hG⟩ : ∃ G, payHangsL zs K = G := ⟨_, rfl⟩
  rw [hG] at c1 c2
  obtain ⟨t, ht⟩ : ∃ t, K.sum = t := ⟨_, rfl⟩
  rw [ht] at p3 hsmb
  obtain ⟨v, hv2⟩ : ∃ v, floorLengthI zs 0 ((zs.length : Int) - 1) = v := ⟨_, rfl⟩
  rw [hv2] at p3 hlb
  have HH0 := fun W h h2 => implPayHangs_b B d zs B1 d1 K W h h2
  rw [hG] at HH0
  have HS0 := fun W h => sumOf_c B1 d1 K W hsm h
  rw [ht] at HS0
  have HL0 := fun W h => implFloorLength_b B d zs 0 ((zs.length : Int) - 1) W h
  rw [hv2] at HL0
  have HK0 := fun W h h2 => implPaySlack_b B d zs B1 d1 K W h h2
  rw [p2] at HK0
  have HV0 := fun W h h2 => implPayValid_b B d zs B1 d1 K W h h2
  rw [p1] at HV0
  have HH := Lib.hid HH0
  have HS := Lib.hid HS0
  have HL := Lib.hid HL0
  have HK := Lib.hid HK0
  have HV := Lib.hid HV0
  have C2 := Lib.hid c2
  have C3 := Lib.hid (fun (i : Nat) (h : p < i) (h2 : i < K.length) => c3 i h (by rw [← hlen]; exact h2))
  have hpl : p + G.length ≤ K.length := by omega
  have hk16 : K.length ≤ 16 := by omega
  have q1 : IntKind.i64.wrap ((zs.length : Int) - 1) = (zs.length : Int) - 1 := IntWalk.i64_in _ (by omega)
  clear HH0 HS0 HL0 HK0 HV0 c2 c3 hsm p1 p2 hK hG ht hv2 hv hvv c1 hlen vz
  go_wp2_with fail
  refine (HH.out _ Ha.out H1.out).mono ?_
  rintro e w7 ⟨B3, d3, rfl, ra, _, hb7⟩
  replace Ha := Lib.hid (Ha.out.go hb7)
  replace H1 := Lib.hid (H1.out.go hb7)
  replace Bt := Lib.hid (below_step Bt.out hb7)
  have H3 := Lib.hid ra
  clear ra hb7
  dsimp only [id]
  go_wp2
  go_loopw [10] (fun i wr => ∃ j : Nat, 1 ≤ j ∧ (j ≤ G.length ∨ j = 1) ∧ i = .int .i64 j ∧ Below w7.heap.size w7 wr) (fun i _ => G.length + 1 - (intOf i).toNat)
  case atStart => exact ⟨1, Nat.le_refl _, .inr rfl, rfl, Below.refl _ _⟩
  case round =>
    obtain ⟨j, hj1, hj2, rfl, hb⟩ := hrel
    have Hb := Lib.hid hb
    clear hb
    by_cases hlt : j < G.length
    · have g2 : (j : Int) < (G.length : Int) := by omega
      have g0 : (0 : Int) ≤ (j : Int) - 1 := by omega
      have g3 : (j : Int) - 1 < (G.length : Int) := by omega
      have g4 : ((j : Int) - 1).toNat = j - 1 := by omega
      have q3 : IntKind.i64.wrap ((j : Int) - 1) = (j : Int) - 1 := IntWalk.i64_in _ (by omega)
      have e1 : ((j + 1 : Nat) : Int) = (j : Int) + 1 := by omega
      have HG := Lib.hid (H3.out.go Hb.out)
      obtain ⟨b, off, rfl, _, _, hc⟩ := HG.out.rd.at_ (k := j) hlt
      obtain ⟨b', off', eb, _, _, hc'⟩ := HG.out.rd.at_ (k := j - 1) (by omega)
      injection eb with eb
      injection eb with eb eo _
      subst eb
      subst eo
      rw [C2.out j hlt] at hc
      rw [C2.out (j - 1) (by omega)] at hc'
      obtain ⟨bk, offk, rfl, _, _, hck⟩ := (H1.out.go Hb.out).rd.at_ (k := p + j) (by omega)
      rw [C3.out (p + j) (by omega) (by omega)] at hck
      obtain ⟨m, hm⟩ : ∃ m, p + j = m := ⟨_, rfl⟩
      have hm1 : ((p + (j - 1) : Nat) : Int) = (m : Int) - 1 := by omega
      rw [hm] at hc hck
      rw [hm1] at hc'
      have g5 : (m : Int) < (K.length : Int) := by omega
      have q4 : IntKind.i64.wrap ((m : Int) - 1 + 1) = (m : Int) := by rw [Int.sub_add_cancel]; exact IntWalk.i64_in _ (by omega)
      have b5 : ((m : Int) != (m : Int)) = false := by simp
      obtain ⟨j1, hj1'⟩ : ∃ j1, j - 1 = j1 := ⟨_, rfl⟩
      rw [hj1'] at hc' g4
      clear hm hm1 hj1'
      go_wp2
      go_quiet (fail)
      go_wp2
      exact ⟨⟨j + 1, by omega, .inl (by omega), by rw [e1], below_drewN Hb.out _⟩, by simp only [intOf]; omega⟩
    · have g2 : ¬ (j : Int) < (G.length : Int) := by omega
      replace Ha := Lib.hid (Ha.out.go Hb.out)
      replace H1 := Lib.hid (H1.out.go Hb.out)
      replace Bt := Lib.hid (below_step Bt.out Hb.out)
      have hm : (x ≤ v ∧ t = x) ∨ (¬ x ≤ v ∧ t = v) := by omega
      clear hj2 p3 Hb
      rcases hm with ⟨m1, m2⟩ | ⟨m1, m2⟩
      · have b1 : (t == x) = true := beq_iff_eq.2 m2
        have b2 : (t = x) = True := eq_true m2
        clear m2
        go_wp2_with fail
        refine (HS.out _ H1.out).mono ?_
        rintro e w9 ⟨rfl, rfl⟩
        go_wp2_with fail
        refine (HL.out _ Ha.out).mono ?_
        rintro e w8 ⟨rfl, hb8⟩
        replace Ha := Lib.hid (Ha.out.go hb8)
        replace H1 := Lib.hid (H1.out.go hb8)
        replace Bt := Lib.hid (below_step Bt.out hb8)
        clear hb8
        dsimp only
        go_wp2_with fail
        refine (HK.out _ Ha.out H1.out).mono ?_
        rintro e w9 ⟨rfl, hb9⟩
        replace Ha := Lib.hid (Ha.out.go hb9)
        replace H1 := Lib.hid (H1.out.go hb9)
        replace Bt := Lib.hid (below_step Bt.out hb9)
        clear hb9
        dsimp only
        go_wp2_with fail
        refine (HV.out _ Ha.out H1.out).mono ?_
        rintro e w10 ⟨rfl, hb10⟩
        replace Ha := Lib.hid (Ha.out.go hb10)
        replace H1 := Lib.hid (H1.out.go hb10)
        replace Bt := Lib.hid (below_step Bt.out hb10)
        clear hb10
        dsimp only
        go_wp2
        go_ret
        exact ⟨rfl, Bt.out⟩
      · have b1 : (t == v) = true := beq_iff_eq.2 m2
        have b2 : (t = v) = True := eq_true m2
        clear m2
        go_wp2_with fail
        refine (HS.out _ H1.out).mono ?_
        rintro e w9 ⟨rfl, rfl⟩
        go_wp2_with fail
        refine (HL.out _ Ha.out).mono ?_
        rintro e w11 ⟨rfl, hb11⟩
        replace Ha := Lib.hid (Ha.out.go hb11)
        replace H1 := Lib.hid (H1.out.go hb11)
        replace Bt := Lib.hid (below_step Bt.out hb11)
        clear hb11
        dsimp only
        go_wp2_with fail
        refine (HK.out _ Ha.out H1.out).mono ?_
        rintro e w12 ⟨rfl, hb12⟩
        replace Ha := Lib.hid (Ha.out.go hb12)
        replace H1 := Lib.hid (H1.out.go hb12)
        replace Bt := Lib.hid (below_step Bt.out hb12)
        clear hb12
        dsimp only
        go_wp2_with fail
        refine (HV.out _ Ha.out H1.out).mono ?_
        rintro e w13 ⟨rfl, hb13⟩
        replace Ha := Lib.hid (Ha.out.go hb13)
        replace H1 := Lib.hid (H1.out.go hb13)
        replace Bt := Lib.hid (below_step Bt.out hb13)
        clear hb13
        dsimp only
        go_wp2
        go_ret
        exact ⟨rfl, Bt.out⟩

set_option maxRecDepth 100000 in
theorem fnCarry_walk (A0 : Option Addr) (n0 c0 : Nat) (w : World) (hb0 : Byt0 w A0 n0 c0) :
    Calls Try.prog 9 #[.slice A0 n0 c0] w (RetB (.bool true) w) := by
  by_cases hl0 : 1048576 < n0
  · clear hb0
    go_enter Try.func9, Try.ntmps9
    go_wp2
    go_ret
    exact ⟨rfl, Below.refl _ _⟩
  exact fnCarry_in A0 n0 c0 w (by omega) hb0.1 hb0.2.2

set_option maxRecDepth 100000 in
theorem fnCarry_lifted (os : Os) (started : os.Started) (H : Type) (enc : TypeId × Value → H) :
    ReturnsInHanded {} Try.checked os 9 .any (Rows.fnCarrySpec.pre6 enc Try.prog Try.f9 Rows.fnCarryRow.domain false) (Rows.fnCarrySpec.post enc Try.prog Try.f9 false true false false) := by
  refine returnsInHanded_of_change (C := Try.checked) row_own started (by kernel_rfl) Try.func9
    (ChangeSpec.witness6 (enc := enc) (C := Try.checked) false ⟨#[], #[.slice none 0 0], []⟩ 8 (by kernel_rfl) (by kernel_rfl) (by kernel_rfl) (by kernel_rfl)) ?_
  intro W base args ds gs before hval0 hW hcnd _
  have hval : ∀ (j : Nat) t v, Try.f9.params[j]? = some t → args[j]? = some v → Value.okWide Try.prog W .any base t v := hval0
  have hW' := hW
  obtain ⟨p, q, hA0, hV, rfl, _, _⟩ := hW
  have hA : DataW.TrodAll enc Try.prog W 0 (fun _ => true) true Try.f9.params.toList args.toList ds p := hA0
  rw [Try.params9] at hA hval
  obtain ⟨v0, vs0, d0, ds0, p0, q0, hargs, rfl, rfl, h0, r0⟩ := trodAll_cons hA
  obtain ⟨rfl, rfl, rfl⟩ := trodAll_nil r0
  obtain rfl : args = #[v0] := by cases args; simp_all
  obtain ⟨rfl, rfl⟩ := trodVars_none hV
  have hlt0 : ∀ x ∈ p0, x.block < W.heap.size := fun x hx => by exact hW'.lt x (by simp [hx])
  obtain ⟨A0, n0, c0, rfl, hb0⟩ := open_bytes (hval 0 22 v0 rfl rfl) h0 hlt0
  clear hA0 hval0
  refine (fnCarry_walk A0 n0 c0 W hb0).mono fun e W' ⟨he, hb⟩ => ?_
  subst he
  exact ⟨_, rfl, _, _, _, [], _, [], hW', (trodAll_cons_mk (shut_bool Try.underlying4 _) trodAll_mk0), (trodAll_cons_mk (read_again_bytes h0 hlt0 hb) trodAll_mk0), rfl, hb.frame _, fun h => by cases h⟩

set_option maxRecDepth 100000 in
theorem fnCarry_closed : joinedFacts Try.prog 9 Try.f9 Rows.fnCarrySpec Rows.fnCarryRow = true := by
  unfold joinedFacts
  repeat' (with_reducible apply facAnd)
  all_goals first | (with_reducible exact facEnter) | (with_reducible exact facLaid) | (with_reducible exact facMaps) | (with_reducible exact facStops) | (with_reducible exact facKnobs) | (with_reducible exact facHeard) | (rw [facLifts]; as_aux_lemma => kernel_rfl) | (rw [facMake]; as_aux_lemma => kernel_rfl) | (as_aux_lemma => kernel_rfl)

/-- THE STATEMENT -/
theorem fnCarry_holds : Rows.FnCarrySaid :=
  OpenClaim.holds_of_wide 9 Try.f9 rfl rfl rfl rfl rfl rfl rfl ⟨rfl, rfl, rfl, rfl, rfl⟩ rfl rfl rfl rfl rfl (by kernel_rfl) Try.func9 fnCarry_closed
    (of_decide_eq_true (by kernel_rfl)) (by unfold Func.isWrapper; first | (rw [if_pos (by decide +kernel)]; kernel_rfl) | (rw [if_neg (by decide +kernel)]; exact ⟨rfl, rfl⟩))
    (fun os started H enc _ => fnCarry_lifted os started H enc)
#print axioms fnCarry_holds
end Go.Proofs.Ytndpdoiomoefpaa
