/-
  The law FnNeeds: for every code the law answers true. No condition.
-/
import Derived.Test.YtpkcfdbgndpkeaaDraws
import Derived.Test.YtpkcfdbgndpkeaaLawBase
import Derived.Test.YtpkcfdbgndpkeaaSlack
import Derived.Test.YtpkcfdbgndpkeaaHangs
import Derived.Test.YtpkcfdbgndpkeaaSteep
import Derived.Test.YtpkcfdbgndpkeaaFFloorLength
import Derived.Test.YtpkcfdbgndpkeaaRowB
namespace Go.Proofs.Ytpkcfdbgndpkeaa
open Go.ChangeShapes Go.WideShapes Go.ChangeAt Go.RowKit

theorem needs_sum (zs : List Int) : (needsL zs).sum = lenTo zs 0 (zs.length - 1) := by simp [needsL, needsTo, lenTo]
theorem needs_get {zs : List Int} {i : Nat} (h : i + 1 < zs.length) : (needsL zs)[i]?.getD 0 = needAt zs i := needsL_at h
theorem needs_small {zs : List Int} (hv : validB zs = true) : Small (needsL zs) := fun z hz => by
  simp only [needsL, needsTo, List.mem_map, List.mem_range] at hz
  obtain ⟨i, hi, rfl⟩ := hz
  have := needAt_bd hv (i := i) (by omega)
  omega
theorem needs_pay {zs : List Int} (hv : validB zs = true) : payB zs (needsL zs) = true := by
  simp only [payB, Bool.and_eq_true, decide_eq_true_eq]
  refine ⟨⟨hv, needsL_length zs⟩, allB_true.2 fun j hj => ?_⟩
  rw [needsL_length] at hj
  rw [needs_get (by omega)]
  have := needAt_bd hv (i := j) (by omega)
  omega
theorem needs_hangs (zs : List Int) : payHangsL zs (needsL zs) = [] := by
  unfold payHangsL
  split
  · have : ∀ k, k ≤ (needsL zs).length → hangsTo zs (needsL zs) k = [] := by
      intro k
      induction k with
      | zero => exact fun _ => hangsTo_zero _ _
      | succ k ih =>
        intro hk
        rw [hangsTo_no, ih (by omega)]
        rw [needsL_length] at hk
        unfold hangB
        rw [needs_get (by omega)]
        simp
    exact this _ (Nat.le_refl _)
  · rfl
theorem needs_slack {zs : List Int} (hv : validB zs = true) : paySlackI zs (needsL zs) = 0 := by
  unfold paySlackI
  rw [needs_pay hv]
  have : ∀ k, k ≤ (needsL zs).length → slackTo zs (needsL zs) k = 0 := by
    intro k
    induction k with
    | zero => exact fun _ => slackTo_zero _ _
    | succ k ih =>
      intro hk
      rw [slackTo_succ, ih (by omega)]
      rw [needsL_length] at hk
      unfold slackAt
      rw [needs_get (by omega)]
      simp
  exact this _ (Nat.le_refl _)
theorem whole_len {zs : List Int} (hv : validB zs = true) : floorLengthI zs 0 ((zs.length : Int) - 1) = lenTo zs 0 (zs.length - 1) := by
  have := (validB_true hv).1
  obtain ⟨N, hN⟩ : ∃ N, zs.length = N + 1 := ⟨zs.length - 1, by omega⟩
  rw [show (zs.length : Int) - 1 = (N : Int) by omega, show zs.length - 1 = N by omega]
  unfold floorLengthI twoB ptsB
  rw [hv]
  simp
  omega

/-- what the law's worlds keep: what was there, the floor, the needs twice -/
def K3 (w0 : World) (B B1 B2 : Option Addr) (d d1 d2 : Nat) (zs ys : List Int) (w : World) : Prop := Below w0.heap.size w0 w ∧ Arg w B d zs ∧ Arg w B1 d1 ys ∧ Arg w B2 d2 ys
theorem K3.go {w0 w w' : World} {B B1 B2 : Option Addr} {d d1 d2 : Nat} {zs ys : List Int} (h : K3 w0 B B1 B2 d d1 d2 zs ys w) (hb : Below w.heap.size w w') : K3 w0 B B1 B2 d d1 d2 zs ys w' :=
  ⟨below_step h.1 hb, h.2.1.go hb, h.2.2.1.go hb, h.2.2.2.go hb⟩

set_option maxHeartbeats 4000000 in
theorem fnNeeds_in (A : Option Addr) (n c : Nat) (w : World) (hl : n ≤ 1048576) (hnc : n ≤ c) (hb : Bytes w.heap.size w A n) :
    Calls Try.prog 3 #[.slice A n c] w (RetB (.bool true) w) := by
  have Hb := Lib.hid hb
  clear hb
  go_enter Try.func3, Try.ntmps3
  go_wp2_with fail
  refine (DrawFloorNeeds_c A n c _ (by omega) hnc Hb.out).mono ?_
  rintro e w1 ⟨B, d, zs, rfl, hzl, ha1, ho1, hb1⟩
  dsimp only [id]
  have Ha := Lib.hid ha1
  have Bt := Lib.hid hb1
  clear ha1 ho1 hb1 Hb
  go_wp2_with fail
  refine (implFloorNeeds_b B d zs _ Ha.out).mono ?_
  rintro e w2 ⟨B1, d1, rfl, ra2, ro2, rb2⟩
  dsimp only
  replace Ha := Lib.hid (Ha.out.go rb2)
  replace Bt := Lib.hid (below_step Bt.out rb2)
  have Hy := Lib.hid ra2
  clear rb2 ra2 ro2
  go_wp2_with fail
  refine (specFloorNeeds_b B d zs _ Ha.out).mono ?_
  rintro e w3 ⟨B2, d2, rfl, ra3, ro3, rb3⟩
  dsimp only
  have HK : Hid (K3 w B B1 B2 d d1 d2 zs (floorNeedsL zs) w3) := Lib.hid ⟨below_step Bt.out rb3, Ha.out.go rb3, Hy.out.go rb3, ra3⟩
  clear rb3 ra3 ro3 Ha Bt Hy
  obtain ⟨ys, hys⟩ : ∃ ys, floorNeedsL zs = ys := ⟨_, rfl⟩
  have Hys := Lib.hid hys
  rw [hys] at HK ⊢
  clear hys
  cases hv : validB zs
  · go_wp2_with fail
    refine (sameInts_c B1 B2 d1 d2 ys ys _ HK.out.2.2.1 HK.out.2.2.2).mono ?_
    rintro e w4 ⟨rfl, m, rfl⟩
    replace HK := Lib.hid (HK.out.go (below_drewN (Below.refl _ _) m))
    rw [decide_eq_true rfl]
    go_wp2_with fail
    refine (sameInts_c B1 B2 d1 d2 ys ys _ HK.out.2.2.1 HK.out.2.2.2).mono ?_
    rintro e w5 ⟨rfl, m5, rfl⟩
    replace HK := Lib.hid (HK.out.go (below_drewN (Below.refl _ _) m5))
    rw [decide_eq_true rfl]
    go_wp2
    go_ret
    have hh := HK.out.1
    rw [World.drewN_drewN] at hh
    exact ⟨rfl, hh⟩
  · have Hv := Lib.hid hv
    have hz2 := (validB_true hv).1
    have hz16 := (validB_true hv).2.1
    have hyn : ys = needsL zs := by rw [← Hys.out, floorNeedsL_yes hv]
    have hyl : ys.length = zs.length - 1 := by rw [hyn, needsL_length]
    have d0 : ((ys.length : Int) == (zs.length : Int) - 1) = true := by simp; omega
    have hyl2 : ys.length ≤ 15 := by omega
    have Hyl := Lib.hid hyl
    have Hyn := Lib.hid hyn
    clear hv hyl hyn Hys
    go_wp2_with fail
    refine (sameInts_c B1 B2 d1 d2 ys ys _ HK.out.2.2.1 HK.out.2.2.2).mono ?_
    rintro e w4 ⟨rfl, m, rfl⟩
    replace HK := Lib.hid (HK.out.go (below_drewN (Below.refl _ _) m))
    rw [decide_eq_true rfl]
    obtain ⟨W, hW⟩ : ∃ W, w3.drewN m = W := ⟨_, rfl⟩
    rw [hW] at HK ⊢
    clear hW
    go_wp2
    go_loopw [8] (fun i wr => ∃ k : Nat, k ≤ ys.length ∧ i = .int .i64 k ∧ wr = W) (fun i _ => ys.length - (intOf i).toNat)
    case atStart => exact ⟨0, by omega, rfl, rfl⟩
    case round =>
      obtain ⟨k, hk, rfl, rfl⟩ := hrel
      by_cases hkl : k < ys.length
      · obtain ⟨b, off, rfl, _, _, hc⟩ := HK.out.2.2.1.rd.at_ hkl
        have g1 : (k : Int) < (ys.length : Int) := by omega
        have hk1 : k + 1 < zs.length := by have := Hyl.out; omega
        have e1 : ys[k]?.getD 0 = needAt zs k := by rw [Hyn.out]; exact needs_get hk1
        have hb2 := needAt_bd Hv.out hk1
        rw [e1] at hc
        clear e1
        go_wp2
        go_roundw
        case rel => exact ⟨k + 1, by omega, by go_num, by first | rfl | trivial⟩
        case measure => simp [intOf]; omega
      · obtain rfl : k = ys.length := by omega
        have Hs1 := Lib.hid (show ys.sum = lenTo zs 0 (zs.length - 1) by rw [Hyn.out]; exact needs_sum zs)
        have Hs2 := Lib.hid (show Small ys by rw [Hyn.out]; exact needs_small Hv.out)
        have Hs3 := Lib.hid (show payHangsL zs ys = [] by rw [Hyn.out]; exact needs_hangs zs)
        have Hs4 := Lib.hid (show paySlackI zs ys = 0 by rw [Hyn.out]; exact needs_slack Hv.out)
        have Hs5 := Lib.hid (whole_len Hv.out)
        go_wp2_with fail
        refine (sumOf_c B1 d1 ys _ Hs2.out HK.out.2.2.1).mono ?_
        rintro e w5 ⟨rfl, rfl⟩
        rw [Hs1.out]
        go_wp2_with fail
        refine (implFloorLength_b B d zs 0 ((zs.length : Int) - 1) _ HK.out.2.1).mono ?_
        rintro e w6 ⟨rfl, rb6⟩
        replace HK := Lib.hid (HK.out.go rb6)
        rw [Hs5.out]
        clear rb6
        go_wp2_with fail
        refine (implPayHangs_b B d zs B1 d1 ys _ HK.out.2.1 HK.out.2.2.1).mono ?_
        rintro e w7 ⟨B7, d7, rfl, ra7, ro7, rb7⟩
        dsimp only [id]
        replace HK := Lib.hid (HK.out.go rb7)
        rw [Hs3.out]
        clear rb7 ra7 ro7
        go_wp2_with fail
        refine (implPaySlack_b B d zs B1 d1 ys _ HK.out.2.1 HK.out.2.2.1).mono ?_
        rintro e w8 ⟨rfl, rb8⟩
        replace HK := Lib.hid (HK.out.go rb8)
        rw [Hs4.out]
        clear rb8
        go_wp2
        go_ret
        exact ⟨rfl, HK.out.1⟩

theorem fnNeeds_walk (A0 : Option Addr) (n0 c0 : Nat) (w : World) (hb0 : Byt0 w A0 n0 c0) :
    Calls Try.prog 3 #[.slice A0 n0 c0] w (RetB (.bool true) w) := by
  by_cases hl0 : 1048576 < n0
  · clear hb0
    go_enter Try.func3, Try.ntmps3
    go_wp2
    go_ret
    exact ⟨rfl, Below.refl _ _⟩
  exact fnNeeds_in A0 n0 c0 w (by omega) hb0.1 hb0.2.2

set_option maxRecDepth 100000 in
theorem fnNeeds_lifted (os : Os) (started : os.Started) (H : Type) (enc : TypeId × Value → H) :
    ReturnsInHanded {} Try.checked os 3 .any (Rows.fnNeedsSpec.pre6 enc Try.prog Try.f3 Rows.fnNeedsRow.domain false) (Rows.fnNeedsSpec.post enc Try.prog Try.f3 false true false false) := by
  refine returnsInHanded_of_change (C := Try.checked) row_own started (by kernel_rfl) Try.func3
    (ChangeSpec.witness6 (enc := enc) (C := Try.checked) false ⟨#[], #[.slice none 0 0], []⟩ 8 (by kernel_rfl) (by kernel_rfl) (by kernel_rfl) (by kernel_rfl)) ?_
  intro W base args ds gs before hval0 hW hcnd _
  have hval : ∀ (j : Nat) t v, Try.f3.params[j]? = some t → args[j]? = some v → Value.okWide Try.prog W .any base t v := hval0
  have hW' := hW
  obtain ⟨p, q, hA0, hV, rfl, _, _⟩ := hW
  have hA : DataW.TrodAll enc Try.prog W 0 (fun _ => true) true Try.f3.params.toList args.toList ds p := hA0
  rw [Try.params3] at hA hval
  obtain ⟨v0, vs0, d0, ds0, p0, q0, hargs, rfl, rfl, h0, r0⟩ := trodAll_cons hA
  obtain ⟨rfl, rfl, rfl⟩ := trodAll_nil r0
  obtain rfl : args = #[v0] := by cases args; simp_all
  obtain ⟨rfl, rfl⟩ := trodVars_none hV
  have hlt0 : ∀ x ∈ p0, x.block < W.heap.size := fun x hx => by exact hW'.lt x (by simp [hx])
  obtain ⟨A0, n0, c0, rfl, hb0⟩ := open_bytes (hval 0 22 v0 rfl rfl) h0 hlt0
  clear hA0 hval0
  refine (fnNeeds_walk A0 n0 c0 W hb0).mono fun e W' ⟨he, hb⟩ => ?_
  subst he
  exact ⟨_, rfl, _, _, _, [], _, [], hW', (trodAll_cons_mk (shut_bool Try.underlying4 _) trodAll_mk0), (trodAll_cons_mk (read_again_bytes h0 hlt0 hb) trodAll_mk0), rfl, hb.frame _, fun h => by cases h⟩

/-- THE STATEMENT -/
theorem fnNeeds_holds : Rows.FnNeedsSaid :=
  OpenClaim.holds_of_wide 3 Try.f3 rfl rfl rfl rfl rfl rfl rfl ⟨rfl, rfl, rfl, rfl, rfl⟩ rfl rfl rfl rfl rfl (by kernel_rfl) Try.func3 (by kernel_rfl)
    (of_decide_eq_true (by kernel_rfl)) (by unfold Func.isWrapper; first | (rw [if_pos (by decide +kernel)]; kernel_rfl) | (rw [if_neg (by decide +kernel)]; exact ⟨rfl, rfl⟩))
    (fun os started H enc _ => fnNeeds_lifted os started H enc)
#print axioms fnNeeds_holds
end Go.Proofs.Ytpkcfdbgndpkeaa
