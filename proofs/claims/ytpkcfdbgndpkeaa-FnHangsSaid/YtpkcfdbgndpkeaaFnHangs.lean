/-
  The law FnHangs: for every code the law answers true. No condition.
-/
import Derived.Test.YtpkcfdbgndpkeaaPayDraw
import Derived.Test.YtpkcfdbgndpkeaaFnNeeds
namespace Go.Proofs.Ytpkcfdbgndpkeaa
open Go.ChangeShapes Go.WideShapes Go.ChangeAt Go.RowKit

theorem hangs_mem (zs ps : List Int) (K k : Nat) (h : k < K) : ((k : Int) ∈ hangsTo zs ps K) ↔ hangB zs ps k = true := by
  simp only [hangsTo, List.mem_map, List.mem_filter, List.mem_range]
  constructor
  · rintro ⟨i, ⟨_, h2⟩, h3⟩
    have : i = k := by have h4 : (i : Int) = (k : Int) := h3; omega
    subst this
    exact h2
  · exact fun hb => ⟨k, ⟨h, hb⟩, rfl⟩
/-- what the first k miles lack -/
def missTo (zs ps : List Int) : Nat → Int
  | 0 => 0
  | k + 1 => missTo zs ps k + max 0 (needAt zs k - ps[k]?.getD 0)
theorem miss_bd {zs ps : List Int} (h : payB zs ps = true) : ∀ k, k ≤ ps.length → 0 ≤ missTo zs ps k ∧ missTo zs ps k ≤ 50 * (k : Int)
  | 0, _ => by simp [missTo]
  | k + 1, hk => by
    obtain ⟨hv, hl, ha⟩ := payB_true h
    have ih := miss_bd h k (by omega)
    have h1 := needAt_bd hv (i := k) (by omega)
    have h2 := allB_true.1 ha k (by omega)
    rw [missTo]
    omega
theorem slack_miss {zs ps : List Int} (h : payB zs ps = true) : ∀ k, k ≤ ps.length → slackTo zs ps k - missTo zs ps k = sumTo ps k - sumTo (needsL zs) k
  | 0, _ => by simp [missTo, slackTo_zero, sumTo_zero]
  | k + 1, hk => by
    obtain ⟨hv, hl, ha⟩ := payB_true h
    have ih := slack_miss h k (by omega)
    have hyl : (needsL zs).length = zs.length - 1 := needsL_length zs
    have e1 : (needsL zs)[k]'(by omega) = needAt zs k := by
      have := needs_get (zs := zs) (i := k) (by omega)
      rw [List.getElem?_eq_getElem (by omega)] at this
      exact this
    have e2 : ps[k]?.getD 0 = ps[k] := by rw [List.getElem?_eq_getElem (by omega)]; rfl
    rw [slackTo_succ, missTo, sumTo_succ ps (by omega), sumTo_succ (needsL zs) (by omega), e1]
    unfold slackAt
    rw [e2]
    omega
theorem pay_small {zs ps : List Int} (h : payB zs ps = true) : Small ps := fun z hz => by
  obtain ⟨i, hi, rfl⟩ := List.getElem_of_mem hz
  have := allB_true.1 (payB_true h).2.2 i hi
  rw [List.getElem?_eq_getElem hi] at this
  simp only [Option.getD_some] at this
  omega

/-- what the law's worlds keep: what was there, the floor, the pay, the hangs, the needs -/
def K4 (w0 : World) (B B1 B2 B3 : Option Addr) (d d1 d2 d3 : Nat) (zs ps hs ys : List Int) (w : World) : Prop := Below w0.heap.size w0 w ∧ Arg w B d zs ∧ Arg w B1 d1 ps ∧ Arg w B2 d2 hs ∧ Arg w B3 d3 ys
theorem K4.go {w0 w w' : World} {B B1 B2 B3 : Option Addr} {d d1 d2 d3 : Nat} {zs ps hs ys : List Int} (h : K4 w0 B B1 B2 B3 d d1 d2 d3 zs ps hs ys w) (hb : Below w.heap.size w w') : K4 w0 B B1 B2 B3 d d1 d2 d3 zs ps hs ys w' :=
  ⟨below_step h.1 hb, h.2.1.go hb, h.2.2.1.go hb, h.2.2.2.1.go hb, h.2.2.2.2.go hb⟩

set_option maxHeartbeats 4000000 in
theorem fnHangs_in (A : Option Addr) (n c : Nat) (w : World) (hl : n ≤ 1048576) (hnc : n ≤ c) (hb : Bytes w.heap.size w A n) :
    Calls Try.prog 7 #[.slice A n c] w (RetB (.bool true) w) := by
  have Hb := Lib.hid hb
  clear hb
  go_enter Try.func7, Try.ntmps7
  go_wp2_with fail
  refine (DrawPayHangs_c A n c _ (by omega) hnc Hb.out).mono ?_
  rintro e w1 ⟨B, d, zs, B1, d1, ps, rfl, hzl, hpl, ha1, hp1, hb1⟩
  have Ha := Lib.hid ha1
  have Hp := Lib.hid hp1
  have Bt := Lib.hid hb1
  clear ha1 hb1 Hb hp1
  go_wp2_with fail
  refine (implPayHangs_b B d zs B1 d1 ps _ Ha.out Hp.out).mono ?_
  rintro e w2 ⟨B2, d2, rfl, ra2, ro2, rb2⟩
  dsimp only [id]
  replace Ha := Lib.hid (Ha.out.go rb2)
  replace Hp := Lib.hid (Hp.out.go rb2)
  replace Bt := Lib.hid (below_step Bt.out rb2)
  have Hh := Lib.hid ra2
  clear rb2 ra2 ro2
  go_wp2_with fail
  refine (specPayHangs_b B d zs B1 d1 ps _ Ha.out Hp.out).mono ?_
  rintro e w3 ⟨B3, d3, rfl, ra3, ro3, rb3⟩
  dsimp only [id]
  have HK : Hid (K4 w B B1 B2 B3 d d1 d2 d3 zs ps (payHangsL zs ps) (payHangsL zs ps) w3) := Lib.hid ⟨below_step Bt.out rb3, Ha.out.go rb3, Hp.out.go rb3, Hh.out.go rb3, ra3⟩
  clear rb3 ra3 ro3 Ha Bt Hp Hh
  obtain ⟨hs, hhs⟩ : ∃ hs, payHangsL zs ps = hs := ⟨_, rfl⟩
  have Hhs := Lib.hid hhs
  rw [hhs] at HK ⊢
  clear hhs
  go_wp2_with fail
  refine (sameInts_c B2 B3 d2 d3 hs hs _ HK.out.2.2.2.1 HK.out.2.2.2.2).mono ?_
  rintro e w4 ⟨rfl, m4, rfl⟩
  replace HK := Lib.hid (HK.out.go (below_drewN (Below.refl _ _) m4))
  rw [decide_eq_true rfl]
  by_cases hne : hs.length = 0
  · have z0 : ((hs.length : Int) == 0) = true := by rw [hne]; rfl
    have hs0 : hs = [] := List.length_eq_zero_iff.1 hne
    subst hs0
    go_wp2_with fail
    refine (sameInts_c B2 B3 d2 d3 [] [] _ HK.out.2.2.2.1 HK.out.2.2.2.2).mono ?_
    rintro e w5 ⟨rfl, m5, rfl⟩
    replace HK := Lib.hid (HK.out.go (below_drewN (Below.refl _ _) m5))
    rw [decide_eq_true rfl]
    go_wp2
    go_ret
    have hh := HK.out.1
    rw [World.drewN_drewN] at hh
    exact ⟨rfl, hh⟩
  · have z0 : ((hs.length : Int) == 0) = false := beq_eq_false_iff_ne.2 (by omega)
    have hP : payB zs ps = true := by
      cases hq : payB zs ps
      · have : hs = [] := by rw [← Hhs.out]; unfold payHangsL; rw [hq]; rfl
        rw [this] at hne
        simp at hne
      · rfl
    have hhs : hs = hangsTo zs ps ps.length := by rw [← Hhs.out]; unfold payHangsL; rw [hP]; rfl
    obtain ⟨hv, hpl2, hall⟩ := payB_true hP
    have HP := Lib.hid hP
    have Hhs2 := Lib.hid hhs
    have hz16 := (validB_true hv).2.1
    have Hv := Lib.hid hv
    have Hall := Lib.hid hall
    have HN := Lib.hid fun W' (h : Arg W' B d zs) => implFloorNeeds_b B d zs W' h
    obtain ⟨ys, hys⟩ : ∃ ys, floorNeedsL zs = ys := ⟨_, rfl⟩
    rw [hys, hv] at HN
    have hyn : ys = needsL zs := by rw [← hys, floorNeedsL_yes hv]
    have hyl : ys.length = zs.length - 1 := by rw [hyn, needsL_length]
    have Hyn := Lib.hid hyn
    have Hyl := Lib.hid (show ys.length = ps.length by omega)
    have Hpl := Lib.hid hpl2
    clear hv hP hhs hall hys hyn Hhs hne hyl hpl2
    go_wp2_with fail
    refine (HN.out _ HK.out.2.1).mono ?_
    rintro e w6 ⟨B6, d6, rfl, ra6, ro6, rb6⟩
    dsimp only
    have HL : Hid (K4 w B B1 B2 B6 d d1 d2 d6 zs ps hs ys w6) := Lib.hid ⟨below_step HK.out.1 rb6, HK.out.2.1.go rb6, HK.out.2.2.1.go rb6, HK.out.2.2.2.1.go rb6, ra6⟩
    clear HK HN rb6 ra6 ro6
    go_wp2
    go_loopw [9, 10] (fun ms i wr => ∃ k : Nat, k ≤ ps.length ∧ i = .int .i64 k ∧ ms = .int .i64 (missTo zs ps k) ∧ Hid (K4 w B B1 B2 B6 d d1 d2 d6 zs ps hs ys wr)) (fun _ i _ => ps.length - (intOf i).toNat)
    case atStart => exact ⟨0, by omega, rfl, rfl, HL⟩
    case round =>
      clear HL
      obtain ⟨k, hk, rfl, rfl, HL⟩ := hrel
      have hmb := miss_bd HP.out k hk
      by_cases hkl : k < ps.length
      · have hky : k < ys.length := by have := Hyl.out; omega
        have hkz : k + 1 < zs.length := by have := Hpl.out; omega
        obtain ⟨b, off, rfl, _, _, hc⟩ := HL.out.2.2.1.rd.at_ hkl
        obtain ⟨b', off', rfl, _, _, hc'⟩ := HL.out.2.2.2.2.rd.at_ hky
        have e1 : ys[k]?.getD 0 = needAt zs k := by rw [Hyn.out]; exact needs_get hkz
        have hb1 := allB_true.1 Hall.out k hkl
        have hb2 := needAt_bd Hv.out hkz
        have Hm := Lib.hid (show missTo zs ps (k + 1) = missTo zs ps k + max 0 (needAt zs k - ps[k]?.getD 0) from rfl)
        have hmem : decide ((k : Int) ∈ hs) = decide (ps[k]?.getD 0 < needAt zs k) := by
          rw [Hhs2.out]
          apply decide_eq_decide.2
          rw [hangs_mem zs ps _ k hkl]
          unfold hangB
          exact decide_eq_true_iff
        rw [e1] at hc'
        clear e1
        generalize ps[k]?.getD 0 = x at *
        generalize needAt zs k = y at *
        generalize hM : missTo zs ps k = M at *
        have HMk := Lib.hid hM
        clear hM
        have g1 : (k : Int) < (ps.length : Int) := by omega
        have g2 : (k : Int) < (ys.length : Int) := by omega
        have q1 : IntKind.i64.wrap (y - x) = y - x := IntWalk.i64_in _ (by omega)
        by_cases hxy : x < y
        · have d1 : decide (x < y) = true := decide_eq_true hxy
          rw [d1] at hmem
          have HC := Lib.hid fun W' (h : Arg W' B2 d2 hs) => (hasInt_c B2 d2 hs (k : Int) W' h).mono fun e w' (hh : e = _ ∧ W' = w') => (⟨hh.1, hh.2.symm⟩ : e = .returned (.bool (decide ((k : Int) ∈ hs))) ∧ w' = W')
          rw [hmem] at HC
          clear hmem
          have q2 : IntKind.i64.wrap (M + (y - x)) = M + (y - x) := IntWalk.i64_in _ (by omega)
          go_wp2
          go_quiet ((go_at_call 34; exact Calls.quiet_of_same (HC.out _ (HL.out.2.2.2.1.go (below_drewN (Below.refl _ _) _)))))
          go_wp2
          go_quiet (fail)
          go_wp2
          go_roundw
          case rel => exact ⟨k + 1, by omega, by go_num, by rw [Hm.out]; congr 1; omega, Lib.hid (HL.out.go (below_drewN (Below.refl _ _) _))⟩
          case measure => simp [intOf]; omega
        · have d1 : decide (x < y) = false := decide_eq_false hxy
          rw [d1] at hmem
          have HC := Lib.hid fun W' (h : Arg W' B2 d2 hs) => (hasInt_c B2 d2 hs (k : Int) W' h).mono fun e w' (hh : e = _ ∧ W' = w') => (⟨hh.1, hh.2.symm⟩ : e = .returned (.bool (decide ((k : Int) ∈ hs))) ∧ w' = W')
          rw [hmem] at HC
          clear hmem
          have q3 : y - x ≤ 0 := by omega
          go_wp2
          go_quiet ((go_at_call 34; exact Calls.quiet_of_same (HC.out _ (HL.out.2.2.2.1.go (below_drewN (Below.refl _ _) _)))))
          go_wp2
          go_quiet (fail)
          go_wp2
          go_roundw
          case rel => exact ⟨k + 1, by omega, by go_num, by rw [Hm.out]; congr 1; omega, Lib.hid (HL.out.go (below_drewN (Below.refl _ _) _))⟩
          case measure => simp [intOf]; omega
      · obtain rfl : k = ps.length := by omega
        have hsb := slackTo_bd HP.out ps.length (Nat.le_refl _)
        have hps := pay_small HP.out
        have hys := needs_small Hv.out
        rw [← Hyn.out] at hys
        have hE := slack_miss HP.out ps.length (Nat.le_refl _)
        have Hps := Lib.hid hps
        have Hys := Lib.hid hys
        have e1 : sumTo (needsL zs) ps.length = ys.sum := by rw [← Hyn.out, ← Hyl.out]; exact sumTo_all ys
        rw [sumTo_all, e1] at hE
        have b1 := hps.sum
        have b2 := hys.sum
        rw [Hyl.out] at b2
        have HSl := Lib.hid (show paySlackI zs ps = slackTo zs ps ps.length by unfold paySlackI; rw [HP.out]; rfl)
        clear e1 hps hys
        go_wp2_with fail
        refine (implPaySlack_b B d zs B1 d1 ps _ HL.out.2.1 HL.out.2.2.1).mono ?_
        rintro e w7 ⟨rfl, rb7⟩
        rw [HSl.out]
        have HL7 := Lib.hid (HL.out.go rb7)
        clear rb7 HL
        generalize slackTo zs ps ps.length = S at *
        generalize missTo zs ps ps.length = M at *
        have q1 : IntKind.i64.wrap (S - M) = S - M := IntWalk.i64_in _ (by omega)
        go_wp2_with fail
        refine (sumOf_c B1 d1 ps _ Hps.out HL7.out.2.2.1).mono ?_
        rintro e w8 ⟨rfl, rfl⟩
        go_wp2_with fail
        refine (sumOf_c B6 d6 ys _ Hys.out HL7.out.2.2.2.2).mono ?_
        rintro e w9 ⟨rfl, rfl⟩
        generalize ps.sum = P at *
        generalize ys.sum = Y at *
        have q2 : IntKind.i64.wrap (P - Y) = P - Y := IntWalk.i64_in _ (by omega)
        have z1 : (S - M == P - Y) = true := by rw [hE]; simp
        clear hE
        go_wp2
        go_ret
        exact ⟨rfl, HL7.out.1⟩

theorem fnHangs_walk (A0 : Option Addr) (n0 c0 : Nat) (w : World) (hb0 : Byt0 w A0 n0 c0) :
    Calls Try.prog 7 #[.slice A0 n0 c0] w (RetB (.bool true) w) := by
  by_cases hl0 : 1048576 < n0
  · clear hb0
    go_enter Try.func7, Try.ntmps7
    go_wp2
    go_ret
    exact ⟨rfl, Below.refl _ _⟩
  exact fnHangs_in A0 n0 c0 w (by omega) hb0.1 hb0.2.2

set_option maxRecDepth 100000 in
theorem fnHangs_lifted (os : Os) (started : os.Started) (H : Type) (enc : TypeId × Value → H) :
    ReturnsInHanded {} Try.checked os 7 .any (Rows.fnHangsSpec.pre6 enc Try.prog Try.f7 Rows.fnHangsRow.domain false) (Rows.fnHangsSpec.post enc Try.prog Try.f7 false true false false) := by
  refine returnsInHanded_of_change (C := Try.checked) row_own started (by kernel_rfl) Try.func7
    (ChangeSpec.witness6 (enc := enc) (C := Try.checked) false ⟨#[], #[.slice none 0 0], []⟩ 8 (by kernel_rfl) (by kernel_rfl) (by kernel_rfl) (by kernel_rfl)) ?_
  intro W base args ds gs before hval0 hW hcnd _
  have hval : ∀ (j : Nat) t v, Try.f7.params[j]? = some t → args[j]? = some v → Value.okWide Try.prog W .any base t v := hval0
  have hW' := hW
  obtain ⟨p, q, hA0, hV, rfl, _, _⟩ := hW
  have hA : DataW.TrodAll enc Try.prog W 0 (fun _ => true) true Try.f7.params.toList args.toList ds p := hA0
  rw [Try.params7] at hA hval
  obtain ⟨v0, vs0, d0, ds0, p0, q0, hargs, rfl, rfl, h0, r0⟩ := trodAll_cons hA
  obtain ⟨rfl, rfl, rfl⟩ := trodAll_nil r0
  obtain rfl : args = #[v0] := by cases args; simp_all
  obtain ⟨rfl, rfl⟩ := trodVars_none hV
  have hlt0 : ∀ x ∈ p0, x.block < W.heap.size := fun x hx => by exact hW'.lt x (by simp [hx])
  obtain ⟨A0, n0, c0, rfl, hb0⟩ := open_bytes (hval 0 22 v0 rfl rfl) h0 hlt0
  clear hA0 hval0
  refine (fnHangs_walk A0 n0 c0 W hb0).mono fun e W' ⟨he, hb⟩ => ?_
  subst he
  exact ⟨_, rfl, _, _, _, [], _, [], hW', (trodAll_cons_mk (shut_bool Try.underlying4 _) trodAll_mk0), (trodAll_cons_mk (read_again_bytes h0 hlt0 hb) trodAll_mk0), rfl, hb.frame _, fun h => by cases h⟩

/-- THE STATEMENT -/
theorem fnHangs_holds : Rows.FnHangsSaid :=
  OpenClaim.holds_of_wide 7 Try.f7 rfl rfl rfl rfl rfl rfl rfl ⟨rfl, rfl, rfl, rfl, rfl⟩ rfl rfl rfl rfl rfl (by kernel_rfl) Try.func7 (by kernel_rfl)
    (of_decide_eq_true (by kernel_rfl)) (by unfold Func.isWrapper; first | (rw [if_pos (by decide +kernel)]; kernel_rfl) | (rw [if_neg (by decide +kernel)]; exact ⟨rfl, rfl⟩))
    (fun os started H enc _ => fnHangs_lifted os started H enc)
#print axioms fnHangs_holds
end Go.Proofs.Ytpkcfdbgndpkeaa
