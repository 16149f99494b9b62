/-
  The law FnDay: for every code the law answers true. No condition but the tie of the card.
-/
import Derived.Test.YtbcgglkgdjafiaaDoorRowB
import Derived.Test.YtbcgglkgdjafiaaDoorRow
import Derived.ChangeMaps5
import Derived.Test.YtbcgglkgdjafiaaDoorDoorM
import Derived.Test.YtbcgglkgdjafiaaDoorTie
import Derived.Test.YtbcgglkgdjafiaaDoorCards
import Derived.LaidMore
import Derived.SevenTiedAt
import Derived.Stop.Joined
import Derived.Test.YtbcgglkgdjafiaaDoorFacD
import Derived.Test.YtbcgglkgdjafiaaDoorWDrawS
import Derived.Test.YtbcgglkgdjafiaaDoorWFacts
namespace Go.Proofs.YtbcgglkgdjafiaaDoor
open Go.ChangeShapes Go.WideShapes Go.ChangeAt Go.RowKit Go.ChangeMaps

set_option maxRecDepth 100000 in
set_option maxHeartbeats 2000000 in
theorem fnDay_in (A : Option Addr) (n c : Nat) (w : World) (hl : n ≤ 1048576) (hnc : n ≤ c) (hb : Bytes w.heap.size w A n) (hT : Tab w) :
    Calls Tryd.prog 4 #[.slice A n c] w (RetB (.bool true) w) := by
  have Hb := Lib.hid hb
  have tz0 := hT.lt
  have HT := Lib.hid hT
  clear hb hT
  go_enter Tryd.func4, Tryd.ntmps4
  go_wp2_with fail
  refine (DrawForecastDay_c A n c _ (by omega) hnc Hb.out).mono ?_
  rintro e w1 ⟨s, d, rfl, hs, hd0, hd1, hB⟩
  replace HT := Lib.hid (HT.out.go hB)
  have Bt := Lib.hid hB
  clear hB Hb
  have Hlen := Lib.hid (byL_len s)
  have Hop := Lib.hid (fun (d : Int) W => (implForecastOpen_q s d W).mono fun _ _ h => h.toB)
  have Hdy := Lib.hid (fun (d : Int) W h => implForecastDay_b s d W (by omega) h)
  have Hi1 := Lib.hid (fun W h => Hdy.out d W h)
  have Hspec := Lib.hid (fun W => specForecastDay_c s (by omega) d W)
  have Hno := Lib.hid (@day_off (byL s) d)
  obtain ⟨v, hv⟩ : ∃ v, dyV (byL s) d = v := ⟨_, rfl⟩
  have Hv := Lib.hid hv
  rw [hv] at Hi1 Hspec Hno
  clear hv
  have nv : (v != v) = false := by simp
  have ne : (v == v) = true := by simp
  go_wp2_with fail
  refine (Hi1.out _ HT.out).mono ?_
  rintro e w2 ⟨rfl, rb2⟩
  replace HT := Lib.hid (HT.out.go rb2)
  replace Bt := Lib.hid (below_step Bt.out rb2)
  clear rb2
  go_wp2_with fail
  refine (Hspec.out _).mono ?_
  rintro e w3 ⟨rfl, rfl⟩
  by_cases hy : fcB (byL s) = true ∧ 0 ≤ d ∧ d ≤ (opT (byL s) (byL s).length : Int)
  case neg =>
    have hv1 := Hno.out hy
    subst hv1
    clear hy
    go_wp2
    go_ret
    exact ⟨rfl, Bt.out⟩
  obtain ⟨hf, h0, h1⟩ := hy
  obtain ⟨W, rfl⟩ := Int.eq_ofNat_of_zero_le h0
  have hW : W ≤ opT (byL s) (byL s).length := by omega
  have hvt : v = (dyL (byL s) W : Int) := by rw [← Hv.out]; exact day_on hf hW
  have hyl := dyL_le (byL s) W
  have hyo := opT_dy (byL s) W hW
  have hyz := dyL_zero (byL s)
  have hop := fun h => dyL_open (byL s) W h hW
  have hmo := fun h => @dyL_mono (byL s) W (W + 1) (by omega) h
  have hnon := fun h => day_on hf (W := W + 1) h
  have hnof := fun h => @day_off (byL s) ((W : Int) + 1) h
  have hall := open_at hf (Nat.le_refl (byL s).length)
  have hoy := open_at hf hyl
  have hbat := byL_at s
  obtain ⟨y, hyy⟩ : ∃ y, dyL (byL s) W = y := ⟨_, rfl⟩
  rw [hyy] at hvt hyl hyo hoy
  rw [hyo] at hoy
  subst hvt
  have hoc := Hop.out (y : Int)
  rw [hoy] at hoc
  have Hoc := Lib.hid hoc
  have hac := Hop.out ((byL s).length : Int)
  rw [hall, Hlen.out] at hac
  rw [Hlen.out] at hW hyl
  have hnxt := Hdy.out ((W : Int) + 1)
  have g0 : ¬ (y : Int) < 0 := by omega
  have q1 : IntKind.i64.wrap ((W : Int) + 1) = (W : Int) + 1 := IntWalk.i64_in _ (by omega)
  have q2 : IntKind.i64.wrap ((y : Int) - 1) = (y : Int) - 1 := IntWalk.i64_in _ (by omega)
  have hsel : (W = 0 ∧ y = 0) ∨ (0 < W ∧ ∃ y1 : Nat, y = y1 + 1 ∧ ∃ h : y1 < s.size, (s[y1]'h).toNat = 111) := by
    rcases Nat.eq_zero_or_pos W with hw0 | hw0
    · left
      refine ⟨hw0, ?_⟩
      rw [hw0, hyz] at hyy
      exact hyy.symm
    · right
      obtain ⟨hd, hp, ho⟩ := hop hw0
      rw [Hlen.out] at hd
      simp only [hyy] at hd hp ho
      refine ⟨hw0, y - 1, by omega, hd, ?_⟩
      have e1 := hbat (y - 1) hd
      rw [List.getElem?_eq_getElem (by rw [Hlen.out]; exact hd)] at e1
      injection e1 with e1
      rw [e1] at ho
      simpa [isO] using ho
  have hse2 : (∃ z : Int, dyV (byL s) ((W : Int) + 1) = z ∧ (z == -1) = false ∧ (y : Int) < z) ∨ (dyV (byL s) ((W : Int) + 1) = -1 ∧ opT (byL s) s.size = W) := by
    by_cases hle : W + 1 ≤ opT (byL s) (byL s).length
    · left
      have h3 := hmo hle
      have h4 := hnon hle
      rw [hyy] at h3
      refine ⟨_, rfl, ?_, ?_⟩
      · rw [show (W : Int) + 1 = ((W + 1 : Nat) : Int) by omega, h4, beq_eq_false_iff_ne]; omega
      · rw [show (W : Int) + 1 = ((W + 1 : Nat) : Int) by omega, h4]; omega
    · right
      refine ⟨hnof (fun h => by omega), ?_⟩
      rw [Hlen.out] at hle
      omega
  have Hac := Lib.hid hac
  have Hnxt := Lib.hid hnxt
  clear hbat hop hmo hnon hnof hyz hall hoy hoc hac hnxt hyo Hno Hspec Hi1 Hdy Hop Hv
  rcases hsel with ⟨hw0, hy0⟩ | ⟨hw0, y1, hy1, hys, hyo2⟩
  · subst hw0
    subst hy0
    rcases hse2 with hse2 | hse2
    · obtain ⟨z, hz, hz1, hz2⟩ := hse2
      have hz3 : (0 : Int) < z := by omega
      have hnx := Hnxt.out
      rw [hz] at hnx
      have Hnx := Lib.hid hnx
      clear hnx hz
      go_wp2_with fail
      refine (Hnx.out _ HT.out).mono ?_
      rintro e w4 ⟨rfl, rb⟩
      replace HT := Lib.hid (HT.out.go rb)
      replace Bt := Lib.hid (below_step Bt.out rb)
      clear rb
      go_wp2_with fail
      refine (Hoc.out _).mono ?_
      rintro e w5 ⟨rfl, rb⟩
      replace HT := Lib.hid (HT.out.go rb)
      replace Bt := Lib.hid (below_step Bt.out rb)
      clear rb
      go_wp2
      go_ret
      exact ⟨rfl, Bt.out⟩
    · obtain ⟨hz, hz1⟩ := hse2
      have hnx := Hnxt.out
      rw [hz] at hnx
      have Hnx := Lib.hid hnx
      have hac2 := Hac.out
      rw [hz1] at hac2
      have Hac2 := Lib.hid hac2
      clear hnx hz hac2 hz1
      go_wp2_with fail
      refine (Hnx.out _ HT.out).mono ?_
      rintro e w4 ⟨rfl, rb⟩
      replace HT := Lib.hid (HT.out.go rb)
      replace Bt := Lib.hid (below_step Bt.out rb)
      clear rb
      go_wp2_with fail
      refine (Hoc.out _).mono ?_
      rintro e w5 ⟨rfl, rb⟩
      replace HT := Lib.hid (HT.out.go rb)
      replace Bt := Lib.hid (below_step Bt.out rb)
      clear rb
      go_wp2_with fail
      refine (Hac2.out _).mono ?_
      rintro e w6 ⟨rfl, rb⟩
      replace HT := Lib.hid (HT.out.go rb)
      replace Bt := Lib.hid (below_step Bt.out rb)
      clear rb
      go_wp2
      go_ret
      exact ⟨rfl, Bt.out⟩
  · subst hy1
    have k1 : ((W : Int) == 0) = false := by rw [beq_eq_false_iff_ne]; omega
    have k2 : (0 : Int) < (W : Int) := by omega
    have k3 : ((y1 + 1 : Nat) : Int) - 1 = (y1 : Int) := by omega
    have k6 : (y1 : Int) + 1 - 1 = (y1 : Int) := by omega
    have k4 : (y1 : Int) < (s.size : Int) := by omega
    have k7 : IntKind.i64.wrap (y1 : Int) = (y1 : Int) := IntWalk.i64_in _ (by omega)
    obtain ⟨b, hb⟩ : ∃ b : UInt8, s[y1]'hys = b := ⟨_, rfl⟩
    rw [hb] at hyo2
    have k5 : ((b.toNat : Int) == 111) = true := by simp; omega
    rcases hse2 with hse2 | hse2
    · obtain ⟨z, hz, hz1, hz2⟩ := hse2
      have hz3 : (y1 : Int) + 1 < z := by omega
      have hnx := Hnxt.out
      rw [hz] at hnx
      have Hnx := Lib.hid hnx
      clear hnx hz
      go_wp2_with fail
      refine (Hnx.out _ HT.out).mono ?_
      rintro e w4 ⟨rfl, rb⟩
      replace HT := Lib.hid (HT.out.go rb)
      replace Bt := Lib.hid (below_step Bt.out rb)
      clear rb
      go_wp2_with fail
      refine (Hoc.out _).mono ?_
      rintro e w5 ⟨rfl, rb⟩
      replace HT := Lib.hid (HT.out.go rb)
      replace Bt := Lib.hid (below_step Bt.out rb)
      clear rb
      go_wp2
      go_ret
      exact ⟨rfl, Bt.out⟩
    · obtain ⟨hz, hz1⟩ := hse2
      have hnx := Hnxt.out
      rw [hz] at hnx
      have Hnx := Lib.hid hnx
      have hac2 := Hac.out
      rw [hz1] at hac2
      have Hac2 := Lib.hid hac2
      clear hnx hz hac2 hz1
      go_wp2_with fail
      refine (Hnx.out _ HT.out).mono ?_
      rintro e w4 ⟨rfl, rb⟩
      replace HT := Lib.hid (HT.out.go rb)
      replace Bt := Lib.hid (below_step Bt.out rb)
      clear rb
      go_wp2_with fail
      refine (Hoc.out _).mono ?_
      rintro e w5 ⟨rfl, rb⟩
      replace HT := Lib.hid (HT.out.go rb)
      replace Bt := Lib.hid (below_step Bt.out rb)
      clear rb
      go_wp2_with fail
      refine (Hac2.out _).mono ?_
      rintro e w6 ⟨rfl, rb⟩
      replace HT := Lib.hid (HT.out.go rb)
      replace Bt := Lib.hid (below_step Bt.out rb)
      clear rb
      go_wp2
      go_ret
      exact ⟨rfl, Bt.out⟩

theorem fnDay_walk (A0 : Option Addr) (n0 c0 : Nat) (w : World) (hb0 : Byt0 w A0 n0 c0) (hT : Tab w) :
    Calls Tryd.prog 4 #[.slice A0 n0 c0] w (RetB (.bool true) w) := by
  by_cases hl0 : 1048576 < n0
  · clear hb0 hT
    go_enter Tryd.func4, Tryd.ntmps4
    go_wp2
    go_ret
    exact ⟨rfl, Below.refl _ _⟩
  exact fnDay_in A0 n0 c0 w (by omega) hb0.1 hb0.2.2 hT

set_option maxRecDepth 100000 in
theorem fnDay_lifted (os : Os) (started : os.Started) (H : Type) (enc : TypeId × Value → H) :
    ReturnsInHanded {} Tryd.checked os 4 .any (fun w args => (Rows.fnDaySpec.pre enc Tryd.prog Tryd.f4 [] false w args ∧ laidMetH Tryd.prog Rows.fnDayRow.laid w) ∧ sizedMet enc Tryd.prog Tryd.f4 (OpenSpec.ofChange Rows.fnDaySpec) false w args)
      (Rows.fnDaySpec.post enc Tryd.prog Tryd.f4 false true false false) := by
  refine returnsInHanded_of_change_and (C := Tryd.checked) (X := fun w _ => laidMetH Tryd.prog Rows.fnDayRow.laid w) (fun _ _ _ hh h => h.of_heap hh) row_own started (by kernel_rfl) Tryd.func4
    (ChangeSpec.witness_shaped (enc := enc) (C := Tryd.checked) (os := os) (X := fun w _ => laidMetH Tryd.prog Rows.fnDayRow.laid w) false (World.doorLaid Tryd.prog 4000 os) #[.slice none 0 0] 8 rfl (door_shaped os _) (by kernel_rfl) (by kernel_rfl) (by kernel_rfl) (door_laid os _)) ?_
  intro W base args ds gs before hval0 hW hcnd _ hlaid _
  have hval : ∀ (j : Nat) t v, Tryd.f4.params[j]? = some t → args[j]? = some v → Value.okWide Tryd.prog W .any base t v := hval0
  have hW' := hW
  obtain ⟨p, q, hA0, hV, rfl, _, _⟩ := hW
  have hA : DataW.TrodAll enc Tryd.prog W 0 (fun _ => true) true Tryd.f4.params.toList args.toList ds p := hA0
  rw [Tryd.params4] at hA hval
  obtain ⟨v0, vs0, d0, ds0, p0, q0, hargs, rfl, rfl, h0, r0⟩ := trodAll_cons hA
  obtain ⟨rfl, rfl, rfl⟩ := trodAll_nil r0
  obtain rfl : args = #[v0] := by cases args; simp_all
  obtain ⟨rfl, rfl⟩ := trodVars_none hV
  have hlt0 : ∀ x ∈ p0, x.block < W.heap.size := fun x hx => by exact hW'.lt x (by simp [hx])
  obtain ⟨A0, n0, c0, rfl, hb0⟩ := open_bytes (hval 0 22 v0 rfl rfl) h0 hlt0
  clear hA0 hval0
  refine (fnDay_walk A0 n0 c0 W hb0 (tab_of hlaid)).mono fun e W' ⟨he, hb⟩ => ?_
  subst he
  exact ⟨_, rfl, _, _, _, [], _, [], hW', (trodAll_cons_mk (shut_bool Tryd.underlying4 _) trodAll_mk0), (trodAll_cons_mk (read_again_bytes h0 hlt0 hb) trodAll_mk0), rfl, hb.frame _, fun h => by cases h⟩

set_option maxRecDepth 100000 in
theorem fnDay_closed : joinedFacts Tryd.prog 4 Tryd.f4 Rows.fnDaySpec Rows.fnDayRow = true := by
  unfold joinedFacts
  repeat' (with_reducible apply facAnd)
  all_goals first | (with_reducible exact facEnter) | (with_reducible exact facLaid) | (with_reducible exact facMaps) | (with_reducible exact facStops) | (with_reducible exact facKnobs) | (with_reducible exact facHeard) | (rw [facLifts]; as_aux_lemma => kernel_rfl) | (rw [facMake]; as_aux_lemma => kernel_rfl) | (as_aux_lemma => kernel_rfl)

/-- the bare row -/
theorem fnDay_row : Rows.FnDaySaid :=
  OpenClaim.holds_of_wide 4 Tryd.f4 rfl rfl rfl rfl rfl rfl rfl ⟨rfl, rfl, rfl, rfl, rfl⟩ rfl rfl rfl rfl rfl (by kernel_rfl) Tryd.func4 fnDay_closed
    (of_decide_eq_true (by kernel_rfl)) (by unfold Func.isWrapper; first | (rw [if_pos (by decide +kernel)]; kernel_rfl) | (rw [if_neg (by decide +kernel)]; exact ⟨rfl, rfl⟩))
    (fun os started H enc _ => fnDay_lifted os started H enc)

/-- THE STATEMENT: the card -/
theorem fnDay_holds : Rows.FnDayCardSaid :=
  Claim7.holds_tied_plain_at .later [] [.data] true Rows.fnDayCard.stood.harness false
    fnDay_row (fun _ h => by cases h) (by kernel_rfl) (fun _ h => by cases h) fnDay_row_tie rfl ⟨rfl, rfl⟩ door_main rfl
    (fun f fn hf hfn => by
      obtain rfl : f = 4 := Option.some.inj ((show Tryd.prog.funcNamed Rows.fnDayRow.func = some 4 by kernel_rfl).symm.trans hf) |>.symm
      obtain rfl : fn = Tryd.f4 := (Option.some.inj (Tryd.func4.symm.trans hfn)).symm
      exact ⟨door_looks, fun j t ht => by
        rw [Tryd.params4] at ht
        have hm : t ∈ [22] := by simpa using Array.mem_of_getElem? ht
        have hall : ([22].all fun u => !Tryd.prog.wantsStandIn u) = true := by kernel_rfl
        exact (show Tryd.prog.wantsStandIn t = false by simpa using List.all_eq_true.1 hall t hm)⟩)
    (by kernel_rfl)
#print axioms fnDay_holds
end Go.Proofs.YtbcgglkgdjafiaaDoor
