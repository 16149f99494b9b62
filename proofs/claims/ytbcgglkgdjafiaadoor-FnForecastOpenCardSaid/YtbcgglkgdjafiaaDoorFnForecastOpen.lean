/-
  The law FnForecastOpen: for every code the law answers true. No condition but the tie of the card.
-/
import Derived.Test.YtbcgglkgdjafiaaDoorRowB
import Derived.Test.YtbcgglkgdjafiaaDoorRow
import Derived.ChangeMaps5
import Derived.Test.YtbcgglkgdjafiaaDoorDoorM
import Derived.Test.YtbcgglkgdjafiaaDoorTie
import Derived.Test.YtbcgglkgdjafiaaDoorCards
import Derived.LaidMore
import Derived.SevenTiedAt
import Derived.Stop.Joined
import Derived.Test.YtbcgglkgdjafiaaDoorFacD
import Derived.Test.YtbcgglkgdjafiaaDoorWDrawS
import Derived.Test.YtbcgglkgdjafiaaDoorWFacts
namespace Go.Proofs.YtbcgglkgdjafiaaDoor
open Go.ChangeShapes Go.WideShapes Go.ChangeAt Go.RowKit Go.ChangeMaps

set_option maxRecDepth 100000 in
set_option maxHeartbeats 2000000 in
theorem fnForecastOpen_in (A : Option Addr) (n c : Nat) (w : World) (hl : n ≤ 1048576) (hnc : n ≤ c) (hb : Bytes w.heap.size w A n) (hT : Tab w) :
    Calls Tryd.prog 3 #[.slice A n c] w (RetB (.bool true) w) := by
  have Hb := Lib.hid hb
  have tz0 := hT.lt
  have HT := Lib.hid hT
  clear hb hT
  go_enter Tryd.func3, Tryd.ntmps3
  go_wp2_with fail
  refine (DrawForecastOpen_c A n c _ (by omega) hnc Hb.out).mono ?_
  rintro e w1 ⟨s, d, rfl, hs, hd0, hd1, hB⟩
  replace HT := Lib.hid (HT.out.go hB)
  have Bt := Lib.hid hB
  clear hB Hb
  have Hlen := Lib.hid (byL_len s)
  have Hcs := Lib.hid (@open_off (byL s) d)
  have Himpl := Lib.hid (fun (d : Int) W => (implForecastOpen_q s d W).mono fun _ _ h => h.toB)
  have Hspec := Lib.hid (fun W => specForecastOpen_c s (by omega) d W)
  obtain ⟨v, hv⟩ : ∃ v, opV (byL s) d = v := ⟨_, rfl⟩
  have Hv := Lib.hid hv
  have Hi1 := Lib.hid (fun W => Himpl.out d W)
  rw [hv] at Hspec Hcs Hi1
  have nv : (v != v) = false := by simp
  have ne : (v == v) = true := by simp
  clear hv
  go_wp2_with fail
  refine (Hi1.out _).mono ?_
  rintro e w2 ⟨rfl, rb2⟩
  replace HT := Lib.hid (HT.out.go rb2)
  replace Bt := Lib.hid (below_step Bt.out rb2)
  clear rb2
  go_wp2_with fail
  refine (Hspec.out _).mono ?_
  rintro e w3 ⟨rfl, rfl⟩
  by_cases hy : fcB (byL s) = true ∧ 0 ≤ d ∧ d ≤ ((byL s).length : Int)
  case neg =>
    have hv1 := Hcs.out hy
    subst hv1
    clear hy
    go_wp2
    go_ret
    exact ⟨rfl, Bt.out⟩
  obtain ⟨hf, h0, h1⟩ := hy
  rw [Hlen.out] at h1
  obtain ⟨D, rfl⟩ := Int.eq_ofNat_of_zero_le h0
  have hDs : D ≤ s.size := by omega
  have hDl : D ≤ (byL s).length := by rw [Hlen.out]; exact hDs
  have hvt : v = (opT (byL s) D : Int) := by rw [← Hv.out]; exact open_at hf hDl
  obtain ⟨y, hy, hyD, hty⟩ := day_at hf hDl
  have hle := opT_le (byL s) D
  have Hn1 := Lib.hid (fun (h : D < s.size) => open_at hf (D := D + 1) (by rw [Hlen.out]; omega))
  have hone := byL_one s D
  obtain ⟨t, ht⟩ : ∃ t, opT (byL s) D = t := ⟨_, rfl⟩
  rw [ht] at hvt hy hty hle hone
  subst hvt
  have Hday := Lib.hid (fun (W : World) (h : Tab W) => (hy ▸ implForecastDay_b s (t : Int) W (by omega) h))
  have Hnext := Lib.hid (fun W => Himpl.out ((D : Int) + 1) W)
  have q1 : IntKind.i64.wrap ((D : Int) + 1) = (D : Int) + 1 := IntWalk.i64_in _ (by omega)
  have hvn : ¬ (t : Int) < 0 := by omega
  clear hy ht hf Hi1 Hspec Hcs Himpl Hv
  go_wp2_with fail
  refine (Hnext.out _).mono ?_
  rintro e w4 ⟨rfl, rb4⟩
  replace HT := Lib.hid (HT.out.go rb4)
  replace Bt := Lib.hid (below_step Bt.out rb4)
  clear rb4
  by_cases hlt : D < s.size
  · have g1 : (D : Int) < (s.size : Int) := by omega
    have hnx := Hn1.out hlt
    rw [show ((D + 1 : Nat) : Int) = (D : Int) + 1 by omega] at hnx
    obtain ⟨hz, hsum⟩ := hone hlt
    have hcn := countOf_c (s.extract D (D + 1)) (by omega)
    rw [hz] at hcn
    obtain ⟨x, hx⟩ : ∃ x, opT (byL (s.extract D (D + 1))) 1 = x := ⟨_, rfl⟩
    rw [hx] at hsum hcn
    rw [← hsum] at hnx
    rw [hnx]
    have hx1 : x ≤ 1 := by rw [← hx]; exact opT_le _ _
    have q2 : IntKind.i64.wrap (((x + t : Nat) : Int) - (t : Int)) = (x : Int) := by rw [show ((x + t : Nat) : Int) - (t : Int) = (x : Int) by omega]; exact IntWalk.i64_in _ (by omega)
    have Hcn := Lib.hid hcn
    clear hcn hx hsum hnx hone hz
    have nx : ((x : Int) != (x : Int)) = false := by simp
    have s0 : (0 : Int) ≤ (D : Int) := by omega
    have s1 : (D : Int) ≤ (D : Int) + 1 := by omega
    have s2 : (D : Int) + 1 ≤ (s.size : Int) := by omega
    have s3 : ((D : Int) + 1).toNat = D + 1 := by omega
    go_wp2_with fail
    refine (Hcn.out _).mono ?_
    rintro e w5 ⟨rfl, rfl⟩
    have g2 : (t : Int) ≤ (D : Int) := by omega
    have g3 : (y : Int) ≤ (D : Int) := by omega
    have g4 : (t : Int) ≤ (y : Int) := by omega
    have g2d : decide ((t : Int) ≤ (D : Int)) = true := decide_eq_true g2
    have g3d : decide ((y : Int) ≤ (D : Int)) = true := decide_eq_true g3
    go_wp2_with fail
    refine (Hday.out _ HT.out).mono ?_
    rintro e w6 ⟨rfl, rb6⟩
    replace HT := Lib.hid (HT.out.go rb6)
    replace Bt := Lib.hid (below_step Bt.out rb6)
    clear rb6
    go_wp2_with fail
    refine (Hday.out _ HT.out).mono ?_
    rintro e w7 ⟨rfl, rb7⟩
    replace Bt := Lib.hid (below_step Bt.out rb7)
    clear rb7
    go_wp2
    go_ret
    exact ⟨rfl, Bt.out⟩
  · have g1 : ¬ (D : Int) < (s.size : Int) := by omega
    have g1d : decide ((D : Int) < (s.size : Int)) = false := decide_eq_false g1
    obtain ⟨z, hz⟩ : ∃ z, opV (byL s) ((D : Int) + 1) = z := ⟨_, rfl⟩
    rw [hz]
    clear hz hone
    have g2 : (t : Int) ≤ (D : Int) := by omega
    have g3 : (y : Int) ≤ (D : Int) := by omega
    have g4 : (t : Int) ≤ (y : Int) := by omega
    have g2d : decide ((t : Int) ≤ (D : Int)) = true := decide_eq_true g2
    have g3d : decide ((y : Int) ≤ (D : Int)) = true := decide_eq_true g3
    go_wp2_with fail
    refine (Hday.out _ HT.out).mono ?_
    rintro e w6 ⟨rfl, rb6⟩
    replace HT := Lib.hid (HT.out.go rb6)
    replace Bt := Lib.hid (below_step Bt.out rb6)
    clear rb6
    go_wp2_with fail
    refine (Hday.out _ HT.out).mono ?_
    rintro e w7 ⟨rfl, rb7⟩
    replace Bt := Lib.hid (below_step Bt.out rb7)
    clear rb7
    go_wp2
    go_ret
    exact ⟨rfl, Bt.out⟩

theorem fnForecastOpen_walk (A0 : Option Addr) (n0 c0 : Nat) (w : World) (hb0 : Byt0 w A0 n0 c0) (hT : Tab w) :
    Calls Tryd.prog 3 #[.slice A0 n0 c0] w (RetB (.bool true) w) := by
  by_cases hl0 : 1048576 < n0
  · clear hb0 hT
    go_enter Tryd.func3, Tryd.ntmps3
    go_wp2
    go_ret
    exact ⟨rfl, Below.refl _ _⟩
  exact fnForecastOpen_in A0 n0 c0 w (by omega) hb0.1 hb0.2.2 hT

set_option maxRecDepth 100000 in
theorem fnForecastOpen_lifted (os : Os) (started : os.Started) (H : Type) (enc : TypeId × Value → H) :
    ReturnsInHanded {} Tryd.checked os 3 .any (fun w args => (Rows.fnForecastOpenSpec.pre enc Tryd.prog Tryd.f3 [] false w args ∧ laidMetH Tryd.prog Rows.fnForecastOpenRow.laid w) ∧ sizedMet enc Tryd.prog Tryd.f3 (OpenSpec.ofChange Rows.fnForecastOpenSpec) false w args)
      (Rows.fnForecastOpenSpec.post enc Tryd.prog Tryd.f3 false true false false) := by
  refine returnsInHanded_of_change_and (C := Tryd.checked) (X := fun w _ => laidMetH Tryd.prog Rows.fnForecastOpenRow.laid w) (fun _ _ _ hh h => h.of_heap hh) row_own started (by kernel_rfl) Tryd.func3
    (ChangeSpec.witness_shaped (enc := enc) (C := Tryd.checked) (os := os) (X := fun w _ => laidMetH Tryd.prog Rows.fnForecastOpenRow.laid w) false (World.doorLaid Tryd.prog 4000 os) #[.slice none 0 0] 8 rfl (door_shaped os _) (by kernel_rfl) (by kernel_rfl) (by kernel_rfl) (door_laid os _)) ?_
  intro W base args ds gs before hval0 hW hcnd _ hlaid _
  have hval : ∀ (j : Nat) t v, Tryd.f3.params[j]? = some t → args[j]? = some v → Value.okWide Tryd.prog W .any base t v := hval0
  have hW' := hW
  obtain ⟨p, q, hA0, hV, rfl, _, _⟩ := hW
  have hA : DataW.TrodAll enc Tryd.prog W 0 (fun _ => true) true Tryd.f3.params.toList args.toList ds p := hA0
  rw [Tryd.params3] at hA hval
  obtain ⟨v0, vs0, d0, ds0, p0, q0, hargs, rfl, rfl, h0, r0⟩ := trodAll_cons hA
  obtain ⟨rfl, rfl, rfl⟩ := trodAll_nil r0
  obtain rfl : args = #[v0] := by cases args; simp_all
  obtain ⟨rfl, rfl⟩ := trodVars_none hV
  have hlt0 : ∀ x ∈ p0, x.block < W.heap.size := fun x hx => by exact hW'.lt x (by simp [hx])
  obtain ⟨A0, n0, c0, rfl, hb0⟩ := open_bytes (hval 0 22 v0 rfl rfl) h0 hlt0
  clear hA0 hval0
  refine (fnForecastOpen_walk A0 n0 c0 W hb0 (tab_of hlaid)).mono fun e W' ⟨he, hb⟩ => ?_
  subst he
  exact ⟨_, rfl, _, _, _, [], _, [], hW', (trodAll_cons_mk (shut_bool Tryd.underlying4 _) trodAll_mk0), (trodAll_cons_mk (read_again_bytes h0 hlt0 hb) trodAll_mk0), rfl, hb.frame _, fun h => by cases h⟩

set_option maxRecDepth 100000 in
theorem fnForecastOpen_closed : joinedFacts Tryd.prog 3 Tryd.f3 Rows.fnForecastOpenSpec Rows.fnForecastOpenRow = true := by
  unfold joinedFacts
  repeat' (with_reducible apply facAnd)
  all_goals first | (with_reducible exact facEnter) | (with_reducible exact facLaid) | (with_reducible exact facMaps) | (with_reducible exact facStops) | (with_reducible exact facKnobs) | (with_reducible exact facHeard) | (rw [facLifts]; as_aux_lemma => kernel_rfl) | (rw [facMake]; as_aux_lemma => kernel_rfl) | (as_aux_lemma => kernel_rfl)

/-- the bare row -/
theorem fnForecastOpen_row : Rows.FnForecastOpenSaid :=
  OpenClaim.holds_of_wide 3 Tryd.f3 rfl rfl rfl rfl rfl rfl rfl ⟨rfl, rfl, rfl, rfl, rfl⟩ rfl rfl rfl rfl rfl (by kernel_rfl) Tryd.func3 fnForecastOpen_closed
    (of_decide_eq_true (by kernel_rfl)) (by unfold Func.isWrapper; first | (rw [if_pos (by decide +kernel)]; kernel_rfl) | (rw [if_neg (by decide +kernel)]; exact ⟨rfl, rfl⟩))
    (fun os started H enc _ => fnForecastOpen_lifted os started H enc)

/-- THE STATEMENT: the card -/
theorem fnForecastOpen_holds : Rows.FnForecastOpenCardSaid :=
  Claim7.holds_tied_plain_at .later [] [.data] true Rows.fnForecastOpenCard.stood.harness false
    fnForecastOpen_row (fun _ h => by cases h) (by kernel_rfl) (fun _ h => by cases h) fnForecastOpen_row_tie rfl ⟨rfl, rfl⟩ door_main rfl
    (fun f fn hf hfn => by
      obtain rfl : f = 3 := Option.some.inj ((show Tryd.prog.funcNamed Rows.fnForecastOpenRow.func = some 3 by kernel_rfl).symm.trans hf) |>.symm
      obtain rfl : fn = Tryd.f3 := (Option.some.inj (Tryd.func3.symm.trans hfn)).symm
      exact ⟨door_looks, fun j t ht => by
        rw [Tryd.params3] at ht
        have hm : t ∈ [22] := by simpa using Array.mem_of_getElem? ht
        have hall : ([22].all fun u => !Tryd.prog.wantsStandIn u) = true := by kernel_rfl
        exact (show Tryd.prog.wantsStandIn t = false by simpa using List.all_eq_true.1 hall t hm)⟩)
    (by kernel_rfl)
#print axioms fnForecastOpen_holds
end Go.Proofs.YtbcgglkgdjafiaaDoor
