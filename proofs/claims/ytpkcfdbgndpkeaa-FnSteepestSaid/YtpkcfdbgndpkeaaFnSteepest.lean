/-
  The law FnSteepest: for every code the law answers true. No condition.
-/
import Derived.Test.YtpkcfdbgndpkeaaDraws
import Derived.Test.YtpkcfdbgndpkeaaSteep
import Derived.Test.YtpkcfdbgndpkeaaRowB
import Derived.Deep.RegionHeld3
namespace Go.Proofs.Ytpkcfdbgndpkeaa
open Go.ChangeShapes Go.WideShapes Go.ChangeAt Go.RowKit

set_option maxHeartbeats 4000000 in
theorem fnSteepest_in (A : Option Addr) (n c : Nat) (w : World) (hl : n ≤ 1048576) (hnc : n ≤ c) (hb : Bytes w.heap.size w A n) :
    Calls Try.prog 6 #[.slice A n c] w (RetB (.bool true) w) := by
  have Hb := Lib.hid hb
  clear hb
  go_enter Try.func6, Try.ntmps6
  go_wp2_with fail
  refine (DrawFloorSteepest_c A n c _ (by omega) hnc Hb.out).mono ?_
  rintro e w1 ⟨B, d, zs, rfl, hzl, ha1, ho1, hb1⟩
  dsimp only [id]
  have Ha := Lib.hid ha1
  have Bt := Lib.hid hb1
  clear ha1 ho1 hb1 Hb
  go_wp2_with fail
  refine (implFloorSteepest_b B d zs _ Ha.out).mono ?_
  rintro e w2 ⟨rfl, rb2⟩
  replace Ha := Lib.hid (Ha.out.go rb2)
  replace Bt := Lib.hid (below_step Bt.out rb2)
  clear rb2
  go_wp2_with fail
  refine (specFloorSteepest_b B d zs _ Ha.out).mono ?_
  rintro e w3 ⟨rfl, rb3⟩
  replace Ha := Lib.hid (Ha.out.go rb3)
  replace Bt := Lib.hid (below_step Bt.out rb3)
  clear rb3
  cases hv : validB zs
  · have e1 : steepestI zs = -1 := by unfold steepestI; rw [hv]; rfl
    rw [e1]
    go_wp2
    go_ret
    exact ⟨rfl, Bt.out⟩
  · have hvv := validB_true hv
    have Hv := Lib.hid hv
    have hn2 : 2 ≤ zs.length := hvv.1
    have hn16 : zs.length ≤ 16 := hvv.2.1
    clear hvv
    obtain ⟨ys, hys⟩ : ∃ ys, needsL zs = ys := ⟨_, rfl⟩
    have hyl : ys.length = zs.length - 1 := by rw [← hys, needsL_length]
    obtain ⟨p, hp⟩ : ∃ p, firstTo ys ys.length = p := ⟨_, rfl⟩
    have e1 : steepestI zs = (p : Int) := by unfold steepestI; rw [hv, hys, ← hp]; rfl
    have e2 : floorNeedsL zs = ys := by rw [floorNeedsL_yes hv, hys]
    have e3 : levelI zs = at0 ys p := by unfold levelI; rw [hv, hys, ← hp]; rfl
    have hfp := firstTo_prop ys ys.length (by omega)
    rw [hp] at hfp
    obtain ⟨hpl, hge, hlt⟩ := hfp
    have Hge := Lib.hid hge
    have Hlt := Lib.hid hlt
    have E3 := Lib.hid e3
    have hyn : 1 ≤ ys.length := by omega
    have hyn2 : ys.length ≤ 15 := by omega
    rw [e1]
    have HN := fun W' h => implFloorNeeds_b B d zs W' h
    rw [e2, hv] at HN
    clear hv e1 hp hge hlt hys e2 e3 hyl
    go_wp2_with fail
    refine (HN _ Ha.out).mono ?_
    rintro e w4 ⟨B2, d2, rfl, ra4, ro4, rb4⟩
    dsimp only
    replace Ha := Lib.hid (Ha.out.go rb4)
    replace Bt := Lib.hid (below_step Bt.out rb4)
    have Hy := Lib.hid ra4
    clear rb4 ra4 ro4 HN
    go_wp2
    go_loopw [8] (fun i wr => ∃ k m : Nat, k ≤ ys.length ∧ i = .int .i64 k ∧ wr = w4.drewN m) (fun i _ => ys.length - (intOf i).toNat)
    case atStart => exact ⟨0, 0, by omega, rfl, rfl⟩
    case round =>
      obtain ⟨k, m, hk, rfl, rfl⟩ := hrel
      by_cases hkl : k < ys.length
      · obtain ⟨b, off, rfl, _, _, hc⟩ := Hy.out.rd.at_ hkl
        obtain ⟨b', off', e2, _, _, hc2⟩ := Hy.out.rd.at_ hpl
        simp only [Option.some.injEq, Addr.mk.injEq, and_true] at e2
        obtain ⟨rfl, rfl⟩ := e2
        have g1 : (k : Int) < (ys.length : Int) := by omega
        have g2 := Hge.out k hkl
        have ek := at0_get hkl
        have ep := at0_get hpl
        have ek2 : ys[k]?.getD 0 = ys[k] := ek
        have ep2 : ys[p]?.getD 0 = ys[p] := ep
        rw [ek2] at hc
        rw [ep2] at hc2
        rw [ek, ep] at g2
        have g3 : decide (ys[p] < ys[k]) = false := by simp; omega
        have hc1 : (w4.drewN m).cell? ⟨b, off + k, none⟩ = some (.int .i64 ys[k]) := hc
        have hc3 : (w4.drewN m).cell? ⟨b, off + p, none⟩ = some (.int .i64 ys[p]) := hc2
        by_cases hkp : k < p
        · have g4 := Hlt.out k hkp
          rw [ek, ep] at g4
          have g5 : (ys[k] == ys[p]) = false := by simp; omega
          clear ek ep ek2 ep2
          have g6 : decide ((k : Int) < (p : Int)) = true := by simp; omega
          go_wp2
          go_quiet (fail)
          go_wp2
          go_roundw
          case rel => exact ⟨k + 1, _, by omega, by go_num, rfl⟩
          case measure => simp [intOf]; omega
        · clear ek ep ek2 ep2
          have g6 : decide ((k : Int) < (p : Int)) = false := by simp; omega
          go_wp2
          go_quiet (fail)
          go_wp2
          go_roundw
          case rel => exact ⟨k + 1, _, by omega, by go_num, rfl⟩
          case measure => simp [intOf]; omega
      · obtain rfl : k = ys.length := by omega
        obtain ⟨W, hW⟩ : ∃ W, W = w4.drewN m := ⟨_, rfl⟩
        have HK := Lib.hid (show Kp w B2 d2 ys W ∧ Arg W B d zs by rw [hW]; exact ⟨⟨below_drewN Bt.out m, Hy.out.go (below_drewN (Below.refl _ _) _)⟩, Ha.out.go (below_drewN (Below.refl _ _) _)⟩)
        rw [← hW]
        clear hW
        obtain ⟨b, off, rfl, _, _, _⟩ := Hy.out.rd.at_ hpl
        clear Ha Bt Hy
        obtain ⟨z, hz⟩ : ∃ z, ys[p]?.getD 0 = z := ⟨_, rfl⟩
        have hlv : levelI zs = z := by rw [E3.out]; exact hz
        have hC : ∀ W', Kp w (some ⟨b, off, none⟩) d2 ys W' ∧ Arg W' B d zs → Calls Try.prog 31 #[.slice B zs.length d] W' fun e w'' => e = .returned (.int .i64 z) ∧ w''.cell? ⟨b, off + p, none⟩ = some (.int .i64 z) ∧ (Kp w (some ⟨b, off, none⟩) d2 ys w'' ∧ Arg w'' B d zs) :=
          fun W' h => (implPayLevel_b B d zs W' h.2).mono fun e w' ⟨he, hb⟩ => ⟨by rw [he, hlv], (h.1.go hb).cell hpl hz, h.1.go hb, h.2.go hb⟩
        have hK : Kp w (some ⟨b, off, none⟩) d2 ys W.drew ∧ Arg W.drew B d zs := ⟨HK.out.1.drew, (Kp.drew ⟨HK.out.1.1, HK.out.2⟩ : Kp w B d zs W.drew).2⟩
        have hcp := hK.1.cell hpl hz
        have HC := Lib.hid hC
        have HKK := Lib.hid hK
        clear hC hz HK E3 hlv hK
        have p0 : (0 : Int) ≤ (p : Int) := by omega
        have p1 : (p : Int) < (ys.length : Int) := by omega
        go_wp2
        go_region_held3 (fun w' => w'.cell? ⟨b, off + p, none⟩ = some (.int .i64 z) ∧ Hid (Kp w (some ⟨b, off, none⟩) d2 ys w' ∧ Arg w' B d zs)) (first | exact ⟨hcp, HKK⟩ | exact ⟨i0, i1⟩ | go_keep)
          (first | (go_at_call 31; refine (HC.out _ ?_).mono ?_; (first | exact Hid.out (by assumption) | (simp [*])); rintro e w9 ⟨rfl, i0, i1⟩; replace i1 := Lib.hid i1))
        all_goals
          go_wp2
          go_ret
          exact ⟨rfl, (Hid.out (by assumption : Hid (Kp w (some ⟨b, off, none⟩) d2 ys _ ∧ Arg _ B d zs))).1.1⟩

theorem fnSteepest_walk (A0 : Option Addr) (n0 c0 : Nat) (w : World) (hb0 : Byt0 w A0 n0 c0) :
    Calls Try.prog 6 #[.slice A0 n0 c0] w (RetB (.bool true) w) := by
  by_cases hl0 : 1048576 < n0
  · clear hb0
    go_enter Try.func6, Try.ntmps6
    go_wp2
    go_ret
    exact ⟨rfl, Below.refl _ _⟩
  exact fnSteepest_in A0 n0 c0 w (by omega) hb0.1 hb0.2.2

set_option maxRecDepth 100000 in
theorem fnSteepest_lifted (os : Os) (started : os.Started) (H : Type) (enc : TypeId × Value → H) :
    ReturnsInHanded {} Try.checked os 6 .any (Rows.fnSteepestSpec.pre6 enc Try.prog Try.f6 Rows.fnSteepestRow.domain false) (Rows.fnSteepestSpec.post enc Try.prog Try.f6 false true false false) := by
  refine returnsInHanded_of_change (C := Try.checked) row_own started (by kernel_rfl) Try.func6
    (ChangeSpec.witness6 (enc := enc) (C := Try.checked) false ⟨#[], #[.slice none 0 0], []⟩ 8 (by kernel_rfl) (by kernel_rfl) (by kernel_rfl) (by kernel_rfl)) ?_
  intro W base args ds gs before hval0 hW hcnd _
  have hval : ∀ (j : Nat) t v, Try.f6.params[j]? = some t → args[j]? = some v → Value.okWide Try.prog W .any base t v := hval0
  have hW' := hW
  obtain ⟨p, q, hA0, hV, rfl, _, _⟩ := hW
  have hA : DataW.TrodAll enc Try.prog W 0 (fun _ => true) true Try.f6.params.toList args.toList ds p := hA0
  rw [Try.params6] at hA hval
  obtain ⟨v0, vs0, d0, ds0, p0, q0, hargs, rfl, rfl, h0, r0⟩ := trodAll_cons hA
  obtain ⟨rfl, rfl, rfl⟩ := trodAll_nil r0
  obtain rfl : args = #[v0] := by cases args; simp_all
  obtain ⟨rfl, rfl⟩ := trodVars_none hV
  have hlt0 : ∀ x ∈ p0, x.block < W.heap.size := fun x hx => by exact hW'.lt x (by simp [hx])
  obtain ⟨A0, n0, c0, rfl, hb0⟩ := open_bytes (hval 0 22 v0 rfl rfl) h0 hlt0
  clear hA0 hval0
  refine (fnSteepest_walk A0 n0 c0 W hb0).mono fun e W' ⟨he, hb⟩ => ?_
  subst he
  exact ⟨_, rfl, _, _, _, [], _, [], hW', (trodAll_cons_mk (shut_bool Try.underlying4 _) trodAll_mk0), (trodAll_cons_mk (read_again_bytes h0 hlt0 hb) trodAll_mk0), rfl, hb.frame _, fun h => by cases h⟩

/-- THE STATEMENT -/
theorem fnSteepest_holds : Rows.FnSteepestSaid :=
  OpenClaim.holds_of_wide 6 Try.f6 rfl rfl rfl rfl rfl rfl rfl ⟨rfl, rfl, rfl, rfl, rfl⟩ rfl rfl rfl rfl rfl (by kernel_rfl) Try.func6 (by kernel_rfl)
    (of_decide_eq_true (by kernel_rfl)) (by unfold Func.isWrapper; first | (rw [if_pos (by decide +kernel)]; kernel_rfl) | (rw [if_neg (by decide +kernel)]; exact ⟨rfl, rfl⟩))
    (fun os started H enc _ => fnSteepest_lifted os started H enc)
#print axioms fnSteepest_holds
end Go.Proofs.Ytpkcfdbgndpkeaa
