/-
  The law FnMost: no tank has more than the most. For all codes it answers true. No condition.
-/
import Derived.Test.YthdbbppahloapaaODrawM
import Derived.Test.YthdbbppahloapaaTkN
import Derived.Test.YthdbbppahloapaaCntI
import Derived.Test.YthdbbppahloapaaCntS
import Derived.Test.YthdbbppahloapaaSame
import Derived.Test.YthdbbppahloapaaRowB
import Derived.Test.YthdbbppahloapaaFac
namespace Go.Proofs.Ythdbbppahloapaa
open Go.ChangeShapes Go.WideShapes Go.ChangeAt Go.RowKit

set_option maxHeartbeats 4000000 in
theorem fnMost_in (A : Option Addr) (n c : Nat) (w : World) (hl : n ≤ 1048576) (hnc : n ≤ c) (hb : Bytes w.heap.size w A n) :
    Calls Try.prog 9 #[.slice A n c] w (RetB (.bool true) w) := by
  have Hb := Lib.hid hb
  clear hb
  go_enter Try.func9, Try.ntmps9
  go_wp2_with fail
  refine (DrawStowageMost_c A n c _ (by omega) hnc Hb.out).mono ?_
  rintro e w1 ⟨B, d, L, C, d2, T, rfl, hzl, hzt, hA, hA2, hB⟩
  have Ha := Lib.hid hA
  have Hc := Lib.hid hA2
  have Bt := Lib.hid hB
  clear hA hA2 hB Hb
  go_wp2_with fail
  refine (implStowageMost_b B d L C d2 T _ Ha.out Hc.out).mono ?_
  rintro e w2 ⟨rfl, rb2⟩
  replace Ha := Lib.hid (Ha.out.go rb2)
  replace Hc := Lib.hid (Hc.out.go rb2)
  replace Bt := Lib.hid (below_step Bt.out rb2)
  clear rb2
  go_wp2_with fail
  refine (specStowageMost_b B d L C d2 T _ Ha.out Hc.out).mono ?_
  rintro e w3 ⟨rfl, rb3⟩
  replace Ha := Lib.hid (Ha.out.go rb3)
  replace Hc := Lib.hid (Hc.out.go rb3)
  replace Bt := Lib.hid (below_step Bt.out rb3)
  clear rb3
  cases hv : stowB L T
  · rw [show mstI L T = -1 by unfold mstI; rw [hv]; rfl]
    go_wp2
    go_ret
    exact ⟨rfl, Bt.out⟩
  rw [show mstI L T = mostK T 5 by unfold mstI; rw [hv]; rfl]
  have HTl := Lib.hid (stow_len hv)
  have h10 := ord_len (stow_ord hv)
  have hml := mostK_le T 5
  have hml2 : mostK T 5 ≤ L.length := by have := stow_len hv; omega
  have HMz := Lib.hid (most_zero hv)
  have HMg := Lib.hid (fun t ht => most_ge T 5 t ht)
  obtain ⟨M, hM⟩ : ∃ M, mostK T 5 = M := ⟨_, rfl⟩
  rw [hM] at hml hml2 HMz HMg ⊢
  clear hv hM
  have g0 : ((M : Int) < 0) = False := eq_false (by omega)
  go_wp2
  go_loopw [7] (fun i wr => ∃ k : Nat, k ≤ 5 ∧ i = .int .i64 k ∧ w3 = wr) (fun i _ => 5 - (intOf i).toNat)
  case atStart => exact ⟨0, Nat.zero_le _, rfl, rfl⟩
  case round =>
    obtain ⟨k, hk, rfl, rfl⟩ := hrel
    by_cases hlt : k < 5
    · have g1 : (k : Int) < 5 := by omega
      go_wp2
      go_loopw [8, 9] (fun s i wr => ∃ j : Nat, j ≤ T.length ∧ i = .int .i64 j ∧ s = .int .i64 (cnt T (k : Nat) j) ∧ w3 = wr) (fun _ i _ => T.length - (intOf i).toNat)
      case atStart => exact ⟨0, Nat.zero_le _, rfl, rfl, rfl⟩
      case round =>
        obtain ⟨j, hj, rfl, rfl, rfl⟩ := hrel
        by_cases hjl : j < T.length
        · have g2 : (j : Int) < (T.length : Int) := by omega
          obtain ⟨b, off, rfl, _, _, hc0⟩ := Hc.out.rd.at_ hjl
          have hcb := cnt_leK T (k : Nat) j
          have Hs := Lib.hid (show cnt T (k : Nat) (j + 1) = cnt T (k : Nat) j + if T[j]?.getD 0 = ((k : Nat) : Int) then 1 else 0 from rfl)
          obtain ⟨y, hy⟩ : ∃ y, T[j]?.getD 0 = y := ⟨_, rfl⟩
          rw [hy] at hc0 Hs
          obtain ⟨u, hu⟩ : ∃ u, cnt T (k : Nat) j = u := ⟨_, rfl⟩
          rw [hu] at hcb Hs
          rw [hu]
          clear hy hu
          by_cases he : y = (k : Int)
          · rw [if_pos he] at Hs
            have hb1 : (y == (k : Int)) = true := beq_iff_eq.2 he
            subst he
            go_wp2
            go_roundw
            case rel => exact ⟨j + 1, by omega, by go_num, by rw [Hs.out]; go_num, by trivial⟩
            case measure => simp [intOf]; omega
          · rw [if_neg he] at Hs
            have hb1 : (y == (k : Int)) = false := beq_eq_false_iff_ne.2 he
            go_wp2
            go_roundw
            case rel => exact ⟨j + 1, by omega, by go_num, by rw [Hs.out, Nat.add_zero], by trivial⟩
            case measure => simp [intOf]; omega
        · obtain rfl : j = T.length := by omega
          have h9 := HMg.out k hlt
          obtain ⟨u, hu⟩ : ∃ u, cnt T (k : Nat) T.length = u := ⟨_, rfl⟩
          rw [hu] at h9 ⊢
          have g3 : ((M : Int) < (u : Int)) = False := eq_false (by omega)
          clear hu
          go_wp2
          go_roundw
          case rel => exact ⟨k + 1, by omega, by go_num, by trivial⟩
          case measure => simp [intOf]; omega
    · obtain rfl : k = 5 := by omega
      have g4 : (M : Int) ≤ (L.length : Int) := by omega
      by_cases h0 : L.length = 0
      · have e1 : ((M : Int) == 0) = true := by have := HMz.out.2 h0; exact beq_iff_eq.2 (by omega)
        have e2 : ((L.length : Int) == 0) = true := beq_iff_eq.2 (by omega)
        go_wp2
        go_ret
        exact ⟨rfl, Bt.out⟩
      · have e1 : ((M : Int) == 0) = false := by have := mt HMz.out.1 h0; exact beq_eq_false_iff_ne.2 (by omega)
        have e2 : ((L.length : Int) == 0) = false := beq_eq_false_iff_ne.2 (by omega)
        go_wp2
        go_ret
        exact ⟨rfl, Bt.out⟩

theorem fnMost_walk (A0 : Option Addr) (n0 c0 : Nat) (w : World) (hb0 : Byt0 w A0 n0 c0) :
    Calls Try.prog 9 #[.slice A0 n0 c0] w (RetB (.bool true) w) := by
  by_cases hl0 : 1048576 < n0
  · clear hb0
    go_enter Try.func9, Try.ntmps9
    go_wp2
    go_ret
    exact ⟨rfl, Below.refl _ _⟩
  exact fnMost_in A0 n0 c0 w (by omega) hb0.1 hb0.2.2

set_option maxRecDepth 100000 in
theorem fnMost_lifted (os : Os) (started : os.Started) (H : Type) (enc : TypeId × Value → H) :
    ReturnsInHanded {} Try.checked os 9 .any (Rows.fnMostSpec.pre6 enc Try.prog Try.f9 Rows.fnMostRow.domain false) (Rows.fnMostSpec.post enc Try.prog Try.f9 false true false false) := by
  refine returnsInHanded_of_change (C := Try.checked) row_own started (by kernel_rfl) Try.func9
    (ChangeSpec.witness6 (enc := enc) (C := Try.checked) false ⟨#[], #[.slice none 0 0], []⟩ 8 (by kernel_rfl) (by kernel_rfl) (by kernel_rfl) (by kernel_rfl)) ?_
  intro W base args ds gs before hval0 hW hcnd _
  have hval : ∀ (j : Nat) t v, Try.f9.params[j]? = some t → args[j]? = some v → Value.okWide Try.prog W .any base t v := hval0
  have hW' := hW
  obtain ⟨p, q, hA0, hV, rfl, _, _⟩ := hW
  have hA : DataW.TrodAll enc Try.prog W 0 (fun _ => true) true Try.f9.params.toList args.toList ds p := hA0
  rw [Try.params9] at hA hval
  obtain ⟨v0, vs0, d0, ds0, p0, q0, hargs, rfl, rfl, h0, r0⟩ := trodAll_cons hA
  obtain ⟨rfl, rfl, rfl⟩ := trodAll_nil r0
  obtain rfl : args = #[v0] := by cases args; simp_all
  obtain ⟨rfl, rfl⟩ := trodVars_none hV
  have hlt0 : ∀ x ∈ p0, x.block < W.heap.size := fun x hx => by exact hW'.lt x (by simp [hx])
  obtain ⟨A0, n0, c0, rfl, hb0⟩ := open_bytes (hval 0 22 v0 rfl rfl) h0 hlt0
  clear hA0 hval0
  refine (fnMost_walk A0 n0 c0 W hb0).mono fun e W' ⟨he, hb⟩ => ?_
  subst he
  exact ⟨_, rfl, _, _, _, [], _, [], hW', (trodAll_cons_mk (shut_bool Try.underlying4 _) trodAll_mk0), (trodAll_cons_mk (read_again_bytes h0 hlt0 hb) trodAll_mk0), rfl, hb.frame _, fun h => by cases h⟩

set_option maxRecDepth 100000 in
theorem fnMost_closed : joinedFacts Try.prog 9 Try.f9 Rows.fnMostSpec Rows.fnMostRow = true := by
  unfold joinedFacts
  repeat' (with_reducible apply facAnd)
  all_goals first | (with_reducible exact facEnter) | (with_reducible exact facLaid) | (with_reducible exact facMaps) | (with_reducible exact facStops) | (with_reducible exact facKnobs) | (with_reducible exact facHeard) | (rw [facLifts]; as_aux_lemma => kernel_rfl) | (rw [facMake]; as_aux_lemma => kernel_rfl) | (as_aux_lemma => kernel_rfl)

/-- THE STATEMENT -/
theorem fnMost_holds : Rows.FnMostSaid :=
  OpenClaim.holds_of_wide 9 Try.f9 rfl rfl rfl rfl rfl rfl rfl ⟨rfl, rfl, rfl, rfl, rfl⟩ rfl rfl rfl rfl rfl (by kernel_rfl) Try.func9 fnMost_closed
    (of_decide_eq_true (by kernel_rfl)) (by unfold Func.isWrapper; first | (rw [if_pos (by decide +kernel)]; kernel_rfl) | (rw [if_neg (by decide +kernel)]; exact ⟨rfl, rfl⟩))
    (fun os started H enc _ => fnMost_lifted os started H enc)
#print axioms fnMost_holds
end Go.Proofs.Ythdbbppahloapaa
