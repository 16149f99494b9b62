/-
  The law FnAgree: coils agree with each other. For all codes it answers true. No condition.
-/
import Derived.Test.YtciahmccafcllaaODrawA
import Derived.Test.YtciahmccafcllaaTkA
import Derived.Test.YtciahmccafcllaaOutI
import Derived.Test.YtciahmccafcllaaRowB
import Derived.Test.YtciahmccafcllaaFac
import Derived.Deep.QuietTactic
import Derived.BigQuiet
namespace Go.Proofs.Ytciahmccafcllaa
open Go.ChangeShapes Go.WideShapes Go.ChangeAt Go.RowKit

/-- two ints in a block of their own, as an argument -/
theorem arg_two (w : World) (x y : Int) (t : TypeId) : Arg (w.alloc (.cells #[.int .i64 x, .int .i64 y] t)) (some ⟨w.heap.size, 0, none⟩) 2 [x, y] := by
  refine ⟨by simp, by simp, by simp [maxLen], fun _ => ⟨w.heap.size, 0, rfl, Nat.zero_le _, by simp, fun j hj => ?_⟩⟩
  have hj2 : j < 2 := by simpa using hj
  rcases (show j = 0 ∨ j = 1 by omega) with rfl | rfl
  · exact cell_of_row _ _ 0 _ _ _ (heap_alloc_new w _)
  · exact cell_of_row _ _ 1 _ _ _ (heap_alloc_new w _)
theorem agr_parts {L : List Int} {a b : Int} (h : agrB L a b = true) : ∃ i j : Nat, a = i ∧ b = j ∧ i < L.length ∧ j < L.length ∧ i ≠ j ∧ L[max i j]?.getD 0 < L[min i j]?.getD 0 := by
  have h0 := h
  unfold agrB at h
  rw [Bool.and_eq_true, Bool.and_eq_true, Bool.and_eq_true, inB_true, inB_true, decide_eq_true_eq] at h
  obtain ⟨_, h1, h2, h3⟩ := h
  obtain ⟨i, rfl⟩ := Int.eq_ofNat_of_zero_le h1.1
  obtain ⟨j, rfl⟩ := Int.eq_ofNat_of_zero_le h2.1
  refine ⟨i, j, rfl, rfl, by omega, by omega, fun e => ?_, ?_⟩
  · subst e
    rw [agrB_self] at h0
    cases h0
  · rw [show (max (i : Int) (j : Int)).toNat = max i j by omega, show (min (i : Int) (j : Int)).toNat = min i j by omega] at h3
    exact h3

set_option maxHeartbeats 4000000 in
theorem fnAgree_in (A : Option Addr) (n c : Nat) (w : World) (hl : n ≤ 1048576) (hnc : n ≤ c) (hb : Bytes w.heap.size w A n) :
    Calls Try.prog 3 #[.slice A n c] w (RetB (.bool true) w) := by
  have Hb := Lib.hid hb
  clear hb
  go_enter Try.func3, Try.ntmps3
  go_wp2_with fail
  refine (DrawOrdersAgree_c A n c _ (by omega) hnc Hb.out).mono ?_
  rintro e w1 ⟨B, d, L, x, y, rfl, hzl, hA, hB⟩
  have Ha := Lib.hid hA
  have Bt := Lib.hid hB
  clear hA hB Hb
  go_wp2_with fail
  refine (implOrdersAgree_b B d L x y _ Ha.out).mono ?_
  rintro e w2 ⟨rfl, rb2⟩
  replace Ha := Lib.hid (Ha.out.go rb2)
  replace Bt := Lib.hid (below_step Bt.out rb2)
  clear rb2
  go_wp2_with fail
  refine (specOrdersAgree_b B d L x y _ Ha.out).mono ?_
  rintro e w3 ⟨rfl, rb3⟩
  replace Ha := Lib.hid (Ha.out.go rb3)
  replace Bt := Lib.hid (below_step Bt.out rb3)
  clear rb3
  cases hag : agrB L x y
  · go_wp2
    go_ret
    exact ⟨rfl, Bt.out⟩
  have Hs1 := Lib.hid ((agrB_symm L y x).trans hag)
  have Hs2 := Lib.hid (agrB_self L x)
  obtain ⟨i, j, rfl, rfl, hi, hj, hij, hlt⟩ := agr_parts hag
  have Hst := Lib.hid (show stowB [1, 0] [0, 0] = true by decide)
  obtain ⟨b, off, rfl, _, hbw, hc0⟩ := Ha.out.rd.at_ hi
  obtain ⟨b', off', e, _, _, hd0⟩ := Ha.out.rd.at_ hj
  injection e with e
  injection e with e1 e2
  subst e1
  subst e2
  have G1 : (i : Int) < (L.length : Int) := by omega
  have G2 : (j : Int) < (L.length : Int) := by omega
  have G3 : (0 : Int) ≤ (i : Int) := by omega
  have G4 : (0 : Int) ≤ (j : Int) := by omega
  have bp : Below w3.heap.size w3 (w3.alloc (.cells #[.int .i64 0, .int .i64 1] 3)) := (Below.refl _ _).alloc (Nat.le_refl _) _
  have hc1 := (bp.cell (p := ⟨b, off + i, none⟩) hbw).trans hc0
  have hd1 := (bp.cell (p := ⟨b, off + j, none⟩) hbw).trans hd0
  have Hp := Lib.hid bp
  clear hag bp hc0 hd0
  have fin : ∀ (W : World) (m : Nat), W.heap.size = m → Below w3.heap.size w3 W → Hid (Arg (W.alloc (.cells #[.int .i64 1, .int .i64 0] 3)) (some ⟨m, 0, none⟩) 2 [1, 0] ∧ Arg (W.alloc (.cells #[.int .i64 1, .int .i64 0] 3)) (some ⟨b, off, none⟩) d L ∧ Below w.heap.size w (W.alloc (.cells #[.int .i64 1, .int .i64 0] 3))) := fun W m hm h => Lib.hid
    ⟨hm ▸ arg_two W 1 0 _, (Ha.out.go h).go ((Below.refl _ _).alloc (Nat.le_refl _) _), (below_step Bt.out h).alloc (below_step Bt.out h).size _⟩
  have Fin := Lib.hid fin
  clear fin
  rcases (show i < j ∨ j < i by omega) with h1 | h1
  · have m1 : ((i : Int) < (j : Int)) = True := eq_true (by omega)
    have m2 : ((j : Int) < (i : Int)) = False := eq_false (by omega)
    rw [show max i j = j by omega, show min i j = i by omega] at hlt
    obtain ⟨u, hu⟩ : ∃ u, L[i]?.getD 0 = u := ⟨_, rfl⟩
    obtain ⟨v, hv⟩ : ∃ v, L[j]?.getD 0 = v := ⟨_, rfl⟩
    rw [hu] at hc1 hlt
    rw [hv] at hd1 hlt
    have hdd : decide (v < u) = true := decide_eq_true hlt
    clear hu hv
    go_wp2
    go_quiet (fail)
    have F := Fin.out ((w3.alloc (.cells #[.int .i64 0, .int .i64 1] 3)).drewN nq) (w3.heap.size + 1) (by simp) (below_drewN Hp.out nq)
    go_wp2_with fail
    refine (implOrdersAgree_b (some ⟨b, off, none⟩) d L (j : Int) (i : Int) _ F.out.2.1).mono ?_
    rintro e w5 ⟨rfl, rb5⟩
    rw [Hs1.out]
    have P5 := Lib.hid (F.out.1.go rb5)
    have A5 := Lib.hid (F.out.2.1.go rb5)
    have B5 := Lib.hid (below_step F.out.2.2 rb5)
    clear rb5
    go_wp2_with fail
    refine (implOrdersAgree_b (some ⟨b, off, none⟩) d L (i : Int) (i : Int) _ A5.out).mono ?_
    rintro e w6 ⟨rfl, rb6⟩
    rw [Hs2.out]
    have P6 := Lib.hid (P5.out.go rb6)
    have B6 := Lib.hid (below_step B5.out rb6)
    have bz : Below w6.heap.size w6 (w6.alloc (.cells #[.int .i64 0, .int .i64 0] 3)) := (Below.refl _ _).alloc (Nat.le_refl _) _
    have P7 := Lib.hid (P6.out.go bz)
    have B7 := Lib.hid (below_step B6.out bz)
    have Z7 := Lib.hid (arg_two w6 0 0 3)
    clear rb6 bz
    go_wp2_with fail
    refine (implStowageValid_b _ 2 [1, 0] _ 2 [0, 0] _ P7.out Z7.out).mono ?_
    rintro e w8 ⟨rfl, rb8⟩
    rw [Hst.out]
    have B8 := Lib.hid (below_step B7.out rb8)
    clear rb8
    go_wp2
    go_ret
    exact ⟨rfl, B8.out⟩
  · have m1 : ((i : Int) < (j : Int)) = False := eq_false (by omega)
    have m2 : ((j : Int) < (i : Int)) = True := eq_true (by omega)
    rw [show max i j = i by omega, show min i j = j by omega] at hlt
    obtain ⟨u, hu⟩ : ∃ u, L[i]?.getD 0 = u := ⟨_, rfl⟩
    obtain ⟨v, hv⟩ : ∃ v, L[j]?.getD 0 = v := ⟨_, rfl⟩
    rw [hu] at hc1 hlt
    rw [hv] at hd1 hlt
    have hdd : decide (u < v) = true := decide_eq_true hlt
    clear hu hv
    go_wp2
    go_quiet (fail)
    have F := Fin.out ((w3.alloc (.cells #[.int .i64 0, .int .i64 1] 3)).drewN nq) (w3.heap.size + 1) (by simp) (below_drewN Hp.out nq)
    go_wp2_with fail
    refine (implOrdersAgree_b (some ⟨b, off, none⟩) d L (j : Int) (i : Int) _ F.out.2.1).mono ?_
    rintro e w5 ⟨rfl, rb5⟩
    rw [Hs1.out]
    have P5 := Lib.hid (F.out.1.go rb5)
    have A5 := Lib.hid (F.out.2.1.go rb5)
    have B5 := Lib.hid (below_step F.out.2.2 rb5)
    clear rb5
    go_wp2_with fail
    refine (implOrdersAgree_b (some ⟨b, off, none⟩) d L (i : Int) (i : Int) _ A5.out).mono ?_
    rintro e w6 ⟨rfl, rb6⟩
    rw [Hs2.out]
    have P6 := Lib.hid (P5.out.go rb6)
    have B6 := Lib.hid (below_step B5.out rb6)
    have bz : Below w6.heap.size w6 (w6.alloc (.cells #[.int .i64 0, .int .i64 0] 3)) := (Below.refl _ _).alloc (Nat.le_refl _) _
    have P7 := Lib.hid (P6.out.go bz)
    have B7 := Lib.hid (below_step B6.out bz)
    have Z7 := Lib.hid (arg_two w6 0 0 3)
    clear rb6 bz
    go_wp2_with fail
    refine (implStowageValid_b _ 2 [1, 0] _ 2 [0, 0] _ P7.out Z7.out).mono ?_
    rintro e w8 ⟨rfl, rb8⟩
    rw [Hst.out]
    have B8 := Lib.hid (below_step B7.out rb8)
    clear rb8
    go_wp2
    go_ret
    exact ⟨rfl, B8.out⟩

theorem fnAgree_walk (A0 : Option Addr) (n0 c0 : Nat) (w : World) (hb0 : Byt0 w A0 n0 c0) :
    Calls Try.prog 3 #[.slice A0 n0 c0] w (RetB (.bool true) w) := by
  by_cases hl0 : 1048576 < n0
  · clear hb0
    go_enter Try.func3, Try.ntmps3
    go_wp2
    go_ret
    exact ⟨rfl, Below.refl _ _⟩
  exact fnAgree_in A0 n0 c0 w (by omega) hb0.1 hb0.2.2

set_option maxRecDepth 100000 in
theorem fnAgree_lifted (os : Os) (started : os.Started) (H : Type) (enc : TypeId × Value → H) :
    ReturnsInHanded {} Try.checked os 3 .any (Rows.fnAgreeSpec.pre6 enc Try.prog Try.f3 Rows.fnAgreeRow.domain false) (Rows.fnAgreeSpec.post enc Try.prog Try.f3 false true false false) := by
  refine returnsInHanded_of_change (C := Try.checked) row_own started (by kernel_rfl) Try.func3
    (ChangeSpec.witness6 (enc := enc) (C := Try.checked) false ⟨#[], #[.slice none 0 0], []⟩ 8 (by kernel_rfl) (by kernel_rfl) (by kernel_rfl) (by kernel_rfl)) ?_
  intro W base args ds gs before hval0 hW hcnd _
  have hval : ∀ (j : Nat) t v, Try.f3.params[j]? = some t → args[j]? = some v → Value.okWide Try.prog W .any base t v := hval0
  have hW' := hW
  obtain ⟨p, q, hA0, hV, rfl, _, _⟩ := hW
  have hA : DataW.TrodAll enc Try.prog W 0 (fun _ => true) true Try.f3.params.toList args.toList ds p := hA0
  rw [Try.params3] at hA hval
  obtain ⟨v0, vs0, d0, ds0, p0, q0, hargs, rfl, rfl, h0, r0⟩ := trodAll_cons hA
  obtain ⟨rfl, rfl, rfl⟩ := trodAll_nil r0
  obtain rfl : args = #[v0] := by cases args; simp_all
  obtain ⟨rfl, rfl⟩ := trodVars_none hV
  have hlt0 : ∀ x ∈ p0, x.block < W.heap.size := fun x hx => by exact hW'.lt x (by simp [hx])
  obtain ⟨A0, n0, c0, rfl, hb0⟩ := open_bytes (hval 0 22 v0 rfl rfl) h0 hlt0
  clear hA0 hval0
  refine (fnAgree_walk A0 n0 c0 W hb0).mono fun e W' ⟨he, hb⟩ => ?_
  subst he
  exact ⟨_, rfl, _, _, _, [], _, [], hW', (trodAll_cons_mk (shut_bool Try.underlying4 _) trodAll_mk0), (trodAll_cons_mk (read_again_bytes h0 hlt0 hb) trodAll_mk0), rfl, hb.frame _, fun h => by cases h⟩

set_option maxRecDepth 100000 in
theorem fnAgree_closed : joinedFacts Try.prog 3 Try.f3 Rows.fnAgreeSpec Rows.fnAgreeRow = true := by
  unfold joinedFacts
  repeat' (with_reducible apply facAnd)
  all_goals first | (with_reducible exact facEnter) | (with_reducible exact facLaid) | (with_reducible exact facMaps) | (with_reducible exact facStops) | (with_reducible exact facKnobs) | (with_reducible exact facHeard) | (rw [facLifts]; as_aux_lemma => kernel_rfl) | (rw [facMake]; as_aux_lemma => kernel_rfl) | (as_aux_lemma => kernel_rfl)

/-- THE STATEMENT -/
theorem fnAgree_holds : Rows.FnAgreeSaid :=
  OpenClaim.holds_of_wide 3 Try.f3 rfl rfl rfl rfl rfl rfl rfl ⟨rfl, rfl, rfl, rfl, rfl⟩ rfl rfl rfl rfl rfl (by kernel_rfl) Try.func3 fnAgree_closed
    (of_decide_eq_true (by kernel_rfl)) (by unfold Func.isWrapper; first | (rw [if_pos (by decide +kernel)]; kernel_rfl) | (rw [if_neg (by decide +kernel)]; exact ⟨rfl, rfl⟩))
    (fun os started H enc _ => fnAgree_lifted os started H enc)
#print axioms fnAgree_holds
end Go.Proofs.Ytciahmccafcllaa
