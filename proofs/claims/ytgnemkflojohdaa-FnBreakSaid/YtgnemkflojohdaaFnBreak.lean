/-
  The law FnBreak: for every code the law answers true. No condition.
-/
import Derived.Test.YtgnemkflojohdaaFDrawB
import Derived.Test.YtgnemkflojohdaaFltN
import Derived.Test.YtgnemkflojohdaaFltPS
import Derived.Test.YtgnemkflojohdaaBreakS
import Derived.Test.YtgnemkflojohdaaRowB
namespace Go.Proofs.Ytgnemkflojohdaa
open Go.ChangeShapes Go.WideShapes Go.ChangeAt Go.RowKit

/-- a break is found within its end -/
theorem range_of_break {ss : List Sec} {m o : Int} (h : faultB ss ⟨m, o⟩ = true) : ∃ k : Nat, m = (k : Int) ∧
    (∃ x, rangeV ss (upL ss ⟨m, o⟩ + o) o = .tuple #[.int .i64 (x : Nat × Nat).1, .int .i64 x.2, .bool true] ∧ x.1 ≤ k ∧ k ≤ x.2) ∧
    rangeV ss (upL ss ⟨m, o⟩ + o - o) 0 = .tuple #[.int .i64 k, .int .i64 k, .bool true] := by
  obtain ⟨hc, hm, ho⟩ := faultB_true h
  have hs := sides_bd h
  have h8 := (mN_bd hc 0).2.2
  dsimp only at hm ho
  obtain ⟨k, rfl⟩ := Int.eq_ofNat_of_zero_le hm.1
  have hk : k ≤ mN ss := by omega
  have eu : upL ss ⟨(k : Int), o⟩ = rN ss k := rfl
  rw [eu] at hs ⊢
  refine ⟨k, rfl, ?_, ?_⟩
  · obtain ⟨x, hx, h1, h2⟩ := rgTo_mem (r := rN ss) (a := rN ss k + o) (e := o) (k := k) (inB_true.2 (by omega)) (mN ss + 1) (by omega)
    refine ⟨x, ?_, h1, h2⟩
    unfold rangeV
    rw [rangeO_yes hc (by omega) (inB_true.2 ho), hx]
    rfl
  · have hx := rgTo_one (r := rN ss) (a := rN ss k + o - o) (e := 0) (k := k) (n := mN ss + 1) (inB_true.2 (by omega)) (by omega) (fun j hj hin => by
      have := inB_true.1 hin
      exact rN_inj hc (by omega) hk (by omega))
    unfold rangeV
    rw [rangeO_yes hc (by omega) (inB_true.2 (by omega)), hx]
    rfl

set_option maxRecDepth 100000 in
set_option maxHeartbeats 4000000 in
theorem fnBreak_in (A : Option Addr) (n c : Nat) (w : World) (hl : n ≤ 1048576) (hnc : n ≤ c) (hb : Bytes w.heap.size w A n) :
    Calls Try.prog 9 #[.slice A n c] w (RetB (.bool true) w) := by
  have Hb := Lib.hid hb
  clear hb
  go_enter Try.func9, Try.ntmps9
  go_wp2_with fail
  refine (DrawBreakOpen_c A n c _ (by omega) hnc Hb.out).mono ?_
  rintro e w1 ⟨B, d, ss, m, o, rfl, hzl, hA, hB, ⟨hm0, hm1⟩, ho0, ho1⟩
  have Ha := Lib.hid hA
  have Bt := Lib.hid hB
  clear hA hB Hb
  cases hv : faultB ss ⟨m, o⟩
  · have HV := Lib.hid (breakI_no hv)
    clear hv
    go_wp2_with fail
    refine (implBreakOpen_b B d ss m o _ Ha.out).mono ?_
    rintro e w2 ⟨rfl, rb2⟩
    rw [HV.out]
    replace Ha := Lib.hid (Ha.out.go rb2)
    replace Bt := Lib.hid (below_step Bt.out rb2)
    clear rb2
    go_wp2_with fail
    refine (specBreakOpen_b B d ss m o _ Ha.out).mono ?_
    rintro e w3 ⟨rfl, rb3⟩
    rw [HV.out]
    replace Bt := Lib.hid (below_step Bt.out rb3)
    clear rb3
    go_wp2
    go_ret
    exact ⟨rfl, Bt.out⟩
  · have HV := Lib.hid (breakI_yes hv)
    obtain ⟨k, rfl, ⟨x, hx, hx1, hx2⟩, hk⟩ := range_of_break hv
    have hs := sides_bd hv
    have h0 := (faultB_true hv).2.2
    obtain ⟨u, hu⟩ : ∃ u, upL ss ⟨(k : Int), o⟩ = u := ⟨_, rfl⟩
    rw [hu] at HV hx hk hs
    rw [show u + o - o = u by omega] at hk
    have HX := Lib.hid hx
    have HK := Lib.hid hk
    dsimp only at h0
    clear hv hu hx hk
    go_wp2_with fail
    refine (implBreakOpen_b B d ss (k : Int) o _ Ha.out).mono ?_
    rintro e w2 ⟨rfl, rb2⟩
    rw [HV.out]
    dsimp only
    replace Ha := Lib.hid (Ha.out.go rb2)
    replace Bt := Lib.hid (below_step Bt.out rb2)
    clear rb2
    go_wp2_with fail
    refine (specBreakOpen_b B d ss (k : Int) o _ Ha.out).mono ?_
    rintro e w3 ⟨rfl, rb3⟩
    rw [HV.out]
    dsimp only
    replace Ha := Lib.hid (Ha.out.go rb3)
    replace Bt := Lib.hid (below_step Bt.out rb3)
    clear rb3
    go_wp2_with fail
    refine (implBreakRange_b B d ss (u + o) o _ Ha.out (by omega)).mono ?_
    rintro e w4 ⟨rfl, rb4⟩
    rw [HX.out]
    replace Ha := Lib.hid (Ha.out.go rb4)
    replace Bt := Lib.hid (below_step Bt.out rb4)
    clear rb4
    go_wp2_with fail
    refine (implBreakRange_b B d ss u 0 _ Ha.out (by omega)).mono ?_
    rintro e w5 ⟨rfl, rb5⟩
    rw [HK.out]
    replace Bt := Lib.hid (below_step Bt.out rb5)
    clear rb5
    have g1 : decide (((x.1 : Nat) : Int) ≤ (k : Int)) = true := by simp; omega
    have g2 : decide ((k : Int) ≤ ((x.2 : Nat) : Int)) = true := by simp; omega
    have g3 : decide (u + o ≥ o) = true := by simp; omega
    go_wp2
    go_ret
    exact ⟨rfl, Bt.out⟩

theorem fnBreak_walk (A0 : Option Addr) (n0 c0 : Nat) (w : World) (hb0 : Byt0 w A0 n0 c0) :
    Calls Try.prog 9 #[.slice A0 n0 c0] w (RetB (.bool true) w) := by
  by_cases hl0 : 1048576 < n0
  · clear hb0
    go_enter Try.func9, Try.ntmps9
    go_wp2
    go_ret
    exact ⟨rfl, Below.refl _ _⟩
  exact fnBreak_in A0 n0 c0 w (by omega) hb0.1 hb0.2.2

set_option maxRecDepth 100000 in
theorem fnBreak_lifted (os : Os) (started : os.Started) (H : Type) (enc : TypeId × Value → H) :
    ReturnsInHanded {} Try.checked os 9 .any (Rows.fnBreakSpec.pre6 enc Try.prog Try.f9 Rows.fnBreakRow.domain false) (Rows.fnBreakSpec.post enc Try.prog Try.f9 false true false false) := by
  refine returnsInHanded_of_change (C := Try.checked) row_own started (by kernel_rfl) Try.func9
    (ChangeSpec.witness6 (enc := enc) (C := Try.checked) false ⟨#[], #[.slice none 0 0], []⟩ 8 (by kernel_rfl) (by kernel_rfl) (by kernel_rfl) (by kernel_rfl)) ?_
  intro W base args ds gs before hval0 hW hcnd _
  have hval : ∀ (j : Nat) t v, Try.f9.params[j]? = some t → args[j]? = some v → Value.okWide Try.prog W .any base t v := hval0
  have hW' := hW
  obtain ⟨p, q, hA0, hV, rfl, _, _⟩ := hW
  have hA : DataW.TrodAll enc Try.prog W 0 (fun _ => true) true Try.f9.params.toList args.toList ds p := hA0
  rw [Try.params9] at hA hval
  obtain ⟨v0, vs0, d0, ds0, p0, q0, hargs, rfl, rfl, h0, r0⟩ := trodAll_cons hA
  obtain ⟨rfl, rfl, rfl⟩ := trodAll_nil r0
  obtain rfl : args = #[v0] := by cases args; simp_all
  obtain ⟨rfl, rfl⟩ := trodVars_none hV
  have hlt0 : ∀ x ∈ p0, x.block < W.heap.size := fun x hx => by exact hW'.lt x (by simp [hx])
  obtain ⟨A0, n0, c0, rfl, hb0⟩ := open_bytes (hval 0 22 v0 rfl rfl) h0 hlt0
  clear hA0 hval0
  refine (fnBreak_walk A0 n0 c0 W hb0).mono fun e W' ⟨he, hb⟩ => ?_
  subst he
  exact ⟨_, rfl, _, _, _, [], _, [], hW', (trodAll_cons_mk (shut_bool Try.underlying4 _) trodAll_mk0), (trodAll_cons_mk (read_again_bytes h0 hlt0 hb) trodAll_mk0), rfl, hb.frame _, fun h => by cases h⟩

/-- THE STATEMENT -/
theorem fnBreak_holds : Rows.FnBreakSaid :=
  OpenClaim.holds_of_wide 9 Try.f9 rfl rfl rfl rfl rfl rfl rfl ⟨rfl, rfl, rfl, rfl, rfl⟩ rfl rfl rfl rfl rfl (by kernel_rfl) Try.func9 (by kernel_rfl)
    (of_decide_eq_true (by kernel_rfl)) (by unfold Func.isWrapper; first | (rw [if_pos (by decide +kernel)]; kernel_rfl) | (rw [if_neg (by decide +kernel)]; exact ⟨rfl, rfl⟩))
    (fun os started H enc _ => fnBreak_lifted os started H enc)
#print axioms fnBreak_holds
end Go.Proofs.Ytgnemkflojohdaa
