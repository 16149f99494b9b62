/-
  The law FnTrafficLoad: a greatest load fills a least cut. For all codes it answers true. No condition.
-/
import Derived.Test.YtnekjhpocfdpnaaFac
import Derived.Test.YtnekjhpocfdpnaaRowB
import Derived.Test.YtnekjhpocfdpnaaLw
import Derived.Test.YtnekjhpocfdpnaaSame
import Derived.Test.YtnekjhpocfdpnaaNdT
import Derived.Test.YtnekjhpocfdpnaaTfX
import Derived.Test.YtnekjhpocfdpnaaTfZl
import Derived.Test.YtnekjhpocfdpnaaTfJ
import Derived.Test.YtnekjhpocfdpnaaTfLv
import Derived.Test.YtnekjhpocfdpnaaTfFu
namespace Go.Proofs.Ytnekjhpocfdpnaa
open Go.ChangeShapes Go.WideShapes Go.ChangeAt Go.RowKit

theorem argS_to {w : World} {A : Option Addr} {c : Nat} {zs : List Int} (ha : Arg w A c zs) {x : Int} (h0 : 0 ≤ x) (h1 : x < (zs.length : Int)) : ∃ b off, A = some ⟨b, off, none⟩ ∧ w.cell? ⟨b, off + x.toNat, none⟩ = some (.int .i64 (sdAt zs x)) := by
  obtain ⟨b, off, e, _, hb, hc⟩ := ha.rd.at_ (k := x.toNat) (by omega)
  exact ⟨b, off, e, hc⟩

set_option maxRecDepth 100000 in
set_option maxHeartbeats 1600000 in
theorem fnTrafficLoad_in (A0 : Option Addr) (n0 c0 : Nat) (w : World) (hl0 : n0 ≤ 1048576) (hc0 : n0 ≤ c0) (hb0 : Bytes w.heap.size w A0 n0) :
    Calls Try.prog 5 #[.slice A0 n0 c0] w (RetB (.bool true) w) := by
  have Hb := Lib.hid hb0
  clear hb0
  go_enter Try.func5, Try.ntmps5
  go_wp2_with fail
  refine (DrawTrafficLoad_c A0 n0 c0 _ (by omega) hc0 Hb.out).mono ?_
  rintro e w1 ⟨m, B, d, zs, f, t, rfl, hm2, hm5, hzl, hf, ht, hA, hB⟩
  have Ha := Lib.hid hA
  have Bt := Lib.hid hB
  clear hB Hb hA
  dsimp only
  go_wp2_with fail
  refine (implTrafficLoad_b (m : Int) B d zs f t _ Ha.out).mono ?_
  rintro e w2 ⟨B1, d1, rfl, ra, _, hb2⟩
  replace Ha := Lib.hid (Ha.out.go hb2)
  replace Bt := Lib.hid (below_step Bt.out hb2)
  have H1 := Lib.hid ra
  clear ra hb2
  dsimp only [id]
  go_wp2_with fail
  refine (specTrafficLoad_b (m : Int) B d zs f t _ Ha.out).mono ?_
  rintro e w3 ⟨B2, d2, rfl, ra, _, hb3⟩
  replace Ha := Lib.hid (Ha.out.go hb3)
  replace H1 := Lib.hid (H1.out.go hb3)
  replace Bt := Lib.hid (below_step Bt.out hb3)
  have H2 := Lib.hid ra
  clear ra hb3
  dsimp only [id]
  cases hv : endB (m : Int) zs f t
  · clear hv
    go_wp2_with fail
    refine (sameInts_c _ _ _ _ _ _ _ H1.out H2.out).mono ?_
    rintro e w4 ⟨rfl, q4, hq4⟩
    rw [decide_eq_true rfl]
    have hb4 := below_of_drew hq4
    clear hq4
    replace Ha := Lib.hid (Ha.out.go hb4)
    replace H1 := Lib.hid (H1.out.go hb4)
    replace H2 := Lib.hid (H2.out.go hb4)
    replace Bt := Lib.hid (below_step Bt.out hb4)
    clear hb4
    go_wp2_with fail
    refine (sameInts_c _ _ _ _ _ _ _ H1.out H2.out).mono ?_
    rintro e w5 ⟨rfl, q5, hq5⟩
    rw [decide_eq_true rfl]
    have hb5 := below_of_drew hq5
    clear hq5
    replace Ha := Lib.hid (Ha.out.go hb5)
    replace H1 := Lib.hid (H1.out.go hb5)
    replace H2 := Lib.hid (H2.out.go hb5)
    replace Bt := Lib.hid (below_step Bt.out hb5)
    clear hb5
    go_wp2
    go_ret
    exact ⟨rfl, Bt.out⟩
  go_wp2_with fail
  refine (sameInts_c _ _ _ _ _ _ _ H1.out H2.out).mono ?_
  rintro e w6 ⟨rfl, q6, hq6⟩
  rw [decide_eq_true rfl]
  have hb6 := below_of_drew hq6
  clear hq6
  replace Ha := Lib.hid (Ha.out.go hb6)
  replace H1 := Lib.hid (H1.out.go hb6)
  replace H2 := Lib.hid (H2.out.go hb6)
  replace Bt := Lib.hid (below_step Bt.out hb6)
  clear hb6
  clear H2
  obtain ⟨p1, p2, p3, p4, p5⟩ := load_fills hv
  have hnet := (endB_true.1 hv).1
  have hat := fun (k : Nat) (hk : k < zs.length) => netB_at hnet hk
  have HC0 := fun W h => implCutLeast_b (m : Int) B d zs f t W h
  rw [hv] at HC0
  obtain ⟨K, hK⟩ : ∃ K, TLv (m : Int) zs f t = K := ⟨_, rfl⟩
  rw [hK] at H1 p1 p2 p5 ⊢
  obtain ⟨S, hS⟩ : ∃ S, lcV (m : Int) zs f t = S := ⟨_, rfl⟩
  rw [hS] at HC0 p3 p4 p5
  have HV0 := fun W h h2 => implLoadValid_b (m : Int) f t B B1 d d1 zs K W h h2
  rw [p1] at HV0
  have HC := Lib.hid HC0
  have HV := Lib.hid HV0
  have Hat := Lib.hid hat
  have H01 := Lib.hid p4
  have Hf := Lib.hid p5
  have k1 : K.length ≤ zs.length := by omega
  have k2 : zs.length ≤ K.length := by omega
  have s1 : (S.length : Int) ≤ (m : Int) := by omega
  have s2 : (m : Int) ≤ (S.length : Int) := by omega
  clear HC0 HV0 hat hnet p1 p2 p3 p4 p5 hK hS hv
  go_wp2_with fail
  refine (HC.out _ Ha.out).mono ?_
  rintro e w7 ⟨B3, d3, rfl, ra, _, hb7⟩
  replace Ha := Lib.hid (Ha.out.go hb7)
  replace H1 := Lib.hid (H1.out.go hb7)
  replace Bt := Lib.hid (below_step Bt.out hb7)
  have H3 := Lib.hid ra
  clear ra hb7
  dsimp only [id]
  go_wp2
  go_loopw [13] (fun i wr => ∃ j : Nat, j ≤ zs.length ∧ i = .int .i64 j ∧ Below w7.heap.size w7 wr) (fun i _ => zs.length - (intOf i).toNat)
  case atStart => exact ⟨0, Nat.zero_le _, rfl, Below.refl _ _⟩
  case round =>
    obtain ⟨j, hj, rfl, hb⟩ := hrel
    have Hb := Lib.hid hb
    clear hb
    by_cases hlt : j < zs.length
    · have g2 : (j : Int) < (zs.length : Int) := by omega
      have g3 : (j : Int) < (K.length : Int) := by omega
      have e1 : ((j + 1 : Nat) : Int) = (j : Int) + 1 := by omega
      have q2 : IntKind.i64.wrap ((j : Int) + 1) = (j : Int) + 1 := IntWalk.i64_in _ (by omega)
      obtain ⟨⟨⟨a0, a1⟩, ⟨b0, b1⟩, _⟩, c0, c1⟩ := Hat.out j hlt
      obtain ⟨f1, f2⟩ := Hf.out j hlt
      obtain ⟨b, off, rfl, _, _, h0, h1, h2⟩ := (Ha.out.go Hb.out).rd.at_ hlt
      obtain ⟨bs, os, rfl, hs0⟩ := argS_to (H3.out.go Hb.out) a0 (by omega)
      obtain ⟨bs', os', eb, hs1⟩ := argS_to (H3.out.go Hb.out) b0 (by omega)
      injection eb with eb
      injection eb with eb eo _
      subst eb
      subst eo
      obtain ⟨bk, ok, rfl, _, _, hk0⟩ := (H1.out.go Hb.out).rd.at_ (k := j) (by omega)
      have z0 := H01.out (linAt zs j).a
      have z1 := H01.out (linAt zs j).b
      unfold ldAt at f1 f2
      obtain ⟨x, hx⟩ : ∃ x, (linAt zs j).a = x := ⟨_, rfl⟩
      obtain ⟨y, hy⟩ : ∃ y, (linAt zs j).b = y := ⟨_, rfl⟩
      obtain ⟨ch, hch⟩ : ∃ ch, (linAt zs j).c = ch := ⟨_, rfl⟩
      obtain ⟨ld, hld⟩ : ∃ ld, K[j]?.getD 0 = ld := ⟨_, rfl⟩
      rw [hx] at h0 hs0 a0 a1 z0 f1 f2
      rw [hy] at h1 hs1 b0 b1 z1 f1 f2
      rw [hch] at h2 c0 c1 f1 f2
      rw [hld] at hk0 f1 f2
      obtain ⟨sx, hsx⟩ : ∃ sx, sdAt S x = sx := ⟨_, rfl⟩
      obtain ⟨sy, hsy⟩ : ∃ sy, sdAt S y = sy := ⟨_, rfl⟩
      rw [hsx] at hs0 z0 f1 f2
      rw [hsy] at hs1 z1 f1 f2
      have g4 : x < (S.length : Int) := by omega
      have g5 : y < (S.length : Int) := by omega
      have q3 : IntKind.i64.wrap (-ch) = -ch := IntWalk.i64_in _ (by omega)
      have q4 : IntKind.i64.wrap (0 - ch) = -ch := by rw [Int.zero_sub]; exact q3
      clear hx hy hch hld hsx hsy
      rcases z0 with rfl | rfl <;> rcases z1 with rfl | rfl
      case inl.inl =>
        clear f1 f2
        go_wp2
        go_quiet (fail)
        go_wp2
        exact ⟨⟨j + 1, by omega, by rw [e1], below_drewN Hb.out _⟩, by simp only [intOf]; omega⟩
      case inl.inr =>
        obtain rfl := f2 rfl rfl
        have bb : (-ch != -ch) = false := by simp
        clear f1 f2
        go_wp2
        go_quiet (fail)
        go_wp2
        exact ⟨⟨j + 1, by omega, by rw [e1], below_drewN Hb.out _⟩, by simp only [intOf]; omega⟩
      case inr.inl =>
        obtain rfl := f1 rfl rfl
        have bb : (ld != ld) = false := by simp
        clear f1 f2
        go_wp2
        go_quiet (fail)
        go_wp2
        exact ⟨⟨j + 1, by omega, by rw [e1], below_drewN Hb.out _⟩, by simp only [intOf]; omega⟩
      case inr.inr =>
        clear f1 f2
        go_wp2
        go_quiet (fail)
        go_wp2
        exact ⟨⟨j + 1, by omega, by rw [e1], below_drewN Hb.out _⟩, by simp only [intOf]; omega⟩
    · obtain rfl : j = zs.length := by omega
      have g2 : ¬ (zs.length : Int) < (zs.length : Int) := by omega
      replace Ha := Lib.hid (Ha.out.go Hb.out)
      replace H1 := Lib.hid (H1.out.go Hb.out)
      replace Bt := Lib.hid (below_step Bt.out Hb.out)
      clear Hb
      go_wp2_with fail
      refine (HV.out _ Ha.out H1.out).mono ?_
      rintro e w8 ⟨rfl, hb8⟩
      replace Ha := Lib.hid (Ha.out.go hb8)
      replace H1 := Lib.hid (H1.out.go hb8)
      replace Bt := Lib.hid (below_step Bt.out hb8)
      clear hb8
      dsimp only
      go_wp2
      go_ret
      exact ⟨rfl, Bt.out⟩

set_option maxRecDepth 100000 in
theorem fnTrafficLoad_walk (A0 : Option Addr) (n0 c0 : Nat) (w : World) (hb0 : Byt0 w A0 n0 c0) :
    Calls Try.prog 5 #[.slice A0 n0 c0] w (RetB (.bool true) w) := by
  by_cases hl0 : 1048576 < n0
  · clear hb0
    go_enter Try.func5, Try.ntmps5
    go_wp2
    go_ret
    exact ⟨rfl, Below.refl _ _⟩
  exact fnTrafficLoad_in A0 n0 c0 w (by omega) hb0.1 hb0.2.2

set_option maxRecDepth 100000 in
theorem fnTrafficLoad_lifted (os : Os) (started : os.Started) (H : Type) (enc : TypeId × Value → H) :
    ReturnsInHanded {} Try.checked os 5 .any (Rows.fnTrafficLoadSpec.pre6 enc Try.prog Try.f5 Rows.fnTrafficLoadRow.domain false) (Rows.fnTrafficLoadSpec.post enc Try.prog Try.f5 false true false false) := by
  refine returnsInHanded_of_change (C := Try.checked) row_own started (by kernel_rfl) Try.func5
    (ChangeSpec.witness6 (enc := enc) (C := Try.checked) false ⟨#[], #[.slice none 0 0], []⟩ 8 (by kernel_rfl) (by kernel_rfl) (by kernel_rfl) (by kernel_rfl)) ?_
  intro W base args ds gs before hval0 hW hcnd _
  have hval : ∀ (j : Nat) t v, Try.f5.params[j]? = some t → args[j]? = some v → Value.okWide Try.prog W .any base t v := hval0
  have hW' := hW
  obtain ⟨p, q, hA0, hV, rfl, _, _⟩ := hW
  have hA : DataW.TrodAll enc Try.prog W 0 (fun _ => true) true Try.f5.params.toList args.toList ds p := hA0
  rw [Try.params5] at hA hval
  obtain ⟨v0, vs0, d0, ds0, p0, q0, hargs, rfl, rfl, h0, r0⟩ := trodAll_cons hA
  obtain ⟨rfl, rfl, rfl⟩ := trodAll_nil r0
  obtain rfl : args = #[v0] := by cases args; simp_all
  obtain ⟨rfl, rfl⟩ := trodVars_none hV
  have hlt0 : ∀ x ∈ p0, x.block < W.heap.size := fun x hx => by exact hW'.lt x (by simp [hx])
  obtain ⟨A0, n0, c0, rfl, hb0⟩ := open_bytes (hval 0 22 v0 rfl rfl) h0 hlt0
  clear hA0 hval0
  refine (fnTrafficLoad_walk A0 n0 c0 W hb0).mono fun e W' ⟨he, hb⟩ => ?_
  subst he
  exact ⟨_, rfl, _, _, _, [], _, [], hW', (trodAll_cons_mk (shut_bool Try.underlying4 _) trodAll_mk0), (trodAll_cons_mk (read_again_bytes h0 hlt0 hb) trodAll_mk0), rfl, hb.frame _, fun h => by cases h⟩

set_option maxRecDepth 100000 in
theorem fnTrafficLoad_closed : joinedFacts Try.prog 5 Try.f5 Rows.fnTrafficLoadSpec Rows.fnTrafficLoadRow = true := by
  unfold joinedFacts
  repeat' (with_reducible apply facAnd)
  all_goals first | (with_reducible exact facEnter) | (with_reducible exact facLaid) | (with_reducible exact facMaps) | (with_reducible exact facStops) | (with_reducible exact facKnobs) | (with_reducible exact facHeard) | (rw [facLifts]; as_aux_lemma => kernel_rfl) | (rw [facMake]; as_aux_lemma => kernel_rfl) | (as_aux_lemma => kernel_rfl)

/-- THE STATEMENT -/
theorem fnTrafficLoad_holds : Rows.FnTrafficLoadSaid :=
  OpenClaim.holds_of_wide 5 Try.f5 rfl rfl rfl rfl rfl rfl rfl ⟨rfl, rfl, rfl, rfl, rfl⟩ rfl rfl rfl rfl rfl (by kernel_rfl) Try.func5 fnTrafficLoad_closed
    (of_decide_eq_true (by kernel_rfl)) (by unfold Func.isWrapper; first | (rw [if_pos (by decide +kernel)]; kernel_rfl) | (rw [if_neg (by decide +kernel)]; exact ⟨rfl, rfl⟩))
    (fun os started H enc _ => fnTrafficLoad_lifted os started H enc)
#print axioms fnTrafficLoad_holds
end Go.Proofs.Ytnekjhpocfdpnaa
