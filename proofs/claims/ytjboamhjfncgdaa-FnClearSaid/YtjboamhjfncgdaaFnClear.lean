/-
  The law FnClear: for all codes the law answers true. No condition.
-/
import Derived.Test.YtjboamhjfncgdaaFac
import Derived.Test.YtjboamhjfncgdaaRowB
import Derived.Test.YtjboamhjfncgdaaCtR
import Derived.Test.YtjboamhjfncgdaaRtA
import Derived.Test.YtjboamhjfncgdaaRtK
import Derived.Test.YtjboamhjfncgdaaRtKs
import Derived.Test.YtjboamhjfncgdaaRtFs
import Derived.Test.YtjboamhjfncgdaaRtQ
namespace Go.Proofs.Ytjboamhjfncgdaa
open Go.ChangeShapes Go.WideShapes Go.ChangeAt Go.RowKit

theorem clr_top {R : List Rot} {k : Nat} (hk : k < R.length) : clrN R k + 1 ≤ R.length - k := by
  have hs := nsub_len (A := heapTo R k (R.length - (k + 1))) (B := List.range' k (R.length - k)) (heap_nodup hk _ (by omega)) fun x hx => by
    have hu := (heap_all hk x).1 hx
    have h1 := hu.ge
    have h2 := hu.lt hk
    exact List.mem_range'_1.2 ⟨h1, by omega⟩
  rw [clr_len, List.length_range'] at hs
  exact hs
theorem abv_last {R : List Rot} {k : Nat} (hk : k + 1 = R.length) : abvN R k = [] := by
  refine List.eq_nil_iff_forall_not_mem.2 fun i hi => ?_
  have := abvN_mem.1 hi
  omega
theorem clr_zero {R : List Rot} {k : Nat} (hk : k < R.length) : (clrN R k = 0) ↔ ((abvN R k).length = 0) := by
  constructor
  · intro h
    have := clr_abv (R := R) hk
    omega
  · intro h
    exact clr_none hk (List.eq_nil_of_length_eq_zero h)
theorem abv_less {R : List Rot} {k j : Nat} (hR : hasR R (k : Int) = true) (hj : j < (abvV R (k : Int)).length) : clrV R ((abvV R (k : Int))[j]?.getD 0) < clrV R (k : Int) := by
  obtain ⟨h1, _, h3⟩ := hasR_true.1 hR
  rw [clrV_yes hR, abvV_yes hR]
  rw [abvV_yes hR] at hj
  have hj' : j < (abvN R k).length := by simpa [ints] using hj
  rw [ints_at hj']
  have hm : (abvN R k)[j]?.getD 0 ∈ abvN R k := by
    have : (abvN R k)[j]?.getD 0 = (abvN R k)[j] := by simp [hj']
    rw [this]; exact List.getElem_mem _
  have := clr_less (by omega) hm
  have hlt := (abvN_mem.1 hm).2.1
  rw [clrV_yes (hasR_nat h1 hlt)]
  omega

set_option maxRecDepth 100000 in
set_option maxHeartbeats 4000000 in
theorem fnClear_in (A0 : Option Addr) (n0 c0 : Nat) (w : World) (hl0 : n0 ≤ 1048576) (hc0 : n0 ≤ c0) (hb0 : Bytes w.heap.size w A0 n0) :
    Calls Try.prog 20 #[.slice A0 n0 c0] w (RetB (.bool true) w) := by
  have Hb := Lib.hid hb0
  clear hb0
  have u0 : ¬ (1048576 : Int) < (n0 : Int) := by omega
  go_enter Try.func20, Try.ntmps20
  go_wp2_with fail
  refine (DrawRouteClear_c A0 n0 c0 _ (by omega) hc0 Hb.out).mono ?_
  rintro e w1 ⟨B, d, zs, kk, rfl, hzl, hA, hB⟩
  have Ha := Lib.hid hA
  have Bt := Lib.hid hB
  clear hA hB Hb
  dsimp only
  go_wp2_with fail
  refine (implRouteClear_b B d zs kk _ Ha.out).mono ?_
  rintro e w2 ⟨rfl, hb2⟩
  replace Ha := Lib.hid (Ha.out.go hb2)
  replace Bt := Lib.hid (below_step Bt.out hb2)
  clear hb2
  dsimp only
  go_wp2_with fail
  refine (specRouteClear_b B d zs kk _ Ha.out).mono ?_
  rintro e w3 ⟨rfl, hb3⟩
  replace Ha := Lib.hid (Ha.out.go hb3)
  replace Bt := Lib.hid (below_step Bt.out hb3)
  clear hb3
  dsimp only
  cases hv : hasR zs kk
  · rw [clrV_no hv]
    clear hv
    go_wp2
    go_ret
    exact ⟨rfl, Bt.out⟩
  obtain ⟨k1, k2, k3⟩ := hasR_true.1 hv
  obtain ⟨k, rfl⟩ : ∃ k : Nat, kk = (k : Int) := ⟨kk.toNat, by omega⟩
  have hless := fun j (h : j < (abvV zs (k : Int)).length) => abv_less hv h
  have htop := clr_top (R := zs) (k := k) (by omega)
  have hzero := clr_zero (R := zs) (k := k) (by omega)
  have hlast : clrV zs ((zs.length : Int) - 1) = 0 := by
    have e : (zs.length : Int) - 1 = ((zs.length - 1 : Nat) : Int) := by omega
    rw [e, clrV_yes (hasR_nat k1 (by omega)), clr_none (by omega) (abv_last (by omega))]; rfl
  have hlen : (abvV zs (k : Int)).length = (abvN zs k).length := by rw [abvV_yes hv]; simp [ints]
  rw [← hlen] at hzero
  have hcv := clrV_yes hv
  have HA := fun W h => implRouteAbove_b B d zs (k : Int) W h
  have HX := Lib.hid (fun x W h => implRouteClear_b B d zs x W h)
  have HL := fun W h => implRouteClear_b B d zs ((zs.length : Int) - 1) W h
  rw [hlast] at HL
  rw [hcv] at hless ⊢
  obtain ⟨O, hO⟩ : ∃ O, abvV zs (k : Int) = O := ⟨_, rfl⟩
  obtain ⟨cv, hcv2⟩ : ∃ cv, clrN zs k = cv := ⟨_, rfl⟩
  rw [hO] at HA hless hzero
  rw [hcv2] at hless htop hzero ⊢
  have HAb := Lib.hid HA
  have Hless := Lib.hid hless
  have Hlst := Lib.hid HL
  have hk8 : k ≤ 7 := by omega
  have g0 : ¬ (cv : Int) < 0 := by omega
  have b0 : ((cv : Int) != (cv : Int)) = false := by simp
  clear hv k1 k2 hO hcv hcv2 hlen hlast HA HL hless
  go_wp2_with fail
  refine (HAb.out _ Ha.out).mono ?_
  rintro e w4 ⟨B1, d1, rfl, ra, _, hb4⟩
  replace Ha := Lib.hid (Ha.out.go hb4)
  replace Bt := Lib.hid (below_step Bt.out hb4)
  have HO := Lib.hid ra
  have hOl := HO.out.len
  clear ra hb4 HAb
  dsimp only [id]
  go_wp2
  go_loopw [8] (fun i wr => ∃ j : Nat, j ≤ O.length ∧ i = .int .i64 j ∧ Below w4.heap.size w4 wr) (fun i _ => O.length - (intOf i).toNat)
  case atStart => exact ⟨0, Nat.zero_le _, rfl, Below.refl _ _⟩
  case round =>
    obtain ⟨j, hj, rfl, hb⟩ := hrel
    have Hb := Lib.hid hb
    clear hb
    by_cases hlt : j < O.length
    · obtain ⟨b, off, rfl, hat⟩ := argI_at' HO.out (k := j) hlt
      have Hat := Lib.hid (fun W (h : Below w4.heap.size w4 W) => hat W h)
      have hls := Hless.out j hlt
      obtain ⟨x, hx⟩ : ∃ x, O[j]?.getD 0 = x := ⟨_, rfl⟩
      rw [hx] at Hat hls
      obtain ⟨y, hy⟩ : ∃ y, clrV zs x = y := ⟨_, rfl⟩
      have HXx := fun W h => HX.out x W h
      rw [hy] at hls HXx
      have Hx := Lib.hid HXx
      have g1 : ¬ (cv : Int) ≤ y := by omega
      have e1 : ((j + 1 : Nat) : Int) = (j : Int) + 1 := by omega
      have q1 : IntKind.i64.wrap ((j : Int) + 1) = (j : Int) + 1 := IntWalk.i64_in _ (by omega)
      have g2 : (j : Int) < (O.length : Int) := by omega
      have c0 := Hat.out _ Hb.out
      clear hat hx hy hls HXx
      go_wp2_with fail
      refine (Hx.out _ (Ha.out.go Hb.out)).mono ?_
      rintro e w6 ⟨rfl, hb6⟩
      have Hb6 := Lib.hid (below_step Hb.out hb6)
      clear hb6 c0
      go_wp2
      exact ⟨⟨j + 1, by omega, by rw [e1], Hb6.out⟩, by simp only [intOf]; omega⟩
    · obtain rfl : j = O.length := by omega
      have z1 : ((cv : Int) == 0) = ((O.length : Int) == 0) := by
        by_cases h : cv = 0
        · rw [hzero.1 h, h]
        · have h2 : ¬ O.length = 0 := fun e => h (hzero.2 e)
          rw [beq_eq_false_iff_ne.2 (by omega : ¬ (cv : Int) = 0), beq_eq_false_iff_ne.2 (by omega : ¬ (O.length : Int) = 0)]
      have z2 : (((O.length : Int) == 0) == ((O.length : Int) == 0)) = true := by simp
      have z3 : (cv : Int) < (zs.length : Int) - (k : Int) := by omega
      have q2 : IntKind.i64.wrap ((zs.length : Int) - (k : Int)) = (zs.length : Int) - (k : Int) := IntWalk.i64_in _ (by omega)
      have q3 : IntKind.i64.wrap ((zs.length : Int) - 1) = (zs.length : Int) - 1 := IntWalk.i64_in _ (by omega)
      clear hzero
      go_wp2_with fail
      refine (Hlst.out _ (Ha.out.go Hb.out)).mono ?_
      rintro e w5 ⟨rfl, hb5⟩
      have Bt5 := Lib.hid (below_step (below_step Bt.out Hb.out) hb5)
      clear hb5
      go_wp2
      go_ret
      exact ⟨rfl, Bt5.out⟩

theorem fnClear_walk (A0 : Option Addr) (n0 c0 : Nat) (w : World) (hb0 : Byt0 w A0 n0 c0) :
    Calls Try.prog 20 #[.slice A0 n0 c0] w (RetB (.bool true) w) := by
  by_cases hl0 : 1048576 < n0
  · clear hb0
    go_enter Try.func20, Try.ntmps20
    go_wp2
    go_ret
    exact ⟨rfl, Below.refl _ _⟩
  exact fnClear_in A0 n0 c0 w (by omega) hb0.1 hb0.2.2

set_option maxRecDepth 100000 in
theorem fnClear_lifted (os : Os) (started : os.Started) (H : Type) (enc : TypeId × Value → H) :
    ReturnsInHanded {} Try.checked os 20 .any (Rows.fnClearSpec.pre6 enc Try.prog Try.f20 Rows.fnClearRow.domain false) (Rows.fnClearSpec.post enc Try.prog Try.f20 false true false false) := by
  refine returnsInHanded_of_change (C := Try.checked) row_own started (by kernel_rfl) Try.func20
    (ChangeSpec.witness6 (enc := enc) (C := Try.checked) false ⟨#[], #[.slice none 0 0], []⟩ 8 (by kernel_rfl) (by kernel_rfl) (by kernel_rfl) (by kernel_rfl)) ?_
  intro W base args ds gs before hval0 hW hcnd _
  have hval : ∀ (j : Nat) t v, Try.f20.params[j]? = some t → args[j]? = some v → Value.okWide Try.prog W .any base t v := hval0
  have hW' := hW
  obtain ⟨p, q, hA0, hV, rfl, _, _⟩ := hW
  have hA : DataW.TrodAll enc Try.prog W 0 (fun _ => true) true Try.f20.params.toList args.toList ds p := hA0
  rw [Try.params20] at hA hval
  obtain ⟨v0, vs0, d0, ds0, p0, q0, hargs, rfl, rfl, h0, r0⟩ := trodAll_cons hA
  obtain ⟨rfl, rfl, rfl⟩ := trodAll_nil r0
  obtain rfl : args = #[v0] := by cases args; simp_all
  obtain ⟨rfl, rfl⟩ := trodVars_none hV
  have hlt0 : ∀ x ∈ p0, x.block < W.heap.size := fun x hx => by exact hW'.lt x (by simp [hx])
  obtain ⟨A0, n0, c0, rfl, hb0⟩ := open_bytes (hval 0 22 v0 rfl rfl) h0 hlt0
  clear hA0 hval0
  refine (fnClear_walk A0 n0 c0 W hb0).mono fun e W' ⟨he, hb⟩ => ?_
  subst he
  exact ⟨_, rfl, _, _, _, [], _, [], hW', (trodAll_cons_mk (shut_bool Try.underlying4 _) trodAll_mk0), (trodAll_cons_mk (read_again_bytes h0 hlt0 hb) trodAll_mk0), rfl, hb.frame _, fun h => by cases h⟩

set_option maxRecDepth 100000 in
theorem fnClear_closed : joinedFacts Try.prog 20 Try.f20 Rows.fnClearSpec Rows.fnClearRow = true := by
  unfold joinedFacts
  repeat' (with_reducible apply facAnd)
  all_goals first | (with_reducible exact facEnter) | (with_reducible exact facLaid) | (with_reducible exact facMaps) | (with_reducible exact facStops) | (with_reducible exact facKnobs) | (with_reducible exact facHeard) | (rw [facLifts]; as_aux_lemma => kernel_rfl) | (rw [facMake]; as_aux_lemma => kernel_rfl) | (as_aux_lemma => kernel_rfl)

/-- THE STATEMENT -/
theorem fnClear_holds : Rows.FnClearSaid :=
  OpenClaim.holds_of_wide 20 Try.f20 rfl rfl rfl rfl rfl rfl rfl ⟨rfl, rfl, rfl, rfl, rfl⟩ rfl rfl rfl rfl rfl (by kernel_rfl) Try.func20 fnClear_closed
    (of_decide_eq_true (by kernel_rfl)) (by unfold Func.isWrapper; first | (rw [if_pos (by decide +kernel)]; kernel_rfl) | (rw [if_neg (by decide +kernel)]; exact ⟨rfl, rfl⟩))
    (fun os started H enc _ => fnClear_lifted os started H enc)
#print axioms fnClear_holds
end Go.Proofs.Ytjboamhjfncgdaa
