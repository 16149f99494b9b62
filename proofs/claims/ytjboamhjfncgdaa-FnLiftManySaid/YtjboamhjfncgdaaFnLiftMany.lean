/-
  The law FnLiftMany: for all codes the law answers true. No condition.
-/
import Derived.Test.YtjboamhjfncgdaaFac
import Derived.Test.YtjboamhjfncgdaaRowB
import Derived.Test.YtjboamhjfncgdaaCtE
import Derived.Test.YtjboamhjfncgdaaRtD
import Derived.Test.YtjboamhjfncgdaaRtE
import Derived.Test.YtjboamhjfncgdaaRtPm
import Derived.Test.YtjboamhjfncgdaaRtPs
import Derived.Test.YtjboamhjfncgdaaRtY
namespace Go.Proofs.Ytjboamhjfncgdaa
open Go.ChangeShapes Go.WideShapes Go.ChangeAt Go.RowKit

theorem chart_dropM {R : List Rot} {k : Nat} (h : chartB R = true) (hk : k < R.length) : chartB (dropR R k) = true := by
  unfold chartB at h ⊢
  rw [Bool.and_eq_true] at h ⊢
  obtain ⟨h1, h2⟩ := h
  rw [List.all_eq_true] at h1 ⊢
  rw [decide_eq_true_eq] at h2 ⊢
  rw [dropR_len hk]
  refine ⟨fun r hr => ?_, by omega⟩
  unfold dropR at hr
  rcases List.mem_append.1 hr with h3 | h3
  · exact h1 r (List.mem_of_mem_take h3)
  · exact h1 r (List.mem_of_mem_drop h3)
theorem drop_skN {R : List Rot} {k : Nat} (hk : k < R.length) (a : Nat) : rotAt (dropR R k) a = rotAt R (skN k a) := by
  unfold dropR rotAt skN
  split
  · rw [List.getElem?_append_left (by simp; omega), List.getElem?_take_of_lt (by omega)]
  · rw [List.getElem?_append_right (by simp; omega), List.length_take, Nat.min_eq_left (by omega), List.getElem?_drop, show k + 1 + (a - k) = a + 1 by omega]
def mN (R : List Rot) : Nat := mS R R.length (List.range R.length)
/-- none of the first i crosses k -/
def lastN (R : List Rot) (k i : Nat) : Bool := (List.range i).all fun j => !crI R j k
theorem lastN_succ (R : List Rot) (k i : Nat) : lastN R k (i + 1) = (lastN R k i && !crI R i k) := by unfold lastN; rw [List.range_succ, List.all_append]; simp
theorem lastS_range {R : List Rot} {k : Nat} (hk : k < R.length) : lastS R (List.range R.length) k = lastN R k k := by
  refine Bool.eq_iff_iff.2 ?_
  rw [lastS_true]
  unfold lastN
  rw [List.all_eq_true]
  constructor
  · rintro ⟨_, h⟩ i hi
    have hi := List.mem_range.1 hi
    rw [h i hi (List.mem_range.2 (by omega))]; rfl
  · intro h
    refine ⟨List.mem_range.2 hk, fun i hi _ => ?_⟩
    have := h i (List.mem_range.2 hi)
    simpa using this
def tmN (R : List Rot) (k : Nat) : Nat := if lastN R k k then mN (dropR R k) else 0
theorem tm_all {R : List Rot} (h : 0 < R.length) : sumTo (tmN R) R.length = mN R := by
  obtain ⟨m, hm⟩ : ∃ m, R.length = m + 1 := ⟨R.length - 1, by omega⟩
  unfold mN
  have h1 := mS_last_first (R := R) m (List.range R.length) (by simp [hm]) List.nodup_range fun x hx => List.mem_range.1 hx
  rw [show mS R R.length (List.range R.length) = mS R (m + 1) (List.range R.length) by rw [hm], h1]
  refine sumTo_congr fun k hk => ?_
  rw [lastS_range hk]
  have hl := dropR_len hk
  have h2 := mS_skip (R := R) (D := dropR R k) (k := k) (by omega) (by omega) (drop_skN hk) m (List.range m) fun x hx => by have := List.mem_range.1 hx; omega
  unfold tmN mN
  rw [show lessL (List.range R.length) k = (List.range m).map (skN k) by rw [hm]; exact range_skip k m (by omega), h2, show (dropR R k).length = m by omega]
theorem mN_le {R : List Rot} (h8 : R.length ≤ 8) : mN R ≤ 16777216 := Nat.le_trans (mS_le h8 _ _) (pow8 h8)
theorem tm_le {R : List Rot} (h8 : R.length ≤ 8) {k : Nat} (hk : k < R.length) : tmN R k ≤ 16777216 := by
  unfold tmN
  split
  · exact mN_le (by rw [dropR_len hk]; omega)
  · omega
theorem crossB_natM {R : List Rot} {i k : Nat} (h : chartB R = true) (hi : i < R.length) (hk : k < R.length) : crossB R (i : Int) (k : Int) = crI R i k := by
  unfold crossB
  rw [hasR_nat h hi, hasR_nat h hk, Int.toNat_natCast, Int.toNat_natCast]; rfl

set_option maxRecDepth 100000 in
set_option maxHeartbeats 4000000 in
theorem fnLiftMany_in (A0 : Option Addr) (n0 c0 : Nat) (w : World) (hl0 : n0 ≤ 1048576) (hc0 : n0 ≤ c0) (hb0 : Bytes w.heap.size w A0 n0) :
    Calls Try.prog 22 #[.slice A0 n0 c0] w (RetB (.bool true) w) := by
  have Hb := Lib.hid hb0
  clear hb0
  have u0 : ¬ (1048576 : Int) < (n0 : Int) := by omega
  go_enter Try.func22, Try.ntmps22
  go_wp2_with fail
  refine (DrawLiftMany_c A0 n0 c0 _ (by omega) hc0 Hb.out).mono ?_
  rintro e w1 ⟨B, d, zs, rfl, hzl, hA, hB⟩
  have Ha := Lib.hid hA
  have Bt := Lib.hid hB
  clear hA hB Hb
  dsimp only
  go_wp2_with fail
  refine (implLiftMany_b B d zs _ Ha.out).mono ?_
  rintro e w2 ⟨rfl, hb2⟩
  replace Ha := Lib.hid (Ha.out.go hb2)
  replace Bt := Lib.hid (below_step Bt.out hb2)
  clear hb2
  dsimp only
  go_wp2_with fail
  refine (specLiftMany_b B d zs _ Ha.out).mono ?_
  rintro e w3 ⟨rfl, hb3⟩
  have HA := Lib.hid (Ha.out.go hb3)
  have Bt3 := Lib.hid (below_step Bt.out hb3)
  clear hb3 Ha Bt
  dsimp only
  cases hv : chartB zs
  · rw [manyV_no hv]
    clear hv
    go_wp2
    go_ret
    exact ⟨rfl, Bt3.out⟩
  have hl8 := chart_len hv
  have hmv : manyV zs = (mN zs : Int) := manyV_yes hv
  rw [hmv]
  by_cases hz : zs.length = 0
  · have h1 : mN zs = 1 := by unfold mN; rw [hz]; rfl
    rw [h1]
    have z1 : ((zs.length : Int) == 0) = true := beq_iff_eq.2 (by omega)
    clear hv hmv h1
    go_wp2
    go_ret
    exact ⟨rfl, Bt3.out⟩
  have z1 : ((zs.length : Int) == 0) = false := beq_eq_false_iff_ne.2 (by omega)
  have hall := tm_all (R := zs) (by omega)
  have hpos : 1 ≤ mN zs := many_pos zs
  have htl := fun k (hk : k < zs.length) => tm_le hl8 hk
  have hsl := fun m (hm : m ≤ zs.length) => sumTo_le (f := tmN zs) (b := 16777216) (m := m) fun k hk => htl k (by omega)
  have hss := fun m => sumTo_succ (tmN zs) m
  have hs0 : sumTo (tmN zs) 0 = 0 := rfl
  have htm : ∀ k, tmN zs k = if lastN zs k k then mN (dropR zs k) else 0 := fun k => rfl
  have hD0 := fun (k : Nat) W (hk : k < zs.length) h => (show Calls Try.prog 58 #[.slice B zs.length d, .int .i64 (k : Int)] W (RetK 37 (fun v => .tuple #[v, .bool true]) (dropR zs k) W) from by
    have := implChartDrop_b B d zs (k : Int) W h
    rwa [cd_yes (hasR_nat hv hk), hasR_nat hv hk] at this)
  have hC0 := fun (i k : Nat) W (hi : i < zs.length) (hk : k < zs.length) h => (show Calls Try.prog 41 #[.slice B zs.length d, .int .i64 (i : Int), .int .i64 (k : Int)] W (RetB (.bool (crI zs i k)) W) from by
    have := implRoutesCross_b B d zs (i : Int) (k : Int) W h
    rwa [crossB_natM hv hi hk] at this)
  have hE0 := fun (k : Nat) W A c (hk : k < zs.length) h => (show Calls Try.prog 54 #[.slice A (dropR zs k).length c] W (RetB (.int .i64 (mN (dropR zs k))) W) from by
    have := implLiftMany_b A c (dropR zs k) W h
    rwa [manyV_yes (chart_dropM hv hk)] at this)
  obtain ⟨out, hout⟩ : ∃ out, mN zs = out := ⟨_, rfl⟩
  rw [hout] at hall hpos ⊢
  obtain ⟨sa, hsa⟩ : ∃ sa : Nat → Nat, (fun m => sumTo (tmN zs) m) = sa := ⟨_, rfl⟩
  have hsaE : ∀ m, sumTo (tmN zs) m = sa m := fun m => congrFun hsa m
  simp only [hsaE] at hall hsl hss hs0
  have Hall := Lib.hid hall
  have Hsl := Lib.hid hsl
  have Hss := Lib.hid hss
  have Hs0 := Lib.hid hs0
  have Htm := Lib.hid htm
  have Htl := Lib.hid htl
  have HD := Lib.hid hD0
  have HC := Lib.hid hC0
  have HE := Lib.hid hE0
  have g0 : ¬ (out : Int) < 0 := by omega
  have b0 : ((out : Int) != (out : Int)) = false := by simp
  have b2 : ((out : Int) == (out : Int)) = true := by simp
  have g9 : (1 : Int) ≤ (out : Int) := by omega
  clear hall htl hsl hss hs0 htm hD0 hC0 hE0 hout hsa hsaE hmv hv hpos
  go_wp2
  go_loopw [6, 7] (fun x i wr => ∃ m : Nat, m ≤ zs.length ∧ x = .int .i64 (sa m) ∧ i = .int .i64 m ∧ Below w3.heap.size w3 wr) (fun _ i _ => zs.length - (intOf i).toNat)
  case atStart => exact ⟨0, Nat.zero_le _, by rw [Hs0.out]; rfl, rfl, Below.refl _ _⟩
  case round =>
    obtain ⟨m, hm, rfl, rfl, hb⟩ := hrel
    have Hb := Lib.hid hb
    clear hb
    by_cases hlt : m < zs.length
    · have g1 : (m : Int) < (zs.length : Int) := by omega
      have q1 : IntKind.i64.wrap ((m : Int) + 1) = (m : Int) + 1 := IntWalk.i64_in _ (by omega)
      have e1 : ((m + 1 : Nat) : Int) = (m : Int) + 1 := by omega
      have htm := Htm.out m
      have hss := Hss.out m
      have htl := Htl.out m hlt
      have hsl := Hsl.out m hm
      have hsl2 : m * 16777216 ≤ 8 * 16777216 := Nat.mul_le_mul_right _ (by omega)
      have Hl := Lib.hid (show ∀ i, lastN zs m (i + 1) = (lastN zs m i && !crI zs i m) from fun i => lastN_succ zs m i)
      have hDm := Lib.hid (fun W h => HD.out m W hlt h)
      have hEm := Lib.hid (fun W A c h => HE.out m W A c hlt h)
      have Hl0 := Lib.hid (show lastN zs m 0 = true from rfl)
      obtain ⟨D, hD⟩ : ∃ D, dropR zs m = D := ⟨_, rfl⟩
      rw [hD] at hDm hEm htm
      obtain ⟨dm, hdm⟩ : ∃ dm, mN D = dm := ⟨_, rfl⟩
      rw [hdm] at hEm htm
      rw [htm] at hss htl
      have Hss2 := Lib.hid hss
      have Htl2 := Lib.hid htl
      clear htm hss htl hD hdm
      go_wp2
      go_loopw [8, 9] (fun b j wr => ∃ i : Nat, i ≤ m ∧ b = .bool (lastN zs m i) ∧ j = .int .i64 i ∧ Below w3.heap.size w3 wr) (fun _ j _ => m - (intOf j).toNat)
      case atStart => exact ⟨0, Nat.zero_le _, by rw [Hl0.out], rfl, Hb.out⟩
      case round =>
        obtain ⟨i, hi, rfl, rfl, hb⟩ := hrel
        have Hb2 := Lib.hid hb
        clear hb
        by_cases hlt2 : i < m
        · have g2 : (i : Int) < (m : Int) := by omega
          have q2 : IntKind.i64.wrap ((i : Int) + 1) = (i : Int) + 1 := IntWalk.i64_in _ (by omega)
          have e2 : ((i + 1 : Nat) : Int) = (i : Int) + 1 := by omega
          have hli := Hl.out i
          have hCx := Lib.hid (fun W h => HC.out i m W (by omega) hlt h)
          obtain ⟨cr, hcr⟩ : ∃ cr, crI zs i m = cr := ⟨_, rfl⟩
          rw [hcr] at hli hCx
          cases hbl : lastN zs m i
          · rw [hbl] at hli
            have Hli := Lib.hid hli
            clear hli hbl hcr
            go_wp2
            exact ⟨⟨i + 1, by omega, by rw [Hli.out]; rfl, by rw [e2], Hb2.out⟩, by simp only [intOf]; omega⟩
          · rw [hbl] at hli
            have Hli := Lib.hid hli
            clear hli hbl hcr
            go_wp2_with fail
            refine (hCx.out _ (HA.out.go Hb2.out)).mono ?_
            rintro e w5 ⟨rfl, hb5⟩
            have Hb5 := Lib.hid (below_step Hb2.out hb5)
            clear hb5
            go_wp2
            exact ⟨⟨i + 1, by omega, by rw [Hli.out]; rfl, by rw [e2], Hb5.out⟩, by simp only [intOf]; omega⟩
        · obtain rfl : i = m := by omega
          have hss := Hss2.out
          have htl := Htl2.out
          go_wp2_with fail
          refine (hDm.out _ (HA.out.go Hb2.out)).mono ?_
          rintro e w5 ⟨B5, d5, rfl, ra, _, hb5⟩
          have Hb5 := Lib.hid (below_step Hb2.out hb5)
          have R5 := Lib.hid ra
          clear hb5 ra
          dsimp only
          cases hbl : lastN zs i i
          · rw [hbl] at hss
            have Hs5 := Lib.hid (show sa (i + 1) = sa i by simpa using hss)
            clear hss htl hbl
            go_wp2
            exact ⟨⟨i + 1, by omega, by rw [Hs5.out], by rw [e1], Hb5.out⟩, by simp only [intOf]; omega⟩
          · rw [hbl] at hss htl
            have hs5 : sa (i + 1) = sa i + dm := by simpa using hss
            have ht5 : dm ≤ 16777216 := by simpa using htl
            have q5 : IntKind.i64.wrap ((sa i : Int) + (dm : Int)) = (sa i : Int) + (dm : Int) := IntWalk.i64_in _ (by omega)
            have Hs5 := Lib.hid (show ((sa (i + 1) : Nat) : Int) = (sa i : Int) + (dm : Int) by omega)
            clear hss htl hbl hs5
            go_wp2_with fail
            refine (hEm.out _ _ _ R5.out).mono ?_
            rintro e w6 ⟨rfl, hb6⟩
            have Hb6 := Lib.hid (below_step Hb5.out hb6)
            clear hb6
            go_wp2
            exact ⟨⟨i + 1, by omega, by rw [Hs5.out], by rw [e1], Hb6.out⟩, by simp only [intOf]; omega⟩
    · obtain rfl : m = zs.length := by omega
      rw [Hall.out]
      go_wp2
      go_ret
      exact ⟨rfl, below_step Bt3.out Hb.out⟩

theorem fnLiftMany_walk (A0 : Option Addr) (n0 c0 : Nat) (w : World) (hb0 : Byt0 w A0 n0 c0) :
    Calls Try.prog 22 #[.slice A0 n0 c0] w (RetB (.bool true) w) := by
  by_cases hl0 : 1048576 < n0
  · clear hb0
    go_enter Try.func22, Try.ntmps22
    go_wp2
    go_ret
    exact ⟨rfl, Below.refl _ _⟩
  exact fnLiftMany_in A0 n0 c0 w (by omega) hb0.1 hb0.2.2

set_option maxRecDepth 100000 in
theorem fnLiftMany_lifted (os : Os) (started : os.Started) (H : Type) (enc : TypeId × Value → H) :
    ReturnsInHanded {} Try.checked os 22 .any (Rows.fnLiftManySpec.pre6 enc Try.prog Try.f22 Rows.fnLiftManyRow.domain false) (Rows.fnLiftManySpec.post enc Try.prog Try.f22 false true false false) := by
  refine returnsInHanded_of_change (C := Try.checked) row_own started (by kernel_rfl) Try.func22
    (ChangeSpec.witness6 (enc := enc) (C := Try.checked) false ⟨#[], #[.slice none 0 0], []⟩ 8 (by kernel_rfl) (by kernel_rfl) (by kernel_rfl) (by kernel_rfl)) ?_
  intro W base args ds gs before hval0 hW hcnd _
  have hval : ∀ (j : Nat) t v, Try.f22.params[j]? = some t → args[j]? = some v → Value.okWide Try.prog W .any base t v := hval0
  have hW' := hW
  obtain ⟨p, q, hA0, hV, rfl, _, _⟩ := hW
  have hA : DataW.TrodAll enc Try.prog W 0 (fun _ => true) true Try.f22.params.toList args.toList ds p := hA0
  rw [Try.params22] at hA hval
  obtain ⟨v0, vs0, d0, ds0, p0, q0, hargs, rfl, rfl, h0, r0⟩ := trodAll_cons hA
  obtain ⟨rfl, rfl, rfl⟩ := trodAll_nil r0
  obtain rfl : args = #[v0] := by cases args; simp_all
  obtain ⟨rfl, rfl⟩ := trodVars_none hV
  have hlt0 : ∀ x ∈ p0, x.block < W.heap.size := fun x hx => by exact hW'.lt x (by simp [hx])
  obtain ⟨A0, n0, c0, rfl, hb0⟩ := open_bytes (hval 0 22 v0 rfl rfl) h0 hlt0
  clear hA0 hval0
  refine (fnLiftMany_walk A0 n0 c0 W hb0).mono fun e W' ⟨he, hb⟩ => ?_
  subst he
  exact ⟨_, rfl, _, _, _, [], _, [], hW', (trodAll_cons_mk (shut_bool Try.underlying4 _) trodAll_mk0), (trodAll_cons_mk (read_again_bytes h0 hlt0 hb) trodAll_mk0), rfl, hb.frame _, fun h => by cases h⟩

set_option maxRecDepth 100000 in
theorem fnLiftMany_closed : joinedFacts Try.prog 22 Try.f22 Rows.fnLiftManySpec Rows.fnLiftManyRow = true := by
  unfold joinedFacts
  repeat' (with_reducible apply facAnd)
  all_goals first | (with_reducible exact facEnter) | (with_reducible exact facLaid) | (with_reducible exact facMaps) | (with_reducible exact facStops) | (with_reducible exact facKnobs) | (with_reducible exact facHeard) | (rw [facLifts]; as_aux_lemma => kernel_rfl) | (rw [facMake]; as_aux_lemma => kernel_rfl) | (as_aux_lemma => kernel_rfl)

/-- THE STATEMENT -/
theorem fnLiftMany_holds : Rows.FnLiftManySaid :=
  OpenClaim.holds_of_wide 22 Try.f22 rfl rfl rfl rfl rfl rfl rfl ⟨rfl, rfl, rfl, rfl, rfl⟩ rfl rfl rfl rfl rfl (by kernel_rfl) Try.func22 fnLiftMany_closed
    (of_decide_eq_true (by kernel_rfl)) (by unfold Func.isWrapper; first | (rw [if_pos (by decide +kernel)]; kernel_rfl) | (rw [if_neg (by decide +kernel)]; exact ⟨rfl, rfl⟩))
    (fun os started H enc _ => fnLiftMany_lifted os started H enc)
#print axioms fnLiftMany_holds
end Go.Proofs.Ytjboamhjfncgdaa
