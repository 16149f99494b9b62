/-
  The law FnPart: a part of a part is a part, as long as there. For all codes it answers true. No condition.
-/
import Derived.Test.YtndpdoiomoefpaaFac
import Derived.Test.YtndpdoiomoefpaaRowB
import Derived.Test.YtndpdoiomoefpaaLw
import Derived.Test.YtndpdoiomoefpaaSame
import Derived.Test.YtndpdoiomoefpaaDrw1
import Derived.Test.YtndpdoiomoefpaaFFloorLength
import Derived.Test.YtndpdoiomoefpaaFlJ
namespace Go.Proofs.Ytndpdoiomoefpaa
open Go.ChangeShapes Go.WideShapes Go.ChangeAt Go.RowKit

set_option maxRecDepth 100000 in
set_option maxHeartbeats 4000000 in
theorem fnPart_in (A0 : Option Addr) (n0 c0 : Nat) (A1 : Option Addr) (n1 c1 : Nat) (w : World) (hl0 : n0 ≤ 1048576) (hc0 : n0 ≤ c0) (hb0 : Bytes w.heap.size w A0 n0) (hl1 : n1 ≤ 1048576) (_ : n1 ≤ c1) (_ : Bytes w.heap.size w A1 n1) :
    Calls Try.prog 3 #[.slice A0 n0 c0, .slice A1 n1 c1] w (RetB (.bool true) w) := by
  have Hb := Lib.hid hb0
  clear hb0
  have u0 : decide ((1048576 : Int) < (n0 : Int)) = false := by simp; omega
  have u1 : decide ((1048576 : Int) < (n1 : Int)) = false := by simp; omega
  go_enter Try.func3, Try.ntmps3
  go_wp2_with fail
  refine (DrawFloorPart_c A0 n0 c0 _ (by omega) hc0 Hb.out).mono ?_
  rintro e w1 ⟨B, d, zs, x, y, rfl, hzl, hx0, hx1, hy0, hy1, hA, hB⟩
  have Ha := Lib.hid hA
  have Bt := Lib.hid hB
  clear hB Hb hA
  dsimp only
  go_wp2_with fail
  refine (implFloorPart_b B d zs x y _ Ha.out).mono ?_
  rintro e w2 ⟨B1, d1, rfl, ra, _, hb2⟩
  replace Ha := Lib.hid (Ha.out.go hb2)
  replace Bt := Lib.hid (below_step Bt.out hb2)
  have H1 := Lib.hid ra
  clear ra hb2
  dsimp only [id]
  go_wp2_with fail
  refine (specFloorPart_b B d zs x y _ Ha.out).mono ?_
  rintro e w3 ⟨B2, d2, rfl, ra, _, hb3⟩
  replace Ha := Lib.hid (Ha.out.go hb3)
  replace H1 := Lib.hid (H1.out.go hb3)
  replace Bt := Lib.hid (below_step Bt.out hb3)
  have H2 := Lib.hid ra
  clear ra hb3
  dsimp only [id]
  cases hv : partB zs x y
  · clear hv
    go_wp2_with fail
    refine (sameInts_c _ _ _ _ _ _ _ H1.out H2.out).mono ?_
    rintro e w4 ⟨rfl, q4, hq4⟩
    rw [decide_eq_true rfl]
    have hb4 := below_of_drew hq4
    clear hq4
    replace Ha := Lib.hid (Ha.out.go hb4)
    replace H1 := Lib.hid (H1.out.go hb4)
    replace H2 := Lib.hid (H2.out.go hb4)
    replace Bt := Lib.hid (below_step Bt.out hb4)
    clear hb4
    go_wp2_with fail
    refine (sameInts_c _ _ _ _ _ _ _ H1.out H2.out).mono ?_
    rintro e w5 ⟨rfl, q5, hq5⟩
    rw [decide_eq_true rfl]
    have hb5 := below_of_drew hq5
    clear hq5
    replace Ha := Lib.hid (Ha.out.go hb5)
    replace H1 := Lib.hid (H1.out.go hb5)
    replace H2 := Lib.hid (H2.out.go hb5)
    replace Bt := Lib.hid (below_step Bt.out hb5)
    clear hb5
    go_wp2
    go_ret
    exact ⟨rfl, Bt.out⟩
  go_wp2_with fail
  refine (sameInts_c _ _ _ _ _ _ _ H1.out H2.out).mono ?_
  rintro e w6 ⟨rfl, q6, hq6⟩
  rw [decide_eq_true rfl]
  have hb6 := below_of_drew hq6
  clear hq6
  replace Ha := Lib.hid (Ha.out.go hb6)
  replace H1 := Lib.hid (H1.out.go hb6)
  replace H2 := Lib.hid (H2.out.go hb6)
  replace Bt := Lib.hid (below_step Bt.out hb6)
  clear hb6
  clear H2
  have hl1 := part_len hv
  have hpp := fun (k : Int) (h1 : 1 ≤ k) (h2 : k ≤ y - x) => part_part hv h1 h2
  have hLL := part_lenI hv
  obtain ⟨hvv, g0, g1, g2⟩ := partB_true hv
  have hlb := lenI_bd hvv g0 (by omega) g2
  have hkv := part_valid hv
  obtain ⟨K, hK⟩ : ∃ K, floorPartL zs x y = K := ⟨_, rfl⟩
  rw [hK] at H1 hl1 hpp hLL hkv ⊢
  have vk := validB_true hkv
  have hk16 := vk.2.1
  have hk2 := vk.1
  obtain ⟨V, hV⟩ : ∃ V, floorLengthI zs x y = V := ⟨_, rfl⟩
  rw [hV] at hLL hlb
  have z2 : ((K.length : Int) - 1 = 0) = False := eq_false (by omega)
  have z3 : ((K.length : Int) - 1 == 0) = false := beq_eq_false_iff_ne.2 (by omega)
  have q3 : IntKind.i64.wrap ((K.length : Int) - 1) = (K.length : Int) - 1 := IntWalk.i64_in _ (by omega)
  obtain ⟨k, hk⟩ : ∃ k, n1 % (K.length - 1) = k := ⟨_, rfl⟩
  have hkl : k < K.length - 1 := by rw [← hk]; exact Nat.mod_lt _ (by omega)
  have q5 : (n1 : Int).tmod ((K.length : Int) - 1) = (k : Int) := by
    rw [show (K.length : Int) - 1 = ((K.length - 1 : Nat) : Int) by omega, Int.tmod_eq_emod_of_nonneg (by omega), ← hk]; simp
  have q7 : IntKind.i64.wrap (k : Int) = (k : Int) := IntWalk.i64_in _ (by omega)
  have q8 : IntKind.i64.wrap (1 + (k : Int)) = 1 + (k : Int) := IntWalk.i64_in _ (by omega)
  have q9 : IntKind.i64.wrap (x + (1 + (k : Int))) = x + (1 + (k : Int)) := IntWalk.i64_in _ (by omega)
  have q10 : IntKind.i64.wrap (y - x) = y - x := IntWalk.i64_in _ (by omega)
  have q11 : IntKind.i64.wrap (y - x + 1) = y - x + 1 := IntWalk.i64_in _ (by omega)
  have e1 : ((K.length : Int) == y - x + 1) = true := beq_iff_eq.2 hl1
  have e2 : ((K.length : Int) = y - x + 1) = True := eq_true hl1
  obtain ⟨p1, p2, p3⟩ := hpp (1 + (k : Int)) (by omega) (by omega)
  have HP0 := fun W h => implFloorPart_b B1 d1 K 0 (1 + (k : Int)) W h
  have HQ0 := fun W h => implFloorPart_b B d zs x (x + (1 + (k : Int))) W h
  rw [p1, p3] at HP0
  rw [p2] at HQ0
  obtain ⟨Q, hQ⟩ : ∃ Q, floorPartL zs x (x + (1 + (k : Int))) = Q := ⟨_, rfl⟩
  rw [hQ] at HP0 HQ0
  have HU0 := fun W h => implFloorLength_b B1 d1 K 0 ((K.length : Int) - 1) W h
  have HV0 := fun W h => implFloorLength_b B d zs x y W h
  rw [hLL] at HU0
  rw [hV] at HV0
  have HP := Lib.hid HP0
  have HQ := Lib.hid HQ0
  have HU := Lib.hid HU0
  have HV := Lib.hid HV0
  have v1 : (V == V) = true := by simp
  clear HP0 HQ0 HU0 HV0 hl1 hpp hLL hvv g0 g1 g2 hkv hK hV hQ hk p1 p2 p3 hv vk
  go_wp2_with fail
  refine (HP.out _ H1.out).mono ?_
  rintro e w7 ⟨B3, d3, rfl, ra, _, hb7⟩
  replace Ha := Lib.hid (Ha.out.go hb7)
  replace H1 := Lib.hid (H1.out.go hb7)
  replace Bt := Lib.hid (below_step Bt.out hb7)
  have H3 := Lib.hid ra
  clear ra hb7
  dsimp only [id]
  go_wp2_with fail
  refine (HQ.out _ Ha.out).mono ?_
  rintro e w8 ⟨B4, d4, rfl, ra, _, hb8⟩
  replace Ha := Lib.hid (Ha.out.go hb8)
  replace H1 := Lib.hid (H1.out.go hb8)
  replace H3 := Lib.hid (H3.out.go hb8)
  replace Bt := Lib.hid (below_step Bt.out hb8)
  have H4 := Lib.hid ra
  clear ra hb8
  dsimp only [id]
  go_wp2_with fail
  refine (sameInts_c _ _ _ _ _ _ _ H3.out H4.out).mono ?_
  rintro e w9 ⟨rfl, q9, hq9⟩
  rw [decide_eq_true rfl]
  have hb9 := below_of_drew hq9
  clear hq9
  replace Ha := Lib.hid (Ha.out.go hb9)
  replace H1 := Lib.hid (H1.out.go hb9)
  replace H3 := Lib.hid (H3.out.go hb9)
  replace H4 := Lib.hid (H4.out.go hb9)
  replace Bt := Lib.hid (below_step Bt.out hb9)
  clear hb9
  go_wp2_with fail
  refine (HU.out _ H1.out).mono ?_
  rintro e w10 ⟨rfl, hb10⟩
  replace Ha := Lib.hid (Ha.out.go hb10)
  replace H1 := Lib.hid (H1.out.go hb10)
  replace H3 := Lib.hid (H3.out.go hb10)
  replace H4 := Lib.hid (H4.out.go hb10)
  replace Bt := Lib.hid (below_step Bt.out hb10)
  clear hb10
  dsimp only
  go_wp2_with fail
  refine (HV.out _ Ha.out).mono ?_
  rintro e w11 ⟨rfl, hb11⟩
  replace Ha := Lib.hid (Ha.out.go hb11)
  replace H1 := Lib.hid (H1.out.go hb11)
  replace H3 := Lib.hid (H3.out.go hb11)
  replace H4 := Lib.hid (H4.out.go hb11)
  replace Bt := Lib.hid (below_step Bt.out hb11)
  clear hb11
  dsimp only
  go_wp2
  go_ret
  exact ⟨rfl, Bt.out⟩

set_option maxRecDepth 100000 in
theorem fnPart_walk (A0 : Option Addr) (n0 c0 : Nat) (A1 : Option Addr) (n1 c1 : Nat) (w : World) (hb0 : Byt0 w A0 n0 c0) (hb1 : Byt0 w A1 n1 c1) :
    Calls Try.prog 3 #[.slice A0 n0 c0, .slice A1 n1 c1] w (RetB (.bool true) w) := by
  by_cases hl0 : 1048576 < n0
  · clear hb0; clear hb1
    have u0 : decide ((1048576 : Int) < (n0 : Int)) = true := by simp; omega
    go_enter Try.func3, Try.ntmps3
    go_wp2
    go_ret
    exact ⟨rfl, Below.refl _ _⟩
  by_cases hl1 : 1048576 < n1
  · clear hb0; clear hb1
    have u0 : decide ((1048576 : Int) < (n0 : Int)) = false := by simp; omega
    have u1 : decide ((1048576 : Int) < (n1 : Int)) = true := by simp; omega
    go_enter Try.func3, Try.ntmps3
    go_wp2
    go_ret
    exact ⟨rfl, Below.refl _ _⟩
  exact fnPart_in A0 n0 c0 A1 n1 c1 w (by omega) hb0.1 hb0.2.2 (by omega) hb1.1 hb1.2.2

set_option maxRecDepth 100000 in
theorem fnPart_lifted (os : Os) (started : os.Started) (H : Type) (enc : TypeId × Value → H) :
    ReturnsInHanded {} Try.checked os 3 .any (Rows.fnPartSpec.pre6 enc Try.prog Try.f3 Rows.fnPartRow.domain false) (Rows.fnPartSpec.post enc Try.prog Try.f3 false true false false) := by
  refine returnsInHanded_of_change (C := Try.checked) row_own started (by kernel_rfl) Try.func3
    (ChangeSpec.witness6 (enc := enc) (C := Try.checked) false ⟨#[], #[.slice none 0 0, .slice none 0 0], []⟩ 8 (by kernel_rfl) (by kernel_rfl) (by kernel_rfl) (by kernel_rfl)) ?_
  intro W base args ds gs before hval0 hW hcnd _
  have hval : ∀ (j : Nat) t v, Try.f3.params[j]? = some t → args[j]? = some v → Value.okWide Try.prog W .any base t v := hval0
  have hW' := hW
  obtain ⟨p, q, hA0, hV, rfl, _, _⟩ := hW
  have hA : DataW.TrodAll enc Try.prog W 0 (fun _ => true) true Try.f3.params.toList args.toList ds p := hA0
  rw [Try.params3] at hA hval
  obtain ⟨v0, vs0, d0, ds0, p0, q0, hargs, rfl, rfl, h0, r0⟩ := trodAll_cons hA
  obtain ⟨v1, vs1, d1, ds1, p1, q1, rfl, rfl, rfl, h1, r1⟩ := trodAll_cons r0
  obtain ⟨rfl, rfl, rfl⟩ := trodAll_nil r1
  obtain rfl : args = #[v0, v1] := by cases args; simp_all
  obtain ⟨rfl, rfl⟩ := trodVars_none hV
  have hlt0 : ∀ x ∈ p0, x.block < W.heap.size := fun x hx => by exact hW'.lt x (by simp [hx])
  obtain ⟨A0, n0, c0, rfl, hb0⟩ := open_bytes (hval 0 22 v0 rfl rfl) h0 hlt0
  have hlt1 : ∀ x ∈ p1, x.block < W.heap.size := fun x hx => by exact hW'.lt x (by simp [hx])
  obtain ⟨A1, n1, c1, rfl, hb1⟩ := open_bytes (hval 1 22 v1 rfl rfl) h1 hlt1
  clear hA0 hval0
  refine (fnPart_walk A0 n0 c0 A1 n1 c1 W hb0 hb1).mono fun e W' ⟨he, hb⟩ => ?_
  subst he
  exact ⟨_, rfl, _, _, _, [], _, [], hW', (trodAll_cons_mk (shut_bool Try.underlying4 _) trodAll_mk0), (trodAll_cons_mk (read_again_bytes h0 hlt0 hb) (trodAll_cons_mk (read_again_bytes h1 hlt1 hb) trodAll_mk0)), rfl, hb.frame _, fun h => by cases h⟩

set_option maxRecDepth 100000 in
theorem fnPart_closed : joinedFacts Try.prog 3 Try.f3 Rows.fnPartSpec Rows.fnPartRow = true := by
  unfold joinedFacts
  repeat' (with_reducible apply facAnd)
  all_goals first | (with_reducible exact facEnter) | (with_reducible exact facLaid) | (with_reducible exact facMaps) | (with_reducible exact facStops) | (with_reducible exact facKnobs) | (with_reducible exact facHeard) | (rw [facLifts]; as_aux_lemma => kernel_rfl) | (rw [facMake]; as_aux_lemma => kernel_rfl) | (as_aux_lemma => kernel_rfl)

/-- THE STATEMENT -/
theorem fnPart_holds : Rows.FnPartSaid :=
  OpenClaim.holds_of_wide 3 Try.f3 rfl rfl rfl rfl rfl rfl rfl ⟨rfl, rfl, rfl, rfl, rfl⟩ rfl rfl rfl rfl rfl (by kernel_rfl) Try.func3 fnPart_closed
    (of_decide_eq_true (by kernel_rfl)) (by unfold Func.isWrapper; first | (rw [if_pos (by decide +kernel)]; kernel_rfl) | (rw [if_neg (by decide +kernel)]; exact ⟨rfl, rfl⟩))
    (fun os started H enc _ => fnPart_lifted os started H enc)
#print axioms fnPart_holds
end Go.Proofs.Ytndpdoiomoefpaa
