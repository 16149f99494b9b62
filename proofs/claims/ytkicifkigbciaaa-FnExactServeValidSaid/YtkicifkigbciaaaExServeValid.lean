/-
  The exact law of ServeValid: for all arguments the law answers true. No condition.
  (Written by a program of mine, genz.py.)
-/
import Derived.Test.YtkicifkigbciaaaFac
import Derived.Test.YtkicifkigbciaaaBaseZ
import Derived.Test.YtkicifkigbciaaaBaseZD
import Derived.Test.YtkicifkigbciaaaRowZ
import Derived.Test.YtkicifkigbciaaaBase
import Derived.Test.YtkicifkigbciaaaSvV
namespace Go.Proofs.Ytkicifkigbciaaa
open Go.ChangeShapes Go.WideShapes Go.ChangeAt Go.RowKit

set_option maxRecDepth 100000 in
set_option maxHeartbeats 2000000 in
theorem exServeValid_in (A0 : Option Addr) (c0 : Nat) (z0 : List Spr) (A1 : Option Addr) (c1 : Nat) (z1 : List Spr) (A2 : Option Addr) (c2 : Nat) (z2 : List Int) (w : World) (ha0 : ArgZ w A0 c0 z0) (ha1 : ArgZ w A1 c1 z1) (ha2 : Arg w A2 c2 z2) (hl2 : z2.length ≤ 1048576) (hl : z0.length + z1.length ≤ 1048576)  :
    Calls Try.prog 11 #[.slice A0 z0.length c0, .slice A1 z1.length c1, .slice A2 z2.length c2] w (RetB (.bool true) w) := by
  have Ha0 := Lib.hid ha0.held
  clear ha0
  have Ha1 := Lib.hid ha1.held
  clear ha1
  have Ha2 := Lib.hid ha2.held
  clear ha2
  have gN2 : (z2.length : Int) ≤ 1048576 := by omega
  have Bt := Lib.hid (Below.refl w.heap.size w)
  go_enter Try.func11, Try.ntmps11
  go_wp2_with fail
  refine (szSpareS_yes A0 c0 z0.length (1048576) _ (by omega) (by omega)).mono ?_
  rintro e w9 ⟨rfl, rfl⟩
  go_wp2_with fail
  refine (szSpareS_yes A1 c1 z1.length (1048576 - (z0.length : Int)) _ (by omega) (by omega)).mono ?_
  rintro e w9 ⟨rfl, rfl⟩
  go_wp2_with fail
  refine (toSpareS_c A0 c0 z0 _ Ha0.out.arg).mono ?_
  rintro e u1 ⟨B1, d1, rfl, ra1, ro1, rb1⟩
  dsimp only [id]
  have sz1 := rb1.size
  replace Ha0 := Lib.hid (Ha0.out.go rb1)
  replace Ha1 := Lib.hid (Ha1.out.go rb1)
  replace Ha2 := Lib.hid (Ha2.out.go rb1)
  replace Bt := Lib.hid (below_step Bt.out rb1)
  have Hx1 := Lib.hid (ro1.held (Nat.le_refl _) ra1.len)
  have Ox1 := Lib.hid ro1
  clear ra1 ro1 rb1
  go_wp2_with fail
  refine (toSpareS_c A1 c1 z1 _ Ha1.out.arg).mono ?_
  rintro e u2 ⟨B2, d2, rfl, ra2, ro2, rb2⟩
  dsimp only [id]
  have sz2 := rb2.size
  replace Ha0 := Lib.hid (Ha0.out.go rb2)
  replace Ha1 := Lib.hid (Ha1.out.go rb2)
  replace Ha2 := Lib.hid (Ha2.out.go rb2)
  replace Hx1 := Lib.hid (Hx1.out.go rb2)
  replace Ox1 := Lib.hid (Ox1.out.go rb2 (by omega))
  replace Bt := Lib.hid (below_step Bt.out rb2)
  have Hx2 := Lib.hid (ro2.held (Nat.le_refl _) ra2.len)
  have Ox2 := Lib.hid ro2
  clear ra2 ro2 rb2
  go_wp2_with fail
  refine (toIntS_c A2 c2 z2 _ Ha2.out.arg).mono ?_
  rintro e u3 ⟨B3, d3, rfl, ra3, ro3, rb3⟩
  dsimp only [id]
  have sz3 := rb3.size
  replace Ha0 := Lib.hid (Ha0.out.go rb3)
  replace Ha1 := Lib.hid (Ha1.out.go rb3)
  replace Ha2 := Lib.hid (Ha2.out.go rb3)
  replace Hx1 := Lib.hid (Hx1.out.go rb3)
  replace Hx2 := Lib.hid (Hx2.out.go rb3)
  replace Ox1 := Lib.hid (Ox1.out.go rb3 (by omega))
  replace Ox2 := Lib.hid (Ox2.out.go rb3 (by omega))
  replace Bt := Lib.hid (below_step Bt.out rb3)
  have Hx3 := Lib.hid (ro3.held (Nat.le_refl _) ra3.len)
  have Ox3 := Lib.hid ro3
  clear ra3 ro3 rb3
  go_wp2_with fail
  refine (specServeValid_b B1 d1 z0 B2 d2 z1 B3 d3 z2 _ Hx1.out.arg Hx2.out.arg Hx3.out.arg ).mono ?_
  rintro e u4 ⟨rfl, rb4⟩
  have sz4 := rb4.size
  replace Ha0 := Lib.hid (Ha0.out.go rb4)
  replace Ha1 := Lib.hid (Ha1.out.go rb4)
  replace Ha2 := Lib.hid (Ha2.out.go rb4)
  replace Hx1 := Lib.hid (Hx1.out.go rb4)
  replace Hx2 := Lib.hid (Hx2.out.go rb4)
  replace Hx3 := Lib.hid (Hx3.out.go rb4)
  replace Ox1 := Lib.hid (Ox1.out.go rb4 (by omega))
  replace Ox2 := Lib.hid (Ox2.out.go rb4 (by omega))
  replace Ox3 := Lib.hid (Ox3.out.go rb4 (by omega))
  replace Bt := Lib.hid (below_step Bt.out rb4)
  clear rb4
  clear Hx1 Ox1
  clear Hx2 Ox2
  clear Hx3 Ox3
  go_wp2_with fail
  refine (toSpareS_c A0 c0 z0 _ Ha0.out.arg).mono ?_
  rintro e u5 ⟨B5, d5, rfl, ra5, ro5, rb5⟩
  dsimp only [id]
  have sz5 := rb5.size
  replace Ha0 := Lib.hid (Ha0.out.go rb5)
  replace Ha1 := Lib.hid (Ha1.out.go rb5)
  replace Ha2 := Lib.hid (Ha2.out.go rb5)
  replace Bt := Lib.hid (below_step Bt.out rb5)
  have Hx5 := Lib.hid (ro5.held (Nat.le_refl _) ra5.len)
  have Ox5 := Lib.hid ro5
  clear ra5 ro5 rb5
  go_wp2_with fail
  refine (toSpareS_c A1 c1 z1 _ Ha1.out.arg).mono ?_
  rintro e u6 ⟨B6, d6, rfl, ra6, ro6, rb6⟩
  dsimp only [id]
  have sz6 := rb6.size
  replace Ha0 := Lib.hid (Ha0.out.go rb6)
  replace Ha1 := Lib.hid (Ha1.out.go rb6)
  replace Ha2 := Lib.hid (Ha2.out.go rb6)
  replace Hx5 := Lib.hid (Hx5.out.go rb6)
  replace Ox5 := Lib.hid (Ox5.out.go rb6 (by omega))
  replace Bt := Lib.hid (below_step Bt.out rb6)
  have Hx6 := Lib.hid (ro6.held (Nat.le_refl _) ra6.len)
  have Ox6 := Lib.hid ro6
  clear ra6 ro6 rb6
  go_wp2_with fail
  refine (toIntS_c A2 c2 z2 _ Ha2.out.arg).mono ?_
  rintro e u7 ⟨B7, d7, rfl, ra7, ro7, rb7⟩
  dsimp only [id]
  have sz7 := rb7.size
  replace Ha0 := Lib.hid (Ha0.out.go rb7)
  replace Ha1 := Lib.hid (Ha1.out.go rb7)
  replace Ha2 := Lib.hid (Ha2.out.go rb7)
  replace Hx5 := Lib.hid (Hx5.out.go rb7)
  replace Hx6 := Lib.hid (Hx6.out.go rb7)
  replace Ox5 := Lib.hid (Ox5.out.go rb7 (by omega))
  replace Ox6 := Lib.hid (Ox6.out.go rb7 (by omega))
  replace Bt := Lib.hid (below_step Bt.out rb7)
  have Hx7 := Lib.hid (ro7.held (Nat.le_refl _) ra7.len)
  have Ox7 := Lib.hid ro7
  clear ra7 ro7 rb7
  go_wp2_with fail
  refine (implServeValid_b B5 d5 z0 B6 d6 z1 B7 d7 z2 _ Hx5.out.arg Hx6.out.arg Hx7.out.arg ).mono ?_
  rintro e u8 ⟨rfl, rb8⟩
  have sz8 := rb8.size
  replace Ha0 := Lib.hid (Ha0.out.go rb8)
  replace Ha1 := Lib.hid (Ha1.out.go rb8)
  replace Ha2 := Lib.hid (Ha2.out.go rb8)
  replace Hx5 := Lib.hid (Hx5.out.go rb8)
  replace Hx6 := Lib.hid (Hx6.out.go rb8)
  replace Hx7 := Lib.hid (Hx7.out.go rb8)
  replace Ox5 := Lib.hid (Ox5.out.go rb8 (by omega))
  replace Ox6 := Lib.hid (Ox6.out.go rb8 (by omega))
  replace Ox7 := Lib.hid (Ox7.out.go rb8 (by omega))
  replace Bt := Lib.hid (below_step Bt.out rb8)
  clear rb8
  go_wp2_with fail
  refine (toSpareS_c A0 c0 z0 _ Ha0.out.arg).mono ?_
  rintro e u9 ⟨B9, d9, rfl, ra9, ro9, rb9⟩
  dsimp only [id]
  have sz9 := rb9.size
  replace Ha0 := Lib.hid (Ha0.out.go rb9)
  replace Ha1 := Lib.hid (Ha1.out.go rb9)
  replace Ha2 := Lib.hid (Ha2.out.go rb9)
  replace Hx5 := Lib.hid (Hx5.out.go rb9)
  replace Hx6 := Lib.hid (Hx6.out.go rb9)
  replace Hx7 := Lib.hid (Hx7.out.go rb9)
  replace Ox5 := Lib.hid (Ox5.out.go rb9 (by omega))
  replace Ox6 := Lib.hid (Ox6.out.go rb9 (by omega))
  replace Ox7 := Lib.hid (Ox7.out.go rb9 (by omega))
  replace Bt := Lib.hid (below_step Bt.out rb9)
  have Hx9 := Lib.hid (ro9.held (Nat.le_refl _) ra9.len)
  have Ox9 := Lib.hid ro9
  clear ra9 ro9 rb9
  go_wp2_with fail
  refine (eqSpareS_c B5 B9 d5 d9 z0 z0 _ Hx5.out.arg Hx9.out.arg).mono ?_
  rintro e u10 ⟨rfl, rb10⟩
  have sz10 := rb10.size
  replace Ha0 := Lib.hid (Ha0.out.go rb10)
  replace Ha1 := Lib.hid (Ha1.out.go rb10)
  replace Ha2 := Lib.hid (Ha2.out.go rb10)
  replace Hx5 := Lib.hid (Hx5.out.go rb10)
  replace Hx6 := Lib.hid (Hx6.out.go rb10)
  replace Hx7 := Lib.hid (Hx7.out.go rb10)
  replace Hx9 := Lib.hid (Hx9.out.go rb10)
  replace Ox5 := Lib.hid (Ox5.out.go rb10 (by omega))
  replace Ox6 := Lib.hid (Ox6.out.go rb10 (by omega))
  replace Ox7 := Lib.hid (Ox7.out.go rb10 (by omega))
  replace Ox9 := Lib.hid (Ox9.out.go rb10 (by omega))
  replace Bt := Lib.hid (below_step Bt.out rb10)
  clear rb10
  clear Hx9 Ox9
  go_wp2_with fail
  refine (toSpareS_c A1 c1 z1 _ Ha1.out.arg).mono ?_
  rintro e u11 ⟨B11, d11, rfl, ra11, ro11, rb11⟩
  dsimp only [id]
  have sz11 := rb11.size
  replace Ha0 := Lib.hid (Ha0.out.go rb11)
  replace Ha1 := Lib.hid (Ha1.out.go rb11)
  replace Ha2 := Lib.hid (Ha2.out.go rb11)
  replace Hx5 := Lib.hid (Hx5.out.go rb11)
  replace Hx6 := Lib.hid (Hx6.out.go rb11)
  replace Hx7 := Lib.hid (Hx7.out.go rb11)
  replace Ox5 := Lib.hid (Ox5.out.go rb11 (by omega))
  replace Ox6 := Lib.hid (Ox6.out.go rb11 (by omega))
  replace Ox7 := Lib.hid (Ox7.out.go rb11 (by omega))
  replace Bt := Lib.hid (below_step Bt.out rb11)
  have Hx11 := Lib.hid (ro11.held (Nat.le_refl _) ra11.len)
  have Ox11 := Lib.hid ro11
  clear ra11 ro11 rb11
  go_wp2_with fail
  refine (eqSpareS_c B6 B11 d6 d11 z1 z1 _ Hx6.out.arg Hx11.out.arg).mono ?_
  rintro e u12 ⟨rfl, rb12⟩
  have sz12 := rb12.size
  replace Ha0 := Lib.hid (Ha0.out.go rb12)
  replace Ha1 := Lib.hid (Ha1.out.go rb12)
  replace Ha2 := Lib.hid (Ha2.out.go rb12)
  replace Hx5 := Lib.hid (Hx5.out.go rb12)
  replace Hx6 := Lib.hid (Hx6.out.go rb12)
  replace Hx7 := Lib.hid (Hx7.out.go rb12)
  replace Hx11 := Lib.hid (Hx11.out.go rb12)
  replace Ox5 := Lib.hid (Ox5.out.go rb12 (by omega))
  replace Ox6 := Lib.hid (Ox6.out.go rb12 (by omega))
  replace Ox7 := Lib.hid (Ox7.out.go rb12 (by omega))
  replace Ox11 := Lib.hid (Ox11.out.go rb12 (by omega))
  replace Bt := Lib.hid (below_step Bt.out rb12)
  clear rb12
  clear Hx11 Ox11
  go_wp2_with fail
  refine (toIntS_c A2 c2 z2 _ Ha2.out.arg).mono ?_
  rintro e u13 ⟨B13, d13, rfl, ra13, ro13, rb13⟩
  dsimp only [id]
  have sz13 := rb13.size
  replace Ha0 := Lib.hid (Ha0.out.go rb13)
  replace Ha1 := Lib.hid (Ha1.out.go rb13)
  replace Ha2 := Lib.hid (Ha2.out.go rb13)
  replace Hx5 := Lib.hid (Hx5.out.go rb13)
  replace Hx6 := Lib.hid (Hx6.out.go rb13)
  replace Hx7 := Lib.hid (Hx7.out.go rb13)
  replace Ox5 := Lib.hid (Ox5.out.go rb13 (by omega))
  replace Ox6 := Lib.hid (Ox6.out.go rb13 (by omega))
  replace Ox7 := Lib.hid (Ox7.out.go rb13 (by omega))
  replace Bt := Lib.hid (below_step Bt.out rb13)
  have Hx13 := Lib.hid (ro13.held (Nat.le_refl _) ra13.len)
  have Ox13 := Lib.hid ro13
  clear ra13 ro13 rb13
  go_wp2_with fail
  refine (eqIntS_c B7 B13 d7 d13 z2 z2 _ Hx7.out.arg Hx13.out.arg).mono ?_
  intro e0 v0 h0
  replace h0 := h0.toB
  revert e0 v0 h0
  rintro e u14 ⟨rfl, rb14⟩
  have sz14 := rb14.size
  replace Ha0 := Lib.hid (Ha0.out.go rb14)
  replace Ha1 := Lib.hid (Ha1.out.go rb14)
  replace Ha2 := Lib.hid (Ha2.out.go rb14)
  replace Hx5 := Lib.hid (Hx5.out.go rb14)
  replace Hx6 := Lib.hid (Hx6.out.go rb14)
  replace Hx7 := Lib.hid (Hx7.out.go rb14)
  replace Hx13 := Lib.hid (Hx13.out.go rb14)
  replace Ox5 := Lib.hid (Ox5.out.go rb14 (by omega))
  replace Ox6 := Lib.hid (Ox6.out.go rb14 (by omega))
  replace Ox7 := Lib.hid (Ox7.out.go rb14 (by omega))
  replace Ox13 := Lib.hid (Ox13.out.go rb14 (by omega))
  replace Bt := Lib.hid (below_step Bt.out rb14)
  clear rb14
  clear Hx13 Ox13
  go_wp2
  go_ret
  exact ⟨rfl, Bt.out⟩

theorem exServeValid_walk (A0 : Option Addr) (c0 : Nat) (z0 : List Spr) (A1 : Option Addr) (c1 : Nat) (z1 : List Spr) (A2 : Option Addr) (c2 : Nat) (z2 : List Int) (w : World) (ha0 : ArgZ0 w A0 c0 z0) (ha1 : ArgZ0 w A1 c1 z1) (ha2 : Arg0 w A2 c2 z2)  :
    Calls Try.prog 11 #[.slice A0 z0.length c0, .slice A1 z1.length c1, .slice A2 z2.length c2] w (RetB (.bool true) w) := by
  by_cases hlN2 : 1048576 < z2.length
  · have hk2 : ¬ (z2.length : Int) ≤ 1048576 := by omega
    have hj2 : (1048576 : Int) < (z2.length : Int) := by omega
    clear ha0 ha1 ha2
    go_enter Try.func11, Try.ntmps11
    go_wp2
    go_ret
    exact ⟨rfl, Below.refl _ _⟩
  have gN2 : (z2.length : Int) ≤ 1048576 := by omega
  by_cases hl0 : 1048576 < z0.length
  · have hc0 := ha0.1
    have hm0 := ha0.2.1
    have hk0 : (1048576 : Int) < (z0.length : Int) := by omega
    clear ha0 ha1 ha2
    go_enter Try.func11, Try.ntmps11
    go_wp2_with fail
    refine (szSpareS_no A0 c0 z0.length (1048576) _ hk0 (by omega) hc0 hm0).mono ?_
    rintro e w9 ⟨rfl, rfl⟩
    go_wp2
    go_ret
    exact ⟨rfl, Below.refl _ _⟩
  by_cases hl1 : 1048576 < z0.length + z1.length
  · have hc1 := ha1.1
    have hm1 := ha1.2.1
    have hk1 : (1048576 - (z0.length : Int) : Int) < (z1.length : Int) := by omega
    clear ha0 ha1 ha2
    go_enter Try.func11, Try.ntmps11
    go_wp2_with fail
    refine (szSpareS_yes A0 c0 z0.length (1048576) _ (by omega) (by omega)).mono ?_
    rintro e w9 ⟨rfl, rfl⟩
    go_wp2_with fail
    refine (szSpareS_no A1 c1 z1.length (1048576 - (z0.length : Int)) _ hk1 (by omega) hc1 hm1).mono ?_
    rintro e w9 ⟨rfl, rfl⟩
    go_wp2
    go_ret
    exact ⟨rfl, Below.refl _ _⟩
  exact exServeValid_in A0 c0 z0 A1 c1 z1 A2 c2 z2 w (ha0.arg (by omega)) (ha1.arg (by omega)) (ha2.arg (by omega)) (by omega) (by omega) 

set_option maxRecDepth 100000 in
theorem exServeValid_lifted (os : Os) (started : os.Started) (H : Type) (enc : TypeId × Value → H) :
    ReturnsInHanded {} Try.checked os 11 .any (Rows.fnExactServeValidSpec.pre6 enc Try.prog Try.f11 Rows.fnExactServeValidRow.domain false) (Rows.fnExactServeValidSpec.post enc Try.prog Try.f11 false true false false) := by
  refine returnsInHanded_of_change (C := Try.checked) row_own started (by kernel_rfl) Try.func11
    (ChangeSpec.witness6 (enc := enc) (C := Try.checked) false ⟨#[], #[.slice none 0 0, .slice none 0 0, .slice none 0 0], []⟩ 8 (by kernel_rfl) (by kernel_rfl) (by kernel_rfl) (by kernel_rfl)) ?_
  intro W base args ds gs before hval0 hW hcnd _
  have hval : ∀ (j : Nat) t v, Try.f11.params[j]? = some t → args[j]? = some v → Value.okWide Try.prog W .any base t v := hval0
  have hW' := hW
  obtain ⟨p, q, hA0, hV, rfl, _, _⟩ := hW
  have hA : DataW.TrodAll enc Try.prog W 0 (fun _ => true) true Try.f11.params.toList args.toList ds p := hA0
  rw [Try.params11] at hA hval
  obtain ⟨v0, vs0, d0, ds0, p0, q0, hargs, rfl, rfl, h0, r0⟩ := trodAll_cons hA
  obtain ⟨v1, vs1, d1, ds1, p1, q1, rfl, rfl, rfl, h1, r1⟩ := trodAll_cons r0
  obtain ⟨v2, vs2, d2, ds2, p2, q2, rfl, rfl, rfl, h2, r2⟩ := trodAll_cons r1
  obtain ⟨rfl, rfl, rfl⟩ := trodAll_nil r2
  obtain rfl : args = #[v0, v1, v2] := by cases args; simp_all
  obtain ⟨rfl, rfl⟩ := trodVars_none hV
  have hlt0 : ∀ x ∈ p0, x.block < W.heap.size := fun x hx => by exact hW'.lt x (by simp [hx])
  obtain ⟨A0, c0, z0, rfl, ha0⟩ := open_sprs (hval 0 45 v0 rfl rfl) h0 hlt0
  have hlt1 : ∀ x ∈ p1, x.block < W.heap.size := fun x hx => by exact hW'.lt x (by simp [hx])
  obtain ⟨A1, c1, z1, rfl, ha1⟩ := open_sprs (hval 1 45 v1 rfl rfl) h1 hlt1
  have hlt2 : ∀ x ∈ p2, x.block < W.heap.size := fun x hx => by exact hW'.lt x (by simp [hx])
  obtain ⟨A2, c2, z2, rfl, ha2⟩ := open_slice (hval 2 30 v2 rfl rfl) h2 hlt2
  clear hA0 hval0
  refine (exServeValid_walk A0 c0 z0 A1 c1 z1 A2 c2 z2 W ha0 ha1 ha2 ).mono fun e W' ⟨he, hb⟩ => ?_
  subst he
  exact ⟨_, rfl, _, _, _, [], _, [], hW', (trodAll_cons_mk (shut_bool Try.underlying4 _) trodAll_mk0), (trodAll_cons_mk (read_again_sprs h0 hlt0 hb) (trodAll_cons_mk (read_again_sprs h1 hlt1 hb) (trodAll_cons_mk (read_again h2 hlt2 hb) trodAll_mk0))), rfl, hb.frame _, fun h => by cases h⟩

set_option maxRecDepth 100000 in
theorem exServeValid_closed : joinedFacts Try.prog 11 Try.f11 Rows.fnExactServeValidSpec Rows.fnExactServeValidRow = true := by
  unfold joinedFacts
  repeat' (with_reducible apply facAnd)
  all_goals first | (with_reducible exact facEnter) | (with_reducible exact facLaid) | (with_reducible exact facMaps) | (with_reducible exact facStops) | (with_reducible exact facKnobs) | (with_reducible exact facHeard) | (rw [facLifts]; as_aux_lemma => kernel_rfl) | (rw [facMake]; as_aux_lemma => kernel_rfl) | (as_aux_lemma => kernel_rfl)

/-- THE STATEMENT -/
theorem exServeValid_holds : Rows.FnExactServeValidSaid :=
  OpenClaim.holds_of_wide 11 Try.f11 rfl rfl rfl rfl rfl rfl rfl ⟨rfl, rfl, rfl, rfl, rfl⟩ rfl rfl rfl rfl rfl (by kernel_rfl) Try.func11 exServeValid_closed
    (of_decide_eq_true (by kernel_rfl)) (by unfold Func.isWrapper; first | (rw [if_pos (by decide +kernel)]; kernel_rfl) | (rw [if_neg (by decide +kernel)]; exact ⟨rfl, rfl⟩))
    (fun os started H enc _ => exServeValid_lifted os started H enc)
#print axioms exServeValid_holds
end Go.Proofs.Ytkicifkigbciaaa
