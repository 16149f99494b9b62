/-
  The law FnLength: for every two codes the law answers true. No condition.
-/
import Derived.Test.YtpkcfdbgndpkeaaTwo
import Derived.Test.YtpkcfdbgndpkeaaFFloorLength
import Derived.Test.YtpkcfdbgndpkeaaRowB
import Derived.BigQuiet
namespace Go.Proofs.Ytpkcfdbgndpkeaa
open Go.ChangeShapes Go.WideShapes Go.ChangeAt Go.RowKit

theorem len_ab {zs : List Int} (hv : validB zs = true) {f m : Nat} (ht : f + m < zs.length) : floorLengthI zs (f : Int) ((f + m : Nat) : Int) = lenTo zs f m := by
  have h : twoB zs (f : Int) ((f + m : Nat) : Int) = true := by
    simp only [twoB, ptsB, Bool.and_eq_true, decide_eq_true_eq]
    exact ⟨hv, ⟨by omega, by omega⟩, by omega⟩
  unfold floorLengthI
  rw [h]
  simp
  congr 1
  omega
theorem two_parts {zs : List Int} {x y : Int} (h : twoB zs x y = true) : validB zs = true ∧ ∃ f m : Nat, x = (f : Int) ∧ y = ((f + m : Nat) : Int) ∧ f + m < zs.length := by
  simp only [twoB, Bool.and_eq_true] at h
  obtain ⟨h0, h1, h2⟩ := ptsB_true h.2
  exact ⟨h.1, x.toNat, (y - x).toNat, by omega, by omega, by omega⟩

/-- what the law's worlds keep -/
def K1 (w0 : World) (B : Option Addr) (d : Nat) (zs : List Int) (w : World) : Prop := Below w0.heap.size w0 w ∧ Arg w B d zs
theorem K1.go {w0 w w' : World} {B : Option Addr} {d : Nat} {zs : List Int} (h : K1 w0 B d zs w) (hb : Below w.heap.size w w') : K1 w0 B d zs w' := ⟨below_step h.1 hb, h.2.go hb⟩

set_option maxHeartbeats 4000000 in
theorem fnLength_in (A : Option Addr) (n c : Nat) (A1 : Option Addr) (n1 c1 : Nat) (w : World) (hl : n ≤ 1048576) (hnc : n ≤ c) (hb : Bytes w.heap.size w A n) (hl1 : n1 ≤ 1048576) (_ : n1 ≤ c1) (_ : Bytes w.heap.size w A1 n1) :
    Calls Try.prog 4 #[.slice A n c, .slice A1 n1 c1] w (RetB (.bool true) w) := by
  have Hb := Lib.hid hb
  clear hb
  have u0 : decide ((1048576 : Int) < (n : Int)) = false := by simp; omega
  have u1 : decide ((1048576 : Int) < (n1 : Int)) = false := by simp; omega
  go_enter Try.func4, Try.ntmps4
  go_wp2_with fail
  refine (DrawFloorLength_c A n c _ (by omega) hnc Hb.out).mono ?_
  rintro e w1 ⟨B, d, zs, x, y, rfl, hzl, hx0, hx1, hy0, hy1, ha1, hb1⟩
  have HK : Hid (K1 w B d zs w1) := Lib.hid ⟨hb1, ha1⟩
  clear ha1 hb1 Hb
  go_wp2_with fail
  refine (implFloorLength_b B d zs x y _ HK.out.2).mono ?_
  rintro e w2 ⟨rfl, rb2⟩
  replace HK := Lib.hid (HK.out.go rb2)
  clear rb2
  go_wp2_with fail
  refine (specFloorLength_b B d zs x y _ HK.out.2).mono ?_
  rintro e w3 ⟨rfl, rb3⟩
  replace HK := Lib.hid (HK.out.go rb3)
  clear rb3
  cases ht : twoB zs x y
  · have e1 : floorLengthI zs x y = -1 := by unfold floorLengthI; rw [ht]; rfl
    rw [e1]
    go_wp2
    go_ret
    exact ⟨rfl, HK.out.1⟩
  · obtain ⟨hv, f, m, rfl, rfl, hfm⟩ := two_parts ht
    rw [len_ab hv hfm]
    have hvv := validB_true hv
    have hz16 := hvv.2.1
    obtain ⟨b, off, rfl, _, _, hcf⟩ := HK.out.2.rd.at_ (k := f) (by omega)
    obtain ⟨_, _, e2, _, _, hct⟩ := HK.out.2.rd.at_ (k := f + m) (by omega)
    simp only [Option.some.injEq, Addr.mk.injEq, and_true] at e2
    obtain ⟨rfl, rfl⟩ := e2
    have vf := hvv.2.2 f (by omega)
    have vt := hvv.2.2 (f + m) hfm
    obtain ⟨r, hr⟩ : ∃ r, n1 % (m + 1) = r := ⟨_, rfl⟩
    have hrm : r ≤ m := by have := Nat.mod_lt n1 (show 0 < m + 1 by omega); omega
    have hsp := lenTo_split zs f r (m - r)
    rw [show r + (m - r) = m by omega] at hsp
    have hup := lenTo_up zs f m
    have hdn := lenTo_down zs f m
    unfold at0 at hup hdn
    have hz : m = 0 → lenTo zs f m = 0 := fun h => by rw [h, lenTo_zero]
    have hbd := lenTo_bd hv f m hfm
    have E1 := Lib.hid (len_ab hv (f := f) (m := r) (by omega))
    have E2 := Lib.hid (len_ab hv (f := f + r) (m := m - r) (by omega))
    rw [show f + r + (m - r) = f + m by omega] at E2
    generalize zs[f]?.getD 0 = zf at *
    generalize zs[f + m]?.getD 0 = zt at *
    generalize lenTo zs f m = L at *
    generalize lenTo zs f r = L1 at *
    generalize lenTo zs (f + r) (m - r) = L2 at *
    obtain ⟨t, hft⟩ : ∃ t, f + m = t := ⟨_, rfl⟩
    rw [hft] at hct hfm E2 ⊢
    have q0 : (t : Int) - (f : Int) + 1 = ((m + 1 : Nat) : Int) := by omega
    have q1 : (n1 : Int).tmod ((t : Int) - (f : Int) + 1) = (r : Int) := by rw [q0, Int.tmod_eq_emod_of_nonneg (by omega), ← hr]; simp
    have q2 : ((t : Int) - (f : Int) + 1 == 0) = false := by rw [beq_eq_false_iff_ne]; omega
    have q3 : ((t : Int) - (f : Int) + 1 = 0) = False := by simp; omega
    have hfm0 : (f : Int) < (zs.length : Int) := by omega
    have htm0 : (t : Int) < (zs.length : Int) := by omega
    clear q0 ht hv hvv hr
    have W3 : ∀ i, Kp w (some ⟨b, off, none⟩) d zs (w3.drewN i) := fun i => ⟨below_drewN HK.out.1 i, HK.out.2.go (below_drewN (Below.refl _ _) i)⟩
    have HW := Lib.hid W3
    clear W3
    go_wp2
    go_quiet (fail)
    go_wp2_with fail
    rw [Int.natCast_add] at E1 E2
    refine (implFloorLength_b _ d zs (f : Int) ((f : Int) + (r : Int)) _ (HW.out nq).2).mono ?_
    rintro e w4 ⟨rfl, rb4⟩
    have HK4 := Lib.hid ((HW.out nq).go rb4)
    rw [E1.out]
    clear rb4 HW
    go_wp2_with fail
    refine (implFloorLength_b _ d zs ((f : Int) + (r : Int)) (t : Int) _ HK4.out.2).mono ?_
    rintro e w5 ⟨rfl, rb5⟩
    have HK5 := Lib.hid (HK4.out.go rb5)
    rw [E2.out]
    clear rb5 HK4
    have z1 : (L1 + L2 == 0) = decide (m = 0) := by
      by_cases h : m = 0
      · have := hz h
        simp [h]
        omega
      · simp [h]
        omega
    have z2 : ((f : Int) == (t : Int)) = decide (m = 0) := by
      by_cases h : m = 0
      · simp [h]
        omega
      · simp [h]
        omega
    by_cases hd : zt - zf ≤ 0 - (zt - zf)
    · go_wp2
      all_goals
        go_ret
        exact ⟨rfl, HK5.out.1⟩
    · go_wp2
      all_goals
        go_ret
        exact ⟨rfl, HK5.out.1⟩

theorem fnLength_walk (A0 : Option Addr) (n0 c0 : Nat) (A1 : Option Addr) (n1 c1 : Nat) (w : World) (hb0 : Byt0 w A0 n0 c0) (hb1 : Byt0 w A1 n1 c1) :
    Calls Try.prog 4 #[.slice A0 n0 c0, .slice A1 n1 c1] w (RetB (.bool true) w) := by
  by_cases hl0 : 1048576 < n0
  · clear hb0; clear hb1
    have u0 : decide ((1048576 : Int) < (n0 : Int)) = true := by simp; omega
    go_enter Try.func4, Try.ntmps4
    go_wp2
    go_ret
    exact ⟨rfl, Below.refl _ _⟩
  by_cases hl1 : 1048576 < n1
  · clear hb0; clear hb1
    have u0 : decide ((1048576 : Int) < (n0 : Int)) = false := by simp; omega
    have u1 : decide ((1048576 : Int) < (n1 : Int)) = true := by simp; omega
    go_enter Try.func4, Try.ntmps4
    go_wp2
    go_ret
    exact ⟨rfl, Below.refl _ _⟩
  exact fnLength_in A0 n0 c0 A1 n1 c1 w (by omega) hb0.1 hb0.2.2 (by omega) hb1.1 hb1.2.2

set_option maxRecDepth 100000 in
theorem fnLength_lifted (os : Os) (started : os.Started) (H : Type) (enc : TypeId × Value → H) :
    ReturnsInHanded {} Try.checked os 4 .any (Rows.fnLengthSpec.pre6 enc Try.prog Try.f4 Rows.fnLengthRow.domain false) (Rows.fnLengthSpec.post enc Try.prog Try.f4 false true false false) := by
  refine returnsInHanded_of_change (C := Try.checked) row_own started (by kernel_rfl) Try.func4
    (ChangeSpec.witness6 (enc := enc) (C := Try.checked) false ⟨#[], #[.slice none 0 0, .slice none 0 0], []⟩ 8 (by kernel_rfl) (by kernel_rfl) (by kernel_rfl) (by kernel_rfl)) ?_
  intro W base args ds gs before hval0 hW hcnd _
  have hval : ∀ (j : Nat) t v, Try.f4.params[j]? = some t → args[j]? = some v → Value.okWide Try.prog W .any base t v := hval0
  have hW' := hW
  obtain ⟨p, q, hA0, hV, rfl, _, _⟩ := hW
  have hA : DataW.TrodAll enc Try.prog W 0 (fun _ => true) true Try.f4.params.toList args.toList ds p := hA0
  rw [Try.params4] at hA hval
  obtain ⟨v0, vs0, d0, ds0, p0, q0, hargs, rfl, rfl, h0, r0⟩ := trodAll_cons hA
  obtain ⟨v1, vs1, d1, ds1, p1, q1, rfl, rfl, rfl, h1, r1⟩ := trodAll_cons r0
  obtain ⟨rfl, rfl, rfl⟩ := trodAll_nil r1
  obtain rfl : args = #[v0, v1] := by cases args; simp_all
  obtain ⟨rfl, rfl⟩ := trodVars_none hV
  have hlt0 : ∀ x ∈ p0, x.block < W.heap.size := fun x hx => by exact hW'.lt x (by simp [hx])
  obtain ⟨A0, n0, c0, rfl, hb0⟩ := open_bytes (hval 0 22 v0 rfl rfl) h0 hlt0
  have hlt1 : ∀ x ∈ p1, x.block < W.heap.size := fun x hx => by exact hW'.lt x (by simp [hx])
  obtain ⟨A1, n1, c1, rfl, hb1⟩ := open_bytes (hval 1 22 v1 rfl rfl) h1 hlt1
  clear hA0 hval0
  refine (fnLength_walk A0 n0 c0 A1 n1 c1 W hb0 hb1).mono fun e W' ⟨he, hb⟩ => ?_
  subst he
  exact ⟨_, rfl, _, _, _, [], _, [], hW', (trodAll_cons_mk (shut_bool Try.underlying4 _) trodAll_mk0), (trodAll_cons_mk (read_again_bytes h0 hlt0 hb) (trodAll_cons_mk (read_again_bytes h1 hlt1 hb) trodAll_mk0)), rfl, hb.frame _, fun h => by cases h⟩

/-- THE STATEMENT -/
theorem fnLength_holds : Rows.FnLengthSaid :=
  OpenClaim.holds_of_wide 4 Try.f4 rfl rfl rfl rfl rfl rfl rfl ⟨rfl, rfl, rfl, rfl, rfl⟩ rfl rfl rfl rfl rfl (by kernel_rfl) Try.func4 (by kernel_rfl)
    (of_decide_eq_true (by kernel_rfl)) (by unfold Func.isWrapper; first | (rw [if_pos (by decide +kernel)]; kernel_rfl) | (rw [if_neg (by decide +kernel)]; exact ⟨rfl, rfl⟩))
    (fun os started H enc _ => fnLength_lifted os started H enc)
#print axioms fnLength_holds
end Go.Proofs.Ytpkcfdbgndpkeaa
