/-
  The law FnDeepest: for every code the law answers true. No condition.
-/
import Derived.Test.YtpkcfdbgndpkeaaDraws
import Derived.Test.YtpkcfdbgndpkeaaFirst
import Derived.Test.YtpkcfdbgndpkeaaFFloorLength
import Derived.Test.YtpkcfdbgndpkeaaRowB
import Derived.Deep.RegionHeld3
namespace Go.Proofs.Ytpkcfdbgndpkeaa
open Go.ChangeShapes Go.WideShapes Go.ChangeAt Go.RowKit

theorem deepest_len (zs : List Int) (p n : Nat) (h : p ≤ n) : 10 * (n : Int) + 2 * at0 zs p - at0 zs 0 - at0 zs n ≤ lenTo zs 0 n := by
  obtain ⟨b, rfl⟩ := Nat.exists_eq_add_of_le h
  have h1 := lenTo_up zs 0 p
  have h2 := lenTo_down zs (0 + p) b
  rw [lenTo_split zs 0 p b]
  simp only [Nat.zero_add] at h1 h2 ⊢
  push_cast
  omega

set_option maxHeartbeats 4000000 in
theorem fnDeepest_in (A : Option Addr) (n c : Nat) (w : World) (hl : n ≤ 1048576) (hnc : n ≤ c) (hb : Bytes w.heap.size w A n) :
    Calls Try.prog 5 #[.slice A n c] w (RetB (.bool true) w) := by
  have Hb := Lib.hid hb
  clear hb
  go_enter Try.func5, Try.ntmps5
  go_wp2_with fail
  refine (DrawFloorDeepest_c A n c _ (by omega) hnc Hb.out).mono ?_
  rintro e w1 ⟨B, d, zs, rfl, hzl, ha1, ho1, hb1⟩
  dsimp only [id]
  have Ha := Lib.hid ha1
  have Ho := Lib.hid ho1
  have Bt := Lib.hid hb1
  clear ha1 ho1 hb1 Hb
  go_wp2_with fail
  refine (implFloorDeepest_b B d zs _ Ha.out).mono ?_
  rintro e w2 ⟨rfl, rb2⟩
  replace Ha := Lib.hid (Ha.out.go rb2)
  replace Bt := Lib.hid (below_step Bt.out rb2)
  clear rb2
  go_wp2_with fail
  refine (specFloorDeepest_b B d zs _ Ha.out).mono ?_
  rintro e w3 ⟨rfl, rb3⟩
  replace Ha := Lib.hid (Ha.out.go rb3)
  replace Bt := Lib.hid (below_step Bt.out rb3)
  clear rb3 Ho
  cases hv : validB zs
  · have e1 : deepestI zs = -1 := by unfold deepestI; rw [hv]; rfl
    rw [e1]
    go_wp2
    go_ret
    exact ⟨rfl, Bt.out⟩
  · have hvv := validB_true hv
    have Hv := Lib.hid hv
    have Hvv := Lib.hid hvv.2.2
    have hn2 : 2 ≤ zs.length := hvv.1
    have hn16 : zs.length ≤ 16 := hvv.2.1
    clear hvv
    obtain ⟨p, hp⟩ : ∃ p, firstTo zs zs.length = p := ⟨_, rfl⟩
    have e1 : deepestI zs = (p : Int) := by unfold deepestI; rw [hv, ← hp]; rfl
    have hfp := firstTo_prop zs zs.length (by omega)
    rw [hp] at hfp
    obtain ⟨hpl, hge, hlt⟩ := hfp
    have Hge := Lib.hid hge
    have Hlt := Lib.hid hlt
    rw [e1]
    clear hv e1 hp hge hlt
    go_wp2
    go_loopw [6] (fun i wr => ∃ k m : Nat, k ≤ zs.length ∧ i = .int .i64 k ∧ wr = w3.drewN m) (fun i _ => zs.length - (intOf i).toNat)
    case atStart => exact ⟨0, 0, by omega, rfl, rfl⟩
    case round =>
      obtain ⟨k, m, hk, rfl, rfl⟩ := hrel
      by_cases hkl : k < zs.length
      · obtain ⟨b, off, rfl, _, _, hc⟩ := Ha.out.rd.at_ hkl
        obtain ⟨b', off', e2, _, _, hc2⟩ := Ha.out.rd.at_ hpl
        simp only [Option.some.injEq, Addr.mk.injEq, and_true] at e2
        obtain ⟨rfl, rfl⟩ := e2
        have g1 : (k : Int) < (zs.length : Int) := by omega
        have g2 := Hge.out k hkl
        have ek := at0_get hkl
        have ep := at0_get hpl
        have ek2 : zs[k]?.getD 0 = zs[k] := ek
        have ep2 : zs[p]?.getD 0 = zs[p] := ep
        rw [ek2] at hc
        rw [ep2] at hc2
        rw [ek, ep] at g2
        have g3 : decide (zs[p] < zs[k]) = false := by simp; omega
        have hc1 : (w3.drewN m).cell? ⟨b, off + k, none⟩ = some (.int .i64 zs[k]) := hc
        have hc3 : (w3.drewN m).cell? ⟨b, off + p, none⟩ = some (.int .i64 zs[p]) := hc2
        by_cases hkp : k < p
        · have g4 := Hlt.out k hkp
          rw [ek, ep] at g4
          have g5 : (zs[k] == zs[p]) = false := by simp; omega
          clear ek ep ek2 ep2
          have g6 : decide ((k : Int) < (p : Int)) = true := by simp; omega
          go_wp2
          go_quiet (fail)
          go_wp2
          go_roundw
          case rel => exact ⟨k + 1, _, by omega, by go_num, rfl⟩
          case measure => simp [intOf]; omega
        · clear ek ep ek2 ep2
          have g6 : decide ((k : Int) < (p : Int)) = false := by simp; omega
          go_wp2
          go_quiet (fail)
          go_wp2
          go_roundw
          case rel => exact ⟨k + 1, _, by omega, by go_num, rfl⟩
          case measure => simp [intOf]; omega
      · obtain rfl : k = zs.length := by omega
        obtain ⟨N, hN⟩ : ∃ N, zs.length = N + 1 := ⟨zs.length - 1, by omega⟩
        have hN1 : (zs.length : Int) - 1 = (N : Int) := by omega
        obtain ⟨W, hW⟩ : ∃ W, W = w3.drewN m := ⟨_, rfl⟩
        have HK := Lib.hid (show Kp w B d zs W by rw [hW]; exact ⟨below_drewN Bt.out m, Ha.out.go (below_drewN (Below.refl _ _) _)⟩)
        rw [← hW]
        clear hW
        obtain ⟨b, off, rfl, _, _, _⟩ := Ha.out.rd.at_ (k := 0) (by omega)
        clear Ha Bt
        obtain ⟨z0, h0⟩ : ∃ z, zs[0]?.getD 0 = z := ⟨_, rfl⟩
        obtain ⟨zp, h1⟩ : ∃ z, zs[p]?.getD 0 = z := ⟨_, rfl⟩
        obtain ⟨zn, h2⟩ : ∃ z, zs[N]?.getD 0 = z := ⟨_, rfl⟩
        have hS : ∀ W', Kp w (some ⟨b, off, none⟩) d zs W' → W'.cell? ⟨b, off, none⟩ = some (.int .i64 z0) ∧ W'.cell? ⟨b, off + p, none⟩ = some (.int .i64 zp) ∧ W'.cell? ⟨b, off + N, none⟩ = some (.int .i64 zn) ∧ Kp w (some ⟨b, off, none⟩) d zs W' := fun W' h => ⟨h.cell (j := 0) (by omega) h0, h.cell hpl h1, h.cell (by omega) h2, h⟩
        have v0 := Hvv.out 0 (by omega)
        have vp := Hvv.out p (by omega)
        have vn := Hvv.out N (by omega)
        have hlen := deepest_len zs p N (by omega)
        have hlb := lenTo_bd Hv.out 0 N (by omega)
        have hfl : floorLengthI zs 0 (N : Int) = lenTo zs 0 N := by
          unfold floorLengthI twoB ptsB
          rw [Hv.out]
          simp
          omega
        unfold at0 at hlen
        rw [h0, h1, h2] at hlen
        rw [h0] at v0
        rw [h1] at vp
        rw [h2] at vn
        have hC : ∀ W', Kp w (some ⟨b, off, none⟩) d zs W' → Calls Try.prog 20 #[.slice (some ⟨b, off, none⟩) zs.length d, .int .i64 0, .int .i64 (N : Int)] W' fun e w'' => e = .returned (.int .i64 (lenTo zs 0 N)) ∧ w''.cell? ⟨b, off, none⟩ = some (.int .i64 z0) ∧ w''.cell? ⟨b, off + p, none⟩ = some (.int .i64 zp) ∧ w''.cell? ⟨b, off + N, none⟩ = some (.int .i64 zn) ∧ Kp w (some ⟨b, off, none⟩) d zs w'' :=
          fun W' h => (implFloorLength_b _ d zs 0 (N : Int) W' h.2).mono fun e w' ⟨he, hb⟩ => ⟨by rw [he, hfl], hS _ (h.go hb)⟩
        obtain ⟨hc0, hcp, hcn, hK⟩ := hS _ HK.out.drew
        rw [hN] at hC
        have HC := Lib.hid hC
        generalize lenTo zs 0 N = L at *
        clear hS hfl hC h0 h1 h2 HK
        have q1 : IntKind.i64.wrap (10 * (N : Int)) = 10 * (N : Int) := IntWalk.i64_in _ (by omega)
        have q2 : IntKind.i64.wrap (2 * zp) = 2 * zp := IntWalk.i64_in _ (by omega)
        have q3 : IntKind.i64.wrap (10 * (N : Int) + 2 * zp) = 10 * (N : Int) + 2 * zp := IntWalk.i64_in _ (by omega)
        have q4 : IntKind.i64.wrap (10 * (N : Int) + 2 * zp - z0) = 10 * (N : Int) + 2 * zp - z0 := IntWalk.i64_in _ (by omega)
        have q5 : IntKind.i64.wrap (10 * (N : Int) + 2 * zp - z0 - zn) = 10 * (N : Int) + 2 * zp - z0 - zn := IntWalk.i64_in _ (by omega)
        have p0 : (0 : Int) ≤ (p : Int) := by omega
        have p1 : (p : Int) < (N : Int) + 1 := by omega
        have p2 : p < N + 1 := by omega
        have n0 : (0 : Int) ≤ (N : Int) := by omega
        have n1 : (N : Int) < (N : Int) + 1 := by omega
        have n2 : N < N + 1 := by omega
        go_wp2
        go_region_held3 (fun w' => w'.cell? ⟨b, off, none⟩ = some (.int .i64 z0) ∧ w'.cell? ⟨b, off + p, none⟩ = some (.int .i64 zp) ∧ w'.cell? ⟨b, off + N, none⟩ = some (.int .i64 zn) ∧ Kp w (some ⟨b, off, none⟩) d zs w') (first | exact ⟨hc0, hcp, hcn, hK⟩ | exact ⟨i0, i1, i2, i3⟩ | go_keep)
          (first | (go_at_call 20; refine (HC.out _ ?_).mono ?_; (first | assumption | (simp [*])); rintro e w9 ⟨rfl, i0, i1, i2, i3⟩))
        all_goals
          go_wp2
          go_ret
          exact ⟨rfl, (by assumption : Kp w (some ⟨b, off, none⟩) d zs _).1⟩

theorem fnDeepest_walk (A0 : Option Addr) (n0 c0 : Nat) (w : World) (hb0 : Byt0 w A0 n0 c0) :
    Calls Try.prog 5 #[.slice A0 n0 c0] w (RetB (.bool true) w) := by
  by_cases hl0 : 1048576 < n0
  · clear hb0
    go_enter Try.func5, Try.ntmps5
    go_wp2
    go_ret
    exact ⟨rfl, Below.refl _ _⟩
  exact fnDeepest_in A0 n0 c0 w (by omega) hb0.1 hb0.2.2

set_option maxRecDepth 100000 in
theorem fnDeepest_lifted (os : Os) (started : os.Started) (H : Type) (enc : TypeId × Value → H) :
    ReturnsInHanded {} Try.checked os 5 .any (Rows.fnDeepestSpec.pre6 enc Try.prog Try.f5 Rows.fnDeepestRow.domain false) (Rows.fnDeepestSpec.post enc Try.prog Try.f5 false true false false) := by
  refine returnsInHanded_of_change (C := Try.checked) row_own started (by kernel_rfl) Try.func5
    (ChangeSpec.witness6 (enc := enc) (C := Try.checked) false ⟨#[], #[.slice none 0 0], []⟩ 8 (by kernel_rfl) (by kernel_rfl) (by kernel_rfl) (by kernel_rfl)) ?_
  intro W base args ds gs before hval0 hW hcnd _
  have hval : ∀ (j : Nat) t v, Try.f5.params[j]? = some t → args[j]? = some v → Value.okWide Try.prog W .any base t v := hval0
  have hW' := hW
  obtain ⟨p, q, hA0, hV, rfl, _, _⟩ := hW
  have hA : DataW.TrodAll enc Try.prog W 0 (fun _ => true) true Try.f5.params.toList args.toList ds p := hA0
  rw [Try.params5] at hA hval
  obtain ⟨v0, vs0, d0, ds0, p0, q0, hargs, rfl, rfl, h0, r0⟩ := trodAll_cons hA
  obtain ⟨rfl, rfl, rfl⟩ := trodAll_nil r0
  obtain rfl : args = #[v0] := by cases args; simp_all
  obtain ⟨rfl, rfl⟩ := trodVars_none hV
  have hlt0 : ∀ x ∈ p0, x.block < W.heap.size := fun x hx => by exact hW'.lt x (by simp [hx])
  obtain ⟨A0, n0, c0, rfl, hb0⟩ := open_bytes (hval 0 22 v0 rfl rfl) h0 hlt0
  clear hA0 hval0
  refine (fnDeepest_walk A0 n0 c0 W hb0).mono fun e W' ⟨he, hb⟩ => ?_
  subst he
  exact ⟨_, rfl, _, _, _, [], _, [], hW', (trodAll_cons_mk (shut_bool Try.underlying4 _) trodAll_mk0), (trodAll_cons_mk (read_again_bytes h0 hlt0 hb) trodAll_mk0), rfl, hb.frame _, fun h => by cases h⟩

/-- THE STATEMENT -/
theorem fnDeepest_holds : Rows.FnDeepestSaid :=
  OpenClaim.holds_of_wide 5 Try.f5 rfl rfl rfl rfl rfl rfl rfl ⟨rfl, rfl, rfl, rfl, rfl⟩ rfl rfl rfl rfl rfl (by kernel_rfl) Try.func5 (by kernel_rfl)
    (of_decide_eq_true (by kernel_rfl)) (by unfold Func.isWrapper; first | (rw [if_pos (by decide +kernel)]; kernel_rfl) | (rw [if_neg (by decide +kernel)]; exact ⟨rfl, rfl⟩))
    (fun os started H enc _ => fnDeepest_lifted os started H enc)
#print axioms fnDeepest_holds
end Go.Proofs.Ytpkcfdbgndpkeaa
