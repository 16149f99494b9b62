/-
  The law FnWeakest: for every code the law answers true. No condition.
-/
import Derived.Test.YtiajfpmlcchodaaFac
import Derived.Test.YtiajfpmlcchodaaRowB
import Derived.Test.YtiajfpmlcchodaaHas
import Derived.Test.YtiajfpmlcchodaaNdV
import Derived.Test.YtiajfpmlcchodaaTfXn
import Derived.Test.YtiajfpmlcchodaaTfE
import Derived.Test.YtiajfpmlcchodaaTfEs
namespace Go.Proofs.Ytiajfpmlcchodaa
open Go.ChangeShapes Go.WideShapes Go.ChangeAt Go.RowKit

set_option maxRecDepth 100000 in
set_option maxHeartbeats 8000000 in
theorem fnWeakest_in (A : Option Addr) (n c : Nat) (w : World) (hl : n ≤ 1048576) (hnc : n ≤ c) (hb : Bytes w.heap.size w A n) :
    Calls Try.prog 5 #[.slice A n c] w (RetB (.bool true) w) := by
  have Hb := Lib.hid hb
  clear hb
  go_enter Try.func5, Try.ntmps5
  go_wp2_with fail
  refine (DrawNetWeakest_c A n c _ (by omega) hnc Hb.out).mono ?_
  rintro e w1 ⟨m, B, d, zs, f, t, rfl, hm2, hm5, hzl, ⟨f0, f1⟩, ⟨t0, t1⟩, hA, hB⟩
  have Ha := Lib.hid hA
  have Bt := Lib.hid hB
  clear hA hB Hb
  have Himpl := Lib.hid (fun W h => implNetWeakest_b (m : Int) B d zs f t W h)
  have Hspec := Lib.hid (fun W h => specNetWeakest_b (m : Int) B d zs f t W h)
  have Hnd := Lib.hid (fun W h => implNetNeeded_b (m : Int) B d zs f t W h)
  have Hwn := Lib.hid (weak_needed (n := (m : Int)) (N := zs) (f := f) (t := t))
  have hI : wkI (m : Int) zs f t = leastTo (lfL (m : Int) zs f t) (lfL (m : Int) zs f t).length := rfl
  have hBd : wkB (m : Int) zs f t = decide (0 < (lfL (m : Int) zs f t).length) := rfl
  have HI := Lib.hid hI
  have HBd := Lib.hid hBd
  obtain ⟨p, hp⟩ : ∃ p, wkI (m : Int) zs f t = p := ⟨_, rfl⟩
  obtain ⟨bb, hbb⟩ : ∃ b, wkB (m : Int) zs f t = b := ⟨_, rfl⟩
  rw [hp] at Himpl Hspec Hwn HI
  rw [hbb] at Himpl Hspec HBd
  have nv : (((p : Nat) : Int) != (p : Int)) = false := by simp
  have ne : (((p : Nat) : Int) == (p : Int)) = true := by simp
  clear hp hbb hI hBd
  dsimp only
  go_wp2_with fail
  refine (Himpl.out _ Ha.out).mono ?_
  rintro e w2 ⟨rfl, rb2⟩
  replace Ha := Lib.hid (Ha.out.go rb2)
  replace Bt := Lib.hid (below_step Bt.out rb2)
  clear rb2
  go_wp2_with fail
  refine (Hspec.out _ Ha.out).mono ?_
  rintro e w3 ⟨rfl, rb3⟩
  replace Ha := Lib.hid (Ha.out.go rb3)
  replace Bt := Lib.hid (below_step Bt.out rb3)
  clear rb3 Himpl Hspec
  cases bb with
  | false =>
    clear HI HBd Hwn Hnd
    go_wp2
    go_ret
    exact ⟨rfl, Bt.out⟩
  | true =>
    have hpos : 0 < (lfL (m : Int) zs f t).length := of_decide_eq_true HBd.out.symm
    cases he : endB (m : Int) zs f t
    · rw [lf_no he] at hpos; simp at hpos
    have hlen := lf_len he
    have hlp := leastTo_prop (lfL (m : Int) zs f t) (lfL (m : Int) zs f t).length hpos
    rw [← HI.out] at hlp
    have hpz : p < zs.length := by omega
    have hn := (endB_true.1 he).1
    have Hn := Lib.hid hn
    have h10 := (netB_true.1 hn).2.1
    have hle : ∀ k, k < zs.length → mostV (m : Int) (dropN zs p) f t ≤ mostV (m : Int) (dropN zs k) f t := fun k hk => by
      have h1 := hlp.2.1 k (by omega)
      rwa [lf_at he hpz, lf_at he hk] at h1
    have hlt0 : ∀ k, k < p → mostV (m : Int) (dropN zs p) f t < mostV (m : Int) (dropN zs k) f t := fun k hk => by
      have h1 := hlp.2.2 k hk
      rwa [lf_at he hpz, lf_at he (by omega)] at h1
    have Hle := Lib.hid hle
    have Hlt := Lib.hid hlt0
    have Hwo := Lib.hid (fun (k : Nat) (hk : k < zs.length) (W : World) (h : ArgL W B d zs) => (by have h2 := implNetWithout_b (m : Int) B d zs (k : Int) W h; obtain ⟨hy1, hy2⟩ := wo_yes hn hk; rw [hy1, hy2] at h2; exact h2 : Calls Try.prog 15 #[.int .i64 (m : Int), .slice B zs.length d, .int .i64 (k : Int)] W (RetL 38 (fun v => .tuple #[v, .bool true]) (dropN zs k) W)))
    obtain ⟨y0, hy0⟩ : ∃ y, mostV (m : Int) (dropN zs p) f t = y := ⟨_, rfl⟩
    have Hm0 := Lib.hid (fun (W : World) (A2 : Option Addr) (c2 : Nat) (h : ArgL W A2 c2 (dropN zs p)) => implTrafficMost_b (m : Int) A2 c2 (dropN zs p) f t W h)
    rw [hy0] at Hle Hlt Hm0
    clear hpos he hlen hlp hn hle hlt0 hy0 HI HBd
    go_wp2_with fail
    refine (Hwo.out p hpz _ Ha.out).mono ?_
    rintro e w4 ⟨A4, c4, rfl, ra4, _, rb4⟩
    have Ra := Lib.hid ra4
    replace Ha := Lib.hid (Ha.out.go rb4)
    replace Bt := Lib.hid (below_step Bt.out rb4)
    clear ra4 rb4
    dsimp only
    go_wp2_with fail
    refine (Hm0.out _ _ _ Ra.out).mono ?_
    rintro e w5 ⟨rfl, rb5⟩
    replace Ha := Lib.hid (Ha.out.go rb5)
    replace Bt := Lib.hid (below_step Bt.out rb5)
    clear rb5 Hm0 Ra
    go_wp2
    go_loopw [14] (fun i wr => ∃ k : Nat, k ≤ zs.length ∧ i = .int .i64 k ∧ Below w5.heap.size w5 wr) (fun i _ => zs.length - (intOf i).toNat)
    case atStart => exact ⟨0, Nat.zero_le _, rfl, Below.refl _ _⟩
    case round =>
      obtain ⟨k, hk, rfl, hbr⟩ := hrel
      have Hbr := Lib.hid hbr
      clear hbr
      by_cases hlt : k < zs.length
      · have g1 : (k : Int) < (zs.length : Int) := by omega
        have hy1 := Hle.out k hlt
        have hy2 := Hlt.out k
        have Hm1 := Lib.hid (fun (W : World) (A2 : Option Addr) (c2 : Nat) (h : ArgL W A2 c2 (dropN zs k)) => implTrafficMost_b (m : Int) A2 c2 (dropN zs k) f t W h)
        obtain ⟨y, hy⟩ : ∃ y, mostV (m : Int) (dropN zs k) f t = y := ⟨_, rfl⟩
        rw [hy] at hy1 hy2 Hm1
        have Hy2 := Lib.hid hy2
        have g2 : ¬ y < y0 := by omega
        clear hy hy2
        go_wp2_with fail
        refine (Hwo.out k hlt _ (Ha.out.go Hbr.out)).mono ?_
        rintro e w6 ⟨A6, c6, rfl, ra6, _, rb6⟩
        have Ra := Lib.hid ra6
        have Hb6 := Lib.hid (below_step Hbr.out rb6)
        clear ra6 rb6
        dsimp only
        go_wp2_with fail
        refine (Hm1.out _ _ _ Ra.out).mono ?_
        rintro e w7 ⟨rfl, rb7⟩
        have Hb7 := Lib.hid (below_step Hb6.out rb7)
        clear rb7
        by_cases hkp : k < p
        · have hy3 := Hy2.out hkp
          have q1 : (y == y0) = false := by rw [beq_eq_false_iff_ne]; omega
          go_wp2
          go_roundw
          case rel => exact ⟨k + 1, by omega, by go_num, Hb7.out⟩
          case measure => simp [intOf]; omega
        · have g3 : ¬ (k : Int) < (p : Int) := by omega
          by_cases hyy : y = y0
          · have q1 : (y == y0) = true := by simp [hyy]
            clear hyy
            go_wp2
            go_roundw
            case rel => exact ⟨k + 1, by omega, by go_num, Hb7.out⟩
            case measure => simp [intOf]; omega
          · have q1 : (y == y0) = false := by simp [hyy]
            clear hyy
            go_wp2
            go_roundw
            case rel => exact ⟨k + 1, by omega, by go_num, Hb7.out⟩
            case measure => simp [intOf]; omega
      · obtain rfl : k = zs.length := by omega
        obtain ⟨V, hV⟩ : ∃ V, ndV (m : Int) zs f t = V := ⟨_, rfl⟩
        rw [hV] at Hnd Hwn
        clear hV
        have Hbt := Lib.hid (below_step Bt.out Hbr.out)
        go_wp2_with fail
        refine (Hnd.out _ (Ha.out.go Hbr.out)).mono ?_
        rintro e w6 ⟨A6, c6, rfl, ra6, _, rb6⟩
        have Ra := Lib.hid ra6
        have Hb6 := Lib.hid (below_step Hbt.out rb6)
        clear ra6 rb6
        dsimp only [id]
        by_cases h0 : V.length = 0
        · have q1 : ((V.length : Int) == 0) = true := by simp [h0]
          clear h0
          go_wp2
          go_ret
          exact ⟨rfl, Hb6.out⟩
        · have q1 : ((V.length : Int) == 0) = false := by rw [beq_eq_false_iff_ne]; omega
          have hin := Hwn.out (fun e => h0 (by rw [e]; rfl))
          have Hin := Lib.hid (decide_eq_true hin)
          clear h0 hin
          go_wp2_with fail
          refine (hasInt_c _ _ _ _ _ Ra.out).mono ?_
          rintro e w7 ⟨rfl, rfl⟩
          rw [Hin.out]
          go_wp2
          go_ret
          exact ⟨rfl, Hb6.out⟩

theorem fnWeakest_walk (A0 : Option Addr) (n0 c0 : Nat) (w : World) (hb0 : Byt0 w A0 n0 c0) :
    Calls Try.prog 5 #[.slice A0 n0 c0] w (RetB (.bool true) w) := by
  by_cases hl0 : 1048576 < n0
  · clear hb0
    go_enter Try.func5, Try.ntmps5
    go_wp2
    go_ret
    exact ⟨rfl, Below.refl _ _⟩
  exact fnWeakest_in A0 n0 c0 w (by omega) hb0.1 hb0.2.2

set_option maxRecDepth 100000 in
theorem fnWeakest_lifted (os : Os) (started : os.Started) (H : Type) (enc : TypeId × Value → H) :
    ReturnsInHanded {} Try.checked os 5 .any (Rows.fnWeakestSpec.pre6 enc Try.prog Try.f5 Rows.fnWeakestRow.domain false) (Rows.fnWeakestSpec.post enc Try.prog Try.f5 false true false false) := by
  refine returnsInHanded_of_change (C := Try.checked) row_own started (by kernel_rfl) Try.func5
    (ChangeSpec.witness6 (enc := enc) (C := Try.checked) false ⟨#[], #[.slice none 0 0], []⟩ 8 (by kernel_rfl) (by kernel_rfl) (by kernel_rfl) (by kernel_rfl)) ?_
  intro W base args ds gs before hval0 hW hcnd _
  have hval : ∀ (j : Nat) t v, Try.f5.params[j]? = some t → args[j]? = some v → Value.okWide Try.prog W .any base t v := hval0
  have hW' := hW
  obtain ⟨p, q, hA0, hV, rfl, _, _⟩ := hW
  have hA : DataW.TrodAll enc Try.prog W 0 (fun _ => true) true Try.f5.params.toList args.toList ds p := hA0
  rw [Try.params5] at hA hval
  obtain ⟨v0, vs0, d0, ds0, p0, q0, hargs, rfl, rfl, h0, r0⟩ := trodAll_cons hA
  obtain ⟨rfl, rfl, rfl⟩ := trodAll_nil r0
  obtain rfl : args = #[v0] := by cases args; simp_all
  obtain ⟨rfl, rfl⟩ := trodVars_none hV
  have hlt0 : ∀ x ∈ p0, x.block < W.heap.size := fun x hx => by exact hW'.lt x (by simp [hx])
  obtain ⟨A0, n0, c0, rfl, hb0⟩ := open_bytes (hval 0 22 v0 rfl rfl) h0 hlt0
  clear hA0 hval0
  refine (fnWeakest_walk A0 n0 c0 W hb0).mono fun e W' ⟨he, hb⟩ => ?_
  subst he
  exact ⟨_, rfl, _, _, _, [], _, [], hW', (trodAll_cons_mk (shut_bool Try.underlying4 _) trodAll_mk0), (trodAll_cons_mk (read_again_bytes h0 hlt0 hb) trodAll_mk0), rfl, hb.frame _, fun h => by cases h⟩

set_option maxRecDepth 100000 in
theorem fnWeakest_closed : joinedFacts Try.prog 5 Try.f5 Rows.fnWeakestSpec Rows.fnWeakestRow = true := by
  unfold joinedFacts
  repeat' (with_reducible apply facAnd)
  all_goals first | (with_reducible exact facEnter) | (with_reducible exact facLaid) | (with_reducible exact facMaps) | (with_reducible exact facStops) | (with_reducible exact facKnobs) | (with_reducible exact facHeard) | (rw [facLifts]; as_aux_lemma => kernel_rfl) | (rw [facMake]; as_aux_lemma => kernel_rfl) | (as_aux_lemma => kernel_rfl)

/-- THE STATEMENT -/
theorem fnWeakest_holds : Rows.FnWeakestSaid :=
  OpenClaim.holds_of_wide 5 Try.f5 rfl rfl rfl rfl rfl rfl rfl ⟨rfl, rfl, rfl, rfl, rfl⟩ rfl rfl rfl rfl rfl (by kernel_rfl) Try.func5 fnWeakest_closed
    (of_decide_eq_true (by kernel_rfl)) (by unfold Func.isWrapper; first | (rw [if_pos (by decide +kernel)]; kernel_rfl) | (rw [if_neg (by decide +kernel)]; exact ⟨rfl, rfl⟩))
    (fun os started H enc _ => fnWeakest_lifted os started H enc)
#print axioms fnWeakest_holds
end Go.Proofs.Ytiajfpmlcchodaa
