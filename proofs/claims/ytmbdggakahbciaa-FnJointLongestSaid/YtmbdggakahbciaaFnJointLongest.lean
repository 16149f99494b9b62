/-
  The law FnJointLongest: for every code the law answers true. No condition.
-/
import Derived.Test.YtmbdggakahbciaaFac
import Derived.Test.YtmbdggakahbciaaZDrawK
import Derived.Test.YtmbdggakahbciaaJolM
import Derived.Test.YtmbdggakahbciaaJoBS
import Derived.Test.YtmbdggakahbciaaSpSI
import Derived.Test.YtmbdggakahbciaaRowB
import Derived.BigQuiet
namespace Go.Proofs.Ytmbdggakahbciaa
open Go.ChangeShapes Go.WideShapes Go.ChangeAt Go.RowKit

set_option maxRecDepth 100000 in
set_option maxHeartbeats 4000000 in
theorem fnJointLongest_in (A : Option Addr) (n c : Nat) (w : World) (hl : n ≤ 1048576) (hnc : n ≤ c) (hb : Bytes w.heap.size w A n) :
    Calls Try.prog 9 #[.slice A n c] w (RetB (.bool true) w) := by
  have Hb := Lib.hid hb
  clear hb
  go_enter Try.func9, Try.ntmps9
  go_wp2_with fail
  refine (DrawJointFewest_c A n c _ (by omega) hnc Hb.out).mono ?_
  rintro e w1 ⟨B, d, L, kind, miles, rfl, hzl, k0, k1, m0, m1, hA, hB⟩
  have Ha := Lib.hid hA
  have Bt := Lib.hid hB
  clear hA hB Hb
  have Hi := Lib.hid (fun w h => implJointFewest_b B d L kind miles w h)
  have Hs := Lib.hid (fun w h => specJointFewest_b B d L kind miles w h)
  have hft := few_top (L := L) (kind := kind) (miles := miles)
  obtain ⟨v, hv⟩ : ∃ v, fewV L kind miles = v := ⟨_, rfl⟩
  rw [hv] at Hi Hs hft
  have Hft := Lib.hid hft
  have nv : (v != v) = false := by simp
  have ne : (v == v) = true := by simp
  clear hv hft
  go_wp2_with fail
  refine (Hi.out _ Ha.out).mono ?_
  rintro e w2 ⟨rfl, rb2⟩
  replace Ha := Lib.hid (Ha.out.go rb2)
  replace Bt := Lib.hid (below_step Bt.out rb2)
  clear rb2
  go_wp2_with fail
  refine (Hs.out _ Ha.out).mono ?_
  rintro e w3 ⟨rfl, rb3⟩
  replace Ha := Lib.hid (Ha.out.go rb3)
  replace Bt := Lib.hid (below_step Bt.out rb3)
  clear rb3 Hi Hs
  by_cases hv0 : v < 0
  · go_wp2
    go_ret
    exact ⟨rfl, Bt.out⟩
  obtain ⟨o, rfl, ho10, hL, ht1, ht2, ht3⟩ := Hft.out (by omega)
  clear Hft nv ne
  have nv : ((o : Int) != (o : Int)) = false := by simp
  go_wp2_with fail
  refine (implSparesSort_b B d L _ Ha.out).mono ?_
  rintro e w4 ⟨B4, d4, rfl, ra4, ro4, rb4⟩
  dsimp only
  rw [sortR_yes hL] at ra4 ⊢
  rw [hL]
  have hsl : (sortZ L).length ≤ 12 := by rw [sortZ_length]; omega
  have hsb := smK_bd hL kind
  have hok := sortZ_ok hL
  obtain ⟨S, hS⟩ : ∃ S, sortZ L = S := ⟨_, rfl⟩
  rw [hS] at ra4 ht1 ht2 ht3 hsl hsb hok ⊢
  have Hz := Lib.hid ra4
  have Hsb := Lib.hid hsb
  have Hok := Lib.hid hok
  have Ht1 := Lib.hid ht1
  replace Bt := Lib.hid (below_step Bt.out rb4)
  clear ra4 ro4 rb4 hS hsb hok ht1 Ha
  go_wp2
  go_loopw [10, 11, 12] (fun sv tv iv wr => ∃ i : Nat, i ≤ S.length ∧ iv = .int .i64 i ∧ tv = .int .i64 (tkK S kind o i : Nat) ∧ sv = .int .i64 (smK S kind (tkK S kind o i)) ∧ Below w4.heap.size w4 wr) (fun _ _ iv _ => S.length - (intOf iv).toNat)
  case atStart => exact ⟨0, Nat.zero_le _, rfl, by rw [tkK_zero]; rfl, by rw [tkK_zero, smK_zero], Below.refl _ _⟩
  case round =>
    obtain ⟨i, hi, rfl, rfl, rfl, hb⟩ := hrel
    have Hb := Lib.hid hb
    clear hb
    by_cases hlt : i < S.length
    · have g1 : (i : Int) < (S.length : Int) := by omega
      obtain ⟨b, off, rfl, _, hbw, c0, c1⟩ := (Hz.out.go Hb.out).rd.at_ hlt
      have hbd := (sprB_at Hok.out hlt).1
      have hsk := Hsb.out (tkK S kind o i)
      have hyes := fun h1 h2 => tkK_yes (S := S) (kind := kind) (o := o) hlt h1 h2
      have hno := fun h1 => tkK_no (S := S) (kind := kind) hlt h1 o
      have hfu := fun h1 => tkK_full (S := S) (kind := kind) (o := o) hlt h1
      have hle := tkK_le S kind o i
      obtain ⟨s, hs⟩ : ∃ s, sprAt S i = s := ⟨_, rfl⟩
      rw [hs] at c0 c1 hbd hyes hno
      obtain ⟨t, ht⟩ : ∃ t, tkK S kind o i = t := ⟨_, rfl⟩
      rw [ht] at hsk hyes hno hfu hle ⊢
      obtain ⟨q, hq⟩ : ∃ q, smK S kind t = q := ⟨_, rfl⟩
      have hto : t = o → ¬ miles ≤ q := fun e => by rw [← hq, e]; omega
      rw [hq] at hsk hyes ⊢
      have Hyes := Lib.hid hyes
      have Hno := Lib.hid hno
      have Hfu := Lib.hid hfu
      have Hto := Lib.hid hto
      have Hq := Lib.hid hq
      clear hs ht hq hyes hno hfu hto
      by_cases hk : s.k = kind
      · have hkb : (s.k == kind) = true := by simp [hk]
        by_cases hle2 : t ≤ o
        · have g2 : (t : Int) ≤ (o : Int) := by omega
          obtain ⟨y1, y2⟩ := Hyes.out hk hle2
          have Y1 := Lib.hid y1
          have Y2 := Lib.hid y2
          clear y1 y2
          by_cases he : t = o
          · have e1 : ((t : Int) == (o : Int)) = true := by simp [he]
            have e2 : decide (miles ≤ q) = false := decide_eq_false (Hto.out he)
            clear hk
            go_wp2
            go_roundw
            case rel => exact ⟨i + 1, by omega, by go_num, by rw [Y1.out]; go_num, by rw [Y1.out, Y2.out], Hb.out⟩
            case measure => simp [intOf]; omega
          · have e1 : ((t : Int) == (o : Int)) = false := by simp; omega
            clear hk
            go_wp2
            go_roundw
            case rel => exact ⟨i + 1, by omega, by go_num, by rw [Y1.out]; go_num, by rw [Y1.out, Y2.out], Hb.out⟩
            case measure => simp [intOf]; omega
        · have g2 : decide ((t : Int) ≤ (o : Int)) = false := decide_eq_false (by omega)
          have Y1 := Lib.hid (Hfu.out hle2)
          clear hk
          go_wp2
          go_roundw
          case rel => exact ⟨i + 1, by omega, by go_num, by rw [Y1.out], by rw [Y1.out, Hq.out], Hb.out⟩
          case measure => simp [intOf]; omega
      · have hkb : (s.k == kind) = false := by simp [hk]
        have Y1 := Lib.hid (Hno.out hk)
        clear hk
        go_wp2
        go_roundw
        case rel => exact ⟨i + 1, by omega, by go_num, by rw [Y1.out], by rw [Y1.out, Hq.out], Hb.out⟩
        case measure => simp [intOf]; omega
    · obtain rfl : i = S.length := by omega
      rw [Ht1.out]
      have e2 : decide (miles ≤ smK S kind (o + 1)) = true := decide_eq_true ht2
      obtain ⟨q, hq⟩ : ∃ q, smK S kind (o + 1) = q := ⟨_, rfl⟩
      rw [hq] at e2 ht2 ⊢
      have e3 : (((o + 1 : Nat) : Int) == (o : Int) + 1) = true := by simp
      clear hq
      go_wp2
      go_ret
      exact ⟨rfl, below_step Bt.out Hb.out⟩

theorem fnJointLongest_walk (A0 : Option Addr) (n0 c0 : Nat) (w : World) (hb0 : Byt0 w A0 n0 c0) :
    Calls Try.prog 9 #[.slice A0 n0 c0] w (RetB (.bool true) w) := by
  by_cases hl0 : 1048576 < n0
  · clear hb0
    go_enter Try.func9, Try.ntmps9
    go_wp2
    go_ret
    exact ⟨rfl, Below.refl _ _⟩
  exact fnJointLongest_in A0 n0 c0 w (by omega) hb0.1 hb0.2.2

set_option maxRecDepth 100000 in
theorem fnJointLongest_lifted (os : Os) (started : os.Started) (H : Type) (enc : TypeId × Value → H) :
    ReturnsInHanded {} Try.checked os 9 .any (Rows.fnJointLongestSpec.pre6 enc Try.prog Try.f9 Rows.fnJointLongestRow.domain false) (Rows.fnJointLongestSpec.post enc Try.prog Try.f9 false true false false) := by
  refine returnsInHanded_of_change (C := Try.checked) row_own started (by kernel_rfl) Try.func9
    (ChangeSpec.witness6 (enc := enc) (C := Try.checked) false ⟨#[], #[.slice none 0 0], []⟩ 8 (by kernel_rfl) (by kernel_rfl) (by kernel_rfl) (by kernel_rfl)) ?_
  intro W base args ds gs before hval0 hW hcnd _
  have hval : ∀ (j : Nat) t v, Try.f9.params[j]? = some t → args[j]? = some v → Value.okWide Try.prog W .any base t v := hval0
  have hW' := hW
  obtain ⟨p, q, hA0, hV, rfl, _, _⟩ := hW
  have hA : DataW.TrodAll enc Try.prog W 0 (fun _ => true) true Try.f9.params.toList args.toList ds p := hA0
  rw [Try.params9] at hA hval
  obtain ⟨v0, vs0, d0, ds0, p0, q0, hargs, rfl, rfl, h0, r0⟩ := trodAll_cons hA
  obtain ⟨rfl, rfl, rfl⟩ := trodAll_nil r0
  obtain rfl : args = #[v0] := by cases args; simp_all
  obtain ⟨rfl, rfl⟩ := trodVars_none hV
  have hlt0 : ∀ x ∈ p0, x.block < W.heap.size := fun x hx => by exact hW'.lt x (by simp [hx])
  obtain ⟨A0, n0, c0, rfl, hb0⟩ := open_bytes (hval 0 22 v0 rfl rfl) h0 hlt0
  clear hA0 hval0
  refine (fnJointLongest_walk A0 n0 c0 W hb0).mono fun e W' ⟨he, hb⟩ => ?_
  subst he
  exact ⟨_, rfl, _, _, _, [], _, [], hW', (trodAll_cons_mk (shut_bool Try.underlying4 _) trodAll_mk0), (trodAll_cons_mk (read_again_bytes h0 hlt0 hb) trodAll_mk0), rfl, hb.frame _, fun h => by cases h⟩

set_option maxRecDepth 100000 in
theorem fnJointLongest_closed : joinedFacts Try.prog 9 Try.f9 Rows.fnJointLongestSpec Rows.fnJointLongestRow = true := by
  unfold joinedFacts
  repeat' (with_reducible apply facAnd)
  all_goals first | (with_reducible exact facEnter) | (with_reducible exact facLaid) | (with_reducible exact facMaps) | (with_reducible exact facStops) | (with_reducible exact facKnobs) | (with_reducible exact facHeard) | (rw [facLifts]; as_aux_lemma => kernel_rfl) | (rw [facMake]; as_aux_lemma => kernel_rfl) | (as_aux_lemma => kernel_rfl)

/-- THE STATEMENT -/
theorem fnJointLongest_holds : Rows.FnJointLongestSaid :=
  OpenClaim.holds_of_wide 9 Try.f9 rfl rfl rfl rfl rfl rfl rfl ⟨rfl, rfl, rfl, rfl, rfl⟩ rfl rfl rfl rfl rfl (by kernel_rfl) Try.func9 fnJointLongest_closed
    (of_decide_eq_true (by kernel_rfl)) (by unfold Func.isWrapper; first | (rw [if_pos (by decide +kernel)]; kernel_rfl) | (rw [if_neg (by decide +kernel)]; exact ⟨rfl, rfl⟩))
    (fun os started H enc _ => fnJointLongest_lifted os started H enc)
#print axioms fnJointLongest_holds
end Go.Proofs.Ytmbdggakahbciaa
