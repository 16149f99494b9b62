/-
  The law FnLongest: the first longest row of coils. For all codes it answers true. No condition.
-/
import Derived.Test.YtciahmccafcllaaODrawP
import Derived.Test.YtciahmccafcllaaTkA
import Derived.Test.YtciahmccafcllaaTkL
import Derived.Test.YtciahmccafcllaaLonI
import Derived.Test.YtciahmccafcllaaLonT
import Derived.Test.YtciahmccafcllaaSame
import Derived.Test.YtciahmccafcllaaHas
import Derived.Test.YtciahmccafcllaaRowB
import Derived.Test.YtciahmccafcllaaFac
namespace Go.Proofs.Ytciahmccafcllaa
open Go.ChangeShapes Go.WideShapes Go.ChangeAt Go.RowKit

theorem lgI_at {L : List Int} {k i : Nat} (h : i < (lgO L k).length) : (lgI L k)[i]?.getD 0 = ((lgO L k)[i] : Int) := by
  unfold lgI
  rw [List.getElem?_map, List.getElem?_eq_getElem h]
  rfl
/-- they grow, and no two of them agree -/
theorem lgI_chain {L : List Int} (h : ordB L = true) {j i : Nat} (h1 : j < i) (h2 : i < (lgI L L.length).length) :
    (lgI L L.length)[j]?.getD 0 < (lgI L L.length)[i]?.getD 0 ∧ agrB L ((lgI L L.length)[j]?.getD 0) ((lgI L L.length)[i]?.getD 0) = false := by
  rw [lgI_len] at h2
  rw [lgI_at h2, lgI_at (show j < (lgO L L.length).length by omega)]
  obtain ⟨h3, h4⟩ := (List.pairwise_iff_getElem.1 (lgO_chain (L := L) L.length (Nat.le_refl _)).1) j i (by omega) h2 h1
  refine ⟨by omega, ?_⟩
  rw [agrB_lt h h3 (lgO_lt L _ _ (List.getElem_mem h2))]
  exact decide_eq_false (by omega)
/-- coil c is one of them, or agrees with one of the first k -/
def anyA (L K : List Int) (c : Int) : Nat → Bool
  | 0 => decide (c ∈ K)
  | k + 1 => anyA L K c k || agrB L c (K[k]?.getD 0)
theorem anyA_mem {L K : List Int} {c : Int} (h : c ∈ K) : ∀ k, anyA L K c k = true
  | 0 => decide_eq_true h
  | k + 1 => by rw [anyA, anyA_mem h k]; rfl
theorem anyA_agr {L K : List Int} {c : Int} {i : Nat} (h : agrB L c (K[i]?.getD 0) = true) : ∀ k, i < k → anyA L K c k = true
  | 0, hi => absurd hi (by omega)
  | k + 1, hi => by
    rw [anyA]
    rcases Nat.lt_or_ge i k with h1 | h1
    · rw [anyA_agr h k h1]; rfl
    · obtain rfl : i = k := by omega
      rw [h, Bool.or_true]
theorem lgI_any {L : List Int} (h : ordB L = true) {c : Nat} (hc : c < L.length) : anyA L (lgI L L.length) (c : Int) (lgI L L.length).length = true := by
  by_cases hm : c ∈ lgO L L.length
  · exact anyA_mem (List.mem_map.2 ⟨c, hm, rfl⟩) _
  · obtain ⟨j, hj, hag⟩ := lgO_max h hc hm
    obtain ⟨i, hi, rfl⟩ := List.mem_iff_getElem.1 hj
    exact anyA_agr (i := i) (by rw [lgI_at hi]; exact hag) _ (by rw [lgI_len]; exact hi)

set_option maxHeartbeats 4000000 in
theorem fnLongest_in (A : Option Addr) (n c : Nat) (w : World) (hl : n ≤ 1048576) (hnc : n ≤ c) (hb : Bytes w.heap.size w A n) :
    Calls Try.prog 5 #[.slice A n c] w (RetB (.bool true) w) := by
  have Hb := Lib.hid hb
  clear hb
  go_enter Try.func5, Try.ntmps5
  go_wp2_with fail
  refine (DrawOrdersLongest_c A n c _ (by omega) hnc Hb.out).mono ?_
  rintro e w1 ⟨B, d, L, rfl, hzl, hA, hB⟩
  have Ha := Lib.hid hA
  have Bt := Lib.hid hB
  clear hA hB Hb
  obtain ⟨K, hK⟩ : ∃ K, lonR L = K := ⟨_, rfl⟩
  have HK := Lib.hid hK
  go_wp2_with fail
  refine (implOrdersLongest_b B d L _ Ha.out).mono ?_
  rintro e w2 ⟨B5, d5, rfl, ra5, ro5, rb2⟩
  dsimp only
  rw [hK] at ra5 ⊢
  replace Ha := Lib.hid (Ha.out.go rb2)
  replace Bt := Lib.hid (below_step Bt.out rb2)
  have K2 := Lib.hid ra5
  clear ra5 ro5 rb2
  go_wp2_with fail
  refine (specOrdersLongest_b B d L _ Ha.out).mono ?_
  rintro e w3 ⟨B6, d6, rfl, ra6, ro6, rb3⟩
  dsimp only
  rw [hK] at ra6 ⊢
  replace Ha := Lib.hid (Ha.out.go rb3)
  replace Bt := Lib.hid (below_step Bt.out rb3)
  replace K2 := Lib.hid (K2.out.go rb3)
  have K3 := Lib.hid ra6
  clear ra6 ro6 rb3 hK
  cases hv : ordB L
  · clear hv
    go_wp2_with fail
    refine (sameInts_c B5 B6 d5 d6 K K _ K2.out K3.out).mono ?_
    rintro e w4 ⟨rfl, m, rfl⟩
    rw [decide_eq_true (rfl : K = K)]
    have B4 := Lib.hid (below_drewN Bt.out m)
    have K4 := Lib.hid (K2.out.go (below_drewN (Below.refl w3.heap.size w3) m))
    have K5 := Lib.hid (K3.out.go (below_drewN (Below.refl w3.heap.size w3) m))
    go_wp2_with fail
    refine (sameInts_c B5 B6 d5 d6 K K _ K4.out K5.out).mono ?_
    rintro e w5 ⟨rfl, m2, rfl⟩
    rw [decide_eq_true (rfl : K = K)]
    have B5 := Lib.hid (below_drewN B4.out m2)
    rw [World.drewN_drewN] at B5
    go_wp2
    go_ret
    exact ⟨rfl, B5.out⟩
  have Hord := Lib.hid hv
  have hKI : K = lgI L L.length := by rw [← HK.out, lon_yes hv]
  have h10 := ord_len hv
  have hKl : K.length ≤ L.length := by rw [hKI, lgI_len]; exact lgO_len L _
  have HCh := Lib.hid (show ∀ j i, j < i → i < K.length → K[j]?.getD 0 < K[i]?.getD 0 ∧ agrB L (K[j]?.getD 0) (K[i]?.getD 0) = false by rw [hKI]; exact fun j i h1 h2 => lgI_chain hv h1 h2)
  have HMx := Lib.hid (show ∀ c : Nat, c < L.length → anyA L K (c : Int) K.length = true by rw [hKI]; exact fun c hc => lgI_any hv hc)
  have HEm := Lib.hid (show K.length = 0 ↔ L.length = 0 by rw [hKI, lgI_len]; exact lgO_empty hv)
  clear hv hKI HK
  go_wp2_with fail
  refine (sameInts_c B5 B6 d5 d6 K K _ K2.out K3.out).mono ?_
  rintro e w4 ⟨rfl, m, rfl⟩
  rw [decide_eq_true (rfl : K = K)]
  replace Ha := Lib.hid (Ha.out.go (below_drewN (Below.refl w3.heap.size w3) m))
  replace K2 := Lib.hid (K2.out.go (below_drewN (Below.refl w3.heap.size w3) m))
  replace Bt := Lib.hid (below_drewN Bt.out m)
  obtain ⟨W, hW⟩ : ∃ W, w3.drewN m = W := ⟨_, rfl⟩
  rw [hW] at Ha K2 Bt ⊢
  clear hW K3
  go_wp2
  go_loopw [8] (fun i wr => ∃ k : Nat, k ≤ K.length ∧ i = .int .i64 k ∧ Below W.heap.size W wr) (fun i _ => K.length - (intOf i).toNat)
  case atStart => exact ⟨0, Nat.zero_le _, rfl, Below.refl _ _⟩
  case round =>
    obtain ⟨k, hk, rfl, hb1⟩ := hrel
    have Hb1 := Lib.hid hb1
    clear hb1
    by_cases hlt : k < K.length
    · have g1 : (k : Int) < (K.length : Int) := by omega
      go_wp2
      go_loopw [9] (fun i wq => ∃ j : Nat, j ≤ k ∧ i = .int .i64 j ∧ Below W.heap.size W wq) (fun i _ => k - (intOf i).toNat)
      case atStart => exact ⟨0, Nat.zero_le _, rfl, Hb1.out⟩
      case round =>
        rename World => wq
        obtain ⟨j, hj, rfl, hb2⟩ := hrel
        have Hb2 := Lib.hid hb2
        clear hb2
        by_cases hjk : j < k
        · have g2 : (j : Int) < (k : Int) := by omega
          have g3 : (j : Int) < (K.length : Int) := by omega
          obtain ⟨q1, q2⟩ := HCh.out j k hjk hlt
          obtain ⟨b, off, rfl, _, hbw, hc0⟩ := (K2.out.go Hb2.out).rd.at_ (show j < K.length by omega)
          obtain ⟨b', off', e, _, _, hd0⟩ := (K2.out.go Hb2.out).rd.at_ hlt
          injection e with e
          injection e with e1 e2
          subst e1
          subst e2
          obtain ⟨u, hu⟩ : ∃ u, K[j]?.getD 0 = u := ⟨_, rfl⟩
          obtain ⟨v, hv⟩ : ∃ v, K[k]?.getD 0 = v := ⟨_, rfl⟩
          rw [hu] at hc0 q1 q2
          rw [hv] at hd0 q1 q2
          have HP := Lib.hid (fun (w5 : World) (h5 : Below wq.drew.heap.size wq.drew w5) => (show w5.cell? ⟨b, off + j, none⟩ = some (.int .i64 u) ∧ w5.cell? ⟨b, off + k, none⟩ = some (.int .i64 v) from
            ⟨((below_step (below_drewN (Below.refl wq.heap.size wq) 1) h5).cell (p := ⟨b, off + j, none⟩) hbw).trans hc0, ((below_step (below_drewN (Below.refl wq.heap.size wq) 1) h5).cell (p := ⟨b, off + k, none⟩) hbw).trans hd0⟩))
          have pk1 := HP.out _ (Below.refl _ _)
          have HaD := Lib.hid ((Ha.out.go Hb2.out).go (below_drewN (Below.refl wq.heap.size wq) 1))
          have HbD := Lib.hid (below_drewN Hb2.out 1)
          have Hq2 := Lib.hid q2
          have hge : decide (v ≤ u) = false := decide_eq_false (by omega)
          clear hu hv hc0 hd0 q2
          go_wp2
          go_region_held3 (fun w9 => w9.cell? ⟨b, off + j, none⟩ = some (.int .i64 u) ∧ w9.cell? ⟨b, off + k, none⟩ = some (.int .i64 v)) (first | exact pk2 | exact pk1)
            (first | (go_at_call 20; refine (implOrdersAgree_b B d L u v _ HaD.out).mono ?_; rintro e w5 ⟨rfl, rb5⟩; rw [Hq2.out]; have pk2 := HP.out _ rb5; have Hb5 := Lib.hid (below_step HbD.out rb5); clear rb5) | fail)
          all_goals
            go_wp2
            go_roundw
            case rel => exact ⟨j + 1, by omega, by go_num, Hb5.out⟩
            case measure => simp [intOf]; omega
        · obtain rfl : j = k := by omega
          go_wp2
          go_roundw
          case rel => exact ⟨j + 1, by omega, by go_num, Hb2.out⟩
          case measure => simp [intOf]; omega
    · obtain rfl : k = K.length := by omega
      go_wp2
      go_loopw [10] (fun i wq => ∃ x : Nat, x ≤ L.length ∧ i = .int .i64 x ∧ Below W.heap.size W wq) (fun i _ => L.length - (intOf i).toNat)
      case atStart => exact ⟨0, Nat.zero_le _, rfl, Hb1.out⟩
      case round =>
        obtain ⟨x, hx, rfl, hb2⟩ := hrel
        have Hb2 := Lib.hid hb2
        clear hb2
        by_cases hxl : x < L.length
        · have g1 : (x : Int) < (L.length : Int) := by omega
          have Hc := Lib.hid (HMx.out x hxl)
          go_wp2_with fail
          refine (hasInt_c B5 d5 K (x : Int) _ (K2.out.go Hb2.out)).mono ?_
          rintro e w4 ⟨rfl, rfl⟩
          go_wp2
          go_loopw [11, 12] (fun a i wq => ∃ k : Nat, k ≤ K.length ∧ i = .int .i64 k ∧ a = .bool (anyA L K (x : Int) k) ∧ Below W.heap.size W wq) (fun _ i _ => K.length - (intOf i).toNat)
          case atStart => exact ⟨0, Nat.zero_le _, rfl, rfl, Hb2.out⟩
          case round =>
            obtain ⟨k, hk, rfl, rfl, hb3⟩ := hrel
            have Hb3 := Lib.hid hb3
            clear hb3
            by_cases hkl : k < K.length
            · have g2 : (k : Int) < (K.length : Int) := by omega
              obtain ⟨b, off, rfl, _, hbw, hc0⟩ := (K2.out.go Hb3.out).rd.at_ hkl
              obtain ⟨v, hv⟩ : ∃ v, K[k]?.getD 0 = v := ⟨_, rfl⟩
              have Hs := Lib.hid (show anyA L K (x : Int) (k + 1) = (anyA L K (x : Int) k || agrB L (x : Int) (K[k]?.getD 0)) from rfl)
              rw [hv] at Hs hc0
              clear hv
              cases ha : anyA L K (x : Int) k
              · rw [ha] at Hs
                clear ha
                go_wp2_with fail
                refine (implOrdersAgree_b B d L (x : Int) v _ (Ha.out.go Hb3.out)).mono ?_
                rintro e w5 ⟨rfl, rb5⟩
                have Hb5 := Lib.hid (below_step Hb3.out rb5)
                clear rb5
                go_wp2
                go_roundw
                case rel => exact ⟨k + 1, by omega, by go_num, by rw [Hs.out]; rfl, Hb5.out⟩
                case measure => simp [intOf]; omega
              · rw [ha] at Hs
                clear ha
                go_wp2
                go_roundw
                case rel => exact ⟨k + 1, by omega, by go_num, by rw [Hs.out]; rfl, Hb3.out⟩
                case measure => simp [intOf]; omega
            · obtain rfl : k = K.length := by omega
              rw [Hc.out]
              go_wp2
              go_roundw
              case rel => exact ⟨x + 1, by omega, by go_num, Hb3.out⟩
              case measure => simp [intOf]; omega
        · obtain rfl : x = L.length := by omega
          by_cases h0 : L.length = 0
          · have e1 : ((K.length : Int) == 0) = true := by have := HEm.out.2 h0; exact beq_iff_eq.2 (by omega)
            have e2 : ((L.length : Int) == 0) = true := beq_iff_eq.2 (by omega)
            go_wp2
            go_ret
            exact ⟨rfl, below_step Bt.out Hb2.out⟩
          · have e1 : ((K.length : Int) == 0) = false := by have := mt HEm.out.1 h0; exact beq_eq_false_iff_ne.2 (by omega)
            have e2 : ((L.length : Int) == 0) = false := beq_eq_false_iff_ne.2 (by omega)
            go_wp2
            go_ret
            exact ⟨rfl, below_step Bt.out Hb2.out⟩

theorem fnLongest_walk (A0 : Option Addr) (n0 c0 : Nat) (w : World) (hb0 : Byt0 w A0 n0 c0) :
    Calls Try.prog 5 #[.slice A0 n0 c0] w (RetB (.bool true) w) := by
  by_cases hl0 : 1048576 < n0
  · clear hb0
    go_enter Try.func5, Try.ntmps5
    go_wp2
    go_ret
    exact ⟨rfl, Below.refl _ _⟩
  exact fnLongest_in A0 n0 c0 w (by omega) hb0.1 hb0.2.2

set_option maxRecDepth 100000 in
theorem fnLongest_lifted (os : Os) (started : os.Started) (H : Type) (enc : TypeId × Value → H) :
    ReturnsInHanded {} Try.checked os 5 .any (Rows.fnLongestSpec.pre6 enc Try.prog Try.f5 Rows.fnLongestRow.domain false) (Rows.fnLongestSpec.post enc Try.prog Try.f5 false true false false) := by
  refine returnsInHanded_of_change (C := Try.checked) row_own started (by kernel_rfl) Try.func5
    (ChangeSpec.witness6 (enc := enc) (C := Try.checked) false ⟨#[], #[.slice none 0 0], []⟩ 8 (by kernel_rfl) (by kernel_rfl) (by kernel_rfl) (by kernel_rfl)) ?_
  intro W base args ds gs before hval0 hW hcnd _
  have hval : ∀ (j : Nat) t v, Try.f5.params[j]? = some t → args[j]? = some v → Value.okWide Try.prog W .any base t v := hval0
  have hW' := hW
  obtain ⟨p, q, hA0, hV, rfl, _, _⟩ := hW
  have hA : DataW.TrodAll enc Try.prog W 0 (fun _ => true) true Try.f5.params.toList args.toList ds p := hA0
  rw [Try.params5] at hA hval
  obtain ⟨v0, vs0, d0, ds0, p0, q0, hargs, rfl, rfl, h0, r0⟩ := trodAll_cons hA
  obtain ⟨rfl, rfl, rfl⟩ := trodAll_nil r0
  obtain rfl : args = #[v0] := by cases args; simp_all
  obtain ⟨rfl, rfl⟩ := trodVars_none hV
  have hlt0 : ∀ x ∈ p0, x.block < W.heap.size := fun x hx => by exact hW'.lt x (by simp [hx])
  obtain ⟨A0, n0, c0, rfl, hb0⟩ := open_bytes (hval 0 22 v0 rfl rfl) h0 hlt0
  clear hA0 hval0
  refine (fnLongest_walk A0 n0 c0 W hb0).mono fun e W' ⟨he, hb⟩ => ?_
  subst he
  exact ⟨_, rfl, _, _, _, [], _, [], hW', (trodAll_cons_mk (shut_bool Try.underlying4 _) trodAll_mk0), (trodAll_cons_mk (read_again_bytes h0 hlt0 hb) trodAll_mk0), rfl, hb.frame _, fun h => by cases h⟩

set_option maxRecDepth 100000 in
theorem fnLongest_closed : joinedFacts Try.prog 5 Try.f5 Rows.fnLongestSpec Rows.fnLongestRow = true := by
  unfold joinedFacts
  repeat' (with_reducible apply facAnd)
  all_goals first | (with_reducible exact facEnter) | (with_reducible exact facLaid) | (with_reducible exact facMaps) | (with_reducible exact facStops) | (with_reducible exact facKnobs) | (with_reducible exact facHeard) | (rw [facLifts]; as_aux_lemma => kernel_rfl) | (rw [facMake]; as_aux_lemma => kernel_rfl) | (as_aux_lemma => kernel_rfl)

/-- THE STATEMENT -/
theorem fnLongest_holds : Rows.FnLongestSaid :=
  OpenClaim.holds_of_wide 5 Try.f5 rfl rfl rfl rfl rfl rfl rfl ⟨rfl, rfl, rfl, rfl, rfl⟩ rfl rfl rfl rfl rfl (by kernel_rfl) Try.func5 fnLongest_closed
    (of_decide_eq_true (by kernel_rfl)) (by unfold Func.isWrapper; first | (rw [if_pos (by decide +kernel)]; kernel_rfl) | (rw [if_neg (by decide +kernel)]; exact ⟨rfl, rfl⟩))
    (fun os started H enc _ => fnLongest_lifted os started H enc)
#print axioms fnLongest_holds
end Go.Proofs.Ytciahmccafcllaa
