/-
  The law FnSparesMiles: for every code the law answers true. No condition.
-/
import Derived.Test.YtmbdggakahbciaaFac
import Derived.Test.YtmbdggakahbciaaZDrawM
import Derived.Test.YtmbdggakahbciaaSpMi
import Derived.Test.YtmbdggakahbciaaSpSI
import Derived.Test.YtmbdggakahbciaaRowB
import Derived.BigQuiet
namespace Go.Proofs.Ytmbdggakahbciaa
open Go.ChangeShapes Go.WideShapes Go.ChangeAt Go.RowKit

def kSum (L : List Spr) : Nat → Int
  | 0 => 0
  | k + 1 => kSum L k + kindZ L (k : Int)
theorem kindZ_cons (s : Spr) (t : List Spr) (kind : Int) : kindZ (s :: t) kind = (if s.k = kind then s.m else 0) + kindZ t kind := by
  unfold kindZ
  by_cases h : s.k = kind
  · rw [if_pos h, List.filter_cons_of_pos (by simp [ofKind, h])]; rfl
  · rw [if_neg h, List.filter_cons_of_neg (by simp [ofKind, h])]; omega
theorem kinds_all : ∀ L : List Spr, (∀ s ∈ L, 0 ≤ s.k ∧ s.k ≤ 3) → kSum L 4 = milesZ L
  | [], _ => by simp [kSum, kindZ, milesZ]
  | s :: t, h => by
    have ih := kinds_all t (fun u hu => h u (by simp [hu]))
    have hs := h s (by simp)
    simp only [kSum, kindZ_cons, milesZ] at ih ⊢
    have hc : s.k = 0 ∨ s.k = 1 ∨ s.k = 2 ∨ s.k = 3 := by omega
    rcases hc with e | e | e | e <;> rw [e] <;> simp <;> simp at ih <;> omega
theorem milesZ_succ {L : List Spr} {k : Nat} (h : k < L.length) : milesZ (L.take (k + 1)) = milesZ (L.take k) + (sprAt L k).m := by
  rw [List.take_succ_eq_append_getElem h, milesZ_append, sprAt_lt h]
  simp [milesZ]
theorem milesZ_bd {L : List Spr} (h : sprB 10 L = true) : ∀ k, k ≤ L.length → 0 ≤ milesZ (L.take k) ∧ milesZ (L.take k) ≤ 50 * k
  | 0, _ => by simp [milesZ]
  | k + 1, hk => by
    have ih := milesZ_bd h k (by omega)
    have hb := (sprB_at h (k := k) (by omega)).1
    rw [milesZ_succ (by omega)]
    omega
theorem milesK_sort (L : List Spr) (kind : Int) (h : sprB 10 L = true) : milesK (sortZ L) kind = milesK L kind := by
  rw [milesK_yes h, milesK_yes (sortZ_ok h)]
  exact milesZ_perm ((sortZ_perm L).filter _)
theorem kindZ_bd0 {L : List Spr} (h : sprB 10 L = true) (kind : Int) : 0 ≤ kindZ L kind ∧ kindZ L kind ≤ 500 := by
  have h5 := kindZ_bd h kind L.length (Nat.le_refl _)
  rw [List.take_length] at h5
  have := (sprB_true.1 h).1
  omega
theorem kSum_bd {L : List Spr} (h : sprB 10 L = true) : ∀ k, 0 ≤ kSum L k ∧ kSum L k ≤ 500 * k
  | 0 => by simp [kSum]
  | k + 1 => by
    have ih := kSum_bd h k
    have := kindZ_bd0 h (k : Int)
    rw [kSum]
    omega

set_option maxRecDepth 100000 in
set_option maxHeartbeats 4000000 in
theorem fnSparesMiles_in (A : Option Addr) (n c : Nat) (w : World) (hl : n ≤ 1048576) (hnc : n ≤ c) (hb : Bytes w.heap.size w A n) :
    Calls Try.prog 3 #[.slice A n c] w (RetB (.bool true) w) := by
  have Hb := Lib.hid hb
  clear hb
  go_enter Try.func3, Try.ntmps3
  go_wp2_with fail
  refine (DrawSparesMiles_c A n c _ (by omega) hnc Hb.out).mono ?_
  rintro e w1 ⟨B, d, L, kind, rfl, hzl, k0, k1, hA, hB⟩
  have Ha := Lib.hid hA
  have Bt := Lib.hid hB
  clear hA hB Hb
  have Hi := Lib.hid (fun kind w h => implSparesMiles_b B d L kind w h)
  have Hs := Lib.hid (fun w h => specSparesMiles_b B d L kind w h)
  have Hk := Lib.hid (Hi.out kind)
  obtain ⟨v, hv⟩ : ∃ v, milesK L kind = v := ⟨_, rfl⟩
  rw [hv] at Hk Hs
  have Hv := Lib.hid hv
  have nv : (v != v) = false := by simp
  have ne : (v == v) = true := by simp
  clear hv
  go_wp2_with fail
  refine (Hk.out _ Ha.out).mono ?_
  rintro e w2 ⟨rfl, rb2⟩
  replace Ha := Lib.hid (Ha.out.go rb2)
  replace Bt := Lib.hid (below_step Bt.out rb2)
  clear rb2
  go_wp2_with fail
  refine (Hs.out _ Ha.out).mono ?_
  rintro e w3 ⟨rfl, rb3⟩
  replace Ha := Lib.hid (Ha.out.go rb3)
  replace Bt := Lib.hid (below_step Bt.out rb3)
  clear rb3 Hk Hs
  by_cases hv0 : v < 0
  · go_wp2
    go_ret
    exact ⟨rfl, Bt.out⟩
  have hL : sprB 10 L = true := by
    cases h : sprB 10 L with
    | true => rfl
    | false => rw [milesK_no h] at Hv; have := Hv.out; omega
  go_wp2_with fail
  refine (implSparesSort_b B d L _ Ha.out).mono ?_
  rintro e w4 ⟨B4, d4, rfl, ra4, ro4, rb4⟩
  dsimp only
  rw [sortR_yes hL] at ra4 ⊢
  rw [hL]
  replace Ha := Lib.hid (Ha.out.go rb4)
  replace Bt := Lib.hid (below_step Bt.out rb4)
  have Hz := Lib.hid ra4
  have Hms := Lib.hid (fun w h => implSparesMiles_b B4 d4 (sortZ L) kind w h)
  rw [milesK_sort L kind hL, Hv.out] at Hms
  have h10 := (sprB_true.1 hL).1
  have hall : kSum L 4 = milesZ L := kinds_all L (fun s hs => (sprOk_true.1 ((sprB_true.1 hL).2 s hs)).2)
  have hmb := milesZ_bd hL
  have hkb := kSum_bd hL
  have hkk := kindZ_bd0 hL
  have Hmb := Lib.hid hmb
  have Hkb := Lib.hid hkb
  have Hkk := Lib.hid hkk
  have HL := Lib.hid hL
  have Hall := Lib.hid hall
  obtain ⟨S, hS⟩ : ∃ S, sortZ L = S := ⟨_, rfl⟩
  rw [hS] at Hz Hms ⊢
  clear ra4 ro4 rb4 hmb hkb hkk hall hL hS
  go_wp2
  go_loopw [9, 10] (fun sv iv wr => ∃ i : Nat, i ≤ L.length ∧ iv = .int .i64 i ∧ sv = .int .i64 (milesZ (L.take i)) ∧ Below w4.heap.size w4 wr) (fun _ iv _ => L.length - (intOf iv).toNat)
  case atStart => exact ⟨0, Nat.zero_le _, rfl, rfl, Below.refl _ _⟩
  case round =>
    obtain ⟨i, hi, rfl, rfl, hb⟩ := hrel
    have Hb := Lib.hid hb
    clear hb
    have hsm := Hmb.out i hi
    by_cases hlt : i < L.length
    · have g1 : (i : Int) < (L.length : Int) := by omega
      obtain ⟨b, off, rfl, _, hbw, c0, c1⟩ := (Ha.out.go Hb.out).rd.at_ hlt
      have hbd := (sprB_at HL.out hlt).1
      have Hst := Lib.hid (milesZ_succ hlt)
      obtain ⟨s, hs⟩ : ∃ s, sprAt L i = s := ⟨_, rfl⟩
      rw [hs] at c0 c1 hbd Hst
      obtain ⟨q, hq⟩ : ∃ q, milesZ (L.take i) = q := ⟨_, rfl⟩
      rw [hq] at hsm Hst ⊢
      clear hs hq
      go_wp2
      go_roundw
      case rel => exact ⟨i + 1, by omega, by go_num, by rw [Hst.out], Hb.out⟩
      case measure => simp [intOf]; omega
    · obtain rfl : i = L.length := by omega
      rw [List.take_length] at hsm ⊢
      obtain ⟨t, ht⟩ : ∃ t, milesZ L = t := ⟨_, rfl⟩
      rw [ht] at hsm Hall ⊢
      clear ht
      go_wp2
      go_loopw [9, 11] (fun sv kv wr => ∃ k : Nat, k ≤ 4 ∧ kv = .int .i64 k ∧ sv = .int .i64 (t - kSum L k) ∧ Below w4.heap.size w4 wr) (fun _ kv _ => 4 - (intOf kv).toNat)
      case atStart => exact ⟨0, Nat.zero_le _, rfl, by simp [kSum], Hb.out⟩
      case round =>
        obtain ⟨k, hk, rfl, rfl, hb2⟩ := hrel
        have Hb2 := Lib.hid hb2
        clear hb2
        have hkb := Hkb.out k
        by_cases hlk : k < 4
        · have g2 : (k : Int) < 4 := by omega
          have hkk := Hkk.out (k : Int)
          have Hst := Lib.hid (show kSum L (k + 1) = kSum L k + kindZ L (k : Int) from rfl)
          have Hik := Lib.hid (Hi.out (k : Int))
          rw [milesK_yes HL.out] at Hik
          obtain ⟨q, hq⟩ : ∃ q, kSum L k = q := ⟨_, rfl⟩
          rw [hq] at hkb Hst ⊢
          obtain ⟨z, hz⟩ : ∃ z, kindZ L (k : Int) = z := ⟨_, rfl⟩
          rw [hz] at hkk Hst Hik
          clear hq hz
          go_wp2_with fail
          refine (Hik.out _ (Ha.out.go Hb2.out)).mono ?_
          rintro e w5 ⟨rfl, rb5⟩
          have Hb5 := Lib.hid (below_step Hb2.out rb5)
          clear rb5
          go_wp2
          go_roundw
          case rel => exact ⟨k + 1, by omega, by go_num, by rw [Hst.out]; go_num, Hb5.out⟩
          case measure => simp [intOf]; omega
        · obtain rfl : k = 4 := by omega
          rw [Hall.out]
          have e0 : t - t = 0 := by omega
          rw [e0]
          go_wp2_with fail
          refine (Hms.out _ (Hz.out.go Hb2.out)).mono ?_
          rintro e w5 ⟨rfl, rb5⟩
          have Hb5 := Lib.hid (below_step Hb2.out rb5)
          clear rb5
          go_wp2
          go_ret
          exact ⟨rfl, below_step Bt.out Hb5.out⟩

theorem fnSparesMiles_walk (A0 : Option Addr) (n0 c0 : Nat) (w : World) (hb0 : Byt0 w A0 n0 c0) :
    Calls Try.prog 3 #[.slice A0 n0 c0] w (RetB (.bool true) w) := by
  by_cases hl0 : 1048576 < n0
  · clear hb0
    go_enter Try.func3, Try.ntmps3
    go_wp2
    go_ret
    exact ⟨rfl, Below.refl _ _⟩
  exact fnSparesMiles_in A0 n0 c0 w (by omega) hb0.1 hb0.2.2

set_option maxRecDepth 100000 in
theorem fnSparesMiles_lifted (os : Os) (started : os.Started) (H : Type) (enc : TypeId × Value → H) :
    ReturnsInHanded {} Try.checked os 3 .any (Rows.fnSparesMilesSpec.pre6 enc Try.prog Try.f3 Rows.fnSparesMilesRow.domain false) (Rows.fnSparesMilesSpec.post enc Try.prog Try.f3 false true false false) := by
  refine returnsInHanded_of_change (C := Try.checked) row_own started (by kernel_rfl) Try.func3
    (ChangeSpec.witness6 (enc := enc) (C := Try.checked) false ⟨#[], #[.slice none 0 0], []⟩ 8 (by kernel_rfl) (by kernel_rfl) (by kernel_rfl) (by kernel_rfl)) ?_
  intro W base args ds gs before hval0 hW hcnd _
  have hval : ∀ (j : Nat) t v, Try.f3.params[j]? = some t → args[j]? = some v → Value.okWide Try.prog W .any base t v := hval0
  have hW' := hW
  obtain ⟨p, q, hA0, hV, rfl, _, _⟩ := hW
  have hA : DataW.TrodAll enc Try.prog W 0 (fun _ => true) true Try.f3.params.toList args.toList ds p := hA0
  rw [Try.params3] at hA hval
  obtain ⟨v0, vs0, d0, ds0, p0, q0, hargs, rfl, rfl, h0, r0⟩ := trodAll_cons hA
  obtain ⟨rfl, rfl, rfl⟩ := trodAll_nil r0
  obtain rfl : args = #[v0] := by cases args; simp_all
  obtain ⟨rfl, rfl⟩ := trodVars_none hV
  have hlt0 : ∀ x ∈ p0, x.block < W.heap.size := fun x hx => by exact hW'.lt x (by simp [hx])
  obtain ⟨A0, n0, c0, rfl, hb0⟩ := open_bytes (hval 0 22 v0 rfl rfl) h0 hlt0
  clear hA0 hval0
  refine (fnSparesMiles_walk A0 n0 c0 W hb0).mono fun e W' ⟨he, hb⟩ => ?_
  subst he
  exact ⟨_, rfl, _, _, _, [], _, [], hW', (trodAll_cons_mk (shut_bool Try.underlying4 _) trodAll_mk0), (trodAll_cons_mk (read_again_bytes h0 hlt0 hb) trodAll_mk0), rfl, hb.frame _, fun h => by cases h⟩

set_option maxRecDepth 100000 in
theorem fnSparesMiles_closed : joinedFacts Try.prog 3 Try.f3 Rows.fnSparesMilesSpec Rows.fnSparesMilesRow = true := by
  unfold joinedFacts
  repeat' (with_reducible apply facAnd)
  all_goals first | (with_reducible exact facEnter) | (with_reducible exact facLaid) | (with_reducible exact facMaps) | (with_reducible exact facStops) | (with_reducible exact facKnobs) | (with_reducible exact facHeard) | (rw [facLifts]; as_aux_lemma => kernel_rfl) | (rw [facMake]; as_aux_lemma => kernel_rfl) | (as_aux_lemma => kernel_rfl)

/-- THE STATEMENT -/
theorem fnSparesMiles_holds : Rows.FnSparesMilesSaid :=
  OpenClaim.holds_of_wide 3 Try.f3 rfl rfl rfl rfl rfl rfl rfl ⟨rfl, rfl, rfl, rfl, rfl⟩ rfl rfl rfl rfl rfl (by kernel_rfl) Try.func3 fnSparesMiles_closed
    (of_decide_eq_true (by kernel_rfl)) (by unfold Func.isWrapper; first | (rw [if_pos (by decide +kernel)]; kernel_rfl) | (rw [if_neg (by decide +kernel)]; exact ⟨rfl, rfl⟩))
    (fun os started H enc _ => fnSparesMiles_lifted os started H enc)
#print axioms fnSparesMiles_holds
end Go.Proofs.Ytmbdggakahbciaa
